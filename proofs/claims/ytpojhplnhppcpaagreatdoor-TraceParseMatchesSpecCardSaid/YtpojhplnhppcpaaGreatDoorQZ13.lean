/-
  What the reference's Crash does. What the reference's Seen and Image do. What the reference's New does. What the reference's Do does.
-/
import Derived.Test.YtpojhplnhppcpaaGreatDoorQZ11
import Derived.Great.BuildSlice
namespace Go.Proofs.YtpojhplnhppcpaaGreatDoor
open Go.RowKit Go.Maps
def lostTo (m : PM) : Nat → PM
  | 0 => m
  | k + 1 => (lostTo m k).upd k PL.lost
theorem lostTo_len (m : PM) : ∀ k, (lostTo m k).L.length = m.L.length
  | 0 => rfl
  | k + 1 => by unfold lostTo; rw [PM.upd_len, lostTo_len m k]
theorem lostTo_line (m : PM) : ∀ k, k ≤ m.L.length → ∀ j, (lostTo m k).line j = if j < k then (m.line j).lost else m.line j
  | 0, _, _ => rfl
  | k + 1, h, j => by
    unfold lostTo
    rw [PM.upd_line _ (by rw [lostTo_len]; omega), lostTo_line m k (by omega), lostTo_line m k (by omega)]
    by_cases e : j = k
    · subst e
      rw [if_pos rfl, if_neg (by omega), if_pos (by omega)]
    · rw [if_neg e]
      by_cases h2 : j < k
      · rw [if_pos h2, if_pos (by omega)]
      · rw [if_neg h2, if_neg (by omega)]
theorem lost_ok {l : PL} (h : l.Ok) : l.lost.Ok := ⟨h.len, h.val, fun s hs => (by cases hs), Nat.le_refl _, fun _ => rfl⟩
theorem lostTo_ok {m : PM} (hm : m.Ok) : ∀ k, k ≤ m.L.length → (lostTo m k).Ok
  | 0, _ => hm
  | k + 1, h => by
    have ih := lostTo_ok hm k (by omega)
    exact ih.upd (lost_ok (ih.line (by rw [lostTo_len]; omega)))
theorem lostTo_rest (m : PM) : ∀ k, (lostTo m k).span = m.span ∧ (lostTo m k).ev = m.ev
  | 0 => ⟨rfl, rfl⟩
  | k + 1 => lostTo_rest m k
theorem lostTo_all (m : PM) : (lostTo m m.L.length).L = m.L.map PL.lost := by
  refine List.ext_getElem (by rw [lostTo_len, List.length_map]) fun i h1 h2 => ?_
  have hi : i < m.L.length := by simpa using h2
  rw [← PM.line_eq h1, lostTo_line m _ (Nat.le_refl _), if_pos hi, PM.line_eq hi]
  exact (List.getElem_map PL.lost).symm
section
variable {w w' : World} {p d o cap : Nat} {m : PM} {F F' : Nat → Prop} {ev : Value} {X : List (PL × Value)}
/-- A line's pending stores and mark are dropped. -/
theorem RefAt.lose (h : RefAt w p m F d o cap ev X) (hm : m.Ok) {i : Nat} (hi : i < m.L.length) :
    RStep F w p (m.upd i PL.lost) ((w.setCell ⟨d, o + i * 11 + 9, none⟩ (.slice none 0 0)).setCell ⟨d, o + i * 11 + 10, none⟩ (.int .i64 0)) := by
  obtain ⟨v, hXi, _, _, _, _, _, _⟩ := h.at hm hi
  have h8 := (hm.line hi).len
  have h1 := h.lineCell hm hi (j := 9) (by decide) (l' := { (m.line i) with pend := [] }) (v := v) (v' := .slice none 0 0) (u := .slice none 0 0) hXi (lnR_pend h8 _ _)
  have hX : i < X.length := by rw [h.len]; exact hi
  have hrows : ∀ y ∈ (X.set i ({ (m.line i) with pend := [] }, .slice none 0 0)).map lnR, y.length = 11 := fun y hy => by
    obtain ⟨x, hx, rfl⟩ := List.mem_map.1 hy
    rcases List.mem_or_eq_of_mem_set hx with h2 | rfl
    · exact lnR_len (h.len8 hm x h2)
    · exact lnR_len h8
  have h2 := h1.set (i * 11 + 10) (.int .i64 0)
  rw [rows_set (.int .i64 0) 11 _ i 10 hrows (by rw [List.length_map, List.length_set]; exact hX) (by decide), List.getElem_map, List.getElem_set_self, ← Nat.add_assoc] at h2
  have e1 : (lnR ({ (m.line i) with pend := [] }, .slice none 0 0)).set 10 (.int .i64 0) = lnR ((m.line i).lost, .slice none 0 0) := lnR_mark (l := { (m.line i) with pend := [] }) h8 0
  rw [e1, ← List.map_set, List.set_set] at h2
  have h3 := h.setLine hi (l' := (m.line i).lost) (v' := .slice none 0 0) (w' := (w.setCell ⟨d, o + i * 11 + 9, none⟩ (.slice none 0 0)).setCell ⟨d, o + i * 11 + 10, none⟩ (.int .i64 0)) (F' := F) (fun k _ hk => (heap_setCell_other _ _ k _ hk).trans (heap_setCell_other _ _ k _ hk)) h2 (Sl.nil _ _ _) (fun _ h => h) (fun q hq => by cases hq) (fun k hk => by simpa using h.lt k hk)
  exact RStep.of ⟨_, _, _, _, _, h3⟩ ((Kept.setCell w (a := ⟨d, o + i * 11 + 9, none⟩) _ h.ownD).then_ (Kept.setCell _ (a := ⟨d, o + i * 11 + 10, none⟩) _ h.ownD))
/-- The end of a crash. -/
theorem RefAt.clear_ (h : RefAt w p m F d o cap ev X) : RStep F w p { m with span := 0, ev := [] } ((w.setCell ⟨p, 1, none⟩ (.int .i64 0)).setCell ⟨p, 2, none⟩ (.slice none 0 0)) := by
  have h1 := h.setSpan 0
  have h2 := h1.setEv (w' := w.setCell ⟨p, 1, none⟩ (.int .i64 0)) (fun _ _ _ => rfl) (Nat.le_refl _) (ev' := .slice none 0 0) (evs := []) (Sl.nil _ _ _) (fun q hq => by cases hq)
  have hk : Kept F w ((w.setCell ⟨p, 1, none⟩ (.int .i64 0)).setCell ⟨p, 2, none⟩ (.slice none 0 0)) := (Kept.setCell w (a := ⟨p, 1, none⟩) _ h.ownP).then_ (Kept.setCell _ (a := ⟨p, 2, none⟩) _ h.ownP)
  refine ⟨⟨_, _, _, _, _, h2.keep (fun _ _ => rfl) (fun q hq => ?_) (fun q hq => ?_)⟩, hk⟩
  · rcases hq with h5 | h5
    · exact .inl h5
    · exact .inr (by obtain ⟨q1, q2⟩ := h5; simp at q1 q2; simp; omega)
  · rcases hq with h5 | h5
    · simpa using h.lt q h5
    · exact h5.2
end
theorem RStep.mid {F : Nat → Prop} {w w1 w2 : World} {p : Nat} {m : PM} (h : RStep (Ex F w w1) w1 p m w2) : RStep (Ex F w w1) w1 p m w2 := h
set_option maxRecDepth 100000 in
set_option maxHeartbeats 8000000 in
set_option linter.unusedSimpArgs false in
theorem rCrash_any (p : Nat) (cs : List (Int × Int)) (v : Value) (m : PM) (F : Nat → Prop) (w : World) (hm : m.Ok) (hs : m.Small 1000) (h : Ref w p m F)
    (hsl : Rd w v cs.length (iv (flatS cs))) (hv : ∀ q, 0 < cs.length → v.ownBlock = some q → ¬ F q) (hI : ∀ c ∈ cs, I64 c.1 ∧ I64 c.2) :
    Calls Tryz.prog 74 #[.pointer (some ⟨p, 0, none⟩), v] w fun e w' => e = .returned (.int .i64 (crashP m cs).1) ∧ RStep F w p (crashP m cs).2 w' := by
  obtain ⟨R, hR⟩ : ∃ R, crashP m cs = R := ⟨_, rfl⟩
  rw [hR]
  unfold crashP at hR
  have HCU := Lib.hid (rCuts_any p cs v m F w hm hs h hsl hI)
  have HSL := Lib.hid hsl
  obtain ⟨A, cap9, rfl, hcc, hcm, _⟩ := hsl
  have hcl : cs.length ≤ 9223372036854775807 := by unfold maxLen at hcm; omega
  have HSB := Lib.hid fun W (hW : Below w.heap.size w W) => RStep.below h hW
  have HM := Lib.hid hm
  have HSM := Lib.hid hs
  have HI := Lib.hid hI
  have HV := Lib.hid hv
  obtain ⟨n, hn⟩ : ∃ n, cs.length = n := ⟨_, rfl⟩
  have HN := Lib.hid hn
  rw [hn] at hcc hcl HCU ⊢
  clear hn hm hs h hI hv
  cases hok : cutsOk m (-1) cs with
  | false =>
    rw [hok] at hR HCU
    rw [if_pos rfl] at hR
    subst hR
    clear hok
    go_enter Tryz.func74, Tryz.ntmps74
    go_wp2_with fail
    refine HCU.out.mono ?_
    rintro e w1 ⟨rfl, hb⟩
    have HS1 := Lib.hid (HSB.out _ hb)
    clear hb HCU
    go_wp2_with fail
    go_ret
    exact ⟨rfl, HS1.out⟩
  | true =>
    rw [hok] at HCU
    rw [hok, if_neg (by simp)] at hR
    have HR := Lib.hid hR
    have HOK0 : Hid (cutsOk m (-1) (cs.drop 0) = true) := Lib.hid hok
    have HSS0 : Hid (settles m cs = settles m (cs.drop 0)) := Lib.hid rfl
    clear hok hR
    go_enter Tryz.func74, Tryz.ntmps74
    go_wp2_with fail
    refine HCU.out.mono ?_
    rintro e w1 ⟨rfl, hb⟩
    have HS1 := Lib.hid (HSB.out _ hb)
    clear hb HCU HSB
    go_wp2_with fail
    go_loopw [6] (fun i wr => ∃ (j : Nat) (last : Int) (mj : PM), i = .int .i64 (j : Int) ∧ j ≤ n ∧ Hid mj.Ok ∧ Hid (mj.Small 1000) ∧ Hid (mj.L.length = m.L.length) ∧ Hid (cutsOk mj last (cs.drop j) = true) ∧ Hid (settles m cs = settles mj (cs.drop j)) ∧ Hid (RStep F w p mj wr)) (fun i _ => n - (intOf i).toNat)
    case atStart => exact ⟨0, -1, m, rfl, by omega, HM, HSM, Lib.hid rfl, HOK0, HSS0, HS1⟩
    case round =>
      clear HOK0 HSS0 HS1
      obtain ⟨j, last, mj, rfl, hj, HMJ, HSJM, HLJ, HCJ, HSJ, HTJ⟩ := hrel
      by_cases hlt2 : j < n
      · have hkc : j < cs.length := by rw [HN.out]; exact hlt2
        obtain ⟨_, _, hv9, _, _, hrr⟩ := HSL.out.keep HTJ.out.2.size fun q hn hq => HTJ.out.2.block q (HSL.out.lt hn hq) (HV.out q hn hq)
        simp only [Value.slice.injEq, true_and] at hv9
        obtain ⟨rfl, rfl⟩ := hv9
        obtain ⟨bb, oo, rfl, _, hsw⟩ := hrr (by omega)
        obtain ⟨cl0, cl1⟩ := rd_get hkc hsw
        have hd := drop_cons hkc
        have hcj := HCJ.out
        rw [hd] at hcj
        obtain ⟨q1, q2, q3, q4, q5⟩ := cutsOk_cons hcj
        have HSJ' : Hid (settles m cs = settles mj (cs[j] :: cs.drop (j + 1))) := Lib.hid (by rw [HSJ.out, hd])
        generalize cs[j] = c at *
        obtain ⟨ln, kp⟩ := c
        simp only at q1 q2 q3 q4 q5 cl0 cl1
        have hr : 0 ≤ ln ∧ ln < mj.L.length := by unfold PM.has at q2; simpa using q2
        obtain ⟨i, rfl⟩ : ∃ i : Nat, ln = i := ⟨ln.toNat, by omega⟩
        obtain ⟨k, rfl⟩ : ∃ k : Nat, kp = k := ⟨kp.toNat, by omega⟩
        have hil : i < mj.L.length := by omega
        rw [Int.toNat_natCast] at q4
        have hjI : (j : Int) < (n : Int) := by omega
        have HSE := Lib.hid (rSettle_any p i k mj _ wr.drew hil (by omega) HMJ.out HSJM.out (HTJ.out.1.below (bel_drew wr)))
        have HMJ2 : Hid (mj.upd i (·.settle k)).Ok := Lib.hid (settle_ok HMJ.out hil)
        have HSM2 : Hid ((mj.upd i (·.settle k)).Small 1000) := Lib.hid (HSJM.out.upd (Nat.le_refl _) (Nat.le_trans (settle_pendR _ _) (HSJM.out.pend _ (PM.line_mem hil))))
        have HLJ2 : Hid ((mj.upd i (·.settle k)).L.length = m.L.length) := Lib.hid (by rw [PM.upd_len]; exact HLJ.out)
        have HCJ2 : Hid (cutsOk (mj.upd i (·.settle k)) (i : Int) (cs.drop (j + 1)) = true) := Lib.hid (by rw [cutsOk_upd hil _ _ (Int.le_refl _)]; exact q5)
        have HSJ2 : Hid (settles m cs = settles (mj.upd i (·.settle k)) (cs.drop (j + 1))) := Lib.hid (by
          rw [HSJ'.out]
          show settles (mj.upd (i : Int).toNat (·.settle (k : Int).toNat)) _ = _
          rw [Int.toNat_natCast, Int.toNat_natCast])
        clear hd hsw HSJ HSJ' HCJ hcj q1 q2 q3 q4 q5 HMJ HLJ hr hrr HSJM
        go_wp2_with fail
        go_still_tail 11, (by kernel_rfl)
        change wpList _ _ _ _ _ wr.drew
        go_wp2_with fail
        refine HSE.out.mono ?_
        rintro e w3 ⟨rfl, hs⟩
        have HT3 := Lib.hid ((HTJ.out.then_below (bel_drew wr)).trans (RStep.mid hs))
        clear hs HTJ HSE
        go_wp2_with fail
        go_roundw
        case rel => exact ⟨j + 1, (i : Int), mj.upd i (·.settle k), by simp, by omega, HMJ2, HSM2, HLJ2, HCJ2, HSJ2, HT3⟩
        case measure => simp [intOf]; omega
      · obtain rfl : j = n := by omega
        have hmj : settles m cs = mj := by
          rw [HSJ.out, List.drop_of_length_le (by rw [HN.out]; exact Nat.le_refl _)]
          rfl
        have hRR2 : (0, mj.lost) = R := by rw [← HR.out, hmj]
        have HRR := Lib.hid hRR2
        have HT0 : Hid (RStep F w p (lostTo mj 0) wr) := HTJ
        obtain ⟨N, hN⟩ : ∃ N, mj.L.length = N := ⟨_, rfl⟩
        have HNN := Lib.hid hN
        have HLN := Lib.hid fun k => lostTo_len mj k
        rw [hN] at HLN
        have HOKL := Lib.hid fun k hk => lostTo_ok HMJ.out k hk
        rw [hN] at HOKL
        have hN2 : N ≤ 4096 := by rw [← hN]; exact HMJ.out.few
        clear hmj hRR2 HTJ HCJ HSJ hN HR HMJ
        go_wp2_with fail
        go_loopw [7] (fun i wr => ∃ k : Nat, i = .int .i64 (k : Int) ∧ k ≤ N ∧ Hid (RStep F w p (lostTo mj k) wr)) (fun i _ => N - (intOf i).toNat)
        case atStart => exact ⟨0, rfl, by omega, HT0⟩
        case round =>
          clear HT0
          obtain ⟨k, rfl, hk, HT⟩ := hrel
          have hrf := HT.out.1
          obtain ⟨d, o, cap, ev, X, h⟩ := hrf
          have c0 := h.c0
          have hcp := h.cap_
          rw [HLN.out k] at c0 hcp
          have hpd : p ≠ d := h.p_ne_d
          have hdp : d ≠ p := fun e => hpd e.symm
          by_cases hlt : k < N
          · have hkl : k < (lostTo mj k).L.length := by rw [HLN.out]; exact hlt
            obtain ⟨v9, _, _, _, _, h9, h10, _⟩ := h.at (HOKL.out k (by omega)) hkl
            have f9 := h.lin.freeR (o + k * 11 + 9)
            have f10 := h.lin.freeR (o + k * 11 + 10)
            have HT2 : Hid (RStep F w p (lostTo mj (k + 1)) _) := Lib.hid (HT.out.trans (h.lose (HOKL.out k (by omega)) hkl))
            have hkI : (k : Int) < (N : Int) := by omega
            generalize ((lostTo mj k).line k).mark = mk at *
            clear h hkl HT
            go_wp2_with fail
            go_roundw
            case rel => exact ⟨k + 1, by simp, by omega, HT2⟩
            case measure => simp [intOf]; omega
          · obtain rfl : k = N := by omega
            have c1 := h.c1
            have c2 := h.c2
            have f1 := h.mem.free 1
            have f2 := h.mem.free 2
            have hfin := HT.out.trans h.clear_
            have hE : ({ lostTo mj k with span := 0, ev := [] } : PM) = mj.lost := by
              have h1 := lostTo_all mj
              rw [HNN.out] at h1
              unfold PM.lost
              rw [← h1]
            rw [hE] at hfin
            have HFIN := Lib.hid hfin
            generalize (lostTo mj k).span = sp at *
            have hrr := HRR.out
            subst hrr
            clear h hfin hE HT
            go_wp2_with fail
            go_ret
            exact ⟨rfl, HFIN.out⟩
end Go.Proofs.YtpojhplnhppcpaaGreatDoor
namespace Go.Proofs.YtpojhplnhppcpaaGreatDoor
open Go.RowKit Go.Maps
theorem infoRow8 : (Tryz.prog.info? 66).map (fun i => (i.zero, i.size, i.bytes)) = some (some (.agg #[.int .i64 0, .int .i64 0, .int .i64 0, .int .i64 0, .int .i64 0, .int .i64 0, .int .i64 0, .int .i64 0]), 8, 64) := by kernel_rfl
theorem seen_take {m : PM} {k : Nat} (hk : k < m.L.length) : m.seen.take (k + 1) = m.seen.take k ++ [(m.line k).shows] := by
  have h1 : k < m.seen.length := by unfold PM.seen; rw [List.length_map]; exact hk
  rw [take_snoc' _ k h1]
  congr 2
  rw [PM.line_eq hk]
  exact List.getElem_map _
theorem img_take {m : PM} {k : Nat} (hk : k < m.L.length) : flatL (m.L.take (k + 1)) = flatL (m.L.take k) ++ ((m.line k).ws ++ [(m.line k).code]) := by
  rw [take_snoc' _ k hk, ← PM.line_eq hk]
  unfold flatL
  rw [List.flatMap_append]
  simp
theorem fill9 {L : List Int} (h8 : L.length = 8) (e : Int) (n : Nat) (hn : n = 9) : Instr.fill (fun i => some (i * n, n)) ((Array.range (1 * n)).map ((Value.agg #[.int .i64 0, .int .i64 0, .int .i64 0, .int .i64 0, .int .i64 0, .int .i64 0, .int .i64 0, .int .i64 0, .int .i64 0]).cells[· % (Value.agg #[.int .i64 0, .int .i64 0, .int .i64 0, .int .i64 0, .int .i64 0, .int .i64 0, .int .i64 0, .int .i64 0, .int .i64 0]).cells.size]!)) [(0, Value.agg (iv (L ++ [e])).toArray)] = some (iv (L ++ [e])).toArray := by
  subst hn
  obtain ⟨a0, a1, a2, a3, a4, a5, a6, a7, rfl⟩ := line8 h8
  kernel_rfl
set_option maxRecDepth 100000 in
set_option maxHeartbeats 8000000 in
set_option linter.unusedSimpArgs false in
theorem rImage_any (p : Nat) (m : PM) (F : Nat → Prop) (w : World) (hm : m.Ok) (h : Ref w p m F) :
    Calls Tryz.prog 75 #[.pointer (some ⟨p, 0, none⟩)] w (Cloned w 77 9 m.L.length (iv (flatL m.L))) := by
  have HRF := Lib.hid h
  have HM := Lib.hid hm
  have HB0 : Hid (Below w.heap.size w w) := Lib.hid (Below.refl _ _)
  have HS0 : Hid (Sl w 77 9 (.slice none 0 0) 0 (iv (flatL (m.L.take 0)))) := Lib.hid (Sl.nil _ _ _)
  have HO0 : Hid (∀ q, (Value.slice none 0 0).ownBlock = some q → w.heap.size ≤ q) := Lib.hid (fun q hq => by cases hq)
  have HSL : Hid (m.L.take m.L.length = m.L) := Lib.hid List.take_length
  obtain ⟨N, hN⟩ : ∃ N, m.L.length = N := ⟨_, rfl⟩
  have HN := Lib.hid hN
  have hN2 : N ≤ 4096 := by rw [← hN]; exact hm.few
  rw [hN] at HSL ⊢
  obtain ⟨i0, his, hz0, hz1, hz2⟩ := info_parts infoLine
  have HIS := Lib.hid his
  have HZ0 := Lib.hid hz0
  have HZ1 := Lib.hid hz1
  have HZ2 := Lib.hid hz2
  have hu22 := Tryz.underlying66
  clear h hm hN his hz0 hz1 hz2
  go_enter Tryz.func75, Tryz.ntmps75
  go_wp2_with fail
  go_loopw [3, 4] (fun u i wr => ∃ k : Nat, i = .int .i64 (k : Int) ∧ k ≤ N ∧ Hid (Sl wr 77 9 u k (iv (flatL (m.L.take k)))) ∧ Hid (∀ q, u.ownBlock = some q → w.heap.size ≤ q) ∧ Hid (Below w.heap.size w wr)) (fun _ i _ => N - (intOf i).toNat)
  case atStart => exact ⟨0, rfl, by omega, HS0, HO0, HB0⟩
  case round =>
    clear HS0 HO0 HB0
    obtain ⟨k, rfl, hk, HS, HO, HB⟩ := hrel
    obtain ⟨d, o, cap, ev, X, h⟩ := HRF.out.below HB.out
    have c0 := h.c0
    have hcp := h.cap_
    rw [HN.out] at c0 hcp
    obtain ⟨UA, ucap, rfl, _⟩ := HS.out.shape
    by_cases hlt : k < N
    · have hkl : k < m.L.length := by rw [HN.out]; exact hlt
      obtain ⟨_, _, _, r1, r2, _, _, _⟩ := h.at HM.out hkl
      have h8 := (HM.out.line hkl).len
      have HTK := Lib.hid (img_take hkl)
      have hi22 := size22' h8
      have HBU := Lib.hid fun W => built_line h8 (m.line k).code W
      have HF9 := Lib.hid fun n hn => fill9 h8 (m.line k).code n hn
      have d0 := cell_below (bel_drew wr) c0
      have d1 := range_below (bel_drew wr) r1
      have d2 := cell_below (bel_drew wr) r2
      generalize (m.line k).ws = ws at *
      generalize (m.line k).code = c at *
      have hkI : (k : Int) < (N : Int) := by omega
      have HSd : Hid (Sl wr.drew 77 9 (.slice UA k ucap) k (iv (flatL (m.L.take k)))) := Lib.hid (HS.out.keep fun _ _ => rfl)
      have HBd := Lib.hid (bel_on HB.out (bel_drew wr))
      have hl9 : (iv (ws ++ [c])).length = 9 := by rw [iv_len, List.length_append, h8]; rfl
      have HL9 := Lib.hid hl9
      have hbd : p < wr.heap.size ∧ d < wr.heap.size := ⟨h.mem.lt, h.lt d h.ownD⟩
      have hpd9 : ∀ q, (Value.slice UA k ucap).ownBlock = some q → q ≠ p ∧ q ≠ d := fun q hq => by
        have h1 := HO.out q hq
        have h2 := HRF.out.lt
        obtain ⟨d', o', cap', ev', X', h'⟩ := HRF.out
        have e1 : p < w.heap.size := h'.mem.lt
        have e2 : d < w.heap.size := HRF.out.lt d h.ownD
        omega
      have HPD := Lib.hid hpd9
      clear h r1 r2 HS HB hl9 hpd9
      go_wp2_with fail
      clear c0
      refine wp_region_held_drew (S := fun W => W.cell? ⟨p, 0, none⟩ = some (.slice (some ⟨d, o, none⟩) N cap) ∧ W.cell? ⟨d, o + k * 11 + 8, none⟩ = some (.int .i64 c) ∧ W.rangeAt d (o + k * 11) (iv ws)) (by kernel_rfl) ⟨d0, d2, d1⟩ (fun hHeld => ?_)
      generalize wr.drew = w2 at *
      refine wpAnyH_take (i := 0) (v := .slice UA k ucap) rfl (by kernel_rfl) (by kernel_rfl) (by kernel_rfl) (fun _ _ _ h => h) (Or.inl ⟨by rfl, fun w hSw => by obtain ⟨h1, h2, h3⟩ := hSw; go_simp⟩) (by assumption) ?_
      change wpAnyH _ _ _ _ _ _ _ (Act.put _ (some 14) _) _
      simp only [Act.put, List.setIfInBounds_toArray, List.set_cons_zero, List.set_cons_succ]
      refine wpAnyH_take (i := 1) (v := .pointer (some ⟨p, 0, none⟩)) rfl (by kernel_rfl) (by kernel_rfl) (by kernel_rfl) (fun _ _ _ h => h) (Or.inl ⟨by rfl, fun w hSw => by obtain ⟨h1, h2, h3⟩ := hSw; go_simp⟩) (by assumption) ?_
      change wpAnyH _ _ _ _ _ _ _ (Act.put _ (some 15) _) _
      simp only [Act.put, List.setIfInBounds_toArray, List.set_cons_zero, List.set_cons_succ]
      refine wpAnyH_take (i := 2) (v := .pointer (some ⟨p, 0, none⟩)) rfl (by kernel_rfl) (by kernel_rfl) (by kernel_rfl) (fun _ _ _ h => h) (Or.inl ⟨by rfl, fun w hSw => by obtain ⟨h1, h2, h3⟩ := hSw; go_simp⟩) (by assumption) ?_
      change wpAnyH _ _ _ _ _ _ _ (Act.put _ (some 16) _) _
      simp only [Act.put, List.setIfInBounds_toArray, List.set_cons_zero, List.set_cons_succ]
      refine wpAnyH_take (i := 3) (v := .pointer (some ⟨p, 0, none⟩)) rfl (by kernel_rfl) (by kernel_rfl) (by kernel_rfl) (fun _ _ _ h => h) (Or.inl ⟨by rfl, fun w hSw => by obtain ⟨h1, h2, h3⟩ := hSw; go_simp⟩) (by assumption) ?_
      change wpAnyH _ _ _ _ _ _ _ (Act.put _ (some 17) _) _
      simp only [Act.put, List.setIfInBounds_toArray, List.set_cons_zero, List.set_cons_succ]
      refine wpAnyH_take (i := 4) (v := .slice (some ⟨d, o, none⟩) N cap) rfl (by kernel_rfl) (by kernel_rfl) (by kernel_rfl) (fun _ _ _ h => h) (Or.inl ⟨by rfl, fun w hSw => by obtain ⟨h1, h2, h3⟩ := hSw; go_simp⟩) (by assumption) ?_
      change wpAnyH _ _ _ _ _ _ _ (Act.put _ (some 18) _) _
      simp only [Act.put, List.setIfInBounds_toArray, List.set_cons_zero, List.set_cons_succ]
      refine wpAnyH_take (i := 5) (v := .int .i64 (k : Int)) rfl (by kernel_rfl) (by kernel_rfl) (by kernel_rfl) (fun _ _ _ h => h) (Or.inl ⟨by rfl, fun w hSw => by obtain ⟨h1, h2, h3⟩ := hSw; go_simp⟩) (by assumption) ?_
      change wpAnyH _ _ _ _ _ _ _ (Act.put _ (some 19) _) _
      simp only [Act.put, List.setIfInBounds_toArray, List.set_cons_zero, List.set_cons_succ]
      refine wpAnyH_take (i := 6) (v := .pointer (some ⟨d, o + k * 11, none⟩)) rfl (by kernel_rfl) (by kernel_rfl) (by kernel_rfl) (fun _ _ _ h => h) (Or.inl ⟨by rfl, fun w hSw => by obtain ⟨h1, h2, h3⟩ := hSw; go_simp⟩) (by assumption) ?_
      change wpAnyH _ _ _ _ _ _ _ (Act.put _ (some 20) _) _
      simp only [Act.put, List.setIfInBounds_toArray, List.set_cons_zero, List.set_cons_succ]
      refine wpAnyH_take (i := 7) (v := .pointer (some ⟨d, o + k * 11, none⟩)) rfl (by kernel_rfl) (by kernel_rfl) (by kernel_rfl) (fun _ _ _ h => h) (Or.inl ⟨by rfl, fun w hSw => by obtain ⟨h1, h2, h3⟩ := hSw; go_simp⟩) (by assumption) ?_
      change wpAnyH _ _ _ _ _ _ _ (Act.put _ (some 21) _) _
      simp only [Act.put, List.setIfInBounds_toArray, List.set_cons_zero, List.set_cons_succ]
      refine wpAnyH_take (i := 8) (v := .agg (iv ws).toArray) rfl (by kernel_rfl) (by kernel_rfl) (by kernel_rfl) (fun _ _ _ h => h) (yieldsIf_load_mid (by rfl) _ _ rfl _ _ rfl _ _ (fun w h => h.2.2) hu22 rfl hi22) (by assumption) ?_
      change wpAnyH _ _ _ _ _ _ _ (Act.put _ (some 22) _) _
      simp only [Act.put, List.setIfInBounds_toArray, List.set_cons_zero, List.set_cons_succ]
      refine wpAnyH_take (i := 9) (v := .pointer (some ⟨p, 0, none⟩)) rfl (by kernel_rfl) (by kernel_rfl) (by kernel_rfl) (fun _ _ _ h => h) (Or.inl ⟨by rfl, fun w hSw => by obtain ⟨h1, h2, h3⟩ := hSw; go_simp⟩) (by assumption) ?_
      change wpAnyH _ _ _ _ _ _ _ (Act.put _ (some 23) _) _
      simp only [Act.put, List.setIfInBounds_toArray, List.set_cons_zero, List.set_cons_succ]
      refine wpAnyH_take (i := 10) (v := .pointer (some ⟨p, 0, none⟩)) rfl (by kernel_rfl) (by kernel_rfl) (by kernel_rfl) (fun _ _ _ h => h) (Or.inl ⟨by rfl, fun w hSw => by obtain ⟨h1, h2, h3⟩ := hSw; go_simp⟩) (by assumption) ?_
      change wpAnyH _ _ _ _ _ _ _ (Act.put _ (some 24) _) _
      simp only [Act.put, List.setIfInBounds_toArray, List.set_cons_zero, List.set_cons_succ]
      refine wpAnyH_take (i := 11) (v := .pointer (some ⟨p, 0, none⟩)) rfl (by kernel_rfl) (by kernel_rfl) (by kernel_rfl) (fun _ _ _ h => h) (Or.inl ⟨by rfl, fun w hSw => by obtain ⟨h1, h2, h3⟩ := hSw; go_simp⟩) (by assumption) ?_
      change wpAnyH _ _ _ _ _ _ _ (Act.put _ (some 25) _) _
      simp only [Act.put, List.setIfInBounds_toArray, List.set_cons_zero, List.set_cons_succ]
      refine wpAnyH_take (i := 12) (v := .slice (some ⟨d, o, none⟩) N cap) rfl (by kernel_rfl) (by kernel_rfl) (by kernel_rfl) (fun _ _ _ h => h) (Or.inl ⟨by rfl, fun w hSw => by obtain ⟨h1, h2, h3⟩ := hSw; go_simp⟩) (by assumption) ?_
      change wpAnyH _ _ _ _ _ _ _ (Act.put _ (some 26) _) _
      simp only [Act.put, List.setIfInBounds_toArray, List.set_cons_zero, List.set_cons_succ]
      refine wpAnyH_take (i := 13) (v := .int .i64 (k : Int)) rfl (by kernel_rfl) (by kernel_rfl) (by kernel_rfl) (fun _ _ _ h => h) (Or.inl ⟨by rfl, fun w hSw => by obtain ⟨h1, h2, h3⟩ := hSw; go_simp⟩) (by assumption) ?_
      change wpAnyH _ _ _ _ _ _ _ (Act.put _ (some 27) _) _
      simp only [Act.put, List.setIfInBounds_toArray, List.set_cons_zero, List.set_cons_succ]
      refine wpAnyH_take (i := 14) (v := .pointer (some ⟨d, o + k * 11, none⟩)) rfl (by kernel_rfl) (by kernel_rfl) (by kernel_rfl) (fun _ _ _ h => h) (Or.inl ⟨by rfl, fun w hSw => by obtain ⟨h1, h2, h3⟩ := hSw; go_simp⟩) (by assumption) ?_
      change wpAnyH _ _ _ _ _ _ _ (Act.put _ (some 28) _) _
      simp only [Act.put, List.setIfInBounds_toArray, List.set_cons_zero, List.set_cons_succ]
      refine wpAnyH_take (i := 15) (v := .pointer (some ⟨d, o + k * 11 + 8, none⟩)) rfl (by kernel_rfl) (by kernel_rfl) (by kernel_rfl) (fun _ _ _ h => h) (Or.inl ⟨by rfl, fun w hSw => by obtain ⟨h1, h2, h3⟩ := hSw; go_simp⟩) (by assumption) ?_
      change wpAnyH _ _ _ _ _ _ _ (Act.put _ (some 29) _) _
      simp only [Act.put, List.setIfInBounds_toArray, List.set_cons_zero, List.set_cons_succ]
      refine wpAnyH_take (i := 16) (v := .int .i64 c) rfl (by kernel_rfl) (by kernel_rfl) (by kernel_rfl) (fun _ _ _ h => h) (Or.inl ⟨by rfl, fun w hSw => by obtain ⟨h1, h2, h3⟩ := hSw; go_simp⟩) (by assumption) ?_
      change wpAnyH _ _ _ _ _ _ _ (Act.put _ (some 30) _) _
      simp only [Act.put, List.setIfInBounds_toArray, List.set_cons_zero, List.set_cons_succ]
      refine wpAnyH_take (i := 17) (v := .agg (iv (ws ++ [c])).toArray) rfl (by kernel_rfl) (by kernel_rfl) (by kernel_rfl) (fun _ _ _ h => h) (yields_build (by rfl) _ _ rfl (fun w => by simpa [Act.eval] using HBU.out w)) (by assumption) ?_
      change wpAnyH _ _ _ _ _ _ _ (Act.put _ (some 31) _) _
      simp only [Act.put, List.setIfInBounds_toArray, List.set_cons_zero, List.set_cons_succ]
      refine wpAnyH_ready (rs := [18]) (by kernel_rfl) (by simp) ?_
      refine AllReadyH.cons rfl (fun K hK => ?_) AllReadyH.nil
      refine wp_buildSlice 23 77 1 _ rfl (iv (ws ++ [c])).toArray i0 _ Tryz.underlying23 HIS.out HZ0.out (by rw [HZ1.out]; decide) (by rw [HZ1.out]; decide) (by simpa [Act.eval] using HF9.out _ HZ1.out) ?_
      refine hK.out _ _ ⟨cell_below (bel_new _ _) d0, cell_below (bel_new _ _) d2, range_below (bel_new _ _) d1⟩ (fun hHeld1 => ?_)
      clear hK K hHeld
      have HS2 := Lib.hid (HSd.out.keep (w' := w2.alloc (.cells (iv (ws ++ [c])).toArray 77)) fun q hq => (bel_new w2 _).block q (HSd.out.lt hq))
      have HNW : Hid (∀ j u, (iv (ws ++ [c]))[j]? = some u → (w2.alloc (.cells (iv (ws ++ [c])).toArray 77)).cell? ((⟨w2.heap.size, 0, none⟩ : Addr).add j) = some u) := Lib.hid (fun j u hu => by
        rw [Addr.add_lit, Nat.zero_add]
        exact (Arr.new w2 (iv (ws ++ [c])) 77).cell hu)
      refine wpAnyH_ready (rs := [19]) (by kernel_rfl) (by simp) ?_
      refine AllReadyH.cons rfl (fun K hK => ?_) AllReadyH.nil
      refine wp_append_sl _ _ 23 rfl 77 i0 _ 9 72 Tryz.underlying23 HIS.out HZ0.out HZ1.out HZ2.out rfl (by decide) (.slice UA k ucap) k (iv (flatL (m.L.take k))) rfl HS2.out ⟨w2.heap.size, 0, none⟩ 1 1 (iv (ws ++ [c])) rfl (by rw [HL9.out]) HNW.out (iv_one _) (by unfold maxLen; omega) (by omega) ?_
      intro v' w5 hs5 hg5 ho5
      have hB4 := bel_on HBd.out (bel_new w2 (.cells (iv (ws ++ [c])).toArray 77))
      have HB5 := Lib.hid (hB4.grown hg5 hB4.size (fun q hq => HO.out q hq))
      have HO5 : Hid (∀ q, v'.ownBlock = some q → w.heap.size ≤ q) := Lib.hid (own_of (by have := hB4.size; exact this) HO.out ho5)
      have HS5 : Hid (Sl w5 77 9 v' (k + 1) (iv (flatL (m.L.take (k + 1))))) := Lib.hid (by
        rw [HTK.out, show iv (flatL (m.L.take k) ++ (ws ++ [c])) = iv (flatL (m.L.take k)) ++ iv (ws ++ [c]) by unfold iv; simp]
        exact hs5)
      obtain ⟨VA, vcap, rfl, _⟩ := hs5.shape
      refine hK.out _ _ ⟨hg5.cell hHeld1.1 (fun e => (HPD.out _ e.symm).1 rfl), hg5.cell hHeld1.2.1 (fun e => (HPD.out _ e.symm).2 rfl), fun j u hj => hg5.cell (hHeld1.2.2 j u hj) (fun e => (HPD.out _ e.symm).2 rfl)⟩ (fun hHeld2 => ?_)
      clear hK K hs5 hg5 ho5 hB4 HS2 HNW HBd HO HTK hHeld1
      refine wpAnyH_take (i := 20) (v := .slice VA (k + 1) vcap) rfl (by kernel_rfl) (by kernel_rfl) (by kernel_rfl) (fun _ _ _ h => h) (Or.inl ⟨by rfl, fun w hSw => by obtain ⟨h1, h2, h3⟩ := hSw; go_simp⟩) (by assumption) ?_
      change wpAnyH _ _ _ _ _ _ _ (Act.put _ (some 3) _) _
      simp only [Act.put, List.setIfInBounds_toArray, List.set_cons_zero, List.set_cons_succ]
      refine wpAnyH_done (by kernel_rfl) ?_ _
      go_wp2_with fail
      go_roundw
      case rel => exact ⟨k + 1, by simp, by omega, HS5, HO5, HB5⟩
      case measure => simp [intOf]; omega
    · obtain rfl : k = N := by omega
      have hs9 := HS.out
      rw [HSL.out] at hs9
      have HS9 := Lib.hid hs9
      clear hs9 HS h
      go_wp2_with fail
      go_ret
      exact ⟨_, rfl, HS9.out, HO.out, HB.out⟩
end Go.Proofs.YtpojhplnhppcpaaGreatDoor
namespace Go.Proofs.YtpojhplnhppcpaaGreatDoor
open Go.RowKit Go.Maps
theorem infoRefLine : (Tryz.prog.info? 130).map (fun i => (i.zero, i.size, i.bytes)) = some (some (.agg #[Value.int .i64 0, Value.int .i64 0, Value.int .i64 0, Value.int .i64 0, Value.int .i64 0, Value.int .i64 0, Value.int .i64 0, Value.int .i64 0, Value.int .i64 0, Value.slice none 0 0, Value.int .i64 0]), 11, 104) := by kernel_rfl
def zeroX : PL × Value := (PL.zero, .slice none 0 0)
theorem zeroX_cells : lnR zeroX = [Value.int .i64 0, Value.int .i64 0, Value.int .i64 0, Value.int .i64 0, Value.int .i64 0, Value.int .i64 0, Value.int .i64 0, Value.int .i64 0, Value.int .i64 0, Value.slice none 0 0, Value.int .i64 0] := rfl
def RNewPost (w : World) (z : Int) (e : Ending) (w' : World) : Prop :=
  (∃ n : Nat, z = n ∧ 1 ≤ n ∧ n ≤ 4096 ∧ ∃ p, e = .returned (.pointer (some ⟨p, 0, none⟩)) ∧ Ref w' p (newP n) (New w w')) ∨
  (¬ (1 ≤ z ∧ z ≤ 4096) ∧ ∃ p, e = .returned (.pointer (some ⟨p, 0, none⟩)) ∧ w.heap.size ≤ p ∧ w'.cell? ⟨p, 0, none⟩ = some (.slice none 0 0))
set_option maxRecDepth 100000 in
set_option maxHeartbeats 8000000 in
set_option linter.unusedSimpArgs false in
theorem rNew_any (z : Int) (w : World) :
    Calls Tryz.prog 103 #[.int .i64 z] w fun e w' => RNewPost w z e w' ∧ Below w.heap.size w w' := by
  have hA := Arr.new w [.slice none 0 0, .int .i64 0, .slice none 0 0] 128
  have HB0 := Lib.hid (bel_new w (.cells #[.slice none 0 0, .int .i64 0, .slice none 0 0] 128))
  have HA0 := Lib.hid hA
  have hc0 := hA.cell (j := 0) rfl
  by_cases h1 : (4096 : Int) < z
  · have HP : Hid (RNewPost w z (.returned (.pointer (some ⟨w.heap.size, 0, none⟩))) (w.alloc (.cells #[.slice none 0 0, .int .i64 0, .slice none 0 0] 128))) := Lib.hid (.inr ⟨by omega, _, rfl, Nat.le_refl _, hc0⟩)
    clear hA hc0
    go_enter Tryz.func103, Tryz.ntmps103
    go_wp2_with fail
    go_ret
    exact ⟨HP.out, HB0.out⟩
  · have HENC := Lib.hid fun W => rEncode_any Z8 W rfl
    rw [enc_z8] at HENC
    rw [show (iv Z8).toArray = #[.int .i64 0, .int .i64 0, .int .i64 0, .int .i64 0, .int .i64 0, .int .i64 0, .int .i64 0, .int .i64 0] from rfl] at HENC
    obtain ⟨N, hN⟩ : ∃ N : Nat, z.toNat = N := ⟨_, rfl⟩
    have HNZ : Hid (∀ k : Nat, (k : Int) < z ↔ k < N) := Lib.hid fun k => by omega
    have HN := Lib.hid hN
    have hN2 : N ≤ 4096 := by omega
    obtain ⟨i0, his, hz0, hz1, hz2⟩ := info_parts infoRefLine
    have HIS := Lib.hid his
    have HZ0 := Lib.hid hz0
    have HZ1 := Lib.hid hz1
    have HZ2 := Lib.hid hz2
    clear his hz0 hz1 hz2 hA hc0 hN
    go_enter Tryz.func103, Tryz.ntmps103
    go_wp2_with fail
    refine (HENC.out _).mono ?_
    rintro e w1 ⟨rfl, hb⟩
    have HB1 : Hid (Below w.heap.size w w1) := Lib.hid (bel_on HB0.out hb)
    have HA1 : Hid (Arr w1 w.heap.size 128 [.slice none 0 0, .int .i64 0, .slice none 0 0]) := Lib.hid (HA0.out.keep hb)
    have HS1 : Hid (Sl w1 130 11 (.slice none 0 0) 0 (List.replicate 0 (lnR zeroX)).flatten) := Lib.hid (Sl.nil _ _ _)
    have HO1 : Hid (∀ q, (Value.slice none 0 0).ownBlock = some q → w.heap.size ≤ q) := Lib.hid (fun q hq => by cases hq)
    clear hb HB0 HA0 HENC
    go_wp2_with fail
    go_loopw [5] (fun i wr => ∃ (k : Nat) (u : Value), i = .int .i64 (k : Int) ∧ k ≤ N ∧ Hid (Arr wr w.heap.size 128 [u, .int .i64 0, .slice none 0 0]) ∧ Hid (Sl wr 130 11 u k (List.replicate k (lnR zeroX)).flatten) ∧ Hid (∀ q, u.ownBlock = some q → w.heap.size ≤ q) ∧ Hid (Below w.heap.size w wr) ∧ Hid (k = 0 → u = .slice none 0 0)) (fun i _ => N - (intOf i).toNat)
    case atStart => exact ⟨0, _, rfl, by omega, HA1, HS1, HO1, HB1, Lib.hid fun _ => rfl⟩
    case round =>
      clear HA1 HS1 HO1 HB1
      obtain ⟨k, u, rfl, hk, HA, HS, HO, HB, HU⟩ := hrel
      have hm0 := HA.out.cell (j := 0) rfl
      have hf0 := HA.out.free 0
      obtain ⟨UA, ucap, rfl, _⟩ := HS.out.shape
      by_cases hlt : k < N
      · have hkI : (k : Int) < z := (HNZ.out k).2 hlt
        have HS2 := Lib.hid (HS.out.keep (w' := wr.alloc (.cells #[Value.int .i64 0, Value.int .i64 0, Value.int .i64 0, Value.int .i64 0, Value.int .i64 0, Value.int .i64 0, Value.int .i64 0, Value.int .i64 0, Value.int .i64 0, Value.slice none 0 0, Value.int .i64 0] 130)) fun q hq => (bel_new wr _).block q (HS.out.lt hq))
        have HNW : Hid (∀ j x, [Value.int .i64 0, Value.int .i64 0, Value.int .i64 0, Value.int .i64 0, Value.int .i64 0, Value.int .i64 0, Value.int .i64 0, Value.int .i64 0, Value.int .i64 0, Value.slice none 0 0, Value.int .i64 0][j]? = some x → (wr.alloc (.cells #[Value.int .i64 0, Value.int .i64 0, Value.int .i64 0, Value.int .i64 0, Value.int .i64 0, Value.int .i64 0, Value.int .i64 0, Value.int .i64 0, Value.int .i64 0, Value.slice none 0 0, Value.int .i64 0] 130)).cell? ((⟨wr.heap.size, 0, none⟩ : Addr).add j) = some x) := Lib.hid (fun j x hx => by
          rw [Addr.add_lit, Nat.zero_add]
          exact (Arr.new wr [Value.int .i64 0, Value.int .i64 0, Value.int .i64 0, Value.int .i64 0, Value.int .i64 0, Value.int .i64 0, Value.int .i64 0, Value.int .i64 0, Value.int .i64 0, Value.slice none 0 0, Value.int .i64 0] 130).cell hx)
        have HONE : Hid (∀ x ∈ [Value.int .i64 0, Value.int .i64 0, Value.int .i64 0, Value.int .i64 0, Value.int .i64 0, Value.int .i64 0, Value.int .i64 0, Value.int .i64 0, Value.int .i64 0, Value.slice none 0 0, Value.int .i64 0], x.oneCell' = true) := Lib.hid (by
          have := lnR_one (x := zeroX) rfl
          rw [zeroX_cells] at this
          exact this)
        have HFIN : Hid (∀ (v' : Value) (w5 : World), Sl w5 130 11 v' (k + 1) ((List.replicate k (lnR zeroX)).flatten ++ [Value.int .i64 0, Value.int .i64 0, Value.int .i64 0, Value.int .i64 0, Value.int .i64 0, Value.int .i64 0, Value.int .i64 0, Value.int .i64 0, Value.int .i64 0, Value.slice none 0 0, Value.int .i64 0]) → (wr.alloc (.cells #[Value.int .i64 0, Value.int .i64 0, Value.int .i64 0, Value.int .i64 0, Value.int .i64 0, Value.int .i64 0, Value.int .i64 0, Value.int .i64 0, Value.int .i64 0, Value.slice none 0 0, Value.int .i64 0] 130)).grownBy w5 (Value.slice UA k ucap).ownBlock → (v'.ownBlock = (Value.slice UA k ucap).ownBlock ∨ v'.ownBlock = some (wr.alloc (.cells #[Value.int .i64 0, Value.int .i64 0, Value.int .i64 0, Value.int .i64 0, Value.int .i64 0, Value.int .i64 0, Value.int .i64 0, Value.int .i64 0, Value.int .i64 0, Value.slice none 0 0, Value.int .i64 0] 130)).heap.size) →
            (w5.cell? ⟨w.heap.size, 0, none⟩ = some (.slice UA k ucap) ∧ w5.frozen? ⟨w.heap.size, 0, none⟩ = false) ∧ Arr (w5.setCell ⟨w.heap.size, 0, none⟩ v') w.heap.size 128 [v', .int .i64 0, .slice none 0 0] ∧ Sl (w5.setCell ⟨w.heap.size, 0, none⟩ v') 130 11 v' (k + 1) (List.replicate (k + 1) (lnR zeroX)).flatten ∧ (∀ q, v'.ownBlock = some q → w.heap.size ≤ q) ∧ Below w.heap.size w (w5.setCell ⟨w.heap.size, 0, none⟩ v')) := Lib.hid fun v' w5 h5 h6 h7 => by
          have hne : some w.heap.size ≠ (Value.slice UA k ucap).ownBlock := fun e => HS.out.ne_of e.symm HA.out (by decide) rfl
          have hb4 := bel_on HB.out (bel_new wr (.cells #[Value.int .i64 0, Value.int .i64 0, Value.int .i64 0, Value.int .i64 0, Value.int .i64 0, Value.int .i64 0, Value.int .i64 0, Value.int .i64 0, Value.int .i64 0, Value.slice none 0 0, Value.int .i64 0] 130))
          have hA5 : Arr w5 w.heap.size 128 [.slice UA k ucap, .int .i64 0, .slice none 0 0] := (h6.block _ (Nat.lt_of_lt_of_le HA.out.lt (by simp)) hne).trans (HA.out.keep (bel_new wr _))
          have hs5 : Sl w5 130 11 v' (k + 1) (List.replicate (k + 1) (lnR zeroX)).flatten := by
            rw [List.replicate_succ', List.flatten_append, zeroX_cells]
            rw [zeroX_cells] at h5
            simpa using h5
          refine ⟨⟨hA5.cell rfl, hA5.free 0⟩, hA5.set 0 v', hs5.keep fun q hq => heap_setCell_other w5 _ q _ (hs5.ne_of hq hA5 (by decide)), own_of (by have := hb4.size; exact this) HO.out h7, (hb4.grown h6 hb4.size (fun q hq => HO.out q hq)).setCell (Nat.le_refl _) _⟩
        clear HS HA
        go_wp2_with (at_builtin; refine wpList_append_sl _ rfl _ _ 126 rfl 130 i0 _ 11 104 Tryz.underlying126 HIS.out HZ0.out HZ1.out HZ2.out rfl (by decide) _ k (List.replicate k (lnR zeroX)).flatten rfl HS2.out ⟨wr.heap.size, 0, none⟩ 1 1 [Value.int .i64 0, Value.int .i64 0, Value.int .i64 0, Value.int .i64 0, Value.int .i64 0, Value.int .i64 0, Value.int .i64 0, Value.int .i64 0, Value.int .i64 0, Value.slice none 0 0, Value.int .i64 0] rfl rfl HNW.out HONE.out (by unfold maxLen; omega) (by omega) ?_; intro v' w5 hs5 hg5 ho5; obtain ⟨⟨g1, g2⟩, g3, g4, g5, g6⟩ := HFIN.out _ _ hs5 hg5 ho5; have G3 := Lib.hid g3; have G4 := Lib.hid g4; have G5 := Lib.hid g5; have G6 := Lib.hid g6; obtain ⟨VA, vcap, rfl, _⟩ := hs5.shape; clear hs5 hg5 ho5 g3 g4 g5 g6)
        go_roundw
        case rel => exact ⟨k + 1, _, by simp, by omega, G3, G4, G5, G6, Lib.hid fun h => by omega⟩
        case measure => simp [intOf]; omega
      · obtain rfl : k = N := by omega
        have hkI : ¬ (k : Int) < z := fun h => hlt ((HNZ.out k).1 h)
        have HP : Hid (RNewPost w z (.returned (.pointer (some ⟨w.heap.size, 0, none⟩))) wr) := Lib.hid (by
          by_cases hz1 : 1 ≤ z
          · have hkz : z = (k : Int) := by have := HN.out; omega
            have hk1 : 1 ≤ k := by omega
            refine .inl ⟨k, hkz, hk1, hN2, _, rfl, ?_⟩
            rcases HS.out.2 with ⟨_, h9⟩ | ⟨g, o, cap, cur, hv, hb, _⟩
            · omega
            · simp only [Value.slice.injEq, true_and] at hv
              obtain ⟨rfl, rfl⟩ := hv
              have hlen : (newP k).L.length = k := List.length_replicate ..
              have hgw := HO.out g rfl
              have hgs := HS.out.lt (g := g) rfl
              refine ⟨g, o, ucap, .slice none 0 0, List.replicate k zeroX, ?_⟩
              exact {
                mem := by rw [hlen]; exact HA.out
                lst := by rw [List.map_replicate]; rfl
                lin := by rw [hlen, List.map_replicate]; exact HS.out
                evs := Sl.nil _ _ _
                pend := fun x hx => by rw [(List.mem_replicate.1 hx).2]; exact Sl.nil _ _ _
                ownP := ⟨Nat.le_refl _, HA.out.lt⟩
                ownD := ⟨hgw, hgs⟩
                ownE := fun q hq => by cases hq
                ownG := fun x hx q hq => by rw [(List.mem_replicate.1 hx).2] at hq; cases hq
                lt := fun q hq => hq.2 }
          · have hk0 : k = 0 := by have := HN.out; omega
            refine .inr ⟨by omega, _, rfl, Nat.le_refl _, ?_⟩
            have h9 := HU.out hk0
            rw [h9] at hm0
            exact hm0)
        clear HS HA HO hlt
        go_wp2_with fail
        go_ret
        exact ⟨HP.out, HB.out⟩
end Go.Proofs.YtpojhplnhppcpaaGreatDoor
namespace Go.Proofs.YtpojhplnhppcpaaGreatDoor
open Go.RowKit Go.Maps
/-- The events are dropped. -/
theorem RefAt.forget {w : World} {p d o cap : Nat} {m : PM} {F : Nat → Prop} {ev : Value} {X : List (PL × Value)} (h : RefAt w p m F d o cap ev X) : RStep F w p (forgetP m) (w.setCell ⟨p, 2, none⟩ (.slice none 0 0)) := by
  have h2 := h.setEv (w' := w) (fun _ _ _ => rfl) (Nat.le_refl _) (ev' := .slice none 0 0) (evs := []) (Sl.nil _ _ _) (fun q hq => by cases hq)
  refine ⟨⟨_, _, _, _, _, h2.keep (fun _ _ => rfl) (fun q hq => ?_) (fun q hq => ?_)⟩, Kept.setCell w (a := ⟨p, 2, none⟩) _ h.ownP⟩
  · rcases hq with h5 | h5
    · exact .inl h5
    · exact .inr (by obtain ⟨q1, q2⟩ := h5; simp; omega)
  · rcases hq with h5 | h5
    · simpa using h.lt q h5
    · exact h5.2
end Go.Proofs.YtpojhplnhppcpaaGreatDoor
