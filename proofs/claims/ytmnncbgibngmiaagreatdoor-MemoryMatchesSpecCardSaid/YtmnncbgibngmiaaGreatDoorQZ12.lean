/-
  What the reference's Cuts does. What the reference's Crash does.
-/
import Derived.Test.YtmnncbgibngmiaaGreatDoorQZ11
import Derived.Test.YtmnncbgibngmiaaGreatDoorQN12
import Derived.BigQuiet
namespace Go.Proofs.YtmnncbgibngmiaaGreatDoor
open Go.RowKit Go.Maps
def lastAt (cs : List (Int × Int)) : Nat → Int
  | 0 => -1
  | k + 1 => (cs.getD k (0, 0)).1
set_option maxRecDepth 100000 in
set_option maxHeartbeats 8000000 in
set_option linter.unusedSimpArgs false in
theorem rCuts_any (p : Nat) (cs : List (Int × Int)) (v : Value) (m : PM) (F : Nat → Prop) (w : World) (hm : m.Ok) (hs : m.Small 1000) (h : Ref w p m F)
    (hsl : Rd w v cs.length (iv (flatS cs))) (hI : ∀ c ∈ cs, I64 c.1 ∧ I64 c.2) :
    Calls Tryz.prog 76 #[.pointer (some ⟨p, 0, none⟩), v] w fun e w' => e = .returned (.bool (cutsOk m (-1) cs)) ∧ Below w.heap.size w w' := by
  obtain ⟨R, hR⟩ : ∃ R, cutsOk m (-1) cs = R := ⟨_, rfl⟩
  rw [hR]
  have HSL := Lib.hid hsl
  obtain ⟨A, cap9, rfl, hcc, hcm, _⟩ := hsl
  have hcl : cs.length ≤ 9223372036854775807 := by unfold maxLen at hcm; omega
  have HRF := Lib.hid h
  have HM := Lib.hid hm
  have HSM := Lib.hid hs
  have HI := Lib.hid hI
  have HR := Lib.hid hR
  obtain ⟨n, hn⟩ : ∃ n, cs.length = n := ⟨_, rfl⟩
  have HN := Lib.hid hn
  rw [hn] at hcc hcl ⊢
  have HB0 : Hid (Below w.heap.size w w) := Lib.hid (Below.refl _ _)
  have HC0 : Hid (cutsOk m (-1) cs = cutsOk m (lastAt cs 0) (cs.drop 0)) := Lib.hid rfl
  clear hn hR hm hs h hI
  go_enter Tryz.func76, Tryz.ntmps76
  go_wp2_with fail
  go_loopw [5] (fun i wr => ∃ k : Nat, i = .int .i64 (k : Int) ∧ k ≤ n ∧ Hid (cutsOk m (-1) cs = cutsOk m (lastAt cs k) (cs.drop k)) ∧ Hid (Below w.heap.size w wr)) (fun i _ => n - (intOf i).toNat)
  case atStart => exact ⟨0, rfl, by omega, HC0, HB0⟩
  case round =>
    clear HC0 HB0
    obtain ⟨k, rfl, hk, HC, HB⟩ := hrel
    by_cases hlt : k < n
    · have hkc : k < cs.length := by rw [HN.out]; exact hlt
      obtain ⟨_, _, hv9, _, _, hrr⟩ := HSL.out.below HB.out
      simp only [Value.slice.injEq, true_and] at hv9
      obtain ⟨rfl, rfl⟩ := hv9
      obtain ⟨bb, oo, rfl, _, hsw⟩ := hrr (by omega)
      obtain ⟨cl0, cl1⟩ := rd_get hkc hsw
      have hd := drop_cons hkc
      have hIc := HI.out cs[k] (List.getElem_mem hkc)
      have hla : lastAt cs (k + 1) = cs[k].1 := by
        show (cs.getD k (0, 0)).1 = _
        rw [List.getD_eq_getElem?_getD, List.getElem?_eq_getElem hkc]
        rfl
      have HLA := Lib.hid hla
      have HC' : Hid (cutsOk m (-1) cs = cutsOk m (lastAt cs k) (cs[k] :: cs.drop (k + 1))) := Lib.hid (by rw [HC.out, hd])
      have hpv : 0 < k → wr.cell? ⟨bb, oo + (k - 1) * 2, none⟩ = some (.int .i64 (lastAt cs k)) := fun h0 => by
        obtain ⟨k', rfl⟩ : ∃ k', k = k' + 1 := ⟨k - 1, by omega⟩
        have hkc' : k' < cs.length := by omega
        obtain ⟨q0, _⟩ := rd_get hkc' hsw
        have e1 : lastAt cs (k' + 1) = cs[k'].1 := by
          show (cs.getD k' (0, 0)).1 = _
          rw [List.getD_eq_getElem?_getD, List.getElem?_eq_getElem hkc']
          rfl
        rw [e1]
        exact q0
      have HPV := Lib.hid hpv
      have HL0 : Hid (k = 0 → lastAt cs k = -1) := Lib.hid fun e => by subst e; rfl
      obtain ⟨c, hc⟩ : ∃ c, cs[k] = c := ⟨_, rfl⟩
      rw [hc] at cl0 cl1 hIc HLA HC'
      obtain ⟨ln, kp⟩ := c
      obtain ⟨hl1, hl2⟩ := hIc
      simp only at hl1 hl2 cl0 cl1 HLA
      have hkI : (k : Int) < (n : Int) := by omega
      have hr1 := HRF.out.below HB.out
      have HH := Lib.hid fun q => rHas_any p ln m F (wr.drewN q) (hr1.below (below_drewN (Below.refl _ _) q))
      generalize lastAt cs k = last at *
      clear hd hsw hrr HC hla hpv hc
      cases hh : m.has ln with
      | false =>
        have hRR : R = false := by rw [← HR.out, HC'.out, cutsOk_bad (.inr (.inl hh))]
        subst hRR
        rw [hh] at HH
        clear hl1 hl2
        go_wp2_with fail
        (go_quiet ((go_at_call 66; exact Calls.quiet_of_same (HH.out _))))
        go_wp2_with fail
        go_ret
        exact ⟨rfl, below_drewN HB.out nq⟩
      | true =>
        rw [hh] at HH
        have hin : 0 ≤ ln ∧ ln < (m.L.length : Int) := by unfold PM.has at hh; simpa using hh
        obtain ⟨i, rfl⟩ : ∃ i : Nat, ln = i := ⟨ln.toNat, by omega⟩
        have hi : i < m.L.length := by omega
        by_cases hbad : 0 < k ∧ (i : Int) ≤ last
        · have hRR : R = false := by rw [← HR.out, HC'.out, cutsOk_bad (.inl hbad.2)]
          subst hRR
          obtain ⟨hb0, hb1⟩ := hbad
          have pv := HPV.out hb0
          have e0 := dec_t (show (0 : Int) < (k : Int) by omega)
          have e1 := dec_t hb1
          have hk1 : IntKind.i64.wrap ((k : Int) - 1) = ((k - 1 : Nat) : Int) := by rw [wrapEq, w64 _ (by omega) (by omega)]; omega
          have hk2 : wrap64 ((k : Int) - 1) = ((k - 1 : Nat) : Int) := by rw [w64 _ (by omega) (by omega)]; omega
          have hk3 : ((k - 1 : Nat) : Int) < (n : Int) := by omega
          generalize k - 1 = k1 at *
          clear hl1 hl2 hin hi hb1 hcl
          go_wp2_with fail
          (go_quiet ((go_at_call 66; exact Calls.quiet_of_same (HH.out _))))
          go_wp2_with fail
          go_ret
          exact ⟨rfl, below_drewN HB.out nq⟩
        · have hb1 : ¬ (i : Int) ≤ last := by
            by_cases h0 : 0 < k
            · exact fun h => hbad ⟨h0, h⟩
            · have := HL0.out (by omega)
              omega
          obtain ⟨d, o, cap, ev, X, hat⟩ := hr1
          have c0 := hat.c0
          have hcp := hat.cap_
          obtain ⟨pv9, _, _, _, _, h9, _, hsl9⟩ := hat.at HM.out hi
          have hpl := HSM.out.pend _ (PM.line_mem hi)
          have HBAD : Hid (kp < 0 ∨ ((m.line i).pend.length : Int) < kp → R = false) := Lib.hid fun hx => by
            rw [← HR.out, HC'.out]
            refine cutsOk_bad (.inr (.inr ?_))
            rcases hx with hx | hx
            · exact .inl hx
            · exact .inr (by show ((m.line (i : Int).toNat).pend.length : Int) < kp; rw [Int.toNat_natCast]; exact hx)
          have HGOOD : Hid (¬ kp < 0 → ¬ ((m.line i).pend.length : Int) < kp → cutsOk m (-1) cs = cutsOk m (lastAt cs (k + 1)) (cs.drop (k + 1))) := Lib.hid fun h1 h2 => by
            rw [HC'.out, cutsOk_good hb1 hh h1 (by show ¬ ((m.line (i : Int).toNat).pend.length : Int) < kp; rw [Int.toNat_natCast]; exact h2), HLA.out]
          obtain ⟨VA, vcap, rfl, _⟩ := hsl9.shape
          generalize (m.line i).pend.length = pl at *
          have hiI : (i : Int) < (m.L.length : Int) := by omega
          generalize m.L.length = N at *
          have e1 := dec_f hb1
          clear hat hsl9 hl1 hl2 hin hi hbad hb1 HC' HLA HI HSM HM
          by_cases hb0 : 0 < k
          · have pv := HPV.out hb0
            have e0 := dec_t (show (0 : Int) < (k : Int) by omega)
            have hk1 : IntKind.i64.wrap ((k : Int) - 1) = ((k - 1 : Nat) : Int) := by rw [wrapEq, w64 _ (by omega) (by omega)]; omega
            have hk2 : wrap64 ((k : Int) - 1) = ((k - 1 : Nat) : Int) := by rw [w64 _ (by omega) (by omega)]; omega
            have hk3 : ((k - 1 : Nat) : Int) < (n : Int) := by omega
            generalize k - 1 = k1 at *
            by_cases b3 : kp < 0
            · have hRR : R = false := HBAD.out (.inl b3)
              subst hRR
              have d3 := dec_t b3
              clear HBAD HGOOD
              go_wp2_with fail
              (go_quiet ((go_at_call 66; exact Calls.quiet_of_same (HH.out _))))
              go_wp2_with fail
              go_quiet (fail)
              go_wp2_with fail
              go_ret
              exact ⟨rfl, by first | exact below_drewN (below_drewN HB.out _) _ | exact below_drewN HB.out _⟩
            · have d3 := dec_f b3
              by_cases b4 : (pl : Int) < kp
              · have hRR : R = false := HBAD.out (.inr b4)
                subst hRR
                have d4 := dec_t b4
                clear HBAD HGOOD
                go_wp2_with fail
                (go_quiet ((go_at_call 66; exact Calls.quiet_of_same (HH.out _))))
                go_wp2_with fail
                go_quiet (fail)
                go_wp2_with fail
                go_ret
                exact ⟨rfl, by first | exact below_drewN (below_drewN HB.out _) _ | exact below_drewN HB.out _⟩
              · have d4 := dec_f b4
                have HC2 := Lib.hid (HGOOD.out b3 b4)
                clear HBAD HGOOD
                go_wp2_with fail
                (go_quiet ((go_at_call 66; exact Calls.quiet_of_same (HH.out _))))
                generalize nq = n1 at *
                go_wp2_with fail
                go_quiet (fail)
                have HB2 := Lib.hid (below_drewN HB.out (n1 + nq))
                go_wp2_with fail
                go_roundw
                case rel => exact ⟨k + 1, by simp, by omega, HC2, HB2⟩
                case measure => simp [intOf]; omega
          · have e0 := dec_f (show ¬ (0 : Int) < (k : Int) by omega)
            clear HPV
            by_cases b3 : kp < 0
            · have hRR : R = false := HBAD.out (.inl b3)
              subst hRR
              have d3 := dec_t b3
              clear HBAD HGOOD
              go_wp2_with fail
              (go_quiet ((go_at_call 66; exact Calls.quiet_of_same (HH.out _))))
              go_wp2_with fail
              go_quiet (fail)
              go_wp2_with fail
              go_ret
              exact ⟨rfl, by first | exact below_drewN (below_drewN HB.out _) _ | exact below_drewN HB.out _⟩
            · have d3 := dec_f b3
              by_cases b4 : (pl : Int) < kp
              · have hRR : R = false := HBAD.out (.inr b4)
                subst hRR
                have d4 := dec_t b4
                clear HBAD HGOOD
                go_wp2_with fail
                (go_quiet ((go_at_call 66; exact Calls.quiet_of_same (HH.out _))))
                go_wp2_with fail
                go_quiet (fail)
                go_wp2_with fail
                go_ret
                exact ⟨rfl, by first | exact below_drewN (below_drewN HB.out _) _ | exact below_drewN HB.out _⟩
              · have d4 := dec_f b4
                have HC2 := Lib.hid (HGOOD.out b3 b4)
                clear HBAD HGOOD
                go_wp2_with fail
                (go_quiet ((go_at_call 66; exact Calls.quiet_of_same (HH.out _))))
                generalize nq = n1 at *
                go_wp2_with fail
                go_quiet (fail)
                have HB2 := Lib.hid (below_drewN HB.out (n1 + nq))
                go_wp2_with fail
                go_roundw
                case rel => exact ⟨k + 1, by simp, by omega, HC2, HB2⟩
                case measure => simp [intOf]; omega
    · obtain rfl : k = n := by omega
      have hRR : R = true := by
        rw [← HR.out, HC.out, List.drop_of_length_le (by rw [HN.out]; exact Nat.le_refl _)]
        rfl
      subst hRR
      go_wp2_with fail
      go_ret
      exact ⟨rfl, HB.out⟩
end Go.Proofs.YtmnncbgibngmiaaGreatDoor
namespace Go.Proofs.YtmnncbgibngmiaaGreatDoor
open Go.RowKit Go.Maps
def lostTo (m : PM) : Nat → PM
  | 0 => m
  | k + 1 => (lostTo m k).upd k PL.lost
theorem lostTo_len (m : PM) : ∀ k, (lostTo m k).L.length = m.L.length
  | 0 => rfl
  | k + 1 => by unfold lostTo; rw [PM.upd_len, lostTo_len m k]
theorem lostTo_line (m : PM) : ∀ k, k ≤ m.L.length → ∀ j, (lostTo m k).line j = if j < k then (m.line j).lost else m.line j
  | 0, _, _ => rfl
  | k + 1, h, j => by
    unfold lostTo
    rw [PM.upd_line _ (by rw [lostTo_len]; omega), lostTo_line m k (by omega), lostTo_line m k (by omega)]
    by_cases e : j = k
    · subst e
      rw [if_pos rfl, if_neg (by omega), if_pos (by omega)]
    · rw [if_neg e]
      by_cases h2 : j < k
      · rw [if_pos h2, if_pos (by omega)]
      · rw [if_neg h2, if_neg (by omega)]
theorem lost_ok {l : PL} (h : l.Ok) : l.lost.Ok := ⟨h.len, h.val, fun s hs => (by cases hs), Nat.le_refl _, fun _ => rfl⟩
theorem lostTo_ok {m : PM} (hm : m.Ok) : ∀ k, k ≤ m.L.length → (lostTo m k).Ok
  | 0, _ => hm
  | k + 1, h => by
    have ih := lostTo_ok hm k (by omega)
    exact ih.upd (lost_ok (ih.line (by rw [lostTo_len]; omega)))
theorem lostTo_rest (m : PM) : ∀ k, (lostTo m k).span = m.span ∧ (lostTo m k).ev = m.ev
  | 0 => ⟨rfl, rfl⟩
  | k + 1 => lostTo_rest m k
theorem lostTo_all (m : PM) : (lostTo m m.L.length).L = m.L.map PL.lost := by
  refine List.ext_getElem (by rw [lostTo_len, List.length_map]) fun i h1 h2 => ?_
  have hi : i < m.L.length := by simpa using h2
  rw [← PM.line_eq h1, lostTo_line m _ (Nat.le_refl _), if_pos hi, PM.line_eq hi]
  exact (List.getElem_map PL.lost).symm
section
variable {w w' : World} {p d o cap : Nat} {m : PM} {F F' : Nat → Prop} {ev : Value} {X : List (PL × Value)}
/-- A line's pending stores and mark are dropped. -/
theorem RefAt.lose (h : RefAt w p m F d o cap ev X) (hm : m.Ok) {i : Nat} (hi : i < m.L.length) :
    RStep F w p (m.upd i PL.lost) ((w.setCell ⟨d, o + i * 11 + 9, none⟩ (.slice none 0 0)).setCell ⟨d, o + i * 11 + 10, none⟩ (.int .i64 0)) := by
  obtain ⟨v, hXi, _, _, _, _, _, _⟩ := h.at hm hi
  have h8 := (hm.line hi).len
  have h1 := h.lineCell hm hi (j := 9) (by decide) (l' := { (m.line i) with pend := [] }) (v := v) (v' := .slice none 0 0) (u := .slice none 0 0) hXi (lnR_pend h8 _ _)
  have hX : i < X.length := by rw [h.len]; exact hi
  have hrows : ∀ y ∈ (X.set i ({ (m.line i) with pend := [] }, .slice none 0 0)).map lnR, y.length = 11 := fun y hy => by
    obtain ⟨x, hx, rfl⟩ := List.mem_map.1 hy
    rcases List.mem_or_eq_of_mem_set hx with h2 | rfl
    · exact lnR_len (h.len8 hm x h2)
    · exact lnR_len h8
  have h2 := h1.set (i * 11 + 10) (.int .i64 0)
  rw [rows_set (.int .i64 0) 11 _ i 10 hrows (by rw [List.length_map, List.length_set]; exact hX) (by decide), List.getElem_map, List.getElem_set_self, ← Nat.add_assoc] at h2
  have e1 : (lnR ({ (m.line i) with pend := [] }, .slice none 0 0)).set 10 (.int .i64 0) = lnR ((m.line i).lost, .slice none 0 0) := lnR_mark (l := { (m.line i) with pend := [] }) h8 0
  rw [e1, ← List.map_set, List.set_set] at h2
  have h3 := h.setLine hi (l' := (m.line i).lost) (v' := .slice none 0 0) (w' := (w.setCell ⟨d, o + i * 11 + 9, none⟩ (.slice none 0 0)).setCell ⟨d, o + i * 11 + 10, none⟩ (.int .i64 0)) (F' := F) (fun k _ hk => (heap_setCell_other _ _ k _ hk).trans (heap_setCell_other _ _ k _ hk)) h2 (Sl.nil _ _ _) (fun _ h => h) (fun q hq => by cases hq) (fun k hk => by simpa using h.lt k hk)
  exact RStep.of ⟨_, _, _, _, _, h3⟩ ((Kept.setCell w (a := ⟨d, o + i * 11 + 9, none⟩) _ h.ownD).then_ (Kept.setCell _ (a := ⟨d, o + i * 11 + 10, none⟩) _ h.ownD))
/-- The end of a crash. -/
theorem RefAt.clear_ (h : RefAt w p m F d o cap ev X) : RStep F w p { m with span := 0, ev := [] } ((w.setCell ⟨p, 1, none⟩ (.int .i64 0)).setCell ⟨p, 2, none⟩ (.slice none 0 0)) := by
  have h1 := h.setSpan 0
  have h2 := h1.setEv (w' := w.setCell ⟨p, 1, none⟩ (.int .i64 0)) (fun _ _ _ => rfl) (Nat.le_refl _) (ev' := .slice none 0 0) (evs := []) (Sl.nil _ _ _) (fun q hq => by cases hq)
  have hk : Kept F w ((w.setCell ⟨p, 1, none⟩ (.int .i64 0)).setCell ⟨p, 2, none⟩ (.slice none 0 0)) := (Kept.setCell w (a := ⟨p, 1, none⟩) _ h.ownP).then_ (Kept.setCell _ (a := ⟨p, 2, none⟩) _ h.ownP)
  refine ⟨⟨_, _, _, _, _, h2.keep (fun _ _ => rfl) (fun q hq => ?_) (fun q hq => ?_)⟩, hk⟩
  · rcases hq with h5 | h5
    · exact .inl h5
    · exact .inr (by obtain ⟨q1, q2⟩ := h5; simp at q1 q2; simp; omega)
  · rcases hq with h5 | h5
    · simpa using h.lt q h5
    · exact h5.2
end
theorem RStep.mid {F : Nat → Prop} {w w1 w2 : World} {p : Nat} {m : PM} (h : RStep (Ex F w w1) w1 p m w2) : RStep (Ex F w w1) w1 p m w2 := h
set_option maxRecDepth 100000 in
set_option maxHeartbeats 8000000 in
set_option linter.unusedSimpArgs false in
theorem rCrash_any (p : Nat) (cs : List (Int × Int)) (v : Value) (m : PM) (F : Nat → Prop) (w : World) (hm : m.Ok) (hs : m.Small 1000) (h : Ref w p m F)
    (hsl : Rd w v cs.length (iv (flatS cs))) (hv : ∀ q, 0 < cs.length → v.ownBlock = some q → ¬ F q) (hI : ∀ c ∈ cs, I64 c.1 ∧ I64 c.2) :
    Calls Tryz.prog 51 #[.pointer (some ⟨p, 0, none⟩), v] w fun e w' => e = .returned (.int .i64 (crashP m cs).1) ∧ RStep F w p (crashP m cs).2 w' := by
  obtain ⟨R, hR⟩ : ∃ R, crashP m cs = R := ⟨_, rfl⟩
  rw [hR]
  unfold crashP at hR
  have HCU := Lib.hid (rCuts_any p cs v m F w hm hs h hsl hI)
  have HSL := Lib.hid hsl
  obtain ⟨A, cap9, rfl, hcc, hcm, _⟩ := hsl
  have hcl : cs.length ≤ 9223372036854775807 := by unfold maxLen at hcm; omega
  have HSB := Lib.hid fun W (hW : Below w.heap.size w W) => RStep.below h hW
  have HM := Lib.hid hm
  have HSM := Lib.hid hs
  have HI := Lib.hid hI
  have HV := Lib.hid hv
  obtain ⟨n, hn⟩ : ∃ n, cs.length = n := ⟨_, rfl⟩
  have HN := Lib.hid hn
  rw [hn] at hcc hcl HCU ⊢
  clear hn hm hs h hI hv
  cases hok : cutsOk m (-1) cs with
  | false =>
    rw [hok] at hR HCU
    rw [if_pos rfl] at hR
    subst hR
    clear hok
    go_enter Tryz.func51, Tryz.ntmps51
    go_wp2_with fail
    refine HCU.out.mono ?_
    rintro e w1 ⟨rfl, hb⟩
    have HS1 := Lib.hid (HSB.out _ hb)
    clear hb HCU
    go_wp2_with fail
    go_ret
    exact ⟨rfl, HS1.out⟩
  | true =>
    rw [hok] at HCU
    rw [hok, if_neg (by simp)] at hR
    have HR := Lib.hid hR
    have HOK0 : Hid (cutsOk m (-1) (cs.drop 0) = true) := Lib.hid hok
    have HSS0 : Hid (settles m cs = settles m (cs.drop 0)) := Lib.hid rfl
    clear hok hR
    go_enter Tryz.func51, Tryz.ntmps51
    go_wp2_with fail
    refine HCU.out.mono ?_
    rintro e w1 ⟨rfl, hb⟩
    have HS1 := Lib.hid (HSB.out _ hb)
    clear hb HCU HSB
    go_wp2_with fail
    go_loopw [6] (fun i wr => ∃ (j : Nat) (last : Int) (mj : PM), i = .int .i64 (j : Int) ∧ j ≤ n ∧ Hid mj.Ok ∧ Hid (mj.Small 1000) ∧ Hid (mj.L.length = m.L.length) ∧ Hid (cutsOk mj last (cs.drop j) = true) ∧ Hid (settles m cs = settles mj (cs.drop j)) ∧ Hid (RStep F w p mj wr)) (fun i _ => n - (intOf i).toNat)
    case atStart => exact ⟨0, -1, m, rfl, by omega, HM, HSM, Lib.hid rfl, HOK0, HSS0, HS1⟩
    case round =>
      clear HOK0 HSS0 HS1
      obtain ⟨j, last, mj, rfl, hj, HMJ, HSJM, HLJ, HCJ, HSJ, HTJ⟩ := hrel
      by_cases hlt2 : j < n
      · have hkc : j < cs.length := by rw [HN.out]; exact hlt2
        obtain ⟨_, _, hv9, _, _, hrr⟩ := HSL.out.keep HTJ.out.2.size fun q hn hq => HTJ.out.2.block q (HSL.out.lt hn hq) (HV.out q hn hq)
        simp only [Value.slice.injEq, true_and] at hv9
        obtain ⟨rfl, rfl⟩ := hv9
        obtain ⟨bb, oo, rfl, _, hsw⟩ := hrr (by omega)
        obtain ⟨cl0, cl1⟩ := rd_get hkc hsw
        have hd := drop_cons hkc
        have hcj := HCJ.out
        rw [hd] at hcj
        obtain ⟨q1, q2, q3, q4, q5⟩ := cutsOk_cons hcj
        have HSJ' : Hid (settles m cs = settles mj (cs[j] :: cs.drop (j + 1))) := Lib.hid (by rw [HSJ.out, hd])
        generalize cs[j] = c at *
        obtain ⟨ln, kp⟩ := c
        simp only at q1 q2 q3 q4 q5 cl0 cl1
        have hr : 0 ≤ ln ∧ ln < mj.L.length := by unfold PM.has at q2; simpa using q2
        obtain ⟨i, rfl⟩ : ∃ i : Nat, ln = i := ⟨ln.toNat, by omega⟩
        obtain ⟨k, rfl⟩ : ∃ k : Nat, kp = k := ⟨kp.toNat, by omega⟩
        have hil : i < mj.L.length := by omega
        rw [Int.toNat_natCast] at q4
        have hjI : (j : Int) < (n : Int) := by omega
        have HSE := Lib.hid (rSettle_any p i k mj _ wr.drew hil (by omega) HMJ.out HSJM.out (HTJ.out.1.below (bel_drew wr)))
        have HMJ2 : Hid (mj.upd i (·.settle k)).Ok := Lib.hid (settle_ok HMJ.out hil)
        have HSM2 : Hid ((mj.upd i (·.settle k)).Small 1000) := Lib.hid (HSJM.out.upd (Nat.le_refl _) (Nat.le_trans (settle_pendR _ _) (HSJM.out.pend _ (PM.line_mem hil))))
        have HLJ2 : Hid ((mj.upd i (·.settle k)).L.length = m.L.length) := Lib.hid (by rw [PM.upd_len]; exact HLJ.out)
        have HCJ2 : Hid (cutsOk (mj.upd i (·.settle k)) (i : Int) (cs.drop (j + 1)) = true) := Lib.hid (by rw [cutsOk_upd hil _ _ (Int.le_refl _)]; exact q5)
        have HSJ2 : Hid (settles m cs = settles (mj.upd i (·.settle k)) (cs.drop (j + 1))) := Lib.hid (by
          rw [HSJ'.out]
          show settles (mj.upd (i : Int).toNat (·.settle (k : Int).toNat)) _ = _
          rw [Int.toNat_natCast, Int.toNat_natCast])
        clear hd hsw HSJ HSJ' HCJ hcj q1 q2 q3 q4 q5 HMJ HLJ hr hrr HSJM
        go_wp2_with fail
        go_still_tail 11, (by kernel_rfl)
        change wpList _ _ _ _ _ wr.drew
        go_wp2_with fail
        refine HSE.out.mono ?_
        rintro e w3 ⟨rfl, hs⟩
        have HT3 := Lib.hid ((HTJ.out.then_below (bel_drew wr)).trans (RStep.mid hs))
        clear hs HTJ HSE
        go_wp2_with fail
        go_roundw
        case rel => exact ⟨j + 1, (i : Int), mj.upd i (·.settle k), by simp, by omega, HMJ2, HSM2, HLJ2, HCJ2, HSJ2, HT3⟩
        case measure => simp [intOf]; omega
      · obtain rfl : j = n := by omega
        have hmj : settles m cs = mj := by
          rw [HSJ.out, List.drop_of_length_le (by rw [HN.out]; exact Nat.le_refl _)]
          rfl
        have hRR2 : (0, mj.lost) = R := by rw [← HR.out, hmj]
        have HRR := Lib.hid hRR2
        have HT0 : Hid (RStep F w p (lostTo mj 0) wr) := HTJ
        obtain ⟨N, hN⟩ : ∃ N, mj.L.length = N := ⟨_, rfl⟩
        have HNN := Lib.hid hN
        have HLN := Lib.hid fun k => lostTo_len mj k
        rw [hN] at HLN
        have HOKL := Lib.hid fun k hk => lostTo_ok HMJ.out k hk
        rw [hN] at HOKL
        have hN2 : N ≤ 4096 := by rw [← hN]; exact HMJ.out.few
        clear hmj hRR2 HTJ HCJ HSJ hN HR HMJ
        go_wp2_with fail
        go_loopw [7] (fun i wr => ∃ k : Nat, i = .int .i64 (k : Int) ∧ k ≤ N ∧ Hid (RStep F w p (lostTo mj k) wr)) (fun i _ => N - (intOf i).toNat)
        case atStart => exact ⟨0, rfl, by omega, HT0⟩
        case round =>
          clear HT0
          obtain ⟨k, rfl, hk, HT⟩ := hrel
          have hrf := HT.out.1
          obtain ⟨d, o, cap, ev, X, h⟩ := hrf
          have c0 := h.c0
          have hcp := h.cap_
          rw [HLN.out k] at c0 hcp
          have hpd : p ≠ d := h.p_ne_d
          have hdp : d ≠ p := fun e => hpd e.symm
          by_cases hlt : k < N
          · have hkl : k < (lostTo mj k).L.length := by rw [HLN.out]; exact hlt
            obtain ⟨v9, _, _, _, _, h9, h10, _⟩ := h.at (HOKL.out k (by omega)) hkl
            have f9 := h.lin.freeR (o + k * 11 + 9)
            have f10 := h.lin.freeR (o + k * 11 + 10)
            have HT2 : Hid (RStep F w p (lostTo mj (k + 1)) _) := Lib.hid (HT.out.trans (h.lose (HOKL.out k (by omega)) hkl))
            have hkI : (k : Int) < (N : Int) := by omega
            generalize ((lostTo mj k).line k).mark = mk at *
            clear h hkl HT
            go_wp2_with fail
            go_roundw
            case rel => exact ⟨k + 1, by simp, by omega, HT2⟩
            case measure => simp [intOf]; omega
          · obtain rfl : k = N := by omega
            have c1 := h.c1
            have c2 := h.c2
            have f1 := h.mem.free 1
            have f2 := h.mem.free 2
            have hfin := HT.out.trans h.clear_
            have hE : ({ lostTo mj k with span := 0, ev := [] } : PM) = mj.lost := by
              have h1 := lostTo_all mj
              rw [HNN.out] at h1
              unfold PM.lost
              rw [← h1]
            rw [hE] at hfin
            have HFIN := Lib.hid hfin
            generalize (lostTo mj k).span = sp at *
            have hrr := HRR.out
            subst hrr
            clear h hfin hE HT
            go_wp2_with fail
            go_ret
            exact ⟨rfl, HFIN.out⟩
end Go.Proofs.YtmnncbgibngmiaaGreatDoor
