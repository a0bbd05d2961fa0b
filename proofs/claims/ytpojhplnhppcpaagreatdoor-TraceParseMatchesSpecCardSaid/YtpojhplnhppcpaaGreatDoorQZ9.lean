/-
  What the reference's put, Store and Publish do. What the reference's Store, Publish and Heal do.
-/
import Derived.Test.YtpojhplnhppcpaaGreatDoorQZ7
namespace Go.Proofs.YtpojhplnhppcpaaGreatDoor
open Go.RowKit Go.Maps
theorem own_of {b0 sz : Nat} {v v' : Value} (hb : b0 ≤ sz) (hv : ∀ k, v.ownBlock = some k → b0 ≤ k) (ho : v'.ownBlock = v.ownBlock ∨ v'.ownBlock = some sz) : ∀ k, v'.ownBlock = some k → b0 ≤ k := fun k hk => by
  rcases ho with h | h
  · exact hv k (h ▸ hk)
  · rw [h] at hk
    simp only [Option.some.injEq] at hk
    omega
set_option maxRecDepth 100000 in
set_option maxHeartbeats 8000000 in
set_option linter.unusedSimpArgs false in
theorem rPut_any (p : Nat) (a val : Int) (kd : Nat) (m : PM) (F : Nat → Prop) (w : World) (hm : m.Ok) (hs : m.Small 1000) (ha : I64 a) (h : Ref w p m F) :
    Calls Tryz.prog 136 #[.pointer (some ⟨p, 0, none⟩), .int .i64 a, .int .i64 val, .int .i64 (kd : Int)] w fun e w' => e = .returned (.int .i64 (storeP m (kd : Int) a val).1) ∧ RStep F w p (storeP m (kd : Int) a val).2 w' := by
  have HS := Lib.hid (RStep.refl h)
  have HHS := Lib.hid fun z => rHas_any p z m F w h
  obtain ⟨R, hR⟩ : ∃ R, storeP m (kd : Int) a val = R := ⟨_, rfl⟩
  rw [hR]
  unfold storeP putP at hR
  have h40 : (40 : Int) ≠ 0 := by decide
  have h1n : (1 : Int) ≠ 0 := by decide
  have h9n : (9 : Int) ≠ 0 := by decide
  by_cases h0 : a < 0
  · have hA : m.hasA a = false := by unfold PM.hasA; simp; omega
    rw [hA, if_pos rfl, rec_1 h40] at hR
    subst hR
    clear hA h hm HHS hs h40 h1n h9n
    go_enter Tryz.func136, Tryz.ntmps136
    go_wp2_with fail
    go_ret
    exact ⟨rfl, HS.out⟩
  have h0' : 0 ≤ a := by omega
  unfold I64 at ha
  have hq : wrap64 (Int.tdiv a 8) = a / 8 := by
    have h1 : Int.tdiv a 8 = a / 8 := Int.tdiv_eq_ediv_of_nonneg h0'
    rw [h1, w64 _ (by omega) (by omega)]
  have hhas : m.has (a / 8) = m.hasA a := by
    unfold PM.has PM.hasA
    congr 1
    simp only [eq_iff_iff]
    omega
  have hh := HHS.out (a / 8)
  rw [hhas] at hh
  obtain ⟨q, hqe⟩ : ∃ q, a / 8 = q := ⟨_, rfl⟩
  rw [hqe] at hq hh hR
  cases hA : m.hasA a with
  | false =>
    rw [hA, if_pos rfl, rec_1 h40] at hR
    subst hR
    rw [hA] at hh
    have HH := Lib.hid hh
    clear hA h hm HHS hh hqe hhas ha hs h40 h1n h9n
    go_enter Tryz.func136, Tryz.ntmps136
    go_wp2_with (go_at_call 134; refine HH.out.mono ?_; rintro e w' ⟨rfl, hw'⟩; obtain rfl := hw'.symm)
    go_ret
    exact ⟨rfl, HS.out⟩
  | true =>
    have hin : 0 ≤ a ∧ a < 8 * (m.L.length : Int) := by unfold PM.hasA at hA; simpa using hA
    obtain ⟨i, rfl⟩ : ∃ i : Nat, q = i := ⟨q.toNat, by omega⟩
    have hi : i < m.L.length := by omega
    obtain ⟨k, hk⟩ : ∃ k : Nat, a % 8 = k := ⟨(a % 8).toNat, by omega⟩
    have hr2 : Int.tmod a 8 = (k : Int) := by
      have h1 : Int.tmod a 8 = a % 8 := Int.tmod_eq_emod_of_nonneg h0'
      rw [h1, hk]
    have hr : wrap64 (k : Int) = (k : Int) := w64 _ (by omega) (by omega)
    rw [hA] at hh hR
    rw [if_neg (by simp), hk, Int.toNat_natCast] at hR
    have HH := Lib.hid hh
    have HWD := Lib.hid fun W => word_any val W
    cases hw : okW val with
    | false =>
      rw [hw, if_pos rfl, rec_1 h1n] at hR
      rw [hw] at HWD
      subst hR
      clear hA h hm HHS hh hqe hhas ha hs h40 h1n h9n hin hi hw hk
      go_enter Tryz.func136, Tryz.ntmps136
      go_wp2_with (first | (go_at_call 134; refine HH.out.mono ?_; rintro e w' ⟨rfl, hw'⟩; obtain rfl := hw'.symm) | (go_at_call 125; refine (HWD.out _).mono ?_; rintro e w' ⟨rfl, hw'⟩; obtain rfl := hw'.symm))
      go_ret
      exact ⟨rfl, HS.out⟩
    | true =>
      rw [hw, if_neg (by simp)] at hR
      rw [hw] at HWD
      have hst := rState_any p (i : Int) m F w hm h
      have hsi : stateP m (i : Int) = (((m.line i).state : Nat) : Int) := by
        unfold stateP
        rw [has_i hi, if_pos rfl, Int.toNat_natCast]
      rw [hsi] at hst
      by_cases hro : (m.line i).state = 2
      · rw [if_pos hro, rec_1 h9n] at hR
        subst hR
        rw [hro] at hst
        have HST := Lib.hid hst
        have HSB := Lib.hid fun W (hW : Below w.heap.size w W) => RStep.below h hW
        clear hA h hm HHS hh hqe hhas ha hs h40 h1n h9n hin hi hw hk hst hsi hro
        go_enter Tryz.func136, Tryz.ntmps136
        go_wp2_with (first | (go_at_call 134; refine HH.out.mono ?_; rintro e w' ⟨rfl, hw'⟩; obtain rfl := hw'.symm) | (go_at_call 125; refine (HWD.out _).mono ?_; rintro e w' ⟨rfl, hw'⟩; obtain rfl := hw'.symm))
        refine HST.out.mono ?_
        rintro e w1 ⟨rfl, hb⟩
        have HS1 := Lib.hid (HSB.out _ hb)
        clear hb HST HSB
        go_wp2_with fail
        go_ret
        exact ⟨rfl, HS1.out⟩
      · rw [if_neg hro, rec_0 rfl] at hR
        have HST := Lib.hid hst
        have hnr : ¬ (((m.line i).state : Nat) : Int) = 2 := by omega
        generalize (m.line i).state = st at *
        have hpl80 := hs.pend _ (PM.line_mem hi)
        have hne := hs.ev
        have HM := Lib.hid hm
        have HRF := Lib.hid h
        have HKI := Lib.hid hi
        obtain ⟨ss, hss⟩ : ∃ ss, (m.line i).pend = ss := ⟨_, rfl⟩
        rw [hss] at hpl80
        have HSS := Lib.hid hss
        obtain ⟨pl, hpl⟩ : ∃ pl, ss.length = pl := ⟨_, rfl⟩
        rw [hpl] at hpl80
        have HPL := Lib.hid hpl
        have HRR := Lib.hid hR
        clear hA h hm HHS hh hqe hhas ha hs h40 h1n h9n hin hi hw hk hst hsi hro hss hpl hR
        go_enter Tryz.func136, Tryz.ntmps136
        go_wp2_with (first | (go_at_call 134; refine HH.out.mono ?_; rintro e w' ⟨rfl, hw'⟩; obtain rfl := hw'.symm) | (go_at_call 125; refine (HWD.out _).mono ?_; rintro e w' ⟨rfl, hw'⟩; obtain rfl := hw'.symm))
        refine HST.out.mono ?_
        rintro e w1 ⟨rfl, hb⟩
        have HB1 := Lib.hid hb
        have hrf := HRF.out.below hb
        clear hb HST HWD HH
        obtain ⟨d, o, cap, ev, X, h1⟩ := hrf
        obtain ⟨v, hXi, _, _, _, h9, _, hsl⟩ := h1.at HM.out HKI.out
        rw [HSS.out, HPL.out] at hsl
        have hcp := h1.cap_
        have hiI : (i : Int) < (m.L.length : Int) := by have := HKI.out; omega
        have HAT := Lib.hid h1
        have HXI := Lib.hid hXi
        have HSL := Lib.hid hsl
        have c0A := fun ob => cell_below (bel_new w1 ob) h1.c0
        have h9A := fun ob => cell_below (bel_new w1 ob) h9
        obtain ⟨VA, vcap, rfl, _⟩ := hsl.shape
        have HRD1 := Lib.hid ((Rd.of_sl hsl).below (bel_new w1 (.cells #[] 105)))
        have HLEN := Lib.hid hsl.1
        have HEM := Lib.hid (Sl.empty w1 105 2)
        have HK2 : Hid (∀ v' w2, Sl w2 105 2 v' pl (iv (flatS ss)) → (w1.alloc (.cells #[] 105)).grownBy w2 (Value.slice (some ⟨w1.heap.size, 0, none⟩) 0 0).ownBlock → (v'.ownBlock = (Value.slice (some ⟨w1.heap.size, 0, none⟩) 0 0).ownBlock ∨ v'.ownBlock = some (w1.heap.size + 1)) →
            Sl w2 105 2 v' pl (iv (flatS ss)) ∧ Below w1.heap.size w1 w2 ∧ ∀ k, v'.ownBlock = some k → w1.heap.size ≤ k) := Lib.hid fun v' w2 h5 h6 h7 =>
          ⟨h5, (bel_new w1 (.cells #[] 105)).grown h6 (by simp) (fun q hq => by simp [Value.ownBlock] at hq; omega), own_of (by simp) (fun q hq => by simp [Value.ownBlock] at hq; omega) h7⟩
        obtain ⟨j0, his, hz0, hz1, hz2⟩ := info_parts infoStore
        have HJS := Lib.hid his
        have HJ0 := Lib.hid hz0
        have HJ1 := Lib.hid hz1
        have HJ2 := Lib.hid hz2
        clear his hz0 hz1 hz2 h1 hsl hXi h9
        go_wp2_with (at_builtin; refine wpList_append_rd rfl _ _ 44 rfl 105 j0 _ 2 16 Tryz.underlying44 HJS.out HJ0.out HJ1.out HJ2.out rfl (by decide) _ 0 [] rfl HEM.out (.slice VA pl vcap) pl (iv (flatS ss)) rfl HRD1.out HLEN.out (iv_one _) (by unfold maxLen; omega) (by omega) ?_)
        intro v1 w2 hs2 hg2 ho2
        obtain ⟨g1, g2, g3⟩ := HK2.out _ _ hs2 hg2 ho2
        obtain ⟨VB, vcap1, rfl, _⟩ := g1.shape
        have G1 := Lib.hid g1
        have G2 := Lib.hid g2
        have G3 := Lib.hid g3
        have G4 := Lib.hid (g1.keep (w' := w2.alloc (.cells #[.int .i64 (k : Int), .int .i64 val] 105)) fun q hq => (bel_new w2 _).block q (g1.lt hq))
        have HNS : Hid (∀ j x, [Value.int .i64 (k : Int), .int .i64 val][j]? = some x → (w2.alloc (.cells #[.int .i64 (k : Int), .int .i64 val] 105)).cell? ((⟨w2.heap.size, 0, none⟩ : Addr).add j) = some x) := Lib.hid (fun j x hx => by
          rw [Addr.add_lit, Nat.zero_add]
          exact (Arr.new w2 [.int .i64 (k : Int), .int .i64 val] 105).cell hx)
        clear hs2 hg2 ho2 g1 g2 g3 HK2 HEM HRD1 c0A h9A
        go_wp2_with (at_builtin; refine wpList_append_sl _ rfl _ _ 44 rfl 105 j0 _ 2 16 Tryz.underlying44 HJS.out HJ0.out HJ1.out HJ2.out rfl (by decide) _ pl (iv (flatS ss)) rfl G4.out ⟨w2.heap.size, 0, none⟩ 1 1 [.int .i64 (k : Int), .int .i64 val] rfl rfl HNS.out (fun u hu => by simp at hu; rcases hu with rfl | rfl <;> rfl) (by unfold maxLen; omega) (by omega) ?_)
        intro v2 w3 hs3 hg3 ho3
        obtain ⟨VC, vcap2, rfl, _⟩ := hs3.shape
        have b13 : Below w1.heap.size w1 w3 := (bel_on G2.out (bel_new w2 (.cells #[.int .i64 (k : Int), .int .i64 val] 105))).grown hg3 (by have := G2.out.size; simp; omega) (fun q hq => G3.out q hq)
        have o3 := own_of (by have := G2.out.size; simp; omega) G3.out ho3
        have s3 : Sl w3 105 2 (.slice VC (pl + 1) vcap2) ((m.line i).push ((k : Int), val)).pend.length (iv (flatS ((m.line i).push ((k : Int), val)).pend)) := by
          have e1 : ((m.line i).push ((k : Int), val)).pend = ss ++ [((k : Int), val)] := by show (m.line i).pend ++ _ = _; rw [HSS.out]
          rw [e1, List.length_append, HPL.out, show iv (flatS (ss ++ [((k : Int), val)])) = iv (flatS ss) ++ [.int .i64 (k : Int), .int .i64 val] by unfold iv flatS; simp]
          exact hs3
        have h3 := HAT.out.below b13
        have c0c := h3.c0
        have h9c : w3.cell? ⟨d, o + i * 11 + 9, none⟩ = some (.slice VA pl vcap) := by
          obtain ⟨v', hx', _, _, _, h9', _, _⟩ := h3.at HM.out HKI.out
          rw [HXI.out] at hx'
          simp only [Option.some.injEq, Prod.mk.injEq, true_and] at hx'
          rw [← hx'] at h9'
          exact h9'
        have f9 := h3.lin.freeR (o + i * 11 + 9)
        have h4 : RefAt (w3.setCell ⟨d, o + i * 11 + 9, none⟩ (.slice VC (pl + 1) vcap2)) p (m.upd i fun _ => (m.line i).push ((k : Int), val)) (Ex F w1 w3) d o cap ev (X.set i ((m.line i).push ((k : Int), val), .slice VC (pl + 1) vcap2)) :=
          h3.cellLine HM.out HKI.out (by decide) HXI.out (lnR_pend (HM.out.line HKI.out).len _ _) s3 (fun _ h => .inl h) (fun q hq => .inr ⟨o3 q hq, s3.lt hq⟩) (fun q hq => by
            rcases hq with h5 | h5
            · exact h3.lt q h5
            · exact h5.2)
        have hup : m.upd i (fun _ => (m.line i).push ((k : Int), val)) = m.upd i (·.push ((k : Int), val)) := rfl
        rw [hup] at h4
        have hK4 : Kept F w1 (w3.setCell ⟨d, o + i * 11 + 9, none⟩ (.slice VC (pl + 1) vcap2)) := (Kept.of_below b13).then_ (Kept.setCell _ _ h3.ownD)
        have hev1 : (m.upd i (·.push ((k : Int), val))).ev = m.ev := rfl
        have hsp1 : (m.upd i (·.push ((k : Int), val))).span = m.span := rfl
        have H4 := Lib.hid h4
        have HK4 := Lib.hid hK4
        have HSZ4 : Hid ((w3.setCell ⟨d, o + i * 11 + 9, none⟩ (.slice VC (pl + 1) vcap2)).heap.size = w3.heap.size) := Lib.hid (by simp [World.setCell])
        generalize m.upd i (·.push ((k : Int), val)) = m1 at *
        clear hs3 hg3 ho3 b13 o3 s3 h3 h4 hK4 hup HAT HSL HXI G1 G2 G3 G4 HNS
        go_wp2_with fail
        obtain ⟨W4, hW4⟩ : ∃ W, w3.setCell ⟨d, o + i * 11 + 9, none⟩ (.slice VC (pl + 1) vcap2) = W := ⟨_, rfl⟩
        rw [hW4] at H4 HK4 HSZ4 ⊢
        have h5 : RefAt W4.drew p m1 (Ex F w1 W4.drew) d o cap ev (X.set i ((m.line i).push ((k : Int), val), .slice VC (pl + 1) vcap2)) := H4.out.keep (fun _ _ => rfl) (fun q hq => by
          rcases hq with h6 | h6
          · exact .inl h6
          · exact .inr ⟨h6.1, by show q < W4.heap.size; rw [HSZ4.out]; exact h6.2⟩) (fun q hq => by
          rcases hq with h6 | h6
          · exact H4.out.lt q (.inl h6)
          · exact h6.2)
        have hst5 : RStep F w p m1 W4.drew := RStep.after (Kept.of_below HB1.out) ⟨⟨_, _, _, _, _, h5⟩, HK4.out.then_ (Kept.of_below (bel_drew W4))⟩
        have hn1 : m1.ev.length ≤ 1000 := by rw [hev1]; exact hne
        have c1 : W4.drew.cell? ⟨p, 1, none⟩ = some (.int .i64 m.span) := by rw [← hsp1]; exact h5.c1
        clear c0c h9c f9 hW4 H4 HK4 HSZ4
        generalize m.span = sp at *
        have h5' : RefAt W4.drew p m1 (Ex F w W4.drew) d o cap ev (X.set i ((m.line i).push ((k : Int), val), .slice VC (pl + 1) vcap2)) := h5.keep (fun _ _ => rfl) (fun q hq => by
          rcases hq with h6 | h6
          · exact .inl h6
          · exact .inr ⟨Nat.le_trans HB1.out.size h6.1, h6.2⟩) hst5.1.lt
        have hsz1 : W4.drew.heap.size = W4.heap.size := rfl
        obtain ⟨A, ecap, rfl, _⟩ := h5'.evs.shape
        have HB1 := bel_new W4.drew (.cells (iv (evt (kd : Int) a val sp Z8)).toArray 68)
        have HREC := Lib.hid fun (ev' : Value) (w3 : World) hsl hg ho => hst5.trans (h5'.recorded (evt (kd : Int) a val sp Z8) HB1 (ev' := ev') (w3 := w3) hsl hg ho)
        have HC2 := Lib.hid fun (w3 : World) hg => h5'.cells2 HB1 (w3 := w3) hg
        have HEV := Lib.hid (h5'.evs.keep fun q hq => HB1.block q (h5'.evs.lt hq))
        have HNW : Hid (∀ j u, (iv (evt (kd : Int) a val sp Z8))[j]? = some u → (W4.drew.alloc (.cells (iv (evt (kd : Int) a val sp Z8)).toArray 68)).cell? ((⟨W4.heap.size, 0, none⟩ : Addr).add j) = some u) := Lib.hid (fun j u hu => by
          rw [Addr.add_lit, Nat.zero_add, ← hsz1]
          exact (Arr.new W4.drew _ _).cell hu)
        have c2 := h5'.c2
        obtain ⟨i0, his, hz0, hz1, hz2⟩ := info_parts infoEvent
        have HIS := Lib.hid his
        have HZ0 := Lib.hid hz0
        have HZ1 := Lib.hid hz1
        have HZ2 := Lib.hid hz2
        clear his hz0 hz1 hz2 HB1
        change W4.cell? ⟨p, 2, none⟩ = _ at c2
        change W4.cell? ⟨p, 1, none⟩ = _ at c1
        generalize hNE : m1.ev.length = NE at *
        have hrr := HRR.out
        subst hrr
        clear h5 h5' hst5 hNE hev1 hsp1
        have c2A := fun ob => cell_below (bel_new W4 ob) c2
        go_region_law ((refine wp_append_sl _ _ 24 rfl 68 i0 _ 12 96 Tryz.underlying24 HIS.out HZ0.out HZ1.out HZ2.out rfl (by decide) (.slice A NE ecap) NE (iv m1.ev.flatten) rfl HEV.out ⟨W4.heap.size, 0, none⟩ 1 1 (iv (evt (kd : Int) a val sp Z8)) rfl rfl HNW.out (iv_one _) (by unfold maxLen; omega) (by omega) ?_; intro ev' w3 hsl hg ho; obtain ⟨EA2, ecap2, rfl, _⟩ := hsl.shape; have HFIN := Lib.hid (HREC.out _ _ hsl hg ho); obtain ⟨e2, ef2⟩ := HC2.out _ hg; clear hsl hg ho))
        all_goals go_wp2_with fail
        all_goals go_ret
        all_goals exact ⟨rfl, HFIN.out⟩
end Go.Proofs.YtpojhplnhppcpaaGreatDoor
namespace Go.Proofs.YtpojhplnhppcpaaGreatDoor
open Go.RowKit Go.Maps
set_option maxRecDepth 100000 in
set_option maxHeartbeats 8000000 in
set_option linter.unusedSimpArgs false in
theorem rStore_any (p : Nat) (a val : Int) (m : PM) (F : Nat → Prop) (w : World) (hm : m.Ok) (hs : m.Small 1000) (ha : I64 a) (h : Ref w p m F) :
    Calls Tryz.prog 107 #[.pointer (some ⟨p, 0, none⟩), .int .i64 a, .int .i64 val] w fun e w' => e = .returned (.int .i64 (storeP m 1 a val).1) ∧ RStep F w p (storeP m 1 a val).2 w' := by
  have h1 := rPut_any p a val 1 m F w hm hs ha h
  rw [show ((1 : Nat) : Int) = 1 from rfl] at h1
  have HC := Lib.hid h1
  clear h1 hm hs ha h
  generalize storeP m 1 a val = R at *
  go_enter Tryz.func107, Tryz.ntmps107
  go_wp2_with fail
  refine HC.out.mono ?_
  rintro e w1 ⟨rfl, hst⟩
  have HST := Lib.hid hst
  clear hst HC
  go_wp2_with fail
  go_ret
  exact ⟨rfl, HST.out⟩
set_option maxRecDepth 100000 in
set_option maxHeartbeats 8000000 in
set_option linter.unusedSimpArgs false in
theorem rPublish_any (p : Nat) (a val : Int) (m : PM) (F : Nat → Prop) (w : World) (hm : m.Ok) (hs : m.Small 1000) (ha : I64 a) (h : Ref w p m F) :
    Calls Tryz.prog 108 #[.pointer (some ⟨p, 0, none⟩), .int .i64 a, .int .i64 val] w fun e w' => e = .returned (.int .i64 (storeP m 2 a val).1) ∧ RStep F w p (storeP m 2 a val).2 w' := by
  have h1 := rPut_any p a val 2 m F w hm hs ha h
  rw [show ((2 : Nat) : Int) = 2 from rfl] at h1
  have HC := Lib.hid h1
  clear h1 hm hs ha h
  generalize storeP m 2 a val = R at *
  go_enter Tryz.func108, Tryz.ntmps108
  go_wp2_with fail
  refine HC.out.mono ?_
  rintro e w1 ⟨rfl, hst⟩
  have HST := Lib.hid hst
  clear hst HC
  go_wp2_with fail
  go_ret
  exact ⟨rfl, HST.out⟩
theorem built_made {L : List Int} (h8 : L.length = 8) (w : World) : (Instr.build 130 #[(0, .agg (iv L).toArray), (1, .int .i64 (encZ L))]).run Tryz.prog w = .ok (.agg (lnR (PL.made L, .slice none 0 0)).toArray) w := by
  show _ = Result.ok (Value.agg (iv (L ++ [encZ L]) ++ [Value.slice none 0 0, Value.int .i64 ((0 : Nat) : Int)]).toArray) w
  generalize encZ L = e
  obtain ⟨a0, a1, a2, a3, a4, a5, a6, a7, rfl⟩ := line8 h8
  kernel_rfl
set_option maxRecDepth 100000 in
set_option maxHeartbeats 8000000 in
set_option linter.unusedSimpArgs false in
theorem rHeal_any (p : Nat) (z : Int) (ws : List Int) (m : PM) (F : Nat → Prop) (w : World) (hm : m.Ok) (hs : m.Small 1000) (h8 : ws.length = 8) (h : Ref w p m F) :
    Calls Tryz.prog 112 #[.pointer (some ⟨p, 0, none⟩), .int .i64 z, .agg (iv ws).toArray] w fun e w' => e = .returned (.int .i64 (rec_ (healP m z ws) (evt 6 z 0 0 ws)).1) ∧ RStep F w p (rec_ (healP m z ws) (evt 6 z 0 0 ws)).2 w' := by
  have hb := bel_new w (.cells (iv ws).toArray 66)
  have hA := Arr.new w (iv ws) 66
  have r0 := hA.range
  have hi22 := size22' h8
  have hu22 := Tryz.underlying66
  have h1 := h.below hb
  have hha := rHas_any p z m F _ h1
  have HS := Lib.hid (RStep.below h hb)
  have HWW := Lib.hid fun W => words_any ws W h8
  obtain ⟨R, hR⟩ : ∃ R, rec_ (healP m z ws) (evt 6 z 0 0 ws) = R := ⟨_, rfl⟩
  rw [hR]
  unfold healP at hR
  cases hh : m.has z with
  | false =>
    rw [hh, if_pos rfl, rec_1 (show (40 : Int) ≠ 0 by decide)] at hR
    subst hR
    rw [hh] at hha
    have HH := Lib.hid hha
    clear hha h hm hs h1 hA hb r0
    go_enter Tryz.func112, Tryz.ntmps112
    go_wp2_with (go_at_call 134; refine HH.out.mono ?_; rintro e w' ⟨rfl, hw'⟩; obtain rfl := hw'.symm)
    go_ret
    exact ⟨rfl, HS.out⟩
  | true =>
  have hin : 0 ≤ z ∧ z < (m.L.length : Int) := by unfold PM.has at hh; simpa using hh
  obtain ⟨i, rfl⟩ : ∃ i : Nat, z = i := ⟨z.toNat, by omega⟩
  have hi : i < m.L.length := by omega
  rw [hh] at hha
  rw [hh, if_neg (by simp), Int.toNat_natCast] at hR
  have HH := Lib.hid hha
  cases hok : ws.all okW with
  | false =>
    rw [hok, if_pos rfl, rec_1 (show (1 : Int) ≠ 0 by decide)] at hR
    rw [hok] at HWW
    subst hR
    have HSS := Lib.hid fun W (hW : Below (w.alloc (.cells (iv ws).toArray 66)).heap.size (w.alloc (.cells (iv ws).toArray 66)) W) => HS.out.then_below hW
    clear hha h hm hs h1 hA hb hh hin hi hok
    go_enter Tryz.func112, Tryz.ntmps112
    go_wp2_with (first | (go_at_call 134; refine HH.out.mono ?_; rintro e w' ⟨rfl, hw'⟩; obtain rfl := hw'.symm) | ((with_reducible refine arm_range 66 w.heap.size 0 (iv ws) r0 _ hu22 rfl hi22 rfl _ rfl ?_ ?_); focus rfl))
    refine (HWW.out _).mono ?_
    rintro e w2 ⟨rfl, hb⟩
    have HS2 := Lib.hid (HSS.out _ hb)
    clear hb
    go_wp2_with fail
    go_ret
    exact ⟨rfl, HS2.out⟩
  | true =>
    rw [hok, if_neg (by simp), rec_0 rfl] at hR
    rw [hok] at HWW
    have HR := Lib.hid hR
    have HRF := Lib.hid h
    have HM := Lib.hid hm
    have HKI := Lib.hid hi
    have HB0 := Lib.hid hb
    have HA0 := Lib.hid hA
    have hne := hs.ev
    have HENC := Lib.hid fun W => rEncode_any ws W h8
    have HBU := Lib.hid fun W => built_made h8 W
    have HLL := Lib.hid (lnR_len (x := (PL.made ws, .slice none 0 0)) h8)
    have HL1 := Lib.hid (lnR_one (x := (PL.made ws, .slice none 0 0)) rfl)
    have HS51 := Lib.hid size51
    have HH8 := Lib.hid h8
    clear hha h hm hs h1 hA hb hh hin hi hok hR HS
    go_enter Tryz.func112, Tryz.ntmps112
    go_wp2_with (first | (go_at_call 134; refine HH.out.mono ?_; rintro e w' ⟨rfl, hw'⟩; obtain rfl := hw'.symm) | ((with_reducible refine arm_range 66 w.heap.size 0 (iv ws) r0 _ hu22 rfl hi22 rfl _ rfl ?_ ?_); focus rfl))
    refine (HWW.out _).mono ?_
    rintro e w2 ⟨rfl, hb⟩
    have HB2 := Lib.hid (bel_on (bel_on HB0.out hb) (bel_drew w2))
    have HA2 : Hid (Arr w2.drew w.heap.size 66 (iv ws)) := Lib.hid ((HA0.out.keep hb).keep (bel_drew w2))
    have h2 := HRF.out.below HB2.out
    obtain ⟨d, o, cap, ev, X, h2⟩ := h2
    have c0 := h2.c0
    have r1 := HA2.out.range
    have hcp := h2.cap_
    have hiI : (i : Int) < (m.L.length : Int) := by have := HKI.out; omega
    have H2 := Lib.hid h2
    have hbw : w.heap.size < w2.heap.size := HA2.out.lt
    have hpd : p ≠ d := h2.p_ne_d
    have hdw : d ≠ w.heap.size := by
      intro e
      have := HRF.out.lt d h2.ownD
      omega
    clear hb h2 HWW r0
    go_wp2_with fail
    obtain ⟨N, hN⟩ : ∃ N, m.L.length = N := ⟨_, rfl⟩
    rw [hN] at c0 hcp hiI
    refine wp_region_held_drew (S := fun W => W.cell? ⟨p, 0, none⟩ = some (.slice (some ⟨d, o, none⟩) N cap) ∧ W.rangeAt w.heap.size 0 (iv ws)) (by kernel_rfl) ⟨c0, r1⟩ (fun hHeld => ?_)
    generalize w2.drew = w4 at *
    refine wpAnyH_take (i := 0) (v := .pointer (some ⟨p, 0, none⟩)) rfl (by kernel_rfl) (by kernel_rfl) (by kernel_rfl) (fun _ _ _ h => h) (Or.inl ⟨by rfl, fun w hSw => by obtain ⟨h1, h2⟩ := hSw; go_simp⟩) (by assumption) ?_
    change wpAnyH _ _ _ _ _ _ _ (Act.put _ (some 14) _) _
    simp only [Act.put, List.setIfInBounds_toArray, List.set_cons_zero, List.set_cons_succ]
    refine wpAnyH_take (i := 1) (v := .pointer (some ⟨p, 0, none⟩)) rfl (by kernel_rfl) (by kernel_rfl) (by kernel_rfl) (fun _ _ _ h => h) (Or.inl ⟨by rfl, fun w hSw => by obtain ⟨h1, h2⟩ := hSw; go_simp⟩) (by assumption) ?_
    change wpAnyH _ _ _ _ _ _ _ (Act.put _ (some 15) _) _
    simp only [Act.put, List.setIfInBounds_toArray, List.set_cons_zero, List.set_cons_succ]
    refine wpAnyH_take (i := 2) (v := .pointer (some ⟨p, 0, none⟩)) rfl (by kernel_rfl) (by kernel_rfl) (by kernel_rfl) (fun _ _ _ h => h) (Or.inl ⟨by rfl, fun w hSw => by obtain ⟨h1, h2⟩ := hSw; go_simp⟩) (by assumption) ?_
    change wpAnyH _ _ _ _ _ _ _ (Act.put _ (some 16) _) _
    simp only [Act.put, List.setIfInBounds_toArray, List.set_cons_zero, List.set_cons_succ]
    refine wpAnyH_take (i := 3) (v := .slice (some ⟨d, o, none⟩) N cap) rfl (by kernel_rfl) (by kernel_rfl) (by kernel_rfl) (fun _ _ _ h => h) (Or.inl ⟨by rfl, fun w hSw => by obtain ⟨h1, h2⟩ := hSw; go_simp⟩) (by assumption) ?_
    change wpAnyH _ _ _ _ _ _ _ (Act.put _ (some 17) _) _
    simp only [Act.put, List.setIfInBounds_toArray, List.set_cons_zero, List.set_cons_succ]
    refine wpAnyH_take (i := 4) (v := .int .i64 (i : Int)) rfl (by kernel_rfl) (by kernel_rfl) (by kernel_rfl) (fun _ _ _ h => h) (Or.inl ⟨by rfl, fun w hSw => by obtain ⟨h1, h2⟩ := hSw; go_simp⟩) (by assumption) ?_
    change wpAnyH _ _ _ _ _ _ _ (Act.put _ (some 18) _) _
    simp only [Act.put, List.setIfInBounds_toArray, List.set_cons_zero, List.set_cons_succ]
    refine wpAnyH_take (i := 5) (v := .agg (iv ws).toArray) rfl (by kernel_rfl) (by kernel_rfl) (by kernel_rfl) (fun _ _ _ h => h) (yieldsIf_load_mid (by rfl) _ _ rfl _ _ rfl _ _ (fun w h => h.2) hu22 rfl hi22) (by assumption) ?_
    change wpAnyH _ _ _ _ _ _ _ (Act.put _ (some 19) _) _
    simp only [Act.put, List.setIfInBounds_toArray, List.set_cons_zero, List.set_cons_succ]
    refine wpAnyH_take (i := 6) (v := .agg (iv ws).toArray) rfl (by kernel_rfl) (by kernel_rfl) (by kernel_rfl) (fun _ _ _ h => h) (yieldsIf_load_mid (by rfl) _ _ rfl _ _ rfl _ _ (fun w h => h.2) hu22 rfl hi22) (by assumption) ?_
    change wpAnyH _ _ _ _ _ _ _ (Act.put _ (some 20) _) _
    simp only [Act.put, List.setIfInBounds_toArray, List.set_cons_zero, List.set_cons_succ]
    refine wpAnyH_ready (rs := [7]) (by kernel_rfl) (by simp) ?_
    refine AllReadyH.cons rfl (fun K hK => ?_) AllReadyH.nil
    go_simp
    refine (HENC.out _).mono ?_
    rintro e w5 ⟨rfl, hb⟩
    refine hK.out _ _ ⟨cell_below hb c0, range_below hb r1⟩ (fun hHeld1 => ?_)
    clear hK K hHeld
    have HB5 := Lib.hid (bel_on HB2.out hb)
    have HA5 := Lib.hid (HA2.out.keep hb)
    have h5 := H2.out.below hb
    clear hb
    refine wpAnyH_take (i := 8) (v := .agg (lnR (PL.made ws, .slice none 0 0)).toArray) rfl (by kernel_rfl) (by kernel_rfl) (by kernel_rfl) (fun _ _ _ h => h) (yields_build (by rfl) _ _ rfl (fun w => by simpa [Act.eval] using HBU.out w)) (by assumption) ?_
    change wpAnyH _ _ _ _ _ _ _ (Act.put _ (some 22) _) _
    simp only [Act.put, List.setIfInBounds_toArray, List.set_cons_zero, List.set_cons_succ]
    refine wpAnyH_take (i := 9) (v := .pointer (some ⟨d, o + i * 11, none⟩)) rfl (by kernel_rfl) (by kernel_rfl) (by kernel_rfl) (fun _ _ _ h => h) (Or.inl ⟨by rfl, fun w hSw => by obtain ⟨h1, h2⟩ := hSw; go_simp⟩) (by assumption) ?_
    change wpAnyH _ _ _ _ _ _ _ (Act.put _ (some 23) _) _
    simp only [Act.put, List.setIfInBounds_toArray, List.set_cons_zero, List.set_cons_succ]
    obtain ⟨hput, hthere⟩ := h5.putLine HM.out HKI.out (l' := PL.made ws) (v' := .slice none 0 0) HH8.out (Sl.nil _ _ _) (F' := F) (fun _ h => h) (fun q hq => by cases hq) h5.lt
    refine wpAnyH_ready (rs := [10]) (by kernel_rfl) (by simp) ?_
    refine AllReadyH.cons rfl (fun K hK => ?_) AllReadyH.nil
    refine wp_store_mid 130 _ _ rfl d (o + i * 11) (lnR (PL.made ws, .slice none 0 0)).toArray rfl rfl (by rw [List.size_toArray, HLL.out]; exact hthere) (by rw [List.size_toArray, HLL.out]; exact HS51.out) (all_oneCell_toArray HL1.out) ?_
    refine hK.out _ _ ⟨(cell_of_block (heap_setCells (by exact hpd) _ _ _)).trans hHeld1.1, fun j v hv => (cell_of_block (heap_setCells (by exact hdw.symm) _ _ _)).trans (hHeld1.2 j v hv)⟩ (fun hHeld2 => ?_)
    clear hK K hHeld1
    have HK6 : Hid (Kept F w (w5.setCells d (o + i * 11) (lnR (PL.made ws, .slice none 0 0)).toArray.toList)) := Lib.hid ((Kept.of_below HB5.out).then_ (Kept.setCells h5.ownD _ _ _))
    have HA6 : Hid (Arr (w5.setCells d (o + i * 11) (lnR (PL.made ws, .slice none 0 0)).toArray.toList) w.heap.size 66 (iv ws)) := Lib.hid ((heap_setCells (by exact hdw.symm) _ _ _).trans HA5.out)
    have hup : m.upd i (fun _ => PL.made ws) = m.upd i fun _ => PL.made ws := rfl
    have HPUT := Lib.hid hput
    clear hput hthere h5 H2 HA5 HA2 HB5 HB2 c0 r1 hHeld2 hup
    refine wpAnyH_done (by kernel_rfl) ?_ _
    go_wp2_with fail
    obtain ⟨W6, hW6⟩ : ∃ W, w5.setCells d (o + i * 11) (lnR (PL.made ws, .slice none 0 0)).toArray.toList = W := ⟨_, rfl⟩
    simp only [List.toList_toArray] at hW6 HK6 HA6 ⊢
    rw [hW6] at HK6 HA6 HPUT ⊢
    obtain ⟨a0, a1, a2, a3, a4, a5, a6, a7, hws⟩ := line8 HH8.out
    have hR2 := HR.out
    rw [hws] at hR2 HPUT HA6
    have hev1 : (m.upd i fun _ => PL.made [a0, a1, a2, a3, a4, a5, a6, a7]).ev = m.ev := rfl
    have h6 := HPUT.out.below (bel_drew W6)
    have h6' : RefAt W6.drew p (m.upd i fun _ => PL.made [a0, a1, a2, a3, a4, a5, a6, a7]) (Ex F w W6.drew) d o cap ev _ := h6.keep (fun _ _ => rfl) (fun q hq => .inl hq) (fun q hq => by
      rcases hq with h7 | h7
      · exact h6.lt q h7
      · exact h7.2)
    have hst6 : RStep F w p (m.upd i fun _ => PL.made [a0, a1, a2, a3, a4, a5, a6, a7]) W6.drew := ⟨⟨_, _, _, _, _, h6'⟩, HK6.out.then_ (Kept.of_below (bel_drew W6))⟩
    generalize (m.upd i fun _ => PL.made [a0, a1, a2, a3, a4, a5, a6, a7]) = m1 at *
    have hn1 : m1.ev.length ≤ 1000 := by rw [hev1]; exact hne
    have hsz1 : W6.drew.heap.size = W6.heap.size := rfl
    have HAB : Hid (Arr W6 w.heap.size 66 (iv [a0, a1, a2, a3, a4, a5, a6, a7])) := HA6
    have k0 : W6.cell? ⟨w.heap.size, 0, none⟩ = some (.int .i64 a0) := HAB.out.cell rfl
    have k1 : W6.cell? ⟨w.heap.size, 1, none⟩ = some (.int .i64 a1) := HAB.out.cell rfl
    have k2 : W6.cell? ⟨w.heap.size, 2, none⟩ = some (.int .i64 a2) := HAB.out.cell rfl
    have k3 : W6.cell? ⟨w.heap.size, 3, none⟩ = some (.int .i64 a3) := HAB.out.cell rfl
    have k4 : W6.cell? ⟨w.heap.size, 4, none⟩ = some (.int .i64 a4) := HAB.out.cell rfl
    have k5 : W6.cell? ⟨w.heap.size, 5, none⟩ = some (.int .i64 a5) := HAB.out.cell rfl
    have k6 : W6.cell? ⟨w.heap.size, 6, none⟩ = some (.int .i64 a6) := HAB.out.cell rfl
    have k7 : W6.cell? ⟨w.heap.size, 7, none⟩ = some (.int .i64 a7) := HAB.out.cell rfl
    obtain ⟨A, ecap, rfl, _⟩ := h6'.evs.shape
    have HB1 := bel_new W6.drew (.cells (iv (evt 6 (i : Int) 0 0 [a0, a1, a2, a3, a4, a5, a6, a7])).toArray 68)
    have HREC := Lib.hid fun (ev' : Value) (w3 : World) hsl hg ho => hst6.trans (h6'.recorded (evt 6 (i : Int) 0 0 [a0, a1, a2, a3, a4, a5, a6, a7]) HB1 (ev' := ev') (w3 := w3) hsl hg ho)
    have HC2 := Lib.hid fun (w3 : World) hg => h6'.cells2 HB1 (w3 := w3) hg
    have HEV := Lib.hid (h6'.evs.keep fun q hq => HB1.block q (h6'.evs.lt hq))
    have HNW : Hid (∀ j u, (iv (evt 6 (i : Int) 0 0 [a0, a1, a2, a3, a4, a5, a6, a7]))[j]? = some u → (W6.drew.alloc (.cells (iv (evt 6 (i : Int) 0 0 [a0, a1, a2, a3, a4, a5, a6, a7])).toArray 68)).cell? ((⟨W6.heap.size, 0, none⟩ : Addr).add j) = some u) := Lib.hid (fun j u hu => by
      rw [Addr.add_lit, Nat.zero_add, ← hsz1]
      exact (Arr.new W6.drew _ _).cell hu)
    have c2 := h6'.c2
    obtain ⟨i0, his, hz0, hz1, hz2⟩ := info_parts infoEvent
    have HIS := Lib.hid his
    have HZ0 := Lib.hid hz0
    have HZ1 := Lib.hid hz1
    have HZ2 := Lib.hid hz2
    clear his hz0 hz1 hz2 HB1
    change W6.cell? ⟨p, 2, none⟩ = _ at c2
    have c2A := fun ob => cell_below (bel_new W6 ob) c2
    generalize hNE : m1.ev.length = NE at *
    subst hR2
    clear h6 h6' hst6 hNE hev1 HPUT HA6 HAB hW6 HBU HLL HL1 HENC hi22
    go_region_law ((refine wp_append_sl _ _ 24 rfl 68 i0 _ 12 96 Tryz.underlying24 HIS.out HZ0.out HZ1.out HZ2.out rfl (by decide) (.slice A NE ecap) NE (iv m1.ev.flatten) rfl HEV.out ⟨W6.heap.size, 0, none⟩ 1 1 (iv (evt 6 (i : Int) 0 0 [a0, a1, a2, a3, a4, a5, a6, a7])) rfl rfl HNW.out (iv_one _) (by unfold maxLen; omega) (by omega) ?_; intro ev' w3 hsl hg ho; obtain ⟨EA2, ecap2, rfl, _⟩ := hsl.shape; have HFIN := Lib.hid (HREC.out _ _ hsl hg ho); obtain ⟨e2, ef2⟩ := HC2.out _ hg; clear hsl hg ho))
    all_goals go_wp2_with fail
    all_goals go_ret
    all_goals exact ⟨rfl, HFIN.out⟩
end Go.Proofs.YtpojhplnhppcpaaGreatDoor
