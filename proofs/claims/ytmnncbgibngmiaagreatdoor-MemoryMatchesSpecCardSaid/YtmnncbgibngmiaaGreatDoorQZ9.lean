/-
  What the reference's put, Store and Publish do.
-/
import Derived.Test.YtmnncbgibngmiaaGreatDoorQZ8
namespace Go.Proofs.YtmnncbgibngmiaaGreatDoor
open Go.RowKit Go.Maps
theorem own_of {b0 sz : Nat} {v v' : Value} (hb : b0 ≤ sz) (hv : ∀ k, v.ownBlock = some k → b0 ≤ k) (ho : v'.ownBlock = v.ownBlock ∨ v'.ownBlock = some sz) : ∀ k, v'.ownBlock = some k → b0 ≤ k := fun k hk => by
  rcases ho with h | h
  · exact hv k (h ▸ hk)
  · rw [h] at hk
    simp only [Option.some.injEq] at hk
    omega
set_option maxRecDepth 100000 in
set_option maxHeartbeats 8000000 in
set_option linter.unusedSimpArgs false in
theorem rPut_any (p : Nat) (a val : Int) (kd : Nat) (m : PM) (F : Nat → Prop) (w : World) (hm : m.Ok) (hs : m.Small 1000) (ha : I64 a) (h : Ref w p m F) :
    Calls Tryz.prog 73 #[.pointer (some ⟨p, 0, none⟩), .int .i64 a, .int .i64 val, .int .i64 (kd : Int)] w fun e w' => e = .returned (.int .i64 (storeP m (kd : Int) a val).1) ∧ RStep F w p (storeP m (kd : Int) a val).2 w' := by
  have HS := Lib.hid (RStep.refl h)
  have HHS := Lib.hid fun z => rHas_any p z m F w h
  obtain ⟨R, hR⟩ : ∃ R, storeP m (kd : Int) a val = R := ⟨_, rfl⟩
  rw [hR]
  unfold storeP putP at hR
  have h40 : (40 : Int) ≠ 0 := by decide
  have h1n : (1 : Int) ≠ 0 := by decide
  have h9n : (9 : Int) ≠ 0 := by decide
  by_cases h0 : a < 0
  · have hA : m.hasA a = false := by unfold PM.hasA; simp; omega
    rw [hA, if_pos rfl, rec_1 h40] at hR
    subst hR
    clear hA h hm HHS hs h40 h1n h9n
    go_enter Tryz.func73, Tryz.ntmps73
    go_wp2_with fail
    go_ret
    exact ⟨rfl, HS.out⟩
  have h0' : 0 ≤ a := by omega
  unfold I64 at ha
  have hq : wrap64 (Int.tdiv a 8) = a / 8 := by
    have h1 : Int.tdiv a 8 = a / 8 := Int.tdiv_eq_ediv_of_nonneg h0'
    rw [h1, w64 _ (by omega) (by omega)]
  have hhas : m.has (a / 8) = m.hasA a := by
    unfold PM.has PM.hasA
    congr 1
    simp only [eq_iff_iff]
    omega
  have hh := HHS.out (a / 8)
  rw [hhas] at hh
  obtain ⟨q, hqe⟩ : ∃ q, a / 8 = q := ⟨_, rfl⟩
  rw [hqe] at hq hh hR
  cases hA : m.hasA a with
  | false =>
    rw [hA, if_pos rfl, rec_1 h40] at hR
    subst hR
    rw [hA] at hh
    have HH := Lib.hid hh
    clear hA h hm HHS hh hqe hhas ha hs h40 h1n h9n
    go_enter Tryz.func73, Tryz.ntmps73
    go_wp2_with (go_at_call 66; refine HH.out.mono ?_; rintro e w' ⟨rfl, hw'⟩; obtain rfl := hw'.symm)
    go_ret
    exact ⟨rfl, HS.out⟩
  | true =>
    have hin : 0 ≤ a ∧ a < 8 * (m.L.length : Int) := by unfold PM.hasA at hA; simpa using hA
    obtain ⟨i, rfl⟩ : ∃ i : Nat, q = i := ⟨q.toNat, by omega⟩
    have hi : i < m.L.length := by omega
    obtain ⟨k, hk⟩ : ∃ k : Nat, a % 8 = k := ⟨(a % 8).toNat, by omega⟩
    have hr2 : Int.tmod a 8 = (k : Int) := by
      have h1 : Int.tmod a 8 = a % 8 := Int.tmod_eq_emod_of_nonneg h0'
      rw [h1, hk]
    have hr : wrap64 (k : Int) = (k : Int) := w64 _ (by omega) (by omega)
    rw [hA] at hh hR
    rw [if_neg (by simp), hk, Int.toNat_natCast] at hR
    have HH := Lib.hid hh
    have HWD := Lib.hid fun W => word_any val W
    cases hw : okW val with
    | false =>
      rw [hw, if_pos rfl, rec_1 h1n] at hR
      rw [hw] at HWD
      subst hR
      clear hA h hm HHS hh hqe hhas ha hs h40 h1n h9n hin hi hw hk
      go_enter Tryz.func73, Tryz.ntmps73
      go_wp2_with (first | (go_at_call 66; refine HH.out.mono ?_; rintro e w' ⟨rfl, hw'⟩; obtain rfl := hw'.symm) | (go_at_call 89; refine (HWD.out _).mono ?_; rintro e w' ⟨rfl, hw'⟩; obtain rfl := hw'.symm))
      go_ret
      exact ⟨rfl, HS.out⟩
    | true =>
      rw [hw, if_neg (by simp)] at hR
      rw [hw] at HWD
      have hst := rState_any p (i : Int) m F w hm h
      have hsi : stateP m (i : Int) = (((m.line i).state : Nat) : Int) := by
        unfold stateP
        rw [has_i hi, if_pos rfl, Int.toNat_natCast]
      rw [hsi] at hst
      by_cases hro : (m.line i).state = 2
      · rw [if_pos hro, rec_1 h9n] at hR
        subst hR
        rw [hro] at hst
        have HST := Lib.hid hst
        have HSB := Lib.hid fun W (hW : Below w.heap.size w W) => RStep.below h hW
        clear hA h hm HHS hh hqe hhas ha hs h40 h1n h9n hin hi hw hk hst hsi hro
        go_enter Tryz.func73, Tryz.ntmps73
        go_wp2_with (first | (go_at_call 66; refine HH.out.mono ?_; rintro e w' ⟨rfl, hw'⟩; obtain rfl := hw'.symm) | (go_at_call 89; refine (HWD.out _).mono ?_; rintro e w' ⟨rfl, hw'⟩; obtain rfl := hw'.symm))
        refine HST.out.mono ?_
        rintro e w1 ⟨rfl, hb⟩
        have HS1 := Lib.hid (HSB.out _ hb)
        clear hb HST HSB
        go_wp2_with fail
        go_ret
        exact ⟨rfl, HS1.out⟩
      · rw [if_neg hro, rec_0 rfl] at hR
        have HST := Lib.hid hst
        have hnr : ¬ (((m.line i).state : Nat) : Int) = 2 := by omega
        generalize (m.line i).state = st at *
        have hpl80 := hs.pend _ (PM.line_mem hi)
        have hne := hs.ev
        have HM := Lib.hid hm
        have HRF := Lib.hid h
        have HKI := Lib.hid hi
        obtain ⟨ss, hss⟩ : ∃ ss, (m.line i).pend = ss := ⟨_, rfl⟩
        rw [hss] at hpl80
        have HSS := Lib.hid hss
        obtain ⟨pl, hpl⟩ : ∃ pl, ss.length = pl := ⟨_, rfl⟩
        rw [hpl] at hpl80
        have HPL := Lib.hid hpl
        have HRR := Lib.hid hR
        clear hA h hm HHS hh hqe hhas ha hs h40 h1n h9n hin hi hw hk hst hsi hro hss hpl hR
        go_enter Tryz.func73, Tryz.ntmps73
        go_wp2_with (first | (go_at_call 66; refine HH.out.mono ?_; rintro e w' ⟨rfl, hw'⟩; obtain rfl := hw'.symm) | (go_at_call 89; refine (HWD.out _).mono ?_; rintro e w' ⟨rfl, hw'⟩; obtain rfl := hw'.symm))
        refine HST.out.mono ?_
        rintro e w1 ⟨rfl, hb⟩
        have HB1 := Lib.hid hb
        have hrf := HRF.out.below hb
        clear hb HST HWD HH
        obtain ⟨d, o, cap, ev, X, h1⟩ := hrf
        obtain ⟨v, hXi, _, _, _, h9, _, hsl⟩ := h1.at HM.out HKI.out
        rw [HSS.out, HPL.out] at hsl
        have hcp := h1.cap_
        have hiI : (i : Int) < (m.L.length : Int) := by have := HKI.out; omega
        have HAT := Lib.hid h1
        have HXI := Lib.hid hXi
        have HSL := Lib.hid hsl
        have c0A := fun ob => cell_below (bel_new w1 ob) h1.c0
        have h9A := fun ob => cell_below (bel_new w1 ob) h9
        obtain ⟨VA, vcap, rfl, _⟩ := hsl.shape
        have HRD1 := Lib.hid ((Rd.of_sl hsl).below (bel_new w1 (.cells #[] 66)))
        have HLEN := Lib.hid hsl.1
        have HEM := Lib.hid (Sl.empty w1 66 2)
        have HK2 : Hid (∀ v' w2, Sl w2 66 2 v' pl (iv (flatS ss)) → (w1.alloc (.cells #[] 66)).grownBy w2 (Value.slice (some ⟨w1.heap.size, 0, none⟩) 0 0).ownBlock → (v'.ownBlock = (Value.slice (some ⟨w1.heap.size, 0, none⟩) 0 0).ownBlock ∨ v'.ownBlock = some (w1.heap.size + 1)) →
            Sl w2 66 2 v' pl (iv (flatS ss)) ∧ Below w1.heap.size w1 w2 ∧ ∀ k, v'.ownBlock = some k → w1.heap.size ≤ k) := Lib.hid fun v' w2 h5 h6 h7 =>
          ⟨h5, (bel_new w1 (.cells #[] 66)).grown h6 (by simp) (fun q hq => by simp [Value.ownBlock] at hq; omega), own_of (by simp) (fun q hq => by simp [Value.ownBlock] at hq; omega) h7⟩
        obtain ⟨j0, his, hz0, hz1, hz2⟩ := info_parts infoStore
        have HJS := Lib.hid his
        have HJ0 := Lib.hid hz0
        have HJ1 := Lib.hid hz1
        have HJ2 := Lib.hid hz2
        clear his hz0 hz1 hz2 h1 hsl hXi h9
        go_wp2_with (at_builtin; refine wpList_append_rd rfl _ _ 49 rfl 66 j0 _ 2 16 Tryz.underlying49 HJS.out HJ0.out HJ1.out HJ2.out rfl (by decide) _ 0 [] rfl HEM.out (.slice VA pl vcap) pl (iv (flatS ss)) rfl HRD1.out HLEN.out (iv_one _) (by unfold maxLen; omega) (by omega) ?_)
        intro v1 w2 hs2 hg2 ho2
        obtain ⟨g1, g2, g3⟩ := HK2.out _ _ hs2 hg2 ho2
        obtain ⟨VB, vcap1, rfl, _⟩ := g1.shape
        have G1 := Lib.hid g1
        have G2 := Lib.hid g2
        have G3 := Lib.hid g3
        have G4 := Lib.hid (g1.keep (w' := w2.alloc (.cells #[.int .i64 (k : Int), .int .i64 val] 66)) fun q hq => (bel_new w2 _).block q (g1.lt hq))
        have HNS : Hid (∀ j x, [Value.int .i64 (k : Int), .int .i64 val][j]? = some x → (w2.alloc (.cells #[.int .i64 (k : Int), .int .i64 val] 66)).cell? ((⟨w2.heap.size, 0, none⟩ : Addr).add j) = some x) := Lib.hid (fun j x hx => by
          rw [Addr.add_lit, Nat.zero_add]
          exact (Arr.new w2 [.int .i64 (k : Int), .int .i64 val] 66).cell hx)
        clear hs2 hg2 ho2 g1 g2 g3 HK2 HEM HRD1 c0A h9A
        go_wp2_with (at_builtin; refine wpList_append_sl _ rfl _ _ 49 rfl 66 j0 _ 2 16 Tryz.underlying49 HJS.out HJ0.out HJ1.out HJ2.out rfl (by decide) _ pl (iv (flatS ss)) rfl G4.out ⟨w2.heap.size, 0, none⟩ 1 1 [.int .i64 (k : Int), .int .i64 val] rfl rfl HNS.out (fun u hu => by simp at hu; rcases hu with rfl | rfl <;> rfl) (by unfold maxLen; omega) (by omega) ?_)
        intro v2 w3 hs3 hg3 ho3
        obtain ⟨VC, vcap2, rfl, _⟩ := hs3.shape
        have b13 : Below w1.heap.size w1 w3 := (bel_on G2.out (bel_new w2 (.cells #[.int .i64 (k : Int), .int .i64 val] 66))).grown hg3 (by have := G2.out.size; simp; omega) (fun q hq => G3.out q hq)
        have o3 := own_of (by have := G2.out.size; simp; omega) G3.out ho3
        have s3 : Sl w3 66 2 (.slice VC (pl + 1) vcap2) ((m.line i).push ((k : Int), val)).pend.length (iv (flatS ((m.line i).push ((k : Int), val)).pend)) := by
          have e1 : ((m.line i).push ((k : Int), val)).pend = ss ++ [((k : Int), val)] := by show (m.line i).pend ++ _ = _; rw [HSS.out]
          rw [e1, List.length_append, HPL.out, show iv (flatS (ss ++ [((k : Int), val)])) = iv (flatS ss) ++ [.int .i64 (k : Int), .int .i64 val] by unfold iv flatS; simp]
          exact hs3
        have h3 := HAT.out.below b13
        have c0c := h3.c0
        have h9c : w3.cell? ⟨d, o + i * 11 + 9, none⟩ = some (.slice VA pl vcap) := by
          obtain ⟨v', hx', _, _, _, h9', _, _⟩ := h3.at HM.out HKI.out
          rw [HXI.out] at hx'
          simp only [Option.some.injEq, Prod.mk.injEq, true_and] at hx'
          rw [← hx'] at h9'
          exact h9'
        have f9 := h3.lin.freeR (o + i * 11 + 9)
        have h4 : RefAt (w3.setCell ⟨d, o + i * 11 + 9, none⟩ (.slice VC (pl + 1) vcap2)) p (m.upd i fun _ => (m.line i).push ((k : Int), val)) (Ex F w1 w3) d o cap ev (X.set i ((m.line i).push ((k : Int), val), .slice VC (pl + 1) vcap2)) :=
          h3.cellLine HM.out HKI.out (by decide) HXI.out (lnR_pend (HM.out.line HKI.out).len _ _) s3 (fun _ h => .inl h) (fun q hq => .inr ⟨o3 q hq, s3.lt hq⟩) (fun q hq => by
            rcases hq with h5 | h5
            · exact h3.lt q h5
            · exact h5.2)
        have hup : m.upd i (fun _ => (m.line i).push ((k : Int), val)) = m.upd i (·.push ((k : Int), val)) := rfl
        rw [hup] at h4
        have hK4 : Kept F w1 (w3.setCell ⟨d, o + i * 11 + 9, none⟩ (.slice VC (pl + 1) vcap2)) := (Kept.of_below b13).then_ (Kept.setCell _ _ h3.ownD)
        have hev1 : (m.upd i (·.push ((k : Int), val))).ev = m.ev := rfl
        have hsp1 : (m.upd i (·.push ((k : Int), val))).span = m.span := rfl
        have H4 := Lib.hid h4
        have HK4 := Lib.hid hK4
        have HSZ4 : Hid ((w3.setCell ⟨d, o + i * 11 + 9, none⟩ (.slice VC (pl + 1) vcap2)).heap.size = w3.heap.size) := Lib.hid (by simp [World.setCell])
        generalize m.upd i (·.push ((k : Int), val)) = m1 at *
        clear hs3 hg3 ho3 b13 o3 s3 h3 h4 hK4 hup HAT HSL HXI G1 G2 G3 G4 HNS
        go_wp2_with fail
        obtain ⟨W4, hW4⟩ : ∃ W, w3.setCell ⟨d, o + i * 11 + 9, none⟩ (.slice VC (pl + 1) vcap2) = W := ⟨_, rfl⟩
        rw [hW4] at H4 HK4 HSZ4 ⊢
        have h5 : RefAt W4.drew p m1 (Ex F w1 W4.drew) d o cap ev (X.set i ((m.line i).push ((k : Int), val), .slice VC (pl + 1) vcap2)) := H4.out.keep (fun _ _ => rfl) (fun q hq => by
          rcases hq with h6 | h6
          · exact .inl h6
          · exact .inr ⟨h6.1, by show q < W4.heap.size; rw [HSZ4.out]; exact h6.2⟩) (fun q hq => by
          rcases hq with h6 | h6
          · exact H4.out.lt q (.inl h6)
          · exact h6.2)
        have hst5 : RStep F w p m1 W4.drew := RStep.after (Kept.of_below HB1.out) ⟨⟨_, _, _, _, _, h5⟩, HK4.out.then_ (Kept.of_below (bel_drew W4))⟩
        have hn1 : m1.ev.length ≤ 1000 := by rw [hev1]; exact hne
        have c1 : W4.drew.cell? ⟨p, 1, none⟩ = some (.int .i64 m.span) := by rw [← hsp1]; exact h5.c1
        clear c0c h9c f9 hW4 H4 HK4 HSZ4
        generalize m.span = sp at *
        have h5' : RefAt W4.drew p m1 (Ex F w W4.drew) d o cap ev (X.set i ((m.line i).push ((k : Int), val), .slice VC (pl + 1) vcap2)) := h5.keep (fun _ _ => rfl) (fun q hq => by
          rcases hq with h6 | h6
          · exact .inl h6
          · exact .inr ⟨Nat.le_trans HB1.out.size h6.1, h6.2⟩) hst5.1.lt
        have hsz1 : W4.drew.heap.size = W4.heap.size := rfl
        obtain ⟨A, ecap, rfl, _⟩ := h5'.evs.shape
        have HB1 := bel_new W4.drew (.cells (iv (evt (kd : Int) a val sp Z8)).toArray 79)
        have HREC := Lib.hid fun (ev' : Value) (w3 : World) hsl hg ho => hst5.trans (h5'.recorded (evt (kd : Int) a val sp Z8) HB1 (ev' := ev') (w3 := w3) hsl hg ho)
        have HC2 := Lib.hid fun (w3 : World) hg => h5'.cells2 HB1 (w3 := w3) hg
        have HEV := Lib.hid (h5'.evs.keep fun q hq => HB1.block q (h5'.evs.lt hq))
        have HNW : Hid (∀ j u, (iv (evt (kd : Int) a val sp Z8))[j]? = some u → (W4.drew.alloc (.cells (iv (evt (kd : Int) a val sp Z8)).toArray 79)).cell? ((⟨W4.heap.size, 0, none⟩ : Addr).add j) = some u) := Lib.hid (fun j u hu => by
          rw [Addr.add_lit, Nat.zero_add, ← hsz1]
          exact (Arr.new W4.drew _ _).cell hu)
        have c2 := h5'.c2
        obtain ⟨i0, his, hz0, hz1, hz2⟩ := info_parts infoEvent
        have HIS := Lib.hid his
        have HZ0 := Lib.hid hz0
        have HZ1 := Lib.hid hz1
        have HZ2 := Lib.hid hz2
        clear his hz0 hz1 hz2 HB1
        change W4.cell? ⟨p, 2, none⟩ = _ at c2
        change W4.cell? ⟨p, 1, none⟩ = _ at c1
        generalize hNE : m1.ev.length = NE at *
        have hrr := HRR.out
        subst hrr
        clear h5 h5' hst5 hNE hev1 hsp1
        have c2A := fun ob => cell_below (bel_new W4 ob) c2
        go_region_law ((refine wp_append_sl _ _ 29 rfl 79 i0 _ 12 96 Tryz.underlying29 HIS.out HZ0.out HZ1.out HZ2.out rfl (by decide) (.slice A NE ecap) NE (iv m1.ev.flatten) rfl HEV.out ⟨W4.heap.size, 0, none⟩ 1 1 (iv (evt (kd : Int) a val sp Z8)) rfl rfl HNW.out (iv_one _) (by unfold maxLen; omega) (by omega) ?_; intro ev' w3 hsl hg ho; obtain ⟨EA2, ecap2, rfl, _⟩ := hsl.shape; have HFIN := Lib.hid (HREC.out _ _ hsl hg ho); obtain ⟨e2, ef2⟩ := HC2.out _ hg; clear hsl hg ho))
        all_goals go_wp2_with fail
        all_goals go_ret
        all_goals exact ⟨rfl, HFIN.out⟩
end Go.Proofs.YtmnncbgibngmiaaGreatDoor
