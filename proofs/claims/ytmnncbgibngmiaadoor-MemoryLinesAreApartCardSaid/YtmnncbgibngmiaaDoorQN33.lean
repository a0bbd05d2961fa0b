/-
  MemoryLinesAreApart answers true: the walk.
-/
import Derived.Test.YtmnncbgibngmiaaDoorQN32
namespace Go.Proofs.YtmnncbgibngmiaaDoor
open Go.RowKit Go.Maps
section
variable {Pr : Program} {ops : Array Oper} {Q : Exit → Act → World → Prop} {S : World → Prop}
/-- A region whose orders all come to one state. -/
theorem region_rest {id : Nat} {a : Act} {w : World} (A : Act) (hm : Pr.follows .mixedOrders = true) (hS : S w.drew) (hq : ∀ c (a : Act) d v w, Q (.panic c) (a.put d v) w → Q (.panic c) a w)
    (h1 : ∀ Q' : Exit → Act → World → Prop, (∀ c (a : Act) d v w, Q' (.panic c) (a.put d v) w → Q' (.panic c) a w) → (∀ w', S w' → Q' .normal A w') → S w.drew → wpAnyH Pr .any ops Q' S ops.size (Array.replicate ops.size false) a w.drew)
    (h2 : ∀ w', S w' → Q .normal A w') : (Code.region id ops true).wp Pr Q a w :=
  wp_region_held hm (h1 Q hq h2 hS)
end
theorem imgOf_L {m n : PM} (h : m.L = n.L) : imgOf m = imgOf n := by unfold imgOf; rw [h]
theorem seen_L {m n : PM} (h : m.L = n.L) : m.seen = n.seen := by unfold PM.seen; rw [h]
theorem pendP_L {m n : PM} (h : m.L = n.L) (z : Int) : pendP m z = pendP n z := by unfold pendP PM.has PM.line; rw [h]
set_option maxRecDepth 100000 in
set_option maxHeartbeats 8000000 in
set_option linter.unusedSimpArgs false in
theorem lawApart (z : Int) (v : Value) (xs : List POp) (x y : POp) (cx cy : Value) (w : World) (hs : Script w v xs) (hx : x.Ok) (hcx : Rd w cx x.cs.length (iv (flatS x.cs))) (hy : y.Ok) (hcy : Rd w cy y.cs.length (iv (flatS y.cs))) (hT : Tab w) :
    Calls Tryd.prog 7 #[.int .i64 z, v, .agg (opV x cx).toArray, .agg (opV y cy).toArray] w fun e w' => e = .returned (.bool true) ∧ Below w.heap.size w w' := by
  have hb1 := bel_new w (.cells (opV x cx).toArray 61)
  have hA1 := Arr.new w (opV x cx) 61
  have hb2 := bel_new (w.alloc (.cells (opV x cx).toArray 61)) (.cells (opV y cy).toArray 61)
  have hA2 := Arr.new (w.alloc (.cells (opV x cx).toArray 61)) (opV y cy) 61
  have hsz : (w.alloc (.cells (opV x cx).toArray 61)).heap.size = w.heap.size + 1 := by simp
  have r1 : ((w.alloc (.cells (opV x cx).toArray 61)).alloc (.cells (opV y cy).toArray 61)).rangeAt w.heap.size 0 (opV x cx) := range_below hb2 fun j u hj => by rw [Nat.zero_add]; exact hA1.cell hj
  have r2 : ((w.alloc (.cells (opV x cx).toArray 61)).alloc (.cells (opV y cy).toArray 61)).rangeAt (w.heap.size + 1) 0 (opV y cy) := fun j u hj => by
    have := hA2.cell hj
    rw [hsz] at this
    rw [Nat.zero_add]
    exact this
  have hb := bel_on hb1 hb2
  have hiX : (Tryd.prog.info? 61).map (·.size) = some (opV x cx).length := by
    have := size61 (opV_len hx cx)
    rwa [List.size_toArray] at this
  have hiY : (Tryd.prog.info? 61).map (·.size) = some (opV y cy).length := by
    have := size61 (opV_len hy cy)
    rwa [List.size_toArray] at this
  have hu61 := Tryd.underlying61
  have HBE := Lib.hid (begun_any z v xs ((w.alloc (.cells (opV x cx).toArray 61)).alloc (.cells (opV y cy).toArray 61)) (hs.keep hb) (hT.keep hb))
  have HLX := Lib.hid fun (n : Nat) (hn : n ≤ 4096) (W : World) => lineOf_any x cx n W hx hn
  have HLY := Lib.hid fun (n : Nat) (hn : n ≤ 4096) (W : World) => lineOf_any y cy n W hy hn
  have HDX := Lib.hid fun (p : Nat) (m : PM) (F : Nat → Prop) (W : World) hm hs h hT hF hcs hcv => do_any p x cx m F W hx hm hs h hT hF hcs hcv
  have HDY := Lib.hid fun (p : Nat) (m : PM) (F : Nat → Prop) (W : World) hm hs h hT hF hcs hcv => do_any p y cy m F W hy hm hs h hT hF hcs hcv
  have HCX := Lib.hid (hcx.below hb)
  have HCY := Lib.hid (hcy.below hb)
  have HOX := Lib.hid fun q (h1 : 0 < x.cs.length) (h2 : cx.ownBlock = some q) => hcx.lt h1 h2
  have HOY := Lib.hid fun q (h1 : 0 < y.cs.length) (h2 : cy.ownBlock = some q) => hcy.lt h1 h2
  have HX := Lib.hid hx
  have HY := Lib.hid hy
  have HB := Lib.hid hb
  have HR1 := Lib.hid r1
  have HR2 := Lib.hid r2
  have HSZ := Lib.hid hb.size
  generalize opV x cx = OX at *
  generalize opV y cy = OY at *
  clear hb1 hA1 hb2 hA2 hsz r1 r2 hb hs hT hcx hcy hx hy
  go_enter Tryd.func7, Tryd.ntmps7
  go_wp2_with fail
  refine HBE.out.mono ?_
  rintro e w3 ⟨p, m, F, rfl, hh, hsm, hle⟩
  obtain ⟨w2, hw2⟩ : ∃ w2, w2 = (w.alloc (.cells OX.toArray 61)).alloc (.cells OY.toArray 61) := ⟨_, rfl⟩
  rw [← hw2] at HBE HB HR1 HR2 HSZ HCX HCY hh
  have H3 := Lib.hid hh
  have HSM := Lib.hid hsm
  have HL8 := Lib.hid hle
  have HLI := Lib.hid fun (W : World) (h : Rep W p m F) => lines_any p m F W h
  have hlx := HLX.out m.L.length (by omega)
  have hly := HLY.out m.L.length (by omega)
  obtain ⟨P, hP⟩ : ∃ P, lineP x m.L.length = P := ⟨_, rfl⟩
  obtain ⟨Q, hQ⟩ : ∃ Q, lineP y m.L.length = Q := ⟨_, rfl⟩
  rw [hP] at hlx
  rw [hQ] at hly
  have HP := Lib.hid hP
  have HQ := Lib.hid hQ
  clear HLX HLY
  have HLX := Lib.hid hlx
  have HLY := Lib.hid hly
  have q1 : w3.drew.rangeAt w.heap.size 0 OX := range_below (bel_drew w3) (range_below hh.below HR1.out)
  have q2 : w3.drew.rangeAt (w.heap.size + 1) 0 OY := range_below (bel_drew w3) (range_below hh.below HR2.out)
  have q3 := hh.stay (bel_drew w3)
  clear HBE hh hsm hle hP hQ hlx hly hw2
  go_wp2_with fail
  apply region_rest (S := fun W => W.rangeAt w.heap.size 0 OX ∧ W.rangeAt (w.heap.size + 1) 0 OY ∧ Has w2 W p m F) _ (by kernel_rfl) ⟨q1, q2, q3⟩ (fun c a d v w h => by cases d <;> exact h)
  · intro Q9 hq9 hrest hHeld
    refine wpAnyH_take (i := 0) (v := .agg OX.toArray) rfl (by kernel_rfl) (by kernel_rfl) (by kernel_rfl) (fun _ _ _ h => hq9 _ _ _ _ _ h) (yieldsIf_load_mid (by rfl) _ _ rfl _ _ rfl _ _ (fun w h => h.1) hu61 rfl hiX) (by assumption) ?_
    change wpAnyH _ _ _ _ _ _ _ (Act.put _ (some 27) _) _
    simp only [Act.put, List.setIfInBounds_toArray, List.set_cons_zero, List.set_cons_succ]
    refine wpAnyH_take (i := 1) (v := .pointer (some ⟨p, 0, none⟩)) rfl (by kernel_rfl) (by kernel_rfl) (by kernel_rfl) (fun _ _ _ h => hq9 _ _ _ _ _ h) (Or.inl ⟨by rfl, fun w hSw => by obtain ⟨h1, h2, h3⟩ := hSw; go_simp⟩) (by assumption) ?_
    change wpAnyH _ _ _ _ _ _ _ (Act.put _ (some 28) _) _
    simp only [Act.put, List.setIfInBounds_toArray, List.set_cons_zero, List.set_cons_succ]
    refine wpAnyH_take (i := 4) (v := .agg OY.toArray) rfl (by kernel_rfl) (by kernel_rfl) (by kernel_rfl) (fun _ _ _ h => hq9 _ _ _ _ _ h) (yieldsIf_load_mid (by rfl) _ _ rfl _ _ rfl _ _ (fun w h => h.2.1) hu61 rfl hiY) (by assumption) ?_
    change wpAnyH _ _ _ _ _ _ _ (Act.put _ (some 31) _) _
    simp only [Act.put, List.setIfInBounds_toArray, List.set_cons_zero, List.set_cons_succ]
    refine wpAnyH_take (i := 5) (v := .pointer (some ⟨p, 0, none⟩)) rfl (by kernel_rfl) (by kernel_rfl) (by kernel_rfl) (fun _ _ _ h => hq9 _ _ _ _ _ h) (Or.inl ⟨by rfl, fun w hSw => by obtain ⟨h1, h2, h3⟩ := hSw; go_simp⟩) (by assumption) ?_
    change wpAnyH _ _ _ _ _ _ _ (Act.put _ (some 32) _) _
    simp only [Act.put, List.setIfInBounds_toArray, List.set_cons_zero, List.set_cons_succ]
    refine wpAnyH_ready (rs := [2]) (by kernel_rfl) (by simp) ?_
    refine AllReadyH.cons rfl (fun K hK => ?_) AllReadyH.nil
    go_simp
    refine (HLI.out _ hHeld.2.2.rep).mono ?_
    rintro e w' ⟨rfl, hw'⟩
    obtain rfl := hw'.symm
    refine hK.out _ _ hHeld (fun hHeld => ?_)
    clear hK K
    refine wpAnyH_ready (rs := [3]) (by kernel_rfl) (by simp) ?_
    refine AllReadyH.cons rfl (fun K hK => ?_) AllReadyH.nil
    go_simp
    refine (HLX.out _).mono ?_
    rintro e w' ⟨rfl, hb⟩
    refine hK.out _ _ ⟨range_below hb hHeld.1, range_below hb hHeld.2.1, hHeld.2.2.stay hb⟩ (fun hHeld => ?_)
    clear hK K hb
    refine wpAnyH_ready (rs := [6]) (by kernel_rfl) (by simp) ?_
    refine AllReadyH.cons rfl (fun K hK => ?_) AllReadyH.nil
    go_simp
    refine (HLI.out _ hHeld.2.2.rep).mono ?_
    rintro e w' ⟨rfl, hw'⟩
    obtain rfl := hw'.symm
    refine hK.out _ _ hHeld (fun hHeld => ?_)
    clear hK K
    refine wpAnyH_ready (rs := [7]) (by kernel_rfl) (by simp) ?_
    refine AllReadyH.cons rfl (fun K hK => ?_) AllReadyH.nil
    go_simp
    refine (HLY.out _).mono ?_
    rintro e w' ⟨rfl, hb⟩
    refine hK.out _ _ ⟨range_below hb hHeld.1, range_below hb hHeld.2.1, hHeld.2.2.stay hb⟩ (fun hHeld => ?_)
    clear hK K hb
    refine wpAnyH_take (i := 8) (v := .int .i64 P) rfl (by kernel_rfl) (by kernel_rfl) (by kernel_rfl) (fun _ _ _ h => hq9 _ _ _ _ _ h) (Or.inl ⟨by rfl, fun w hSw => by obtain ⟨h1, h2, h3⟩ := hSw; go_simp⟩) (by assumption) ?_
    change wpAnyH _ _ _ _ _ _ _ (Act.put _ (some 10) _) _
    simp only [Act.put, List.setIfInBounds_toArray, List.set_cons_zero, List.set_cons_succ]
    refine wpAnyH_take (i := 9) (v := .int .i64 Q) rfl (by kernel_rfl) (by kernel_rfl) (by kernel_rfl) (fun _ _ _ h => hq9 _ _ _ _ _ h) (Or.inl ⟨by rfl, fun w hSw => by obtain ⟨h1, h2, h3⟩ := hSw; go_simp⟩) (by assumption) ?_
    change wpAnyH _ _ _ _ _ _ _ (Act.put _ (some 11) _) _
    simp only [Act.put, List.setIfInBounds_toArray, List.set_cons_zero, List.set_cons_succ]
    exact wpAnyH_done (by kernel_rfl) (hrest _ hHeld) _
  intro w4 hHeld4
  have H4 := Lib.hid hHeld4.2.2
  clear hHeld4 q1 q2 q3 H3 HLX HLY
  by_cases hP0 : P < 0
  · have HS := Lib.hid (sanity_any w4 H4.out.tab)
    go_wp2_with fail
    refine HS.out.mono ?_
    rintro e w5 ⟨rfl, hb⟩
    have H5 := Lib.hid (H4.out.stay hb)
    clear hb HS
    go_wp2_with fail
    go_ret
    exact ⟨rfl, HB.out.trans (H5.out.below.mono HSZ.out)⟩
  by_cases hQ0 : Q < 0
  · have HS := Lib.hid (sanity_any w4 H4.out.tab)
    go_wp2_with fail
    refine HS.out.mono ?_
    rintro e w5 ⟨rfl, hb⟩
    have H5 := Lib.hid (H4.out.stay hb)
    clear hb HS
    go_wp2_with fail
    go_ret
    exact ⟨rfl, HB.out.trans (H5.out.below.mono HSZ.out)⟩
  by_cases hPQ : P = Q
  · have HS := Lib.hid (sanity_any w4 H4.out.tab)
    go_wp2_with fail
    refine HS.out.mono ?_
    rintro e w5 ⟨rfl, hb⟩
    have H5 := Lib.hid (H4.out.stay hb)
    clear hb HS
    go_wp2_with fail
    go_ret
    exact ⟨rfl, HB.out.trans (H5.out.below.mono HSZ.out)⟩
  obtain ⟨i, rfl⟩ : ∃ i : Nat, P = i := ⟨P.toNat, by omega⟩
  obtain ⟨j, rfl⟩ : ∃ j : Nat, Q = j := ⟨Q.toNat, by omega⟩
  have hap := apart HP.out HQ.out (by omega)
  have g1 := doP_good H4.out.ok HSM.out x HX.out
  have g2 := doP_good g1.ok g1.small y HY.out
  have g3 := doP_good H4.out.ok HSM.out y HY.out
  have g4 := doP_good g3.ok g3.small x HX.out
  obtain ⟨⟨⟨a0, a⟩, m1⟩, e1⟩ : ∃ R, doP m x = R := ⟨_, rfl⟩
  rw [e1] at hap g1 g2
  obtain ⟨⟨⟨b0, b⟩, m2⟩, e2⟩ : ∃ R, doP m1 y = R := ⟨_, rfl⟩
  obtain ⟨⟨⟨c0, c⟩, n1⟩, e3⟩ : ∃ R, doP m y = R := ⟨_, rfl⟩
  rw [e3] at hap g3 g4
  obtain ⟨⟨⟨d0, d⟩, n2⟩, e4⟩ : ∃ R, doP n1 x = R := ⟨_, rfl⟩
  simp only at hap g1 g2 g3 g4
  rw [e2, e4] at hap
  rw [e2] at g2
  rw [e4] at g4
  simp only at hap g1 g2 g3 g4
  obtain ⟨rfl, rfl, hL⟩ := hap
  have hl2 : m2.L.length = m.L.length := g2.len.trans g1.len
  have HL2 := Lib.hid (show m2.L.length ≤ 8 by have := HL8.out; omega)
  have HLL := Lib.hid hL
  have S2 := Lib.hid g2.small
  have S1 := Lib.hid g1.small
  have S3 := Lib.hid g3.small
  have K1 := Lib.hid g1.ok
  have K2 := Lib.hid g2.ok
  have K3 := Lib.hid g3.ok
  have K4 := Lib.hid g4.ok
  have E1 := Lib.hid e1
  have E2 := Lib.hid e2
  have E3 := Lib.hid e3
  have E4 := Lib.hid e4
  clear hL g1 g2 g3 g4 e1 e2 e3 e4 hl2 HP HQ
  go_wp2_with fail
  refine (copy_any p m F w4 H4.out.ok (HSM.out.mono (by omega)) H4.out.rep).mono ?_
  rintro e w5 ⟨⟨pn, rfl, hrn⟩, hb⟩
  have HN5 := Lib.hid (copied H4.out hrn hb)
  have H5 := Lib.hid (H4.out.stay hb)
  have HF5 : Hid (∀ q, F q → q < w4.heap.size) := Lib.hid H4.out.rep.lt
  have h45 := hb.size
  clear hb hrn H4
  have hd := HDX.out p m F w5 H5.out.ok (HSM.out.mono (by omega)) H5.out.rep H5.out.tab H5.out.not1 (HCX.out.below H5.out.below) (fun q h1 h2 h3 => by
    have h4 := HOX.out q h1 h2
    have h5 := H5.out.new q h3
    have h6 := HSZ.out
    omega)
  rw [E1.out] at hd
  have HDO := Lib.hid hd
  have r1 := range_below H5.out.below HR1.out
  clear hd E1
  go_wp2_with ((with_reducible refine arm_range 61 w.heap.size 0 OX r1 _ hu61 rfl hiX rfl _ rfl ?_ ?_); focus rfl)
  refine HDO.out.mono ?_
  rintro e w6 ⟨rfl, hst⟩
  have H6 := Lib.hid (H5.out.step hst K1.out)
  have h56 := hst.2.size
  have HN6 := Lib.hid (HN5.out.other hst.2 (fun q h1 h2 => by have h3 := h1.1; have h4 := HF5.out q h2; omega) H5.out.not1 H5.out.new)
  have HF6 : Hid (∀ q, Ex F w5 w6 q → q < w4.heap.size ∨ (w5.heap.size ≤ q ∧ q < w6.heap.size)) := Lib.hid fun q h => h.imp (HF5.out q) id
  obtain ⟨F6, hF6⟩ : ∃ F', F' = Ex F w5 w6 := ⟨_, rfl⟩
  rw [← hF6] at H6 HF6
  clear hst hF6 HDO r1 H5 HN5 HF5
  have hd := HDY.out p m1 F6 w6 H6.out.ok (S1.out.mono (by omega)) H6.out.rep H6.out.tab H6.out.not1 (HCY.out.below H6.out.below) (fun q h1 h2 h3 => by
    have h4 := HOY.out q h1 h2
    have h5 := H6.out.new q h3
    have h6 := HSZ.out
    omega)
  rw [E2.out] at hd
  have HDO := Lib.hid hd
  have r1 := range_below H6.out.below HR2.out
  clear hd E2
  go_wp2_with ((with_reducible refine arm_range 61 (w.heap.size + 1) 0 OY r1 _ hu61 rfl hiY rfl _ rfl ?_ ?_); focus rfl)
  refine HDO.out.mono ?_
  rintro e w7 ⟨rfl, hst⟩
  have H7 := Lib.hid (H6.out.step hst K2.out)
  have h67 := hst.2.size
  have HN7 := Lib.hid (HN6.out.other hst.2 (fun q h1 h2 => by have h3 := h1.1; have h3 := h1.2; have h4 := HF6.out q h2; omega) H6.out.not1 H6.out.new)
  have HF7 : Hid (∀ q, Ex F6 w6 w7 q → q < w4.heap.size ∨ (w5.heap.size ≤ q ∧ q < w7.heap.size)) := Lib.hid fun q h => by
    rcases h with h | h
    · have := HF6.out q h; omega
    · omega
  obtain ⟨F7, hF7⟩ : ∃ F', F' = Ex F6 w6 w7 := ⟨_, rfl⟩
  rw [← hF7] at H7 HF7
  clear hst hF7 HDO r1 H6 HN6 HF6
  have hd := HDY.out pn m (New w4 w5) w7 HN7.out.ok (HSM.out.mono (by omega)) HN7.out.rep HN7.out.tab HN7.out.not1 (HCY.out.below HN7.out.below) (fun q h1 h2 h3 => by
    have h4 := HOY.out q h1 h2
    have h5 := HN7.out.new q h3
    have h6 := HSZ.out
    omega)
  rw [E3.out] at hd
  have HDO := Lib.hid hd
  have r1 := range_below HN7.out.below HR2.out
  clear hd E3
  go_wp2_with ((with_reducible refine arm_range 61 (w.heap.size + 1) 0 OY r1 _ hu61 rfl hiY rfl _ rfl ?_ ?_); focus rfl)
  refine HDO.out.mono ?_
  rintro e w8 ⟨rfl, hst⟩
  have HN8 := Lib.hid (HN7.out.step hst K3.out)
  have h78 := hst.2.size
  have H8 := Lib.hid (H7.out.other hst.2 (fun q h1 h2 => by have h3 := h2.1; have h3 := h2.2; have h4 := HF7.out q h1; omega) HN7.out.not1 HN7.out.new)
  have HG8 : Hid (∀ q, Ex (New w4 w5) w7 w8 q → (w4.heap.size ≤ q ∧ q < w5.heap.size) ∨ (w7.heap.size ≤ q ∧ q < w8.heap.size)) := Lib.hid fun q h => h
  obtain ⟨G8, hG8⟩ : ∃ F', F' = Ex (New w4 w5) w7 w8 := ⟨_, rfl⟩
  rw [← hG8] at HN8 HG8
  clear hst hG8 HDO r1 H7 HN7
  have hd := HDX.out pn n1 G8 w8 HN8.out.ok (S3.out.mono (by omega)) HN8.out.rep HN8.out.tab HN8.out.not1 (HCX.out.below HN8.out.below) (fun q h1 h2 h3 => by
    have h4 := HOX.out q h1 h2
    have h5 := HN8.out.new q h3
    have h6 := HSZ.out
    omega)
  rw [E4.out] at hd
  have HDO := Lib.hid hd
  have r1 := range_below HN8.out.below HR1.out
  clear hd E4
  go_wp2_with ((with_reducible refine arm_range 61 w.heap.size 0 OX r1 _ hu61 rfl hiX rfl _ rfl ?_ ?_); focus rfl)
  refine HDO.out.mono ?_
  rintro e w9 ⟨rfl, hst⟩
  have HN9 := Lib.hid (HN8.out.step hst K4.out)
  have H9 := Lib.hid (H8.out.other hst.2 (fun q h1 h2 => by have h3 := HG8.out q h2; have h4 := HF7.out q h1; omega) HN8.out.not1 HN8.out.new)
  obtain ⟨G9, hG9⟩ : ∃ F', F' = Ex G8 w8 w9 := ⟨_, rfl⟩
  rw [← hG9] at HN9
  clear hst hG9 HDO r1 H8 HN8 HF7 HG8 h45 h56 h67 h78 S1 S3 K1 K3 HDX HDY HCX HCY HOX HOY HX HY HSM HR1 HR2 hiX hiY
  go_wp2_with fail
  refine (image_any p m2 F7 w9 H9.out.ok.few H9.out.rep).mono ?_
  rintro e w10 ⟨va, rfl, hsa, _, hb⟩
  have H10 := Lib.hid (H9.out.stay hb)
  have HN10 := Lib.hid (HN9.out.stay hb)
  have HIA := Lib.hid (Rd.of_sl hsa)
  clear hb hsa H9 HN9
  go_wp2_with fail
  refine (image_any pn n2 G9 w10 HN10.out.ok.few HN10.out.rep).mono ?_
  rintro e w11 ⟨vb, rfl, hsb, _, hb⟩
  have H11 := Lib.hid (H10.out.stay hb)
  have HN11 := Lib.hid (HN10.out.stay hb)
  rw [← HLL.out] at hsb
  have himl : (imgOf m2).length = m2.L.length := List.length_map ..
  have hsi := sameImage_any (imgOf m2) va vb w11 (imgOf_ok K2.out) (by rw [himl]; have := HL2.out; omega) (by rw [himl, imgOf_flat]; exact HIA.out.below hb) (by rw [himl, imgOf_flat]; exact Rd.of_sl hsb)
  have HSI := Lib.hid hsi
  clear hb hsb H10 HN10 HIA hsi himl
  go_wp2_with fail
  refine HSI.out.mono ?_
  rintro e w12 ⟨rfl, hb⟩
  have H12 := Lib.hid (H11.out.stay hb)
  have HN12 := Lib.hid (HN11.out.stay hb)
  clear hb H11 HN11 HSI
  have hsl : m2.seen.length = m2.L.length := List.length_map ..
  have HSL := Lib.hid hsl
  have HSE := Lib.hid (seen_L HLL.out)
  clear hsl
  go_wp2_with fail
  refine (seen_any p m2 F7 w12 H12.out.ok H12.out.rep H12.out.tab).mono ?_
  rintro e w13 ⟨sa, rfl, hsa, _, hb⟩
  rw [← HSL.out] at hsa
  have H13 := Lib.hid (H12.out.stay hb)
  have HN13 := Lib.hid (HN12.out.stay hb)
  have R13 := Lib.hid (Rd.of_sl hsa)
  clear hb hsa H12 HN12
  go_wp2_with fail
  refine (seen_any pn n2 G9 w13 HN13.out.ok HN13.out.rep HN13.out.tab).mono ?_
  rintro e w14 ⟨sb, rfl, hsb, _, hb⟩
  rw [← HSE.out, ← HLL.out, ← HSL.out] at hsb
  have H14 := Lib.hid (H13.out.stay hb)
  have HN14 := Lib.hid (HN13.out.stay hb)
  have HSS := Lib.hid (sameSeen_any m2.seen sa sb w14 (seen_ok K2.out) (by rw [HSL.out]; have := HL2.out; omega) (R13.out.below hb) (Rd.of_sl hsb))
  clear hb hsb H13 HN13 R13
  go_wp2_with fail
  refine HSS.out.mono ?_
  rintro e w15 ⟨rfl, hb⟩
  have H15 := Lib.hid (H14.out.stay hb)
  have HN15 := Lib.hid (HN14.out.stay hb)
  clear hb H14 HN14 HSS HSL HSE K4
  obtain ⟨N, hN⟩ : ∃ N, m2.L.length = N := ⟨_, rfl⟩
  have HNN := Lib.hid hN
  have HL2I := HL2.out
  rw [hN] at HL2I
  have HLI2 := Lib.hid fun (W : World) (h : Rep W p m2 F7) => lines_any p m2 F7 W h
  rw [hN] at HLI2
  clear hN HLI HL8
  go_wp2_with fail
  go_loopw [21] (fun u wr => ∃ k : Nat, u = .int .i64 (k : Int) ∧ k ≤ N ∧ Hid (Has w2 wr p m2 F7) ∧ Hid (Has w2 wr pn n2 G9)) (fun u _ => N - (intOf u).toNat)
  case atStart => exact ⟨0, rfl, by omega, H15, HN15⟩
  case round =>
    clear H15 HN15
    obtain ⟨k, rfl, hk, H, HN⟩ := hrel
    have HLI3 := Lib.hid (HLI2.out _ H.out.rep)
    by_cases hlt : k < N
    · have hkI : (k : Int) < (N : Int) := by omega
      have hkl : k < m2.L.length := by rw [HNN.out]; exact hlt
      have hkJ : I64 (k : Int) := small_i64 (by omega)
      have hpl := S2.out.pend _ (PM.line_mem hkl)
      have hpk := pend_k hkl
      have hpa := pending_any p (k : Int) m2 F7 wr hkJ H.out.ok.few (by rw [hpk]; omega) H.out.rep
      have hpb := fun W (h : Rep W pn n2 G9) => pending_any pn (k : Int) n2 G9 W hkJ HN.out.ok.few (by rw [← pendP_L HLL.out, hpk]; omega) h
      rw [← pendP_L HLL.out, hpk] at hpb
      rw [hpk] at hpa
      generalize (m2.line k).pend = PS at *
      have HPA := Lib.hid hpa
      have HPB := Lib.hid hpb
      have HPL := Lib.hid hpl
      clear hpa hpb hpl hpk hkl
      go_wp2_with (go_at_call 13; refine HLI3.out.mono ?_; rintro e w' ⟨rfl, hw'⟩; obtain rfl := hw'.symm)
      refine HPA.out.mono ?_
      rintro e u1 ⟨pv, rfl, hs1, _, hb⟩
      have U1 := Lib.hid (H.out.stay hb)
      have V1 := Lib.hid (HN.out.stay hb)
      have R1 := Lib.hid (Rd.of_sl hs1)
      clear hb hs1 H HN HPA HLI3
      go_wp2_with fail
      refine (HPB.out _ V1.out.rep).mono ?_
      rintro e u2 ⟨qv, rfl, hs2, _, hb⟩
      have U2 := Lib.hid (U1.out.stay hb)
      have V2 := Lib.hid (V1.out.stay hb)
      have HSS := Lib.hid (sameStores_any PS pv qv u2 (by have := HPL.out; omega) (R1.out.below hb) (Rd.of_sl hs2))
      clear hb hs2 U1 V1 HPB R1
      go_wp2_with fail
      refine HSS.out.mono ?_
      rintro e u3 ⟨rfl, hb⟩
      have U3 := Lib.hid (U2.out.stay hb)
      have V3 := Lib.hid (V2.out.stay hb)
      clear hb HSS U2 V2
      go_wp2_with fail
      go_roundw
      case rel => exact ⟨k + 1, by simp, by omega, U3, V3⟩
      case measure => simp [intOf]; omega
    · obtain rfl : k = N := by omega
      have HS := Lib.hid fun W (h : Tab W) => sanity_any W h
      go_wp2_with (go_at_call 13; refine HLI3.out.mono ?_; rintro e w' ⟨rfl, hw'⟩; obtain rfl := hw'.symm)
      refine (HS.out _ H.out.tab).mono ?_
      rintro e u1 ⟨rfl, hb⟩
      have U1 := Lib.hid (H.out.stay hb)
      clear hb HS
      go_wp2_with fail
      go_ret
      exact ⟨rfl, HB.out.trans (U1.out.below.mono HSZ.out)⟩
end Go.Proofs.YtmnncbgibngmiaaDoor
