/-
  What alumref05's apply does.
-/
import Derived.Test.YtpojhplnhppcpaaGreatDoorQZ13
import Derived.Test.YtpojhplnhppcpaaGreatDoorQN25z
import Derived.Test.YtpojhplnhppcpaaGreatDoorQN17
namespace Go.Proofs.YtpojhplnhppcpaaGreatDoor
open Go.RowKit Go.Maps
set_option maxRecDepth 100000 in
set_option maxHeartbeats 8000000 in
set_option linter.unusedSimpArgs false in
theorem rApply_any (q : Nat) (x : List Int) (m : PM) (G : Nat → Prop) (w : World) (hx : x.length = 12) (hxI : ∀ z ∈ x, I64 z) (hm : m.Ok) (hs : m.Small 900) (h : Ref w q m G) :
    Calls Tryz.prog 81 #[.pointer (some ⟨q, 0, none⟩), .agg (iv x).toArray] w fun e w' => e = .returned (.bool (appliesB m x)) ∧ RStep G w q (applyP m x) w' := by
  have h0 := h
  have HX12 := Lib.hid hx
  have HXI := Lib.hid hxI
  obtain ⟨k, a, v, s, a0, a1, a2, a3, a4, a5, a6, a7, hxe⟩ := line12 hx
  have ha : I64 a := hxI a (by rw [hxe]; simp)
  have hv : I64 v := hxI v (by rw [hxe]; simp)
  have hsI : I64 s := hxI s (by rw [hxe]; simp)
  have HAP : Hid (applyP m x = callP m k a v s [a0, a1, a2, a3, a4, a5, a6, a7]) := Lib.hid (by rw [hxe]; rfl)
  obtain ⟨c1, c2, c3⟩ := call_good hm hs k a v s [a0, a1, a2, a3, a4, a5, a6, a7] ha hv hsI rfl
  have hce := call_ev m k a v s [a0, a1, a2, a3, a4, a5, a6, a7]
  have hb := bel_new w (.cells (iv x).toArray 68)
  have hA := Arr.new w (iv x) 68
  have e0 := hA.cell (j := 0) (u := .int .i64 k) (by rw [hxe]; rfl)
  have e1 := hA.cell (j := 1) (u := .int .i64 a) (by rw [hxe]; rfl)
  have e2 := hA.cell (j := 2) (u := .int .i64 v) (by rw [hxe]; rfl)
  have e3 := hA.cell (j := 3) (u := .int .i64 s) (by rw [hxe]; rfl)
  have r4 : (w.alloc (.cells (iv x).toArray 68)).rangeAt w.heap.size 4 (iv [a0, a1, a2, a3, a4, a5, a6, a7]) := fun j u hj => hA.cell (by
    rw [hxe, Nat.add_comm]
    exact hj)
  have hi8 : (Tryz.prog.info? 66).map (·.size) = some (iv [a0, a1, a2, a3, a4, a5, a6, a7]).length := size22' rfl
  have hu22 := Tryz.underlying66
  have hr := h.below hb
  have HNG0 : ¬ G w.heap.size := fun hG => by have := h.lt _ hG; omega
  have HNG := Lib.hid HNG0
  have HBL : Hid (w.heap.size < (w.alloc (.cells (iv x).toArray 68)).heap.size) := Lib.hid (by simp)
  have HB0 := Lib.hid hb
  have HA0 := Lib.hid hA
  have hrf := hr
  obtain ⟨d, o, cap, ev, X, hat⟩ := hr
  have g2 := hat.c2
  obtain ⟨n, hn⟩ : ∃ n, m.ev.length = n := ⟨_, rfl⟩
  obtain ⟨EA, ecap0, rfl, _⟩ := hat.evs.shape
  rw [hn] at g2
  have HNE := Lib.hid hn
  have hsg := span_good hm hs s hsI
  have hspo := hsg.ok
  have hsps := hsg.small.mono (show 900 + 1 ≤ 1000 by omega)
  obtain ⟨mc, hmc⟩ : ∃ mc, callP m k a v s [a0, a1, a2, a3, a4, a5, a6, a7] = mc := ⟨_, rfl⟩
  rw [hmc] at HAP c1 hce
  have HCO := Lib.hid c1
  have HCE := Lib.hid hce
  have HMC := Lib.hid hmc
  have hn900 : n ≤ 900 := by rw [← hn]; exact hs.ev
  obtain ⟨OV, hOV⟩ : ∃ OV, iv x = OV := ⟨_, rfl⟩
  have HOV := Lib.hid hOV
  obtain ⟨AB, hAB⟩ : ∃ AB, appliesB m x = AB := ⟨_, rfl⟩
  have HAB := Lib.hid hAB
  rw [hOV] at e0 e1 e2 e3 r4 HBL HB0 HA0 hrf g2 hat ⊢
  rw [hAB]
  clear hAB
  have hs9 := hs.mono (show 900 ≤ 1000 by omega)
  clear h
  clear hx hxI hxe c2 c3 hce hb hA hat hOV hmc c1 HNG0 hsg hs hn
  by_cases q1 : k = 1
  · subst q1
    have hcm : (storeP (spanP m s) 1 a v).2 = mc := by rw [← HMC.out]; unfold callP; simp
    have HC1 := Lib.hid (rSet_any q s m G _ hrf)
    have HCM := Lib.hid hcm
    clear hrf hcm hm hs9 hv hsI
    go_enter Tryz.func81, Tryz.ntmps81
    go_wp2_with fail
    refine HC1.out.mono ?_
    rintro e w1 ⟨rfl, hst1⟩
    have b1 := hst1.2.block _ HBL.out HNG.out
    have f0 := (cell_of_block (w' := w1) (a := ⟨w.heap.size, 1, none⟩) b1).trans e1
    have f1 := (cell_of_block (w' := w1) (a := ⟨w.heap.size, 2, none⟩) b1).trans e2
    have HC2 := Lib.hid (rStore_any q a v (spanP m s) _ w1 hspo hsps ha hst1.1)
    have HS1 := Lib.hid hst1
    clear hst1 HC1 b1
    go_wp2_with fail
    refine HC2.out.mono ?_
    rintro e wA ⟨rfl, hst2⟩
    have hst3 := HS1.out.trans hst2
    rw [HCM.out] at hst3
    have HST := Lib.hid hst3
    clear hst2 hst3 HC2 HS1 e0 e1 e2 e3 r4 f0 f1 g2
    have HBX := Lib.hid (show Arr wA w.heap.size 68 OV from (HST.out.2.block w.heap.size HBL.out HNG.out).trans HA0.out)
    obtain ⟨d2, o2, cap2, ev2, X2, hat2⟩ := HST.out.1
    have f2 := hat2.c2
    obtain ⟨EA2, ecap, rfl, hec, hem, _⟩ := hat2.evs.shape
    have HFIN := Lib.hid (RStep.after (Kept.of_below HB0.out) HST.out)
    rcases HCE.out with hce | ⟨E, hce⟩
    · have hap : appliesB m x = false := by
        unfold appliesB
        rw [HAP.out, hce]
        exact decide_eq_false (fun h => by
          have := congrArg List.length h
          simp at this)
      obtain rfl := HAB.out.symm.trans hap
      rw [hce, HNE.out] at f2
      have hlen : ¬ (n : Int) = (n : Int) + 1 := by omega
      have hlb : ((n : Int) == (n : Int) + 1) = false := by rw [beq_eq_false_iff_ne]; omega
      clear hat2 hap hce HBX HST hec hem
      go_wp2_with fail
      go_quiet (fail)
      go_wp2_with fail
      go_ret
      exact ⟨rfl, by
        have := HFIN.out
        rw [← HAP.out] at this
        exact this.then_below (below_drewN (Below.refl _ _) _)⟩
    · have hap : appliesB m x = decide (E = x) := by
        unfold appliesB
        rw [HAP.out, hce]
        by_cases he : E = x
        · rw [he, decide_eq_true rfl, decide_eq_true rfl]
        · rw [decide_eq_false he, decide_eq_false]
          intro h
          exact he (by simpa using h)
      obtain rfl := HAB.out.symm.trans hap
      have hcl : mc.ev.length = n + 1 := by rw [hce, List.length_append, HNE.out]; rfl
      have hEo := HCO.out.evs E (by rw [hce]; simp)
      obtain ⟨hE12, hEI⟩ := hEo
      have hrd := Rd.of_sl hat2.evs
      rw [hcl] at f2 hec hrd
      obtain ⟨_, _, hv9, _, _, hrr⟩ := hrd
      simp only [Value.slice.injEq, true_and] at hv9
      obtain ⟨rfl, rfl⟩ := hv9
      obtain ⟨ed, eo, rfl, _, hsw⟩ := hrr (by omega)
      have hnl : n < mc.ev.length := by omega
      have hEn : mc.ev[n] = E := by
        have h1 : m.ev.length = n := HNE.out
        simp only [hce]
        rw [List.getElem_append_right (by omega)]
        simp [h1]
      have rE : wA.drew.rangeAt ed (eo + n * 12) (iv E) := by
        have := evLine (w := wA) (fun y hy => (HCO.out.evs y hy).1) hsw hnl
        rw [hEn] at this
        exact this
      have rX : wA.drew.rangeAt w.heap.size 0 (iv x) := by have := HBX.out.range; rw [← HOV.out] at this; exact this
      have fd : wA.drew.cell? ⟨q, 2, none⟩ = some (.slice (some ⟨ed, eo, none⟩) (n + 1) ecap) := f2
      have hiE : (Tryz.prog.info? 68).map (·.size) = some (iv E).length := by rw [size79, iv_len, hE12]
      have hiX : (Tryz.prog.info? 68).map (·.size) = some (iv x).length := by rw [size79, iv_len, HX12.out]
      have hu68 := Tryz.underlying68
      have HEQ := Lib.hid fun w => eq_event2 E x hE12 HX12.out hEI HXI.out w
      have hnI : (n : Int) < (n : Int) + 1 := by omega
      have hwr : IntKind.i64.wrap ((n : Int) + 1) = (n : Int) + 1 := by rw [i64_wraps]; omega
      have hec2 : n + 1 ≤ ecap := hec
      have hem2 : ecap ≤ 9223372036854775807 := by unfold maxLen at hem; omega
      clear hat2 hap hce hrr hsw hEn hnl hcl hE12 hEI HST HBX hem
      go_wp2_with fail
      refine wp_region_held_drew (S := fun W => W.cell? ⟨q, 2, none⟩ = some (.slice (some ⟨ed, eo, none⟩) (n + 1) ecap) ∧ W.rangeAt ed (eo + n * 12) (iv E) ∧ W.rangeAt w.heap.size 0 (iv x)) (by kernel_rfl) ⟨fd, rE, rX⟩ (fun hHeld => ?_)
      refine wpAnyH_take (i := 0) (v := .pointer (some ⟨q, 0, none⟩)) rfl (by kernel_rfl) (by kernel_rfl) (by kernel_rfl) (fun _ _ _ h => h) (Or.inl ⟨by rfl, fun w hSw => by obtain ⟨h1, h2, h3⟩ := hSw; go_simp⟩) (by assumption) ?_
      change wpAnyH _ _ _ _ _ _ _ (Act.put _ (some 73) _) _
      simp only [Act.put, List.setIfInBounds_toArray, List.set_cons_zero, List.set_cons_succ]
      refine wpAnyH_take (i := 1) (v := .pointer (some ⟨q, 0, none⟩)) rfl (by kernel_rfl) (by kernel_rfl) (by kernel_rfl) (fun _ _ _ h => h) (Or.inl ⟨by rfl, fun w hSw => by obtain ⟨h1, h2, h3⟩ := hSw; go_simp⟩) (by assumption) ?_
      change wpAnyH _ _ _ _ _ _ _ (Act.put _ (some 74) _) _
      simp only [Act.put, List.setIfInBounds_toArray, List.set_cons_zero, List.set_cons_succ]
      refine wpAnyH_take (i := 2) (v := .pointer (some ⟨q, 2, none⟩)) rfl (by kernel_rfl) (by kernel_rfl) (by kernel_rfl) (fun _ _ _ h => h) (Or.inl ⟨by rfl, fun w hSw => by obtain ⟨h1, h2, h3⟩ := hSw; go_simp⟩) (by assumption) ?_
      change wpAnyH _ _ _ _ _ _ _ (Act.put _ (some 75) _) _
      simp only [Act.put, List.setIfInBounds_toArray, List.set_cons_zero, List.set_cons_succ]
      refine wpAnyH_take (i := 3) (v := .slice (some ⟨ed, eo, none⟩) (n + 1) ecap) rfl (by kernel_rfl) (by kernel_rfl) (by kernel_rfl) (fun _ _ _ h => h) (Or.inl ⟨by rfl, fun w hSw => by obtain ⟨h1, h2, h3⟩ := hSw; go_simp⟩) (by assumption) ?_
      change wpAnyH _ _ _ _ _ _ _ (Act.put _ (some 76) _) _
      simp only [Act.put, List.setIfInBounds_toArray, List.set_cons_zero, List.set_cons_succ]
      refine wpAnyH_take (i := 4) (v := .int .i64 ((n : Int) + 1)) rfl (by kernel_rfl) (by kernel_rfl) (by kernel_rfl) (fun _ _ _ h => h) (Or.inl ⟨by rfl, fun w hSw => by obtain ⟨h1, h2, h3⟩ := hSw; go_simp⟩) (by assumption) ?_
      change wpAnyH _ _ _ _ _ _ _ (Act.put _ (some 77) _) _
      simp only [Act.put, List.setIfInBounds_toArray, List.set_cons_zero, List.set_cons_succ]
      refine wpAnyH_take (i := 5) (v := .int .i64 (n : Int)) rfl (by kernel_rfl) (by kernel_rfl) (by kernel_rfl) (fun _ _ _ h => h) (Or.inl ⟨by rfl, fun w hSw => by obtain ⟨h1, h2, h3⟩ := hSw; go_simp⟩) (by assumption) ?_
      change wpAnyH _ _ _ _ _ _ _ (Act.put _ (some 78) _) _
      simp only [Act.put, List.setIfInBounds_toArray, List.set_cons_zero, List.set_cons_succ]
      refine wpAnyH_take (i := 6) (v := .int .i64 ((n : Int) + 1)) rfl (by kernel_rfl) (by kernel_rfl) (by kernel_rfl) (fun _ _ _ h => h) (Or.inl ⟨by rfl, fun w hSw => by obtain ⟨h1, h2, h3⟩ := hSw; go_simp⟩) (by assumption) ?_
      change wpAnyH _ _ _ _ _ _ _ (Act.put _ (some 79) _) _
      simp only [Act.put, List.setIfInBounds_toArray, List.set_cons_zero, List.set_cons_succ]
      refine wpAnyH_take (i := 7) (v := .bool true) rfl (by kernel_rfl) (by kernel_rfl) (by kernel_rfl) (fun _ _ _ h => h) (Or.inl ⟨by rfl, fun w hSw => by obtain ⟨h1, h2, h3⟩ := hSw; go_simp⟩) (by assumption) ?_
      change wpAnyH _ _ _ _ _ _ _ (Act.put _ (some 80) _) _
      simp only [Act.put, List.setIfInBounds_toArray, List.set_cons_zero, List.set_cons_succ]
      refine wpAnyH_take (i := 8) (v := .bool true) rfl (by kernel_rfl) (by kernel_rfl) (by kernel_rfl) (fun _ _ _ h => h) (Or.inl ⟨by rfl, fun w hSw => by obtain ⟨h1, h2, h3⟩ := hSw; go_simp⟩) (by assumption) ?_
      change wpAnyH _ _ _ _ _ _ _ (Act.put _ (some 81) _) _
      simp only [Act.put, List.setIfInBounds_toArray, List.set_cons_zero, List.set_cons_succ]
      refine wpAnyH_take (i := 9) (v := .pointer (some ⟨q, 0, none⟩)) rfl (by kernel_rfl) (by kernel_rfl) (by kernel_rfl) (fun _ _ _ h => h) (Or.inl ⟨by rfl, fun w hSw => by obtain ⟨h1, h2, h3⟩ := hSw; go_simp⟩) (by assumption) ?_
      change wpAnyH _ _ _ _ _ _ _ (Act.put _ (some 82) _) _
      simp only [Act.put, List.setIfInBounds_toArray, List.set_cons_zero, List.set_cons_succ]
      refine wpAnyH_take (i := 10) (v := .pointer (some ⟨q, 0, none⟩)) rfl (by kernel_rfl) (by kernel_rfl) (by kernel_rfl) (fun _ _ _ h => h) (Or.inl ⟨by rfl, fun w hSw => by obtain ⟨h1, h2, h3⟩ := hSw; go_simp⟩) (by assumption) ?_
      change wpAnyH _ _ _ _ _ _ _ (Act.put _ (some 83) _) _
      simp only [Act.put, List.setIfInBounds_toArray, List.set_cons_zero, List.set_cons_succ]
      refine wpAnyH_take (i := 11) (v := .pointer (some ⟨q, 2, none⟩)) rfl (by kernel_rfl) (by kernel_rfl) (by kernel_rfl) (fun _ _ _ h => h) (Or.inl ⟨by rfl, fun w hSw => by obtain ⟨h1, h2, h3⟩ := hSw; go_simp⟩) (by assumption) ?_
      change wpAnyH _ _ _ _ _ _ _ (Act.put _ (some 84) _) _
      simp only [Act.put, List.setIfInBounds_toArray, List.set_cons_zero, List.set_cons_succ]
      refine wpAnyH_take (i := 12) (v := .slice (some ⟨ed, eo, none⟩) (n + 1) ecap) rfl (by kernel_rfl) (by kernel_rfl) (by kernel_rfl) (fun _ _ _ h => h) (Or.inl ⟨by rfl, fun w hSw => by obtain ⟨h1, h2, h3⟩ := hSw; go_simp⟩) (by assumption) ?_
      change wpAnyH _ _ _ _ _ _ _ (Act.put _ (some 85) _) _
      simp only [Act.put, List.setIfInBounds_toArray, List.set_cons_zero, List.set_cons_succ]
      refine wpAnyH_take (i := 13) (v := .int .i64 (n : Int)) rfl (by kernel_rfl) (by kernel_rfl) (by kernel_rfl) (fun _ _ _ h => h) (Or.inl ⟨by rfl, fun w hSw => by obtain ⟨h1, h2, h3⟩ := hSw; go_simp⟩) (by assumption) ?_
      change wpAnyH _ _ _ _ _ _ _ (Act.put _ (some 86) _) _
      simp only [Act.put, List.setIfInBounds_toArray, List.set_cons_zero, List.set_cons_succ]
      refine wpAnyH_take (i := 14) (v := .pointer (some ⟨ed, eo + n * 12, none⟩)) rfl (by kernel_rfl) (by kernel_rfl) (by kernel_rfl) (fun _ _ _ h => h) (Or.inl ⟨by rfl, fun w hSw => by obtain ⟨h1, h2, h3⟩ := hSw; go_simp⟩) (by assumption) ?_
      change wpAnyH _ _ _ _ _ _ _ (Act.put _ (some 87) _) _
      simp only [Act.put, List.setIfInBounds_toArray, List.set_cons_zero, List.set_cons_succ]
      refine wpAnyH_take (i := 15) (v := .agg (iv E).toArray) rfl (by kernel_rfl) (by kernel_rfl) (by kernel_rfl) (fun _ _ _ h => h) (yieldsIf_load_mid (by rfl) _ _ rfl _ _ rfl _ _ (fun w h => h.2.1) hu68 rfl hiE) (by assumption) ?_
      change wpAnyH _ _ _ _ _ _ _ (Act.put _ (some 88) _) _
      simp only [Act.put, List.setIfInBounds_toArray, List.set_cons_zero, List.set_cons_succ]
      refine wpAnyH_take (i := 16) (v := .agg (iv x).toArray) rfl (by kernel_rfl) (by kernel_rfl) (by kernel_rfl) (fun _ _ _ h => h) (yieldsIf_load_mid (by rfl) _ _ rfl _ _ rfl _ _ (fun w h => h.2.2) hu68 rfl hiX) (by assumption) ?_
      change wpAnyH _ _ _ _ _ _ _ (Act.put _ (some 89) _) _
      simp only [Act.put, List.setIfInBounds_toArray, List.set_cons_zero, List.set_cons_succ]
      refine wpAnyH_take (i := 17) (v := .bool (decide (E = x))) rfl (by kernel_rfl) (by kernel_rfl) (by kernel_rfl) (fun _ _ _ h => h) (Or.inl ⟨by rfl, fun w hSw => exec_eql _ _ 68 _ _ _ _ _ _ w rfl rfl rfl (by kernel_rfl) (HEQ.out w)⟩) (by assumption) ?_
      change wpAnyH _ _ _ _ _ _ _ (Act.put _ (some 90) _) _
      simp only [Act.put, List.setIfInBounds_toArray, List.set_cons_zero, List.set_cons_succ]
      refine wpAnyH_take (i := 18) (v := .bool (decide (E = x))) rfl (by kernel_rfl) (by kernel_rfl) (by kernel_rfl) (fun _ _ _ h => h) (Or.inl ⟨by rfl, fun w hSw => by obtain ⟨h1, h2, h3⟩ := hSw; go_simp⟩) (by assumption) ?_
      change wpAnyH _ _ _ _ _ _ _ (Act.put _ (some 91) _) _
      simp only [Act.put, List.setIfInBounds_toArray, List.set_cons_zero, List.set_cons_succ]
      refine wpAnyH_take (i := 19) (v := .bool (decide (E = x))) rfl (by kernel_rfl) (by kernel_rfl) (by kernel_rfl) (fun _ _ _ h => h) (Or.inl ⟨by rfl, fun w hSw => by obtain ⟨h1, h2, h3⟩ := hSw; go_simp⟩) (by assumption) ?_
      change wpAnyH _ _ _ _ _ _ _ (Act.put _ (some 4) _) _
      simp only [Act.put, List.setIfInBounds_toArray, List.set_cons_zero, List.set_cons_succ]
      refine wpAnyH_done (by kernel_rfl) ?_ _
      go_wp2_with fail
      go_ret
      exact ⟨rfl, by
        have := HFIN.out
        rw [← HAP.out] at this
        exact this.then_below (bel_drew _)⟩
  by_cases q2 : k = 2
  · subst q2
    have hcm : (storeP (spanP m s) 2 a v).2 = mc := by rw [← HMC.out]; unfold callP; simp
    have HC1 := Lib.hid (rSet_any q s m G _ hrf)
    have HCM := Lib.hid hcm
    clear hrf hcm hm hs9 hv hsI
    go_enter Tryz.func81, Tryz.ntmps81
    go_wp2_with fail
    refine HC1.out.mono ?_
    rintro e w1 ⟨rfl, hst1⟩
    have b1 := hst1.2.block _ HBL.out HNG.out
    have f0 := (cell_of_block (w' := w1) (a := ⟨w.heap.size, 1, none⟩) b1).trans e1
    have f1 := (cell_of_block (w' := w1) (a := ⟨w.heap.size, 2, none⟩) b1).trans e2
    have HC2 := Lib.hid (rPublish_any q a v (spanP m s) _ w1 hspo hsps ha hst1.1)
    have HS1 := Lib.hid hst1
    clear hst1 HC1 b1
    go_wp2_with fail
    refine HC2.out.mono ?_
    rintro e wA ⟨rfl, hst2⟩
    have hst3 := HS1.out.trans hst2
    rw [HCM.out] at hst3
    have HST := Lib.hid hst3
    clear hst2 hst3 HC2 HS1 e0 e1 e2 e3 r4 f0 f1 g2
    have HBX := Lib.hid (show Arr wA w.heap.size 68 OV from (HST.out.2.block w.heap.size HBL.out HNG.out).trans HA0.out)
    obtain ⟨d2, o2, cap2, ev2, X2, hat2⟩ := HST.out.1
    have f2 := hat2.c2
    obtain ⟨EA2, ecap, rfl, hec, hem, _⟩ := hat2.evs.shape
    have HFIN := Lib.hid (RStep.after (Kept.of_below HB0.out) HST.out)
    rcases HCE.out with hce | ⟨E, hce⟩
    · have hap : appliesB m x = false := by
        unfold appliesB
        rw [HAP.out, hce]
        exact decide_eq_false (fun h => by
          have := congrArg List.length h
          simp at this)
      obtain rfl := HAB.out.symm.trans hap
      rw [hce, HNE.out] at f2
      have hlen : ¬ (n : Int) = (n : Int) + 1 := by omega
      have hlb : ((n : Int) == (n : Int) + 1) = false := by rw [beq_eq_false_iff_ne]; omega
      clear hat2 hap hce HBX HST hec hem
      go_wp2_with fail
      go_quiet (fail)
      go_wp2_with fail
      go_ret
      exact ⟨rfl, by
        have := HFIN.out
        rw [← HAP.out] at this
        exact this.then_below (below_drewN (Below.refl _ _) _)⟩
    · have hap : appliesB m x = decide (E = x) := by
        unfold appliesB
        rw [HAP.out, hce]
        by_cases he : E = x
        · rw [he, decide_eq_true rfl, decide_eq_true rfl]
        · rw [decide_eq_false he, decide_eq_false]
          intro h
          exact he (by simpa using h)
      obtain rfl := HAB.out.symm.trans hap
      have hcl : mc.ev.length = n + 1 := by rw [hce, List.length_append, HNE.out]; rfl
      have hEo := HCO.out.evs E (by rw [hce]; simp)
      obtain ⟨hE12, hEI⟩ := hEo
      have hrd := Rd.of_sl hat2.evs
      rw [hcl] at f2 hec hrd
      obtain ⟨_, _, hv9, _, _, hrr⟩ := hrd
      simp only [Value.slice.injEq, true_and] at hv9
      obtain ⟨rfl, rfl⟩ := hv9
      obtain ⟨ed, eo, rfl, _, hsw⟩ := hrr (by omega)
      have hnl : n < mc.ev.length := by omega
      have hEn : mc.ev[n] = E := by
        have h1 : m.ev.length = n := HNE.out
        simp only [hce]
        rw [List.getElem_append_right (by omega)]
        simp [h1]
      have rE : wA.drew.rangeAt ed (eo + n * 12) (iv E) := by
        have := evLine (w := wA) (fun y hy => (HCO.out.evs y hy).1) hsw hnl
        rw [hEn] at this
        exact this
      have rX : wA.drew.rangeAt w.heap.size 0 (iv x) := by have := HBX.out.range; rw [← HOV.out] at this; exact this
      have fd : wA.drew.cell? ⟨q, 2, none⟩ = some (.slice (some ⟨ed, eo, none⟩) (n + 1) ecap) := f2
      have hiE : (Tryz.prog.info? 68).map (·.size) = some (iv E).length := by rw [size79, iv_len, hE12]
      have hiX : (Tryz.prog.info? 68).map (·.size) = some (iv x).length := by rw [size79, iv_len, HX12.out]
      have hu68 := Tryz.underlying68
      have HEQ := Lib.hid fun w => eq_event2 E x hE12 HX12.out hEI HXI.out w
      have hnI : (n : Int) < (n : Int) + 1 := by omega
      have hwr : IntKind.i64.wrap ((n : Int) + 1) = (n : Int) + 1 := by rw [i64_wraps]; omega
      have hec2 : n + 1 ≤ ecap := hec
      have hem2 : ecap ≤ 9223372036854775807 := by unfold maxLen at hem; omega
      clear hat2 hap hce hrr hsw hEn hnl hcl hE12 hEI HST HBX hem
      go_wp2_with fail
      refine wp_region_held_drew (S := fun W => W.cell? ⟨q, 2, none⟩ = some (.slice (some ⟨ed, eo, none⟩) (n + 1) ecap) ∧ W.rangeAt ed (eo + n * 12) (iv E) ∧ W.rangeAt w.heap.size 0 (iv x)) (by kernel_rfl) ⟨fd, rE, rX⟩ (fun hHeld => ?_)
      refine wpAnyH_take (i := 0) (v := .pointer (some ⟨q, 0, none⟩)) rfl (by kernel_rfl) (by kernel_rfl) (by kernel_rfl) (fun _ _ _ h => h) (Or.inl ⟨by rfl, fun w hSw => by obtain ⟨h1, h2, h3⟩ := hSw; go_simp⟩) (by assumption) ?_
      change wpAnyH _ _ _ _ _ _ _ (Act.put _ (some 73) _) _
      simp only [Act.put, List.setIfInBounds_toArray, List.set_cons_zero, List.set_cons_succ]
      refine wpAnyH_take (i := 1) (v := .pointer (some ⟨q, 0, none⟩)) rfl (by kernel_rfl) (by kernel_rfl) (by kernel_rfl) (fun _ _ _ h => h) (Or.inl ⟨by rfl, fun w hSw => by obtain ⟨h1, h2, h3⟩ := hSw; go_simp⟩) (by assumption) ?_
      change wpAnyH _ _ _ _ _ _ _ (Act.put _ (some 74) _) _
      simp only [Act.put, List.setIfInBounds_toArray, List.set_cons_zero, List.set_cons_succ]
      refine wpAnyH_take (i := 2) (v := .pointer (some ⟨q, 2, none⟩)) rfl (by kernel_rfl) (by kernel_rfl) (by kernel_rfl) (fun _ _ _ h => h) (Or.inl ⟨by rfl, fun w hSw => by obtain ⟨h1, h2, h3⟩ := hSw; go_simp⟩) (by assumption) ?_
      change wpAnyH _ _ _ _ _ _ _ (Act.put _ (some 75) _) _
      simp only [Act.put, List.setIfInBounds_toArray, List.set_cons_zero, List.set_cons_succ]
      refine wpAnyH_take (i := 3) (v := .slice (some ⟨ed, eo, none⟩) (n + 1) ecap) rfl (by kernel_rfl) (by kernel_rfl) (by kernel_rfl) (fun _ _ _ h => h) (Or.inl ⟨by rfl, fun w hSw => by obtain ⟨h1, h2, h3⟩ := hSw; go_simp⟩) (by assumption) ?_
      change wpAnyH _ _ _ _ _ _ _ (Act.put _ (some 76) _) _
      simp only [Act.put, List.setIfInBounds_toArray, List.set_cons_zero, List.set_cons_succ]
      refine wpAnyH_take (i := 4) (v := .int .i64 ((n : Int) + 1)) rfl (by kernel_rfl) (by kernel_rfl) (by kernel_rfl) (fun _ _ _ h => h) (Or.inl ⟨by rfl, fun w hSw => by obtain ⟨h1, h2, h3⟩ := hSw; go_simp⟩) (by assumption) ?_
      change wpAnyH _ _ _ _ _ _ _ (Act.put _ (some 77) _) _
      simp only [Act.put, List.setIfInBounds_toArray, List.set_cons_zero, List.set_cons_succ]
      refine wpAnyH_take (i := 5) (v := .int .i64 (n : Int)) rfl (by kernel_rfl) (by kernel_rfl) (by kernel_rfl) (fun _ _ _ h => h) (Or.inl ⟨by rfl, fun w hSw => by obtain ⟨h1, h2, h3⟩ := hSw; go_simp⟩) (by assumption) ?_
      change wpAnyH _ _ _ _ _ _ _ (Act.put _ (some 78) _) _
      simp only [Act.put, List.setIfInBounds_toArray, List.set_cons_zero, List.set_cons_succ]
      refine wpAnyH_take (i := 6) (v := .int .i64 ((n : Int) + 1)) rfl (by kernel_rfl) (by kernel_rfl) (by kernel_rfl) (fun _ _ _ h => h) (Or.inl ⟨by rfl, fun w hSw => by obtain ⟨h1, h2, h3⟩ := hSw; go_simp⟩) (by assumption) ?_
      change wpAnyH _ _ _ _ _ _ _ (Act.put _ (some 79) _) _
      simp only [Act.put, List.setIfInBounds_toArray, List.set_cons_zero, List.set_cons_succ]
      refine wpAnyH_take (i := 7) (v := .bool true) rfl (by kernel_rfl) (by kernel_rfl) (by kernel_rfl) (fun _ _ _ h => h) (Or.inl ⟨by rfl, fun w hSw => by obtain ⟨h1, h2, h3⟩ := hSw; go_simp⟩) (by assumption) ?_
      change wpAnyH _ _ _ _ _ _ _ (Act.put _ (some 80) _) _
      simp only [Act.put, List.setIfInBounds_toArray, List.set_cons_zero, List.set_cons_succ]
      refine wpAnyH_take (i := 8) (v := .bool true) rfl (by kernel_rfl) (by kernel_rfl) (by kernel_rfl) (fun _ _ _ h => h) (Or.inl ⟨by rfl, fun w hSw => by obtain ⟨h1, h2, h3⟩ := hSw; go_simp⟩) (by assumption) ?_
      change wpAnyH _ _ _ _ _ _ _ (Act.put _ (some 81) _) _
      simp only [Act.put, List.setIfInBounds_toArray, List.set_cons_zero, List.set_cons_succ]
      refine wpAnyH_take (i := 9) (v := .pointer (some ⟨q, 0, none⟩)) rfl (by kernel_rfl) (by kernel_rfl) (by kernel_rfl) (fun _ _ _ h => h) (Or.inl ⟨by rfl, fun w hSw => by obtain ⟨h1, h2, h3⟩ := hSw; go_simp⟩) (by assumption) ?_
      change wpAnyH _ _ _ _ _ _ _ (Act.put _ (some 82) _) _
      simp only [Act.put, List.setIfInBounds_toArray, List.set_cons_zero, List.set_cons_succ]
      refine wpAnyH_take (i := 10) (v := .pointer (some ⟨q, 0, none⟩)) rfl (by kernel_rfl) (by kernel_rfl) (by kernel_rfl) (fun _ _ _ h => h) (Or.inl ⟨by rfl, fun w hSw => by obtain ⟨h1, h2, h3⟩ := hSw; go_simp⟩) (by assumption) ?_
      change wpAnyH _ _ _ _ _ _ _ (Act.put _ (some 83) _) _
      simp only [Act.put, List.setIfInBounds_toArray, List.set_cons_zero, List.set_cons_succ]
      refine wpAnyH_take (i := 11) (v := .pointer (some ⟨q, 2, none⟩)) rfl (by kernel_rfl) (by kernel_rfl) (by kernel_rfl) (fun _ _ _ h => h) (Or.inl ⟨by rfl, fun w hSw => by obtain ⟨h1, h2, h3⟩ := hSw; go_simp⟩) (by assumption) ?_
      change wpAnyH _ _ _ _ _ _ _ (Act.put _ (some 84) _) _
      simp only [Act.put, List.setIfInBounds_toArray, List.set_cons_zero, List.set_cons_succ]
      refine wpAnyH_take (i := 12) (v := .slice (some ⟨ed, eo, none⟩) (n + 1) ecap) rfl (by kernel_rfl) (by kernel_rfl) (by kernel_rfl) (fun _ _ _ h => h) (Or.inl ⟨by rfl, fun w hSw => by obtain ⟨h1, h2, h3⟩ := hSw; go_simp⟩) (by assumption) ?_
      change wpAnyH _ _ _ _ _ _ _ (Act.put _ (some 85) _) _
      simp only [Act.put, List.setIfInBounds_toArray, List.set_cons_zero, List.set_cons_succ]
      refine wpAnyH_take (i := 13) (v := .int .i64 (n : Int)) rfl (by kernel_rfl) (by kernel_rfl) (by kernel_rfl) (fun _ _ _ h => h) (Or.inl ⟨by rfl, fun w hSw => by obtain ⟨h1, h2, h3⟩ := hSw; go_simp⟩) (by assumption) ?_
      change wpAnyH _ _ _ _ _ _ _ (Act.put _ (some 86) _) _
      simp only [Act.put, List.setIfInBounds_toArray, List.set_cons_zero, List.set_cons_succ]
      refine wpAnyH_take (i := 14) (v := .pointer (some ⟨ed, eo + n * 12, none⟩)) rfl (by kernel_rfl) (by kernel_rfl) (by kernel_rfl) (fun _ _ _ h => h) (Or.inl ⟨by rfl, fun w hSw => by obtain ⟨h1, h2, h3⟩ := hSw; go_simp⟩) (by assumption) ?_
      change wpAnyH _ _ _ _ _ _ _ (Act.put _ (some 87) _) _
      simp only [Act.put, List.setIfInBounds_toArray, List.set_cons_zero, List.set_cons_succ]
      refine wpAnyH_take (i := 15) (v := .agg (iv E).toArray) rfl (by kernel_rfl) (by kernel_rfl) (by kernel_rfl) (fun _ _ _ h => h) (yieldsIf_load_mid (by rfl) _ _ rfl _ _ rfl _ _ (fun w h => h.2.1) hu68 rfl hiE) (by assumption) ?_
      change wpAnyH _ _ _ _ _ _ _ (Act.put _ (some 88) _) _
      simp only [Act.put, List.setIfInBounds_toArray, List.set_cons_zero, List.set_cons_succ]
      refine wpAnyH_take (i := 16) (v := .agg (iv x).toArray) rfl (by kernel_rfl) (by kernel_rfl) (by kernel_rfl) (fun _ _ _ h => h) (yieldsIf_load_mid (by rfl) _ _ rfl _ _ rfl _ _ (fun w h => h.2.2) hu68 rfl hiX) (by assumption) ?_
      change wpAnyH _ _ _ _ _ _ _ (Act.put _ (some 89) _) _
      simp only [Act.put, List.setIfInBounds_toArray, List.set_cons_zero, List.set_cons_succ]
      refine wpAnyH_take (i := 17) (v := .bool (decide (E = x))) rfl (by kernel_rfl) (by kernel_rfl) (by kernel_rfl) (fun _ _ _ h => h) (Or.inl ⟨by rfl, fun w hSw => exec_eql _ _ 68 _ _ _ _ _ _ w rfl rfl rfl (by kernel_rfl) (HEQ.out w)⟩) (by assumption) ?_
      change wpAnyH _ _ _ _ _ _ _ (Act.put _ (some 90) _) _
      simp only [Act.put, List.setIfInBounds_toArray, List.set_cons_zero, List.set_cons_succ]
      refine wpAnyH_take (i := 18) (v := .bool (decide (E = x))) rfl (by kernel_rfl) (by kernel_rfl) (by kernel_rfl) (fun _ _ _ h => h) (Or.inl ⟨by rfl, fun w hSw => by obtain ⟨h1, h2, h3⟩ := hSw; go_simp⟩) (by assumption) ?_
      change wpAnyH _ _ _ _ _ _ _ (Act.put _ (some 91) _) _
      simp only [Act.put, List.setIfInBounds_toArray, List.set_cons_zero, List.set_cons_succ]
      refine wpAnyH_take (i := 19) (v := .bool (decide (E = x))) rfl (by kernel_rfl) (by kernel_rfl) (by kernel_rfl) (fun _ _ _ h => h) (Or.inl ⟨by rfl, fun w hSw => by obtain ⟨h1, h2, h3⟩ := hSw; go_simp⟩) (by assumption) ?_
      change wpAnyH _ _ _ _ _ _ _ (Act.put _ (some 4) _) _
      simp only [Act.put, List.setIfInBounds_toArray, List.set_cons_zero, List.set_cons_succ]
      refine wpAnyH_done (by kernel_rfl) ?_ _
      go_wp2_with fail
      go_ret
      exact ⟨rfl, by
        have := HFIN.out
        rw [← HAP.out] at this
        exact this.then_below (bel_drew _)⟩
  by_cases q3 : k = 3
  · subst q3
    have hcm : (rec_ (flushP m a) (evt 3 a 0 0 Z8)).2 = mc := by rw [← HMC.out]; unfold callP; simp
    have HC1 := Lib.hid (rFlush_any q a m G _ hm hs9 hrf)
    have HCM := Lib.hid hcm
    clear hrf hcm hm hs9 hv hsI ha hspo hsps
    go_enter Tryz.func81, Tryz.ntmps81
    go_wp2_with fail
    refine HC1.out.mono ?_
    rintro e wA ⟨rfl, hst3⟩
    rw [HCM.out] at hst3
    have HST := Lib.hid hst3
    clear hst3 HC1 e0 e1 e2 e3 r4 g2
    have HBX := Lib.hid (show Arr wA w.heap.size 68 OV from (HST.out.2.block w.heap.size HBL.out HNG.out).trans HA0.out)
    obtain ⟨d2, o2, cap2, ev2, X2, hat2⟩ := HST.out.1
    have f2 := hat2.c2
    obtain ⟨EA2, ecap, rfl, hec, hem, _⟩ := hat2.evs.shape
    have HFIN := Lib.hid (RStep.after (Kept.of_below HB0.out) HST.out)
    rcases HCE.out with hce | ⟨E, hce⟩
    · have hap : appliesB m x = false := by
        unfold appliesB
        rw [HAP.out, hce]
        exact decide_eq_false (fun h => by
          have := congrArg List.length h
          simp at this)
      obtain rfl := HAB.out.symm.trans hap
      rw [hce, HNE.out] at f2
      have hlen : ¬ (n : Int) = (n : Int) + 1 := by omega
      have hlb : ((n : Int) == (n : Int) + 1) = false := by rw [beq_eq_false_iff_ne]; omega
      clear hat2 hap hce HBX HST hec hem
      go_wp2_with fail
      go_quiet (fail)
      go_wp2_with fail
      go_ret
      exact ⟨rfl, by
        have := HFIN.out
        rw [← HAP.out] at this
        exact this.then_below (below_drewN (Below.refl _ _) _)⟩
    · have hap : appliesB m x = decide (E = x) := by
        unfold appliesB
        rw [HAP.out, hce]
        by_cases he : E = x
        · rw [he, decide_eq_true rfl, decide_eq_true rfl]
        · rw [decide_eq_false he, decide_eq_false]
          intro h
          exact he (by simpa using h)
      obtain rfl := HAB.out.symm.trans hap
      have hcl : mc.ev.length = n + 1 := by rw [hce, List.length_append, HNE.out]; rfl
      have hEo := HCO.out.evs E (by rw [hce]; simp)
      obtain ⟨hE12, hEI⟩ := hEo
      have hrd := Rd.of_sl hat2.evs
      rw [hcl] at f2 hec hrd
      obtain ⟨_, _, hv9, _, _, hrr⟩ := hrd
      simp only [Value.slice.injEq, true_and] at hv9
      obtain ⟨rfl, rfl⟩ := hv9
      obtain ⟨ed, eo, rfl, _, hsw⟩ := hrr (by omega)
      have hnl : n < mc.ev.length := by omega
      have hEn : mc.ev[n] = E := by
        have h1 : m.ev.length = n := HNE.out
        simp only [hce]
        rw [List.getElem_append_right (by omega)]
        simp [h1]
      have rE : wA.drew.rangeAt ed (eo + n * 12) (iv E) := by
        have := evLine (w := wA) (fun y hy => (HCO.out.evs y hy).1) hsw hnl
        rw [hEn] at this
        exact this
      have rX : wA.drew.rangeAt w.heap.size 0 (iv x) := by have := HBX.out.range; rw [← HOV.out] at this; exact this
      have fd : wA.drew.cell? ⟨q, 2, none⟩ = some (.slice (some ⟨ed, eo, none⟩) (n + 1) ecap) := f2
      have hiE : (Tryz.prog.info? 68).map (·.size) = some (iv E).length := by rw [size79, iv_len, hE12]
      have hiX : (Tryz.prog.info? 68).map (·.size) = some (iv x).length := by rw [size79, iv_len, HX12.out]
      have hu68 := Tryz.underlying68
      have HEQ := Lib.hid fun w => eq_event2 E x hE12 HX12.out hEI HXI.out w
      have hnI : (n : Int) < (n : Int) + 1 := by omega
      have hwr : IntKind.i64.wrap ((n : Int) + 1) = (n : Int) + 1 := by rw [i64_wraps]; omega
      have hec2 : n + 1 ≤ ecap := hec
      have hem2 : ecap ≤ 9223372036854775807 := by unfold maxLen at hem; omega
      clear hat2 hap hce hrr hsw hEn hnl hcl hE12 hEI HST HBX hem
      go_wp2_with fail
      refine wp_region_held_drew (S := fun W => W.cell? ⟨q, 2, none⟩ = some (.slice (some ⟨ed, eo, none⟩) (n + 1) ecap) ∧ W.rangeAt ed (eo + n * 12) (iv E) ∧ W.rangeAt w.heap.size 0 (iv x)) (by kernel_rfl) ⟨fd, rE, rX⟩ (fun hHeld => ?_)
      refine wpAnyH_take (i := 0) (v := .pointer (some ⟨q, 0, none⟩)) rfl (by kernel_rfl) (by kernel_rfl) (by kernel_rfl) (fun _ _ _ h => h) (Or.inl ⟨by rfl, fun w hSw => by obtain ⟨h1, h2, h3⟩ := hSw; go_simp⟩) (by assumption) ?_
      change wpAnyH _ _ _ _ _ _ _ (Act.put _ (some 73) _) _
      simp only [Act.put, List.setIfInBounds_toArray, List.set_cons_zero, List.set_cons_succ]
      refine wpAnyH_take (i := 1) (v := .pointer (some ⟨q, 0, none⟩)) rfl (by kernel_rfl) (by kernel_rfl) (by kernel_rfl) (fun _ _ _ h => h) (Or.inl ⟨by rfl, fun w hSw => by obtain ⟨h1, h2, h3⟩ := hSw; go_simp⟩) (by assumption) ?_
      change wpAnyH _ _ _ _ _ _ _ (Act.put _ (some 74) _) _
      simp only [Act.put, List.setIfInBounds_toArray, List.set_cons_zero, List.set_cons_succ]
      refine wpAnyH_take (i := 2) (v := .pointer (some ⟨q, 2, none⟩)) rfl (by kernel_rfl) (by kernel_rfl) (by kernel_rfl) (fun _ _ _ h => h) (Or.inl ⟨by rfl, fun w hSw => by obtain ⟨h1, h2, h3⟩ := hSw; go_simp⟩) (by assumption) ?_
      change wpAnyH _ _ _ _ _ _ _ (Act.put _ (some 75) _) _
      simp only [Act.put, List.setIfInBounds_toArray, List.set_cons_zero, List.set_cons_succ]
      refine wpAnyH_take (i := 3) (v := .slice (some ⟨ed, eo, none⟩) (n + 1) ecap) rfl (by kernel_rfl) (by kernel_rfl) (by kernel_rfl) (fun _ _ _ h => h) (Or.inl ⟨by rfl, fun w hSw => by obtain ⟨h1, h2, h3⟩ := hSw; go_simp⟩) (by assumption) ?_
      change wpAnyH _ _ _ _ _ _ _ (Act.put _ (some 76) _) _
      simp only [Act.put, List.setIfInBounds_toArray, List.set_cons_zero, List.set_cons_succ]
      refine wpAnyH_take (i := 4) (v := .int .i64 ((n : Int) + 1)) rfl (by kernel_rfl) (by kernel_rfl) (by kernel_rfl) (fun _ _ _ h => h) (Or.inl ⟨by rfl, fun w hSw => by obtain ⟨h1, h2, h3⟩ := hSw; go_simp⟩) (by assumption) ?_
      change wpAnyH _ _ _ _ _ _ _ (Act.put _ (some 77) _) _
      simp only [Act.put, List.setIfInBounds_toArray, List.set_cons_zero, List.set_cons_succ]
      refine wpAnyH_take (i := 5) (v := .int .i64 (n : Int)) rfl (by kernel_rfl) (by kernel_rfl) (by kernel_rfl) (fun _ _ _ h => h) (Or.inl ⟨by rfl, fun w hSw => by obtain ⟨h1, h2, h3⟩ := hSw; go_simp⟩) (by assumption) ?_
      change wpAnyH _ _ _ _ _ _ _ (Act.put _ (some 78) _) _
      simp only [Act.put, List.setIfInBounds_toArray, List.set_cons_zero, List.set_cons_succ]
      refine wpAnyH_take (i := 6) (v := .int .i64 ((n : Int) + 1)) rfl (by kernel_rfl) (by kernel_rfl) (by kernel_rfl) (fun _ _ _ h => h) (Or.inl ⟨by rfl, fun w hSw => by obtain ⟨h1, h2, h3⟩ := hSw; go_simp⟩) (by assumption) ?_
      change wpAnyH _ _ _ _ _ _ _ (Act.put _ (some 79) _) _
      simp only [Act.put, List.setIfInBounds_toArray, List.set_cons_zero, List.set_cons_succ]
      refine wpAnyH_take (i := 7) (v := .bool true) rfl (by kernel_rfl) (by kernel_rfl) (by kernel_rfl) (fun _ _ _ h => h) (Or.inl ⟨by rfl, fun w hSw => by obtain ⟨h1, h2, h3⟩ := hSw; go_simp⟩) (by assumption) ?_
      change wpAnyH _ _ _ _ _ _ _ (Act.put _ (some 80) _) _
      simp only [Act.put, List.setIfInBounds_toArray, List.set_cons_zero, List.set_cons_succ]
      refine wpAnyH_take (i := 8) (v := .bool true) rfl (by kernel_rfl) (by kernel_rfl) (by kernel_rfl) (fun _ _ _ h => h) (Or.inl ⟨by rfl, fun w hSw => by obtain ⟨h1, h2, h3⟩ := hSw; go_simp⟩) (by assumption) ?_
      change wpAnyH _ _ _ _ _ _ _ (Act.put _ (some 81) _) _
      simp only [Act.put, List.setIfInBounds_toArray, List.set_cons_zero, List.set_cons_succ]
      refine wpAnyH_take (i := 9) (v := .pointer (some ⟨q, 0, none⟩)) rfl (by kernel_rfl) (by kernel_rfl) (by kernel_rfl) (fun _ _ _ h => h) (Or.inl ⟨by rfl, fun w hSw => by obtain ⟨h1, h2, h3⟩ := hSw; go_simp⟩) (by assumption) ?_
      change wpAnyH _ _ _ _ _ _ _ (Act.put _ (some 82) _) _
      simp only [Act.put, List.setIfInBounds_toArray, List.set_cons_zero, List.set_cons_succ]
      refine wpAnyH_take (i := 10) (v := .pointer (some ⟨q, 0, none⟩)) rfl (by kernel_rfl) (by kernel_rfl) (by kernel_rfl) (fun _ _ _ h => h) (Or.inl ⟨by rfl, fun w hSw => by obtain ⟨h1, h2, h3⟩ := hSw; go_simp⟩) (by assumption) ?_
      change wpAnyH _ _ _ _ _ _ _ (Act.put _ (some 83) _) _
      simp only [Act.put, List.setIfInBounds_toArray, List.set_cons_zero, List.set_cons_succ]
      refine wpAnyH_take (i := 11) (v := .pointer (some ⟨q, 2, none⟩)) rfl (by kernel_rfl) (by kernel_rfl) (by kernel_rfl) (fun _ _ _ h => h) (Or.inl ⟨by rfl, fun w hSw => by obtain ⟨h1, h2, h3⟩ := hSw; go_simp⟩) (by assumption) ?_
      change wpAnyH _ _ _ _ _ _ _ (Act.put _ (some 84) _) _
      simp only [Act.put, List.setIfInBounds_toArray, List.set_cons_zero, List.set_cons_succ]
      refine wpAnyH_take (i := 12) (v := .slice (some ⟨ed, eo, none⟩) (n + 1) ecap) rfl (by kernel_rfl) (by kernel_rfl) (by kernel_rfl) (fun _ _ _ h => h) (Or.inl ⟨by rfl, fun w hSw => by obtain ⟨h1, h2, h3⟩ := hSw; go_simp⟩) (by assumption) ?_
      change wpAnyH _ _ _ _ _ _ _ (Act.put _ (some 85) _) _
      simp only [Act.put, List.setIfInBounds_toArray, List.set_cons_zero, List.set_cons_succ]
      refine wpAnyH_take (i := 13) (v := .int .i64 (n : Int)) rfl (by kernel_rfl) (by kernel_rfl) (by kernel_rfl) (fun _ _ _ h => h) (Or.inl ⟨by rfl, fun w hSw => by obtain ⟨h1, h2, h3⟩ := hSw; go_simp⟩) (by assumption) ?_
      change wpAnyH _ _ _ _ _ _ _ (Act.put _ (some 86) _) _
      simp only [Act.put, List.setIfInBounds_toArray, List.set_cons_zero, List.set_cons_succ]
      refine wpAnyH_take (i := 14) (v := .pointer (some ⟨ed, eo + n * 12, none⟩)) rfl (by kernel_rfl) (by kernel_rfl) (by kernel_rfl) (fun _ _ _ h => h) (Or.inl ⟨by rfl, fun w hSw => by obtain ⟨h1, h2, h3⟩ := hSw; go_simp⟩) (by assumption) ?_
      change wpAnyH _ _ _ _ _ _ _ (Act.put _ (some 87) _) _
      simp only [Act.put, List.setIfInBounds_toArray, List.set_cons_zero, List.set_cons_succ]
      refine wpAnyH_take (i := 15) (v := .agg (iv E).toArray) rfl (by kernel_rfl) (by kernel_rfl) (by kernel_rfl) (fun _ _ _ h => h) (yieldsIf_load_mid (by rfl) _ _ rfl _ _ rfl _ _ (fun w h => h.2.1) hu68 rfl hiE) (by assumption) ?_
      change wpAnyH _ _ _ _ _ _ _ (Act.put _ (some 88) _) _
      simp only [Act.put, List.setIfInBounds_toArray, List.set_cons_zero, List.set_cons_succ]
      refine wpAnyH_take (i := 16) (v := .agg (iv x).toArray) rfl (by kernel_rfl) (by kernel_rfl) (by kernel_rfl) (fun _ _ _ h => h) (yieldsIf_load_mid (by rfl) _ _ rfl _ _ rfl _ _ (fun w h => h.2.2) hu68 rfl hiX) (by assumption) ?_
      change wpAnyH _ _ _ _ _ _ _ (Act.put _ (some 89) _) _
      simp only [Act.put, List.setIfInBounds_toArray, List.set_cons_zero, List.set_cons_succ]
      refine wpAnyH_take (i := 17) (v := .bool (decide (E = x))) rfl (by kernel_rfl) (by kernel_rfl) (by kernel_rfl) (fun _ _ _ h => h) (Or.inl ⟨by rfl, fun w hSw => exec_eql _ _ 68 _ _ _ _ _ _ w rfl rfl rfl (by kernel_rfl) (HEQ.out w)⟩) (by assumption) ?_
      change wpAnyH _ _ _ _ _ _ _ (Act.put _ (some 90) _) _
      simp only [Act.put, List.setIfInBounds_toArray, List.set_cons_zero, List.set_cons_succ]
      refine wpAnyH_take (i := 18) (v := .bool (decide (E = x))) rfl (by kernel_rfl) (by kernel_rfl) (by kernel_rfl) (fun _ _ _ h => h) (Or.inl ⟨by rfl, fun w hSw => by obtain ⟨h1, h2, h3⟩ := hSw; go_simp⟩) (by assumption) ?_
      change wpAnyH _ _ _ _ _ _ _ (Act.put _ (some 91) _) _
      simp only [Act.put, List.setIfInBounds_toArray, List.set_cons_zero, List.set_cons_succ]
      refine wpAnyH_take (i := 19) (v := .bool (decide (E = x))) rfl (by kernel_rfl) (by kernel_rfl) (by kernel_rfl) (fun _ _ _ h => h) (Or.inl ⟨by rfl, fun w hSw => by obtain ⟨h1, h2, h3⟩ := hSw; go_simp⟩) (by assumption) ?_
      change wpAnyH _ _ _ _ _ _ _ (Act.put _ (some 4) _) _
      simp only [Act.put, List.setIfInBounds_toArray, List.set_cons_zero, List.set_cons_succ]
      refine wpAnyH_done (by kernel_rfl) ?_ _
      go_wp2_with fail
      go_ret
      exact ⟨rfl, by
        have := HFIN.out
        rw [← HAP.out] at this
        exact this.then_below (bel_drew _)⟩
  by_cases q4 : k = 4
  · subst q4
    have hcm : (fenceP m).add (evt 4 0 0 0 Z8) = mc := by rw [← HMC.out]; unfold callP; simp
    have HC1 := Lib.hid (rFence_any q m G _ hm hs9 hrf)
    have HCM := Lib.hid hcm
    clear hrf hcm hm hs9 hv hsI ha hspo hsps
    go_enter Tryz.func81, Tryz.ntmps81
    go_wp2_with fail
    refine HC1.out.mono ?_
    rintro e wA ⟨rfl, hst3⟩
    rw [HCM.out] at hst3
    have HST := Lib.hid hst3
    clear hst3 HC1 e0 e1 e2 e3 r4 g2
    have HBX := Lib.hid (show Arr wA w.heap.size 68 OV from (HST.out.2.block w.heap.size HBL.out HNG.out).trans HA0.out)
    obtain ⟨d2, o2, cap2, ev2, X2, hat2⟩ := HST.out.1
    have f2 := hat2.c2
    obtain ⟨EA2, ecap, rfl, hec, hem, _⟩ := hat2.evs.shape
    have HFIN := Lib.hid (RStep.after (Kept.of_below HB0.out) HST.out)
    rcases HCE.out with hce | ⟨E, hce⟩
    · have hap : appliesB m x = false := by
        unfold appliesB
        rw [HAP.out, hce]
        exact decide_eq_false (fun h => by
          have := congrArg List.length h
          simp at this)
      obtain rfl := HAB.out.symm.trans hap
      rw [hce, HNE.out] at f2
      have hlen : ¬ (n : Int) = (n : Int) + 1 := by omega
      have hlb : ((n : Int) == (n : Int) + 1) = false := by rw [beq_eq_false_iff_ne]; omega
      clear hat2 hap hce HBX HST hec hem
      go_wp2_with fail
      go_quiet (fail)
      go_wp2_with fail
      go_ret
      exact ⟨rfl, by
        have := HFIN.out
        rw [← HAP.out] at this
        exact this.then_below (below_drewN (Below.refl _ _) _)⟩
    · have hap : appliesB m x = decide (E = x) := by
        unfold appliesB
        rw [HAP.out, hce]
        by_cases he : E = x
        · rw [he, decide_eq_true rfl, decide_eq_true rfl]
        · rw [decide_eq_false he, decide_eq_false]
          intro h
          exact he (by simpa using h)
      obtain rfl := HAB.out.symm.trans hap
      have hcl : mc.ev.length = n + 1 := by rw [hce, List.length_append, HNE.out]; rfl
      have hEo := HCO.out.evs E (by rw [hce]; simp)
      obtain ⟨hE12, hEI⟩ := hEo
      have hrd := Rd.of_sl hat2.evs
      rw [hcl] at f2 hec hrd
      obtain ⟨_, _, hv9, _, _, hrr⟩ := hrd
      simp only [Value.slice.injEq, true_and] at hv9
      obtain ⟨rfl, rfl⟩ := hv9
      obtain ⟨ed, eo, rfl, _, hsw⟩ := hrr (by omega)
      have hnl : n < mc.ev.length := by omega
      have hEn : mc.ev[n] = E := by
        have h1 : m.ev.length = n := HNE.out
        simp only [hce]
        rw [List.getElem_append_right (by omega)]
        simp [h1]
      have rE : wA.drew.rangeAt ed (eo + n * 12) (iv E) := by
        have := evLine (w := wA) (fun y hy => (HCO.out.evs y hy).1) hsw hnl
        rw [hEn] at this
        exact this
      have rX : wA.drew.rangeAt w.heap.size 0 (iv x) := by have := HBX.out.range; rw [← HOV.out] at this; exact this
      have fd : wA.drew.cell? ⟨q, 2, none⟩ = some (.slice (some ⟨ed, eo, none⟩) (n + 1) ecap) := f2
      have hiE : (Tryz.prog.info? 68).map (·.size) = some (iv E).length := by rw [size79, iv_len, hE12]
      have hiX : (Tryz.prog.info? 68).map (·.size) = some (iv x).length := by rw [size79, iv_len, HX12.out]
      have hu68 := Tryz.underlying68
      have HEQ := Lib.hid fun w => eq_event2 E x hE12 HX12.out hEI HXI.out w
      have hnI : (n : Int) < (n : Int) + 1 := by omega
      have hwr : IntKind.i64.wrap ((n : Int) + 1) = (n : Int) + 1 := by rw [i64_wraps]; omega
      have hec2 : n + 1 ≤ ecap := hec
      have hem2 : ecap ≤ 9223372036854775807 := by unfold maxLen at hem; omega
      clear hat2 hap hce hrr hsw hEn hnl hcl hE12 hEI HST HBX hem
      go_wp2_with fail
      refine wp_region_held_drew (S := fun W => W.cell? ⟨q, 2, none⟩ = some (.slice (some ⟨ed, eo, none⟩) (n + 1) ecap) ∧ W.rangeAt ed (eo + n * 12) (iv E) ∧ W.rangeAt w.heap.size 0 (iv x)) (by kernel_rfl) ⟨fd, rE, rX⟩ (fun hHeld => ?_)
      refine wpAnyH_take (i := 0) (v := .pointer (some ⟨q, 0, none⟩)) rfl (by kernel_rfl) (by kernel_rfl) (by kernel_rfl) (fun _ _ _ h => h) (Or.inl ⟨by rfl, fun w hSw => by obtain ⟨h1, h2, h3⟩ := hSw; go_simp⟩) (by assumption) ?_
      change wpAnyH _ _ _ _ _ _ _ (Act.put _ (some 73) _) _
      simp only [Act.put, List.setIfInBounds_toArray, List.set_cons_zero, List.set_cons_succ]
      refine wpAnyH_take (i := 1) (v := .pointer (some ⟨q, 0, none⟩)) rfl (by kernel_rfl) (by kernel_rfl) (by kernel_rfl) (fun _ _ _ h => h) (Or.inl ⟨by rfl, fun w hSw => by obtain ⟨h1, h2, h3⟩ := hSw; go_simp⟩) (by assumption) ?_
      change wpAnyH _ _ _ _ _ _ _ (Act.put _ (some 74) _) _
      simp only [Act.put, List.setIfInBounds_toArray, List.set_cons_zero, List.set_cons_succ]
      refine wpAnyH_take (i := 2) (v := .pointer (some ⟨q, 2, none⟩)) rfl (by kernel_rfl) (by kernel_rfl) (by kernel_rfl) (fun _ _ _ h => h) (Or.inl ⟨by rfl, fun w hSw => by obtain ⟨h1, h2, h3⟩ := hSw; go_simp⟩) (by assumption) ?_
      change wpAnyH _ _ _ _ _ _ _ (Act.put _ (some 75) _) _
      simp only [Act.put, List.setIfInBounds_toArray, List.set_cons_zero, List.set_cons_succ]
      refine wpAnyH_take (i := 3) (v := .slice (some ⟨ed, eo, none⟩) (n + 1) ecap) rfl (by kernel_rfl) (by kernel_rfl) (by kernel_rfl) (fun _ _ _ h => h) (Or.inl ⟨by rfl, fun w hSw => by obtain ⟨h1, h2, h3⟩ := hSw; go_simp⟩) (by assumption) ?_
      change wpAnyH _ _ _ _ _ _ _ (Act.put _ (some 76) _) _
      simp only [Act.put, List.setIfInBounds_toArray, List.set_cons_zero, List.set_cons_succ]
      refine wpAnyH_take (i := 4) (v := .int .i64 ((n : Int) + 1)) rfl (by kernel_rfl) (by kernel_rfl) (by kernel_rfl) (fun _ _ _ h => h) (Or.inl ⟨by rfl, fun w hSw => by obtain ⟨h1, h2, h3⟩ := hSw; go_simp⟩) (by assumption) ?_
      change wpAnyH _ _ _ _ _ _ _ (Act.put _ (some 77) _) _
      simp only [Act.put, List.setIfInBounds_toArray, List.set_cons_zero, List.set_cons_succ]
      refine wpAnyH_take (i := 5) (v := .int .i64 (n : Int)) rfl (by kernel_rfl) (by kernel_rfl) (by kernel_rfl) (fun _ _ _ h => h) (Or.inl ⟨by rfl, fun w hSw => by obtain ⟨h1, h2, h3⟩ := hSw; go_simp⟩) (by assumption) ?_
      change wpAnyH _ _ _ _ _ _ _ (Act.put _ (some 78) _) _
      simp only [Act.put, List.setIfInBounds_toArray, List.set_cons_zero, List.set_cons_succ]
      refine wpAnyH_take (i := 6) (v := .int .i64 ((n : Int) + 1)) rfl (by kernel_rfl) (by kernel_rfl) (by kernel_rfl) (fun _ _ _ h => h) (Or.inl ⟨by rfl, fun w hSw => by obtain ⟨h1, h2, h3⟩ := hSw; go_simp⟩) (by assumption) ?_
      change wpAnyH _ _ _ _ _ _ _ (Act.put _ (some 79) _) _
      simp only [Act.put, List.setIfInBounds_toArray, List.set_cons_zero, List.set_cons_succ]
      refine wpAnyH_take (i := 7) (v := .bool true) rfl (by kernel_rfl) (by kernel_rfl) (by kernel_rfl) (fun _ _ _ h => h) (Or.inl ⟨by rfl, fun w hSw => by obtain ⟨h1, h2, h3⟩ := hSw; go_simp⟩) (by assumption) ?_
      change wpAnyH _ _ _ _ _ _ _ (Act.put _ (some 80) _) _
      simp only [Act.put, List.setIfInBounds_toArray, List.set_cons_zero, List.set_cons_succ]
      refine wpAnyH_take (i := 8) (v := .bool true) rfl (by kernel_rfl) (by kernel_rfl) (by kernel_rfl) (fun _ _ _ h => h) (Or.inl ⟨by rfl, fun w hSw => by obtain ⟨h1, h2, h3⟩ := hSw; go_simp⟩) (by assumption) ?_
      change wpAnyH _ _ _ _ _ _ _ (Act.put _ (some 81) _) _
      simp only [Act.put, List.setIfInBounds_toArray, List.set_cons_zero, List.set_cons_succ]
      refine wpAnyH_take (i := 9) (v := .pointer (some ⟨q, 0, none⟩)) rfl (by kernel_rfl) (by kernel_rfl) (by kernel_rfl) (fun _ _ _ h => h) (Or.inl ⟨by rfl, fun w hSw => by obtain ⟨h1, h2, h3⟩ := hSw; go_simp⟩) (by assumption) ?_
      change wpAnyH _ _ _ _ _ _ _ (Act.put _ (some 82) _) _
      simp only [Act.put, List.setIfInBounds_toArray, List.set_cons_zero, List.set_cons_succ]
      refine wpAnyH_take (i := 10) (v := .pointer (some ⟨q, 0, none⟩)) rfl (by kernel_rfl) (by kernel_rfl) (by kernel_rfl) (fun _ _ _ h => h) (Or.inl ⟨by rfl, fun w hSw => by obtain ⟨h1, h2, h3⟩ := hSw; go_simp⟩) (by assumption) ?_
      change wpAnyH _ _ _ _ _ _ _ (Act.put _ (some 83) _) _
      simp only [Act.put, List.setIfInBounds_toArray, List.set_cons_zero, List.set_cons_succ]
      refine wpAnyH_take (i := 11) (v := .pointer (some ⟨q, 2, none⟩)) rfl (by kernel_rfl) (by kernel_rfl) (by kernel_rfl) (fun _ _ _ h => h) (Or.inl ⟨by rfl, fun w hSw => by obtain ⟨h1, h2, h3⟩ := hSw; go_simp⟩) (by assumption) ?_
      change wpAnyH _ _ _ _ _ _ _ (Act.put _ (some 84) _) _
      simp only [Act.put, List.setIfInBounds_toArray, List.set_cons_zero, List.set_cons_succ]
      refine wpAnyH_take (i := 12) (v := .slice (some ⟨ed, eo, none⟩) (n + 1) ecap) rfl (by kernel_rfl) (by kernel_rfl) (by kernel_rfl) (fun _ _ _ h => h) (Or.inl ⟨by rfl, fun w hSw => by obtain ⟨h1, h2, h3⟩ := hSw; go_simp⟩) (by assumption) ?_
      change wpAnyH _ _ _ _ _ _ _ (Act.put _ (some 85) _) _
      simp only [Act.put, List.setIfInBounds_toArray, List.set_cons_zero, List.set_cons_succ]
      refine wpAnyH_take (i := 13) (v := .int .i64 (n : Int)) rfl (by kernel_rfl) (by kernel_rfl) (by kernel_rfl) (fun _ _ _ h => h) (Or.inl ⟨by rfl, fun w hSw => by obtain ⟨h1, h2, h3⟩ := hSw; go_simp⟩) (by assumption) ?_
      change wpAnyH _ _ _ _ _ _ _ (Act.put _ (some 86) _) _
      simp only [Act.put, List.setIfInBounds_toArray, List.set_cons_zero, List.set_cons_succ]
      refine wpAnyH_take (i := 14) (v := .pointer (some ⟨ed, eo + n * 12, none⟩)) rfl (by kernel_rfl) (by kernel_rfl) (by kernel_rfl) (fun _ _ _ h => h) (Or.inl ⟨by rfl, fun w hSw => by obtain ⟨h1, h2, h3⟩ := hSw; go_simp⟩) (by assumption) ?_
      change wpAnyH _ _ _ _ _ _ _ (Act.put _ (some 87) _) _
      simp only [Act.put, List.setIfInBounds_toArray, List.set_cons_zero, List.set_cons_succ]
      refine wpAnyH_take (i := 15) (v := .agg (iv E).toArray) rfl (by kernel_rfl) (by kernel_rfl) (by kernel_rfl) (fun _ _ _ h => h) (yieldsIf_load_mid (by rfl) _ _ rfl _ _ rfl _ _ (fun w h => h.2.1) hu68 rfl hiE) (by assumption) ?_
      change wpAnyH _ _ _ _ _ _ _ (Act.put _ (some 88) _) _
      simp only [Act.put, List.setIfInBounds_toArray, List.set_cons_zero, List.set_cons_succ]
      refine wpAnyH_take (i := 16) (v := .agg (iv x).toArray) rfl (by kernel_rfl) (by kernel_rfl) (by kernel_rfl) (fun _ _ _ h => h) (yieldsIf_load_mid (by rfl) _ _ rfl _ _ rfl _ _ (fun w h => h.2.2) hu68 rfl hiX) (by assumption) ?_
      change wpAnyH _ _ _ _ _ _ _ (Act.put _ (some 89) _) _
      simp only [Act.put, List.setIfInBounds_toArray, List.set_cons_zero, List.set_cons_succ]
      refine wpAnyH_take (i := 17) (v := .bool (decide (E = x))) rfl (by kernel_rfl) (by kernel_rfl) (by kernel_rfl) (fun _ _ _ h => h) (Or.inl ⟨by rfl, fun w hSw => exec_eql _ _ 68 _ _ _ _ _ _ w rfl rfl rfl (by kernel_rfl) (HEQ.out w)⟩) (by assumption) ?_
      change wpAnyH _ _ _ _ _ _ _ (Act.put _ (some 90) _) _
      simp only [Act.put, List.setIfInBounds_toArray, List.set_cons_zero, List.set_cons_succ]
      refine wpAnyH_take (i := 18) (v := .bool (decide (E = x))) rfl (by kernel_rfl) (by kernel_rfl) (by kernel_rfl) (fun _ _ _ h => h) (Or.inl ⟨by rfl, fun w hSw => by obtain ⟨h1, h2, h3⟩ := hSw; go_simp⟩) (by assumption) ?_
      change wpAnyH _ _ _ _ _ _ _ (Act.put _ (some 91) _) _
      simp only [Act.put, List.setIfInBounds_toArray, List.set_cons_zero, List.set_cons_succ]
      refine wpAnyH_take (i := 19) (v := .bool (decide (E = x))) rfl (by kernel_rfl) (by kernel_rfl) (by kernel_rfl) (fun _ _ _ h => h) (Or.inl ⟨by rfl, fun w hSw => by obtain ⟨h1, h2, h3⟩ := hSw; go_simp⟩) (by assumption) ?_
      change wpAnyH _ _ _ _ _ _ _ (Act.put _ (some 4) _) _
      simp only [Act.put, List.setIfInBounds_toArray, List.set_cons_zero, List.set_cons_succ]
      refine wpAnyH_done (by kernel_rfl) ?_ _
      go_wp2_with fail
      go_ret
      exact ⟨rfl, by
        have := HFIN.out
        rw [← HAP.out] at this
        exact this.then_below (bel_drew _)⟩
  by_cases q5 : k = 5
  · subst q5
    have hcm : (rec_ (evictP m a v) (evt 5 a v 0 Z8)).2 = mc := by rw [← HMC.out]; unfold callP; simp
    have HC1 := Lib.hid (rEvict_any q a v m G _ hm hs9 hrf)
    have HCM := Lib.hid hcm
    clear hrf hcm hm hs9 hv hsI ha hspo hsps
    go_enter Tryz.func81, Tryz.ntmps81
    go_wp2_with fail
    refine HC1.out.mono ?_
    rintro e wA ⟨rfl, hst3⟩
    rw [HCM.out] at hst3
    have HST := Lib.hid hst3
    clear hst3 HC1 e0 e1 e2 e3 r4 g2
    have HBX := Lib.hid (show Arr wA w.heap.size 68 OV from (HST.out.2.block w.heap.size HBL.out HNG.out).trans HA0.out)
    obtain ⟨d2, o2, cap2, ev2, X2, hat2⟩ := HST.out.1
    have f2 := hat2.c2
    obtain ⟨EA2, ecap, rfl, hec, hem, _⟩ := hat2.evs.shape
    have HFIN := Lib.hid (RStep.after (Kept.of_below HB0.out) HST.out)
    rcases HCE.out with hce | ⟨E, hce⟩
    · have hap : appliesB m x = false := by
        unfold appliesB
        rw [HAP.out, hce]
        exact decide_eq_false (fun h => by
          have := congrArg List.length h
          simp at this)
      obtain rfl := HAB.out.symm.trans hap
      rw [hce, HNE.out] at f2
      have hlen : ¬ (n : Int) = (n : Int) + 1 := by omega
      have hlb : ((n : Int) == (n : Int) + 1) = false := by rw [beq_eq_false_iff_ne]; omega
      clear hat2 hap hce HBX HST hec hem
      go_wp2_with fail
      go_quiet (fail)
      go_wp2_with fail
      go_ret
      exact ⟨rfl, by
        have := HFIN.out
        rw [← HAP.out] at this
        exact this.then_below (below_drewN (Below.refl _ _) _)⟩
    · have hap : appliesB m x = decide (E = x) := by
        unfold appliesB
        rw [HAP.out, hce]
        by_cases he : E = x
        · rw [he, decide_eq_true rfl, decide_eq_true rfl]
        · rw [decide_eq_false he, decide_eq_false]
          intro h
          exact he (by simpa using h)
      obtain rfl := HAB.out.symm.trans hap
      have hcl : mc.ev.length = n + 1 := by rw [hce, List.length_append, HNE.out]; rfl
      have hEo := HCO.out.evs E (by rw [hce]; simp)
      obtain ⟨hE12, hEI⟩ := hEo
      have hrd := Rd.of_sl hat2.evs
      rw [hcl] at f2 hec hrd
      obtain ⟨_, _, hv9, _, _, hrr⟩ := hrd
      simp only [Value.slice.injEq, true_and] at hv9
      obtain ⟨rfl, rfl⟩ := hv9
      obtain ⟨ed, eo, rfl, _, hsw⟩ := hrr (by omega)
      have hnl : n < mc.ev.length := by omega
      have hEn : mc.ev[n] = E := by
        have h1 : m.ev.length = n := HNE.out
        simp only [hce]
        rw [List.getElem_append_right (by omega)]
        simp [h1]
      have rE : wA.drew.rangeAt ed (eo + n * 12) (iv E) := by
        have := evLine (w := wA) (fun y hy => (HCO.out.evs y hy).1) hsw hnl
        rw [hEn] at this
        exact this
      have rX : wA.drew.rangeAt w.heap.size 0 (iv x) := by have := HBX.out.range; rw [← HOV.out] at this; exact this
      have fd : wA.drew.cell? ⟨q, 2, none⟩ = some (.slice (some ⟨ed, eo, none⟩) (n + 1) ecap) := f2
      have hiE : (Tryz.prog.info? 68).map (·.size) = some (iv E).length := by rw [size79, iv_len, hE12]
      have hiX : (Tryz.prog.info? 68).map (·.size) = some (iv x).length := by rw [size79, iv_len, HX12.out]
      have hu68 := Tryz.underlying68
      have HEQ := Lib.hid fun w => eq_event2 E x hE12 HX12.out hEI HXI.out w
      have hnI : (n : Int) < (n : Int) + 1 := by omega
      have hwr : IntKind.i64.wrap ((n : Int) + 1) = (n : Int) + 1 := by rw [i64_wraps]; omega
      have hec2 : n + 1 ≤ ecap := hec
      have hem2 : ecap ≤ 9223372036854775807 := by unfold maxLen at hem; omega
      clear hat2 hap hce hrr hsw hEn hnl hcl hE12 hEI HST HBX hem
      go_wp2_with fail
      refine wp_region_held_drew (S := fun W => W.cell? ⟨q, 2, none⟩ = some (.slice (some ⟨ed, eo, none⟩) (n + 1) ecap) ∧ W.rangeAt ed (eo + n * 12) (iv E) ∧ W.rangeAt w.heap.size 0 (iv x)) (by kernel_rfl) ⟨fd, rE, rX⟩ (fun hHeld => ?_)
      refine wpAnyH_take (i := 0) (v := .pointer (some ⟨q, 0, none⟩)) rfl (by kernel_rfl) (by kernel_rfl) (by kernel_rfl) (fun _ _ _ h => h) (Or.inl ⟨by rfl, fun w hSw => by obtain ⟨h1, h2, h3⟩ := hSw; go_simp⟩) (by assumption) ?_
      change wpAnyH _ _ _ _ _ _ _ (Act.put _ (some 73) _) _
      simp only [Act.put, List.setIfInBounds_toArray, List.set_cons_zero, List.set_cons_succ]
      refine wpAnyH_take (i := 1) (v := .pointer (some ⟨q, 0, none⟩)) rfl (by kernel_rfl) (by kernel_rfl) (by kernel_rfl) (fun _ _ _ h => h) (Or.inl ⟨by rfl, fun w hSw => by obtain ⟨h1, h2, h3⟩ := hSw; go_simp⟩) (by assumption) ?_
      change wpAnyH _ _ _ _ _ _ _ (Act.put _ (some 74) _) _
      simp only [Act.put, List.setIfInBounds_toArray, List.set_cons_zero, List.set_cons_succ]
      refine wpAnyH_take (i := 2) (v := .pointer (some ⟨q, 2, none⟩)) rfl (by kernel_rfl) (by kernel_rfl) (by kernel_rfl) (fun _ _ _ h => h) (Or.inl ⟨by rfl, fun w hSw => by obtain ⟨h1, h2, h3⟩ := hSw; go_simp⟩) (by assumption) ?_
      change wpAnyH _ _ _ _ _ _ _ (Act.put _ (some 75) _) _
      simp only [Act.put, List.setIfInBounds_toArray, List.set_cons_zero, List.set_cons_succ]
      refine wpAnyH_take (i := 3) (v := .slice (some ⟨ed, eo, none⟩) (n + 1) ecap) rfl (by kernel_rfl) (by kernel_rfl) (by kernel_rfl) (fun _ _ _ h => h) (Or.inl ⟨by rfl, fun w hSw => by obtain ⟨h1, h2, h3⟩ := hSw; go_simp⟩) (by assumption) ?_
      change wpAnyH _ _ _ _ _ _ _ (Act.put _ (some 76) _) _
      simp only [Act.put, List.setIfInBounds_toArray, List.set_cons_zero, List.set_cons_succ]
      refine wpAnyH_take (i := 4) (v := .int .i64 ((n : Int) + 1)) rfl (by kernel_rfl) (by kernel_rfl) (by kernel_rfl) (fun _ _ _ h => h) (Or.inl ⟨by rfl, fun w hSw => by obtain ⟨h1, h2, h3⟩ := hSw; go_simp⟩) (by assumption) ?_
      change wpAnyH _ _ _ _ _ _ _ (Act.put _ (some 77) _) _
      simp only [Act.put, List.setIfInBounds_toArray, List.set_cons_zero, List.set_cons_succ]
      refine wpAnyH_take (i := 5) (v := .int .i64 (n : Int)) rfl (by kernel_rfl) (by kernel_rfl) (by kernel_rfl) (fun _ _ _ h => h) (Or.inl ⟨by rfl, fun w hSw => by obtain ⟨h1, h2, h3⟩ := hSw; go_simp⟩) (by assumption) ?_
      change wpAnyH _ _ _ _ _ _ _ (Act.put _ (some 78) _) _
      simp only [Act.put, List.setIfInBounds_toArray, List.set_cons_zero, List.set_cons_succ]
      refine wpAnyH_take (i := 6) (v := .int .i64 ((n : Int) + 1)) rfl (by kernel_rfl) (by kernel_rfl) (by kernel_rfl) (fun _ _ _ h => h) (Or.inl ⟨by rfl, fun w hSw => by obtain ⟨h1, h2, h3⟩ := hSw; go_simp⟩) (by assumption) ?_
      change wpAnyH _ _ _ _ _ _ _ (Act.put _ (some 79) _) _
      simp only [Act.put, List.setIfInBounds_toArray, List.set_cons_zero, List.set_cons_succ]
      refine wpAnyH_take (i := 7) (v := .bool true) rfl (by kernel_rfl) (by kernel_rfl) (by kernel_rfl) (fun _ _ _ h => h) (Or.inl ⟨by rfl, fun w hSw => by obtain ⟨h1, h2, h3⟩ := hSw; go_simp⟩) (by assumption) ?_
      change wpAnyH _ _ _ _ _ _ _ (Act.put _ (some 80) _) _
      simp only [Act.put, List.setIfInBounds_toArray, List.set_cons_zero, List.set_cons_succ]
      refine wpAnyH_take (i := 8) (v := .bool true) rfl (by kernel_rfl) (by kernel_rfl) (by kernel_rfl) (fun _ _ _ h => h) (Or.inl ⟨by rfl, fun w hSw => by obtain ⟨h1, h2, h3⟩ := hSw; go_simp⟩) (by assumption) ?_
      change wpAnyH _ _ _ _ _ _ _ (Act.put _ (some 81) _) _
      simp only [Act.put, List.setIfInBounds_toArray, List.set_cons_zero, List.set_cons_succ]
      refine wpAnyH_take (i := 9) (v := .pointer (some ⟨q, 0, none⟩)) rfl (by kernel_rfl) (by kernel_rfl) (by kernel_rfl) (fun _ _ _ h => h) (Or.inl ⟨by rfl, fun w hSw => by obtain ⟨h1, h2, h3⟩ := hSw; go_simp⟩) (by assumption) ?_
      change wpAnyH _ _ _ _ _ _ _ (Act.put _ (some 82) _) _
      simp only [Act.put, List.setIfInBounds_toArray, List.set_cons_zero, List.set_cons_succ]
      refine wpAnyH_take (i := 10) (v := .pointer (some ⟨q, 0, none⟩)) rfl (by kernel_rfl) (by kernel_rfl) (by kernel_rfl) (fun _ _ _ h => h) (Or.inl ⟨by rfl, fun w hSw => by obtain ⟨h1, h2, h3⟩ := hSw; go_simp⟩) (by assumption) ?_
      change wpAnyH _ _ _ _ _ _ _ (Act.put _ (some 83) _) _
      simp only [Act.put, List.setIfInBounds_toArray, List.set_cons_zero, List.set_cons_succ]
      refine wpAnyH_take (i := 11) (v := .pointer (some ⟨q, 2, none⟩)) rfl (by kernel_rfl) (by kernel_rfl) (by kernel_rfl) (fun _ _ _ h => h) (Or.inl ⟨by rfl, fun w hSw => by obtain ⟨h1, h2, h3⟩ := hSw; go_simp⟩) (by assumption) ?_
      change wpAnyH _ _ _ _ _ _ _ (Act.put _ (some 84) _) _
      simp only [Act.put, List.setIfInBounds_toArray, List.set_cons_zero, List.set_cons_succ]
      refine wpAnyH_take (i := 12) (v := .slice (some ⟨ed, eo, none⟩) (n + 1) ecap) rfl (by kernel_rfl) (by kernel_rfl) (by kernel_rfl) (fun _ _ _ h => h) (Or.inl ⟨by rfl, fun w hSw => by obtain ⟨h1, h2, h3⟩ := hSw; go_simp⟩) (by assumption) ?_
      change wpAnyH _ _ _ _ _ _ _ (Act.put _ (some 85) _) _
      simp only [Act.put, List.setIfInBounds_toArray, List.set_cons_zero, List.set_cons_succ]
      refine wpAnyH_take (i := 13) (v := .int .i64 (n : Int)) rfl (by kernel_rfl) (by kernel_rfl) (by kernel_rfl) (fun _ _ _ h => h) (Or.inl ⟨by rfl, fun w hSw => by obtain ⟨h1, h2, h3⟩ := hSw; go_simp⟩) (by assumption) ?_
      change wpAnyH _ _ _ _ _ _ _ (Act.put _ (some 86) _) _
      simp only [Act.put, List.setIfInBounds_toArray, List.set_cons_zero, List.set_cons_succ]
      refine wpAnyH_take (i := 14) (v := .pointer (some ⟨ed, eo + n * 12, none⟩)) rfl (by kernel_rfl) (by kernel_rfl) (by kernel_rfl) (fun _ _ _ h => h) (Or.inl ⟨by rfl, fun w hSw => by obtain ⟨h1, h2, h3⟩ := hSw; go_simp⟩) (by assumption) ?_
      change wpAnyH _ _ _ _ _ _ _ (Act.put _ (some 87) _) _
      simp only [Act.put, List.setIfInBounds_toArray, List.set_cons_zero, List.set_cons_succ]
      refine wpAnyH_take (i := 15) (v := .agg (iv E).toArray) rfl (by kernel_rfl) (by kernel_rfl) (by kernel_rfl) (fun _ _ _ h => h) (yieldsIf_load_mid (by rfl) _ _ rfl _ _ rfl _ _ (fun w h => h.2.1) hu68 rfl hiE) (by assumption) ?_
      change wpAnyH _ _ _ _ _ _ _ (Act.put _ (some 88) _) _
      simp only [Act.put, List.setIfInBounds_toArray, List.set_cons_zero, List.set_cons_succ]
      refine wpAnyH_take (i := 16) (v := .agg (iv x).toArray) rfl (by kernel_rfl) (by kernel_rfl) (by kernel_rfl) (fun _ _ _ h => h) (yieldsIf_load_mid (by rfl) _ _ rfl _ _ rfl _ _ (fun w h => h.2.2) hu68 rfl hiX) (by assumption) ?_
      change wpAnyH _ _ _ _ _ _ _ (Act.put _ (some 89) _) _
      simp only [Act.put, List.setIfInBounds_toArray, List.set_cons_zero, List.set_cons_succ]
      refine wpAnyH_take (i := 17) (v := .bool (decide (E = x))) rfl (by kernel_rfl) (by kernel_rfl) (by kernel_rfl) (fun _ _ _ h => h) (Or.inl ⟨by rfl, fun w hSw => exec_eql _ _ 68 _ _ _ _ _ _ w rfl rfl rfl (by kernel_rfl) (HEQ.out w)⟩) (by assumption) ?_
      change wpAnyH _ _ _ _ _ _ _ (Act.put _ (some 90) _) _
      simp only [Act.put, List.setIfInBounds_toArray, List.set_cons_zero, List.set_cons_succ]
      refine wpAnyH_take (i := 18) (v := .bool (decide (E = x))) rfl (by kernel_rfl) (by kernel_rfl) (by kernel_rfl) (fun _ _ _ h => h) (Or.inl ⟨by rfl, fun w hSw => by obtain ⟨h1, h2, h3⟩ := hSw; go_simp⟩) (by assumption) ?_
      change wpAnyH _ _ _ _ _ _ _ (Act.put _ (some 91) _) _
      simp only [Act.put, List.setIfInBounds_toArray, List.set_cons_zero, List.set_cons_succ]
      refine wpAnyH_take (i := 19) (v := .bool (decide (E = x))) rfl (by kernel_rfl) (by kernel_rfl) (by kernel_rfl) (fun _ _ _ h => h) (Or.inl ⟨by rfl, fun w hSw => by obtain ⟨h1, h2, h3⟩ := hSw; go_simp⟩) (by assumption) ?_
      change wpAnyH _ _ _ _ _ _ _ (Act.put _ (some 4) _) _
      simp only [Act.put, List.setIfInBounds_toArray, List.set_cons_zero, List.set_cons_succ]
      refine wpAnyH_done (by kernel_rfl) ?_ _
      go_wp2_with fail
      go_ret
      exact ⟨rfl, by
        have := HFIN.out
        rw [← HAP.out] at this
        exact this.then_below (bel_drew _)⟩
  by_cases q6 : k = 6
  · subst q6
    have hcm : (rec_ (healP m a [a0, a1, a2, a3, a4, a5, a6, a7]) (evt 6 a 0 0 [a0, a1, a2, a3, a4, a5, a6, a7])).2 = mc := by rw [← HMC.out]; unfold callP; simp
    have HC1 := Lib.hid (rHeal_any q a [a0, a1, a2, a3, a4, a5, a6, a7] m G _ hm hs9 rfl hrf)
    have HCM := Lib.hid hcm
    clear hrf hcm hm hs9 hv hsI ha hspo hsps
    go_enter Tryz.func81, Tryz.ntmps81
    go_wp2_with ((with_reducible refine arm_range 66 w.heap.size 4 (iv [a0, a1, a2, a3, a4, a5, a6, a7]) r4 _ hu22 rfl hi8 rfl _ rfl ?_ ?_); focus rfl)
    refine HC1.out.mono ?_
    rintro e wA ⟨rfl, hst3⟩
    rw [HCM.out] at hst3
    have HST := Lib.hid hst3
    clear hst3 HC1 e0 e1 e2 e3 r4 g2
    have HBX := Lib.hid (show Arr wA w.heap.size 68 OV from (HST.out.2.block w.heap.size HBL.out HNG.out).trans HA0.out)
    obtain ⟨d2, o2, cap2, ev2, X2, hat2⟩ := HST.out.1
    have f2 := hat2.c2
    obtain ⟨EA2, ecap, rfl, hec, hem, _⟩ := hat2.evs.shape
    have HFIN := Lib.hid (RStep.after (Kept.of_below HB0.out) HST.out)
    rcases HCE.out with hce | ⟨E, hce⟩
    · have hap : appliesB m x = false := by
        unfold appliesB
        rw [HAP.out, hce]
        exact decide_eq_false (fun h => by
          have := congrArg List.length h
          simp at this)
      obtain rfl := HAB.out.symm.trans hap
      rw [hce, HNE.out] at f2
      have hlen : ¬ (n : Int) = (n : Int) + 1 := by omega
      have hlb : ((n : Int) == (n : Int) + 1) = false := by rw [beq_eq_false_iff_ne]; omega
      clear hat2 hap hce HBX HST hec hem
      go_wp2_with fail
      go_quiet (fail)
      go_wp2_with fail
      go_ret
      exact ⟨rfl, by
        have := HFIN.out
        rw [← HAP.out] at this
        exact this.then_below (below_drewN (Below.refl _ _) _)⟩
    · have hap : appliesB m x = decide (E = x) := by
        unfold appliesB
        rw [HAP.out, hce]
        by_cases he : E = x
        · rw [he, decide_eq_true rfl, decide_eq_true rfl]
        · rw [decide_eq_false he, decide_eq_false]
          intro h
          exact he (by simpa using h)
      obtain rfl := HAB.out.symm.trans hap
      have hcl : mc.ev.length = n + 1 := by rw [hce, List.length_append, HNE.out]; rfl
      have hEo := HCO.out.evs E (by rw [hce]; simp)
      obtain ⟨hE12, hEI⟩ := hEo
      have hrd := Rd.of_sl hat2.evs
      rw [hcl] at f2 hec hrd
      obtain ⟨_, _, hv9, _, _, hrr⟩ := hrd
      simp only [Value.slice.injEq, true_and] at hv9
      obtain ⟨rfl, rfl⟩ := hv9
      obtain ⟨ed, eo, rfl, _, hsw⟩ := hrr (by omega)
      have hnl : n < mc.ev.length := by omega
      have hEn : mc.ev[n] = E := by
        have h1 : m.ev.length = n := HNE.out
        simp only [hce]
        rw [List.getElem_append_right (by omega)]
        simp [h1]
      have rE : wA.drew.rangeAt ed (eo + n * 12) (iv E) := by
        have := evLine (w := wA) (fun y hy => (HCO.out.evs y hy).1) hsw hnl
        rw [hEn] at this
        exact this
      have rX : wA.drew.rangeAt w.heap.size 0 (iv x) := by have := HBX.out.range; rw [← HOV.out] at this; exact this
      have fd : wA.drew.cell? ⟨q, 2, none⟩ = some (.slice (some ⟨ed, eo, none⟩) (n + 1) ecap) := f2
      have hiE : (Tryz.prog.info? 68).map (·.size) = some (iv E).length := by rw [size79, iv_len, hE12]
      have hiX : (Tryz.prog.info? 68).map (·.size) = some (iv x).length := by rw [size79, iv_len, HX12.out]
      have hu68 := Tryz.underlying68
      have HEQ := Lib.hid fun w => eq_event2 E x hE12 HX12.out hEI HXI.out w
      have hnI : (n : Int) < (n : Int) + 1 := by omega
      have hwr : IntKind.i64.wrap ((n : Int) + 1) = (n : Int) + 1 := by rw [i64_wraps]; omega
      have hec2 : n + 1 ≤ ecap := hec
      have hem2 : ecap ≤ 9223372036854775807 := by unfold maxLen at hem; omega
      clear hat2 hap hce hrr hsw hEn hnl hcl hE12 hEI HST HBX hem
      go_wp2_with fail
      refine wp_region_held_drew (S := fun W => W.cell? ⟨q, 2, none⟩ = some (.slice (some ⟨ed, eo, none⟩) (n + 1) ecap) ∧ W.rangeAt ed (eo + n * 12) (iv E) ∧ W.rangeAt w.heap.size 0 (iv x)) (by kernel_rfl) ⟨fd, rE, rX⟩ (fun hHeld => ?_)
      refine wpAnyH_take (i := 0) (v := .pointer (some ⟨q, 0, none⟩)) rfl (by kernel_rfl) (by kernel_rfl) (by kernel_rfl) (fun _ _ _ h => h) (Or.inl ⟨by rfl, fun w hSw => by obtain ⟨h1, h2, h3⟩ := hSw; go_simp⟩) (by assumption) ?_
      change wpAnyH _ _ _ _ _ _ _ (Act.put _ (some 73) _) _
      simp only [Act.put, List.setIfInBounds_toArray, List.set_cons_zero, List.set_cons_succ]
      refine wpAnyH_take (i := 1) (v := .pointer (some ⟨q, 0, none⟩)) rfl (by kernel_rfl) (by kernel_rfl) (by kernel_rfl) (fun _ _ _ h => h) (Or.inl ⟨by rfl, fun w hSw => by obtain ⟨h1, h2, h3⟩ := hSw; go_simp⟩) (by assumption) ?_
      change wpAnyH _ _ _ _ _ _ _ (Act.put _ (some 74) _) _
      simp only [Act.put, List.setIfInBounds_toArray, List.set_cons_zero, List.set_cons_succ]
      refine wpAnyH_take (i := 2) (v := .pointer (some ⟨q, 2, none⟩)) rfl (by kernel_rfl) (by kernel_rfl) (by kernel_rfl) (fun _ _ _ h => h) (Or.inl ⟨by rfl, fun w hSw => by obtain ⟨h1, h2, h3⟩ := hSw; go_simp⟩) (by assumption) ?_
      change wpAnyH _ _ _ _ _ _ _ (Act.put _ (some 75) _) _
      simp only [Act.put, List.setIfInBounds_toArray, List.set_cons_zero, List.set_cons_succ]
      refine wpAnyH_take (i := 3) (v := .slice (some ⟨ed, eo, none⟩) (n + 1) ecap) rfl (by kernel_rfl) (by kernel_rfl) (by kernel_rfl) (fun _ _ _ h => h) (Or.inl ⟨by rfl, fun w hSw => by obtain ⟨h1, h2, h3⟩ := hSw; go_simp⟩) (by assumption) ?_
      change wpAnyH _ _ _ _ _ _ _ (Act.put _ (some 76) _) _
      simp only [Act.put, List.setIfInBounds_toArray, List.set_cons_zero, List.set_cons_succ]
      refine wpAnyH_take (i := 4) (v := .int .i64 ((n : Int) + 1)) rfl (by kernel_rfl) (by kernel_rfl) (by kernel_rfl) (fun _ _ _ h => h) (Or.inl ⟨by rfl, fun w hSw => by obtain ⟨h1, h2, h3⟩ := hSw; go_simp⟩) (by assumption) ?_
      change wpAnyH _ _ _ _ _ _ _ (Act.put _ (some 77) _) _
      simp only [Act.put, List.setIfInBounds_toArray, List.set_cons_zero, List.set_cons_succ]
      refine wpAnyH_take (i := 5) (v := .int .i64 (n : Int)) rfl (by kernel_rfl) (by kernel_rfl) (by kernel_rfl) (fun _ _ _ h => h) (Or.inl ⟨by rfl, fun w hSw => by obtain ⟨h1, h2, h3⟩ := hSw; go_simp⟩) (by assumption) ?_
      change wpAnyH _ _ _ _ _ _ _ (Act.put _ (some 78) _) _
      simp only [Act.put, List.setIfInBounds_toArray, List.set_cons_zero, List.set_cons_succ]
      refine wpAnyH_take (i := 6) (v := .int .i64 ((n : Int) + 1)) rfl (by kernel_rfl) (by kernel_rfl) (by kernel_rfl) (fun _ _ _ h => h) (Or.inl ⟨by rfl, fun w hSw => by obtain ⟨h1, h2, h3⟩ := hSw; go_simp⟩) (by assumption) ?_
      change wpAnyH _ _ _ _ _ _ _ (Act.put _ (some 79) _) _
      simp only [Act.put, List.setIfInBounds_toArray, List.set_cons_zero, List.set_cons_succ]
      refine wpAnyH_take (i := 7) (v := .bool true) rfl (by kernel_rfl) (by kernel_rfl) (by kernel_rfl) (fun _ _ _ h => h) (Or.inl ⟨by rfl, fun w hSw => by obtain ⟨h1, h2, h3⟩ := hSw; go_simp⟩) (by assumption) ?_
      change wpAnyH _ _ _ _ _ _ _ (Act.put _ (some 80) _) _
      simp only [Act.put, List.setIfInBounds_toArray, List.set_cons_zero, List.set_cons_succ]
      refine wpAnyH_take (i := 8) (v := .bool true) rfl (by kernel_rfl) (by kernel_rfl) (by kernel_rfl) (fun _ _ _ h => h) (Or.inl ⟨by rfl, fun w hSw => by obtain ⟨h1, h2, h3⟩ := hSw; go_simp⟩) (by assumption) ?_
      change wpAnyH _ _ _ _ _ _ _ (Act.put _ (some 81) _) _
      simp only [Act.put, List.setIfInBounds_toArray, List.set_cons_zero, List.set_cons_succ]
      refine wpAnyH_take (i := 9) (v := .pointer (some ⟨q, 0, none⟩)) rfl (by kernel_rfl) (by kernel_rfl) (by kernel_rfl) (fun _ _ _ h => h) (Or.inl ⟨by rfl, fun w hSw => by obtain ⟨h1, h2, h3⟩ := hSw; go_simp⟩) (by assumption) ?_
      change wpAnyH _ _ _ _ _ _ _ (Act.put _ (some 82) _) _
      simp only [Act.put, List.setIfInBounds_toArray, List.set_cons_zero, List.set_cons_succ]
      refine wpAnyH_take (i := 10) (v := .pointer (some ⟨q, 0, none⟩)) rfl (by kernel_rfl) (by kernel_rfl) (by kernel_rfl) (fun _ _ _ h => h) (Or.inl ⟨by rfl, fun w hSw => by obtain ⟨h1, h2, h3⟩ := hSw; go_simp⟩) (by assumption) ?_
      change wpAnyH _ _ _ _ _ _ _ (Act.put _ (some 83) _) _
      simp only [Act.put, List.setIfInBounds_toArray, List.set_cons_zero, List.set_cons_succ]
      refine wpAnyH_take (i := 11) (v := .pointer (some ⟨q, 2, none⟩)) rfl (by kernel_rfl) (by kernel_rfl) (by kernel_rfl) (fun _ _ _ h => h) (Or.inl ⟨by rfl, fun w hSw => by obtain ⟨h1, h2, h3⟩ := hSw; go_simp⟩) (by assumption) ?_
      change wpAnyH _ _ _ _ _ _ _ (Act.put _ (some 84) _) _
      simp only [Act.put, List.setIfInBounds_toArray, List.set_cons_zero, List.set_cons_succ]
      refine wpAnyH_take (i := 12) (v := .slice (some ⟨ed, eo, none⟩) (n + 1) ecap) rfl (by kernel_rfl) (by kernel_rfl) (by kernel_rfl) (fun _ _ _ h => h) (Or.inl ⟨by rfl, fun w hSw => by obtain ⟨h1, h2, h3⟩ := hSw; go_simp⟩) (by assumption) ?_
      change wpAnyH _ _ _ _ _ _ _ (Act.put _ (some 85) _) _
      simp only [Act.put, List.setIfInBounds_toArray, List.set_cons_zero, List.set_cons_succ]
      refine wpAnyH_take (i := 13) (v := .int .i64 (n : Int)) rfl (by kernel_rfl) (by kernel_rfl) (by kernel_rfl) (fun _ _ _ h => h) (Or.inl ⟨by rfl, fun w hSw => by obtain ⟨h1, h2, h3⟩ := hSw; go_simp⟩) (by assumption) ?_
      change wpAnyH _ _ _ _ _ _ _ (Act.put _ (some 86) _) _
      simp only [Act.put, List.setIfInBounds_toArray, List.set_cons_zero, List.set_cons_succ]
      refine wpAnyH_take (i := 14) (v := .pointer (some ⟨ed, eo + n * 12, none⟩)) rfl (by kernel_rfl) (by kernel_rfl) (by kernel_rfl) (fun _ _ _ h => h) (Or.inl ⟨by rfl, fun w hSw => by obtain ⟨h1, h2, h3⟩ := hSw; go_simp⟩) (by assumption) ?_
      change wpAnyH _ _ _ _ _ _ _ (Act.put _ (some 87) _) _
      simp only [Act.put, List.setIfInBounds_toArray, List.set_cons_zero, List.set_cons_succ]
      refine wpAnyH_take (i := 15) (v := .agg (iv E).toArray) rfl (by kernel_rfl) (by kernel_rfl) (by kernel_rfl) (fun _ _ _ h => h) (yieldsIf_load_mid (by rfl) _ _ rfl _ _ rfl _ _ (fun w h => h.2.1) hu68 rfl hiE) (by assumption) ?_
      change wpAnyH _ _ _ _ _ _ _ (Act.put _ (some 88) _) _
      simp only [Act.put, List.setIfInBounds_toArray, List.set_cons_zero, List.set_cons_succ]
      refine wpAnyH_take (i := 16) (v := .agg (iv x).toArray) rfl (by kernel_rfl) (by kernel_rfl) (by kernel_rfl) (fun _ _ _ h => h) (yieldsIf_load_mid (by rfl) _ _ rfl _ _ rfl _ _ (fun w h => h.2.2) hu68 rfl hiX) (by assumption) ?_
      change wpAnyH _ _ _ _ _ _ _ (Act.put _ (some 89) _) _
      simp only [Act.put, List.setIfInBounds_toArray, List.set_cons_zero, List.set_cons_succ]
      refine wpAnyH_take (i := 17) (v := .bool (decide (E = x))) rfl (by kernel_rfl) (by kernel_rfl) (by kernel_rfl) (fun _ _ _ h => h) (Or.inl ⟨by rfl, fun w hSw => exec_eql _ _ 68 _ _ _ _ _ _ w rfl rfl rfl (by kernel_rfl) (HEQ.out w)⟩) (by assumption) ?_
      change wpAnyH _ _ _ _ _ _ _ (Act.put _ (some 90) _) _
      simp only [Act.put, List.setIfInBounds_toArray, List.set_cons_zero, List.set_cons_succ]
      refine wpAnyH_take (i := 18) (v := .bool (decide (E = x))) rfl (by kernel_rfl) (by kernel_rfl) (by kernel_rfl) (fun _ _ _ h => h) (Or.inl ⟨by rfl, fun w hSw => by obtain ⟨h1, h2, h3⟩ := hSw; go_simp⟩) (by assumption) ?_
      change wpAnyH _ _ _ _ _ _ _ (Act.put _ (some 91) _) _
      simp only [Act.put, List.setIfInBounds_toArray, List.set_cons_zero, List.set_cons_succ]
      refine wpAnyH_take (i := 19) (v := .bool (decide (E = x))) rfl (by kernel_rfl) (by kernel_rfl) (by kernel_rfl) (fun _ _ _ h => h) (Or.inl ⟨by rfl, fun w hSw => by obtain ⟨h1, h2, h3⟩ := hSw; go_simp⟩) (by assumption) ?_
      change wpAnyH _ _ _ _ _ _ _ (Act.put _ (some 4) _) _
      simp only [Act.put, List.setIfInBounds_toArray, List.set_cons_zero, List.set_cons_succ]
      refine wpAnyH_done (by kernel_rfl) ?_ _
      go_wp2_with fail
      go_ret
      exact ⟨rfl, by
        have := HFIN.out
        rw [← HAP.out] at this
        exact this.then_below (bel_drew _)⟩
  by_cases q7 : k = 7
  · subst q7
    have hcm : (rec_ (rotP m a [a0, a1, a2, a3, a4, a5, a6, a7] v) (evt 7 a v 0 [a0, a1, a2, a3, a4, a5, a6, a7])).2 = mc := by rw [← HMC.out]; unfold callP; simp
    have HC1 := Lib.hid (rRot_any q a v [a0, a1, a2, a3, a4, a5, a6, a7] m G _ hm hs9 rfl hrf)
    have HCM := Lib.hid hcm
    clear hrf hcm hm hs9 hv hsI ha hspo hsps
    go_enter Tryz.func81, Tryz.ntmps81
    go_wp2_with ((with_reducible refine arm_range 66 w.heap.size 4 (iv [a0, a1, a2, a3, a4, a5, a6, a7]) r4 _ hu22 rfl hi8 rfl _ rfl ?_ ?_); focus rfl)
    refine HC1.out.mono ?_
    rintro e wA ⟨rfl, hst3⟩
    rw [HCM.out] at hst3
    have HST := Lib.hid hst3
    clear hst3 HC1 e0 e1 e2 e3 r4 g2
    have HBX := Lib.hid (show Arr wA w.heap.size 68 OV from (HST.out.2.block w.heap.size HBL.out HNG.out).trans HA0.out)
    obtain ⟨d2, o2, cap2, ev2, X2, hat2⟩ := HST.out.1
    have f2 := hat2.c2
    obtain ⟨EA2, ecap, rfl, hec, hem, _⟩ := hat2.evs.shape
    have HFIN := Lib.hid (RStep.after (Kept.of_below HB0.out) HST.out)
    rcases HCE.out with hce | ⟨E, hce⟩
    · have hap : appliesB m x = false := by
        unfold appliesB
        rw [HAP.out, hce]
        exact decide_eq_false (fun h => by
          have := congrArg List.length h
          simp at this)
      obtain rfl := HAB.out.symm.trans hap
      rw [hce, HNE.out] at f2
      have hlen : ¬ (n : Int) = (n : Int) + 1 := by omega
      have hlb : ((n : Int) == (n : Int) + 1) = false := by rw [beq_eq_false_iff_ne]; omega
      clear hat2 hap hce HBX HST hec hem
      go_wp2_with fail
      go_quiet (fail)
      go_wp2_with fail
      go_ret
      exact ⟨rfl, by
        have := HFIN.out
        rw [← HAP.out] at this
        exact this.then_below (below_drewN (Below.refl _ _) _)⟩
    · have hap : appliesB m x = decide (E = x) := by
        unfold appliesB
        rw [HAP.out, hce]
        by_cases he : E = x
        · rw [he, decide_eq_true rfl, decide_eq_true rfl]
        · rw [decide_eq_false he, decide_eq_false]
          intro h
          exact he (by simpa using h)
      obtain rfl := HAB.out.symm.trans hap
      have hcl : mc.ev.length = n + 1 := by rw [hce, List.length_append, HNE.out]; rfl
      have hEo := HCO.out.evs E (by rw [hce]; simp)
      obtain ⟨hE12, hEI⟩ := hEo
      have hrd := Rd.of_sl hat2.evs
      rw [hcl] at f2 hec hrd
      obtain ⟨_, _, hv9, _, _, hrr⟩ := hrd
      simp only [Value.slice.injEq, true_and] at hv9
      obtain ⟨rfl, rfl⟩ := hv9
      obtain ⟨ed, eo, rfl, _, hsw⟩ := hrr (by omega)
      have hnl : n < mc.ev.length := by omega
      have hEn : mc.ev[n] = E := by
        have h1 : m.ev.length = n := HNE.out
        simp only [hce]
        rw [List.getElem_append_right (by omega)]
        simp [h1]
      have rE : wA.drew.rangeAt ed (eo + n * 12) (iv E) := by
        have := evLine (w := wA) (fun y hy => (HCO.out.evs y hy).1) hsw hnl
        rw [hEn] at this
        exact this
      have rX : wA.drew.rangeAt w.heap.size 0 (iv x) := by have := HBX.out.range; rw [← HOV.out] at this; exact this
      have fd : wA.drew.cell? ⟨q, 2, none⟩ = some (.slice (some ⟨ed, eo, none⟩) (n + 1) ecap) := f2
      have hiE : (Tryz.prog.info? 68).map (·.size) = some (iv E).length := by rw [size79, iv_len, hE12]
      have hiX : (Tryz.prog.info? 68).map (·.size) = some (iv x).length := by rw [size79, iv_len, HX12.out]
      have hu68 := Tryz.underlying68
      have HEQ := Lib.hid fun w => eq_event2 E x hE12 HX12.out hEI HXI.out w
      have hnI : (n : Int) < (n : Int) + 1 := by omega
      have hwr : IntKind.i64.wrap ((n : Int) + 1) = (n : Int) + 1 := by rw [i64_wraps]; omega
      have hec2 : n + 1 ≤ ecap := hec
      have hem2 : ecap ≤ 9223372036854775807 := by unfold maxLen at hem; omega
      clear hat2 hap hce hrr hsw hEn hnl hcl hE12 hEI HST HBX hem
      go_wp2_with fail
      refine wp_region_held_drew (S := fun W => W.cell? ⟨q, 2, none⟩ = some (.slice (some ⟨ed, eo, none⟩) (n + 1) ecap) ∧ W.rangeAt ed (eo + n * 12) (iv E) ∧ W.rangeAt w.heap.size 0 (iv x)) (by kernel_rfl) ⟨fd, rE, rX⟩ (fun hHeld => ?_)
      refine wpAnyH_take (i := 0) (v := .pointer (some ⟨q, 0, none⟩)) rfl (by kernel_rfl) (by kernel_rfl) (by kernel_rfl) (fun _ _ _ h => h) (Or.inl ⟨by rfl, fun w hSw => by obtain ⟨h1, h2, h3⟩ := hSw; go_simp⟩) (by assumption) ?_
      change wpAnyH _ _ _ _ _ _ _ (Act.put _ (some 73) _) _
      simp only [Act.put, List.setIfInBounds_toArray, List.set_cons_zero, List.set_cons_succ]
      refine wpAnyH_take (i := 1) (v := .pointer (some ⟨q, 0, none⟩)) rfl (by kernel_rfl) (by kernel_rfl) (by kernel_rfl) (fun _ _ _ h => h) (Or.inl ⟨by rfl, fun w hSw => by obtain ⟨h1, h2, h3⟩ := hSw; go_simp⟩) (by assumption) ?_
      change wpAnyH _ _ _ _ _ _ _ (Act.put _ (some 74) _) _
      simp only [Act.put, List.setIfInBounds_toArray, List.set_cons_zero, List.set_cons_succ]
      refine wpAnyH_take (i := 2) (v := .pointer (some ⟨q, 2, none⟩)) rfl (by kernel_rfl) (by kernel_rfl) (by kernel_rfl) (fun _ _ _ h => h) (Or.inl ⟨by rfl, fun w hSw => by obtain ⟨h1, h2, h3⟩ := hSw; go_simp⟩) (by assumption) ?_
      change wpAnyH _ _ _ _ _ _ _ (Act.put _ (some 75) _) _
      simp only [Act.put, List.setIfInBounds_toArray, List.set_cons_zero, List.set_cons_succ]
      refine wpAnyH_take (i := 3) (v := .slice (some ⟨ed, eo, none⟩) (n + 1) ecap) rfl (by kernel_rfl) (by kernel_rfl) (by kernel_rfl) (fun _ _ _ h => h) (Or.inl ⟨by rfl, fun w hSw => by obtain ⟨h1, h2, h3⟩ := hSw; go_simp⟩) (by assumption) ?_
      change wpAnyH _ _ _ _ _ _ _ (Act.put _ (some 76) _) _
      simp only [Act.put, List.setIfInBounds_toArray, List.set_cons_zero, List.set_cons_succ]
      refine wpAnyH_take (i := 4) (v := .int .i64 ((n : Int) + 1)) rfl (by kernel_rfl) (by kernel_rfl) (by kernel_rfl) (fun _ _ _ h => h) (Or.inl ⟨by rfl, fun w hSw => by obtain ⟨h1, h2, h3⟩ := hSw; go_simp⟩) (by assumption) ?_
      change wpAnyH _ _ _ _ _ _ _ (Act.put _ (some 77) _) _
      simp only [Act.put, List.setIfInBounds_toArray, List.set_cons_zero, List.set_cons_succ]
      refine wpAnyH_take (i := 5) (v := .int .i64 (n : Int)) rfl (by kernel_rfl) (by kernel_rfl) (by kernel_rfl) (fun _ _ _ h => h) (Or.inl ⟨by rfl, fun w hSw => by obtain ⟨h1, h2, h3⟩ := hSw; go_simp⟩) (by assumption) ?_
      change wpAnyH _ _ _ _ _ _ _ (Act.put _ (some 78) _) _
      simp only [Act.put, List.setIfInBounds_toArray, List.set_cons_zero, List.set_cons_succ]
      refine wpAnyH_take (i := 6) (v := .int .i64 ((n : Int) + 1)) rfl (by kernel_rfl) (by kernel_rfl) (by kernel_rfl) (fun _ _ _ h => h) (Or.inl ⟨by rfl, fun w hSw => by obtain ⟨h1, h2, h3⟩ := hSw; go_simp⟩) (by assumption) ?_
      change wpAnyH _ _ _ _ _ _ _ (Act.put _ (some 79) _) _
      simp only [Act.put, List.setIfInBounds_toArray, List.set_cons_zero, List.set_cons_succ]
      refine wpAnyH_take (i := 7) (v := .bool true) rfl (by kernel_rfl) (by kernel_rfl) (by kernel_rfl) (fun _ _ _ h => h) (Or.inl ⟨by rfl, fun w hSw => by obtain ⟨h1, h2, h3⟩ := hSw; go_simp⟩) (by assumption) ?_
      change wpAnyH _ _ _ _ _ _ _ (Act.put _ (some 80) _) _
      simp only [Act.put, List.setIfInBounds_toArray, List.set_cons_zero, List.set_cons_succ]
      refine wpAnyH_take (i := 8) (v := .bool true) rfl (by kernel_rfl) (by kernel_rfl) (by kernel_rfl) (fun _ _ _ h => h) (Or.inl ⟨by rfl, fun w hSw => by obtain ⟨h1, h2, h3⟩ := hSw; go_simp⟩) (by assumption) ?_
      change wpAnyH _ _ _ _ _ _ _ (Act.put _ (some 81) _) _
      simp only [Act.put, List.setIfInBounds_toArray, List.set_cons_zero, List.set_cons_succ]
      refine wpAnyH_take (i := 9) (v := .pointer (some ⟨q, 0, none⟩)) rfl (by kernel_rfl) (by kernel_rfl) (by kernel_rfl) (fun _ _ _ h => h) (Or.inl ⟨by rfl, fun w hSw => by obtain ⟨h1, h2, h3⟩ := hSw; go_simp⟩) (by assumption) ?_
      change wpAnyH _ _ _ _ _ _ _ (Act.put _ (some 82) _) _
      simp only [Act.put, List.setIfInBounds_toArray, List.set_cons_zero, List.set_cons_succ]
      refine wpAnyH_take (i := 10) (v := .pointer (some ⟨q, 0, none⟩)) rfl (by kernel_rfl) (by kernel_rfl) (by kernel_rfl) (fun _ _ _ h => h) (Or.inl ⟨by rfl, fun w hSw => by obtain ⟨h1, h2, h3⟩ := hSw; go_simp⟩) (by assumption) ?_
      change wpAnyH _ _ _ _ _ _ _ (Act.put _ (some 83) _) _
      simp only [Act.put, List.setIfInBounds_toArray, List.set_cons_zero, List.set_cons_succ]
      refine wpAnyH_take (i := 11) (v := .pointer (some ⟨q, 2, none⟩)) rfl (by kernel_rfl) (by kernel_rfl) (by kernel_rfl) (fun _ _ _ h => h) (Or.inl ⟨by rfl, fun w hSw => by obtain ⟨h1, h2, h3⟩ := hSw; go_simp⟩) (by assumption) ?_
      change wpAnyH _ _ _ _ _ _ _ (Act.put _ (some 84) _) _
      simp only [Act.put, List.setIfInBounds_toArray, List.set_cons_zero, List.set_cons_succ]
      refine wpAnyH_take (i := 12) (v := .slice (some ⟨ed, eo, none⟩) (n + 1) ecap) rfl (by kernel_rfl) (by kernel_rfl) (by kernel_rfl) (fun _ _ _ h => h) (Or.inl ⟨by rfl, fun w hSw => by obtain ⟨h1, h2, h3⟩ := hSw; go_simp⟩) (by assumption) ?_
      change wpAnyH _ _ _ _ _ _ _ (Act.put _ (some 85) _) _
      simp only [Act.put, List.setIfInBounds_toArray, List.set_cons_zero, List.set_cons_succ]
      refine wpAnyH_take (i := 13) (v := .int .i64 (n : Int)) rfl (by kernel_rfl) (by kernel_rfl) (by kernel_rfl) (fun _ _ _ h => h) (Or.inl ⟨by rfl, fun w hSw => by obtain ⟨h1, h2, h3⟩ := hSw; go_simp⟩) (by assumption) ?_
      change wpAnyH _ _ _ _ _ _ _ (Act.put _ (some 86) _) _
      simp only [Act.put, List.setIfInBounds_toArray, List.set_cons_zero, List.set_cons_succ]
      refine wpAnyH_take (i := 14) (v := .pointer (some ⟨ed, eo + n * 12, none⟩)) rfl (by kernel_rfl) (by kernel_rfl) (by kernel_rfl) (fun _ _ _ h => h) (Or.inl ⟨by rfl, fun w hSw => by obtain ⟨h1, h2, h3⟩ := hSw; go_simp⟩) (by assumption) ?_
      change wpAnyH _ _ _ _ _ _ _ (Act.put _ (some 87) _) _
      simp only [Act.put, List.setIfInBounds_toArray, List.set_cons_zero, List.set_cons_succ]
      refine wpAnyH_take (i := 15) (v := .agg (iv E).toArray) rfl (by kernel_rfl) (by kernel_rfl) (by kernel_rfl) (fun _ _ _ h => h) (yieldsIf_load_mid (by rfl) _ _ rfl _ _ rfl _ _ (fun w h => h.2.1) hu68 rfl hiE) (by assumption) ?_
      change wpAnyH _ _ _ _ _ _ _ (Act.put _ (some 88) _) _
      simp only [Act.put, List.setIfInBounds_toArray, List.set_cons_zero, List.set_cons_succ]
      refine wpAnyH_take (i := 16) (v := .agg (iv x).toArray) rfl (by kernel_rfl) (by kernel_rfl) (by kernel_rfl) (fun _ _ _ h => h) (yieldsIf_load_mid (by rfl) _ _ rfl _ _ rfl _ _ (fun w h => h.2.2) hu68 rfl hiX) (by assumption) ?_
      change wpAnyH _ _ _ _ _ _ _ (Act.put _ (some 89) _) _
      simp only [Act.put, List.setIfInBounds_toArray, List.set_cons_zero, List.set_cons_succ]
      refine wpAnyH_take (i := 17) (v := .bool (decide (E = x))) rfl (by kernel_rfl) (by kernel_rfl) (by kernel_rfl) (fun _ _ _ h => h) (Or.inl ⟨by rfl, fun w hSw => exec_eql _ _ 68 _ _ _ _ _ _ w rfl rfl rfl (by kernel_rfl) (HEQ.out w)⟩) (by assumption) ?_
      change wpAnyH _ _ _ _ _ _ _ (Act.put _ (some 90) _) _
      simp only [Act.put, List.setIfInBounds_toArray, List.set_cons_zero, List.set_cons_succ]
      refine wpAnyH_take (i := 18) (v := .bool (decide (E = x))) rfl (by kernel_rfl) (by kernel_rfl) (by kernel_rfl) (fun _ _ _ h => h) (Or.inl ⟨by rfl, fun w hSw => by obtain ⟨h1, h2, h3⟩ := hSw; go_simp⟩) (by assumption) ?_
      change wpAnyH _ _ _ _ _ _ _ (Act.put _ (some 91) _) _
      simp only [Act.put, List.setIfInBounds_toArray, List.set_cons_zero, List.set_cons_succ]
      refine wpAnyH_take (i := 19) (v := .bool (decide (E = x))) rfl (by kernel_rfl) (by kernel_rfl) (by kernel_rfl) (fun _ _ _ h => h) (Or.inl ⟨by rfl, fun w hSw => by obtain ⟨h1, h2, h3⟩ := hSw; go_simp⟩) (by assumption) ?_
      change wpAnyH _ _ _ _ _ _ _ (Act.put _ (some 4) _) _
      simp only [Act.put, List.setIfInBounds_toArray, List.set_cons_zero, List.set_cons_succ]
      refine wpAnyH_done (by kernel_rfl) ?_ _
      go_wp2_with fail
      go_ret
      exact ⟨rfl, by
        have := HFIN.out
        rw [← HAP.out] at this
        exact this.then_below (bel_drew _)⟩
  have hcm : m = mc := by rw [← HMC.out]; unfold callP; simp [q1, q2, q3, q4, q5, q6, q7]
  have hap : appliesB m x = false := by
    unfold appliesB
    rw [HAP.out, ← hcm]
    exact decide_eq_false (fun h => by
      have := congrArg List.length h
      simp at this)
  obtain rfl := HAB.out.symm.trans hap
  have HSS := Lib.hid fun W (hW : Below w.heap.size w W) => RStep.below h0 hW
  rw [HAP.out, ← hcm]
  have hlb : ((n : Int) == (n : Int) + 1) = false := by rw [beq_eq_false_iff_ne]; omega
  have hlen : ¬ (n : Int) = (n : Int) + 1 := by omega
  clear hrf hcm hm hs9 hv hsI ha hspo hsps hap r4
  go_enter Tryz.func81, Tryz.ntmps81
  go_wp2_with fail
  go_quiet (fail)
  go_wp2_with fail
  go_ret
  exact ⟨rfl, HSS.out _ (below_drewN HB0.out _)⟩
end Go.Proofs.YtpojhplnhppcpaaGreatDoor
