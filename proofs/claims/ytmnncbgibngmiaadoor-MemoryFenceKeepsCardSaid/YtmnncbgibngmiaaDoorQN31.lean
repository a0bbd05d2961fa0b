/-
  MemoryFenceKeeps answers true: the walk.
-/
import Derived.Test.YtmnncbgibngmiaaDoorQN30
namespace Go.Proofs.YtmnncbgibngmiaaDoor
open Go.RowKit Go.Maps
set_option maxRecDepth 100000 in
set_option maxHeartbeats 8000000 in
set_option linter.unusedSimpArgs false in
theorem lawFence (z y : Int) (v kv : Value) (xs : List POp) (ks : List Int) (w : World) (hs : Script w v xs) (hk : Rd w kv ks.length (iv ks)) (hT : Tab w) :
    Calls Tryd.prog 4 #[.int .i64 z, v, .int .i64 y, kv] w fun e w' => e = .returned (.bool true) ∧ Below w.heap.size w w' := by
  have HBE := Lib.hid (begun_any z v xs w hs hT)
  have HK := Lib.hid hk
  clear hs hT hk
  go_enter Tryd.func4, Tryd.ntmps4
  go_wp2_with fail
  refine HBE.out.mono ?_
  rintro e w1 ⟨p, m, F, rfl, hh, hsm, hle⟩
  have H1 := Lib.hid hh
  have HSM := Lib.hid hsm
  have hlc := lines_any p m F w1 hh.rep
  have hpos := hh.ok.pos
  have hlea := fun w => least_any y (m.L.length : Int) w ⟨by omega, by omega⟩
  have HLC := Lib.hid hlc
  have HLE := Lib.hid hlea
  have HL8 := Lib.hid hle
  clear HBE hh hlc hlea hsm
  go_wp2_with (go_at_call 13; refine HLC.out.mono ?_; rintro e w' ⟨rfl, hw'⟩; obtain rfl := hw'.symm)
  refine (HLE.out _).mono ?_
  rintro e w' ⟨⟨k0, rfl, hk0, hk1⟩, hw'⟩
  obtain rfl := hw'.symm
  obtain ⟨k, rfl⟩ : ∃ k : Nat, k0 = k := ⟨k0.toNat, by omega⟩
  have hkl : k < m.L.length := by omega
  have HKL := Lib.hid hkl
  have hkI : I64 (k : Int) := small_i64 (by omega)
  clear hkl HLC HLE hk0 hk1
  go_wp2_with fail
  refine (seen_any p m F w1 H1.out.ok H1.out.rep H1.out.tab).mono ?_
  rintro e w2 ⟨sv, rfl, hsv, hso, hb⟩
  have H2 := Lib.hid (H1.out.stay hb)
  have HSV : Hid (Out w2 F 47 8 sv m.L.length (iv m.seen.flatten)) := Lib.hid ⟨hsv, fun q hq hF => by have h1 := H1.out.rep.lt q hF; have h2 := hso q hq; omega⟩
  obtain ⟨A2, cap2, rfl, _⟩ := hsv.shape
  have HLC := Lib.hid (lines_any p m F w2 H2.out.rep)
  clear hsv hso hb H1
  have hst0 := state_any p (k : Int) m F w2 hkI H2.out.ok H2.out.rep H2.out.tab
  have hsk : stateP m (k : Int) = (((m.line k).state : Nat) : Int) := by unfold stateP; rw [has_k HKL.out, if_pos rfl, Int.toNat_natCast]
  rw [hsk] at hst0
  have HST := Lib.hid hst0
  clear hsk hst0
  go_wp2_with (go_at_call 13; refine HLC.out.mono ?_; rintro e w' ⟨rfl, hw'⟩; obtain rfl := hw'.symm)
  refine HST.out.mono ?_
  rintro e w3 ⟨rfl, hb⟩
  have H3 := Lib.hid (H2.out.stay hb)
  have HSV3 : Hid (Out w3 F 47 8 (.slice A2 m.L.length cap2) m.L.length (iv m.seen.flatten)) := Lib.hid ⟨HSV.out.sl.keep fun q hq => hb.block q (HSV.out.sl.lt hq), HSV.out.off⟩
  clear hb H2 HSV HLC HST
  by_cases hr : (m.line k).state = 2
  · rw [hr]
    have HS := Lib.hid (sanity_any w3 H3.out.tab)
    go_wp2_with fail
    refine HS.out.mono ?_
    rintro e w4 ⟨rfl, hb⟩
    have H4 := Lib.hid (H3.out.stay hb)
    clear hb HS
    go_wp2_with fail
    go_ret
    exact ⟨rfl, H4.out.below⟩
  · have hrI : ¬ (((m.line k).state : Int) = 2) := by omega
    have hfl := flushC_any p (k : Int) m F w3 H3.out.ok (HSM.out.mono (by omega)) H3.out.rep
    rw [flush_k HKL.out] at hfl
    have HFL := Lib.hid hfl
    clear hfl
    go_wp2_with fail
    refine HFL.out.mono ?_
    rintro e w4 ⟨rfl, hst⟩
    have hgb := flush_good H3.out.ok HSM.out (k : Int) hkI
    rw [flush_k HKL.out] at hgb
    have HOK := Lib.hid H3.out.ok
    have H4 := Lib.hid (H3.out.step hst hgb.ok)
    have HSV4 := Lib.hid (HSV3.out.step hst)
    have HS4 := Lib.hid hgb.small
    obtain ⟨F4, hF4⟩ : ∃ F4, F4 = Ex F w3 w4 := ⟨_, rfl⟩
    rw [← hF4] at H4 HSV4
    clear hst hgb hF4 H3 HSV3 HFL
    have HFE := Lib.hid (fenceC_any p _ F4 w4 H4.out.ok (HS4.out.mono (by omega)) H4.out.rep H4.out.tab H4.out.not1)
    go_wp2_with fail
    refine HFE.out.mono ?_
    rintro e w5 ⟨rfl, hst⟩
    have hg := fence_good H4.out.ok HS4.out
    have H5 := Lib.hid (H4.out.step hst hg.ok)
    have HSV5 := Lib.hid (HSV4.out.step hst)
    have HS5 := Lib.hid hg.small
    have hL5 : ((fenceP ((m.upd k (·.flushed)).add (evt 3 (k : Int) 0 0 Z8))).add (evt 4 0 0 0 Z8)).L = (fenceP (m.upd k (·.flushed))).L := rfl
    obtain ⟨F5, hF5⟩ : ∃ F5, F5 = Ex F4 w4 w5 := ⟨_, rfl⟩
    rw [← hF5] at H5 HSV5
    clear hst hg hF5 H4 HSV4 HFE HS4
    generalize (fenceP ((m.upd k (·.flushed)).add (evt 3 (k : Int) 0 0 Z8))).add (evt 4 0 0 0 Z8) = m5 at *
    have HL5 := Lib.hid hL5
    clear hL5
    have hl5 : m5.L.length = m.L.length := by rw [HL5.out]; simp [fenceP, PM.upd]
    have HLN5 := Lib.hid hl5
    have hcu := cuts_any p ks kv m5 F5 w5 H5.out.ok (HS5.out.mono (by omega)) H5.out.rep (HK.out.below H5.out.below)
    have HCU := Lib.hid hcu
    clear hcu hl5
    go_wp2_with fail
    refine HCU.out.mono ?_
    rintro e w6 ⟨cv, g, rfl, hg, hsc, hso, hb⟩
    have hoff : ∀ q, 0 < (cutsTo m5 ks.length g m5.L.length).length → cv.ownBlock = some q → ¬ F5 q := fun q _ hq hF => by
      have h1 := H5.out.rep.lt q hF
      have h2 := hso q hq
      omega
    have hci : ∀ c ∈ cutsTo m5 ks.length g m5.L.length, I64 c.1 ∧ I64 c.2 := fun c hc => by
      obtain ⟨i, hi, _, rfl⟩ := cutsTo_has _ _ _ _ c hc
      have h1 := hg i hi
      have h2 := HS5.out.pend _ (PM.line_mem hi)
      have h3 := HLN5.out
      have h4 := HL8.out
      exact ⟨small_i64 (show (0 : Int) ≤ (i : Int) ∧ (i : Int) < 100 by omega), small_i64 (show 0 ≤ g i ∧ g i < 100 by omega)⟩
    have H6 := Lib.hid (H5.out.stay hb)
    have HSV6 := Lib.hid (HSV5.out.stay hb)
    have HCG := crash_good H5.out.ok HS5.out (cutsTo m5 ks.length g m5.L.length)
    obtain ⟨hc0, hc1, _, _⟩ := crash_at (K := ks.length) hg
    obtain ⟨hk1, hk2⟩ := fence_keeps (K := ks.length) HOK.out HKL.out HL5.out hg
    have hcr := crash_any p _ cv m5 F5 w6 H6.out.ok H6.out.rep H6.out.tab H6.out.not1 (Rd.of_sl hsc) hoff hci
    rw [hc0] at hcr
    have HCR := Lib.hid hcr
    have HOC := Lib.hid HCG.ok
    have HC1 := Lib.hid (hc1.trans HLN5.out)
    have HC2 := Lib.hid hk1
    have HC3 := Lib.hid hk2
    have HC4 := Lib.hid HCG.small
    clear hcr HCG hc0 hc1 hk1 hk2 hoff hci hg hsc hso hb HSV5 HCU
    generalize (crashP m5 (cutsTo m5 ks.length g m5.L.length)).2 = m7 at *
    go_wp2_with fail
    refine HCR.out.mono ?_
    rintro e w7 ⟨rfl, hst⟩
    have H7 := Lib.hid (H6.out.step hst HOC.out)
    have HSV7 := Lib.hid (HSV6.out.step hst)
    obtain ⟨F7, hF7⟩ : ∃ F7, F7 = Ex F5 w6 w7 := ⟨_, rfl⟩
    rw [← hF7] at H7 HSV7
    clear hst hF7 H5 H6 HSV6 HCR
    go_wp2_with fail
    refine (seen_any p m7 F7 w7 H7.out.ok H7.out.rep H7.out.tab).mono ?_
    rintro e w8 ⟨tv, rfl, htv, _, hb⟩
    have H8 := Lib.hid (H7.out.stay hb)
    have HSV8 := Lib.hid (HSV7.out.stay hb)
    rw [HC1.out] at htv
    have HTV := Lib.hid htv
    obtain ⟨A8, cap8, rfl, _⟩ := htv.shape
    clear htv hb H7 HSV7
    have hkS : k < m.seen.length := by unfold PM.seen; rw [List.length_map]; exact HKL.out
    have hkT : k < m7.seen.length := by unfold PM.seen; rw [List.length_map, HC1.out]; exact HKL.out
    have hkM : k < m7.L.length := by rw [HC1.out]; exact HKL.out
    have e1 : m.seen[k] = (m.line k).shows := by rw [PM.line_eq HKL.out]; exact List.getElem_map _
    have e2 : m7.seen[k] = (m.line k).shows := by rw [← HC2.out, PM.line_eq hkM]; exact List.getElem_map _
    obtain ⟨A', cap', he, _, _, hc⟩ := Rd.of_sl HTV.out
    simp only [Value.slice.injEq] at he
    obtain ⟨rfl, -, rfl⟩ := he
    have hposN : 0 < m.L.length := by have := HKL.out; omega
    obtain ⟨bb, oo, rfl, hbl, hcells⟩ := hc hposN
    obtain ⟨A', cap', he, _, _, hc⟩ := Rd.of_sl HSV8.out.sl
    simp only [Value.slice.injEq] at he
    obtain ⟨rfl, -, rfl⟩ := he
    obtain ⟨bb2, oo2, rfl, hbl2, hcells2⟩ := hc hposN
    have r1 : w8.drew.rangeAt bb (oo + k * 8) (iv (m.line k).shows) := by rw [← e2]; exact seenLine (fun x hx => (seen_ok HOC.out x hx).1) hcells hkT
    have r2 : w8.drew.rangeAt bb2 (oo2 + k * 8) (iv (m.line k).shows) := by rw [← e1]; exact seenLine (fun x hx => (seen_ok HOK.out x hx).1) hcells2 hkS
    obtain ⟨q1, q2⟩ := seen_ok HOK.out _ (List.getElem_mem hkS)
    rw [e1] at q1 q2
    have hp0 : pendP m7 (k : Int) = [] := by rw [pend_k hkM]; exact HC3.out
    have HPN : Hid (∀ w, Rep w p m7 F7 → Calls Tryd.prog 25 #[.pointer (some ⟨p, 0, none⟩), .int .i64 (k : Int)] w (Cloned w 54 2 0 [])) := Lib.hid (fun w h => by
      have := pending_any p (k : Int) m7 F7 w hkI HOC.out.few (by rw [hp0]; decide) h
      rw [hp0] at this
      exact this)
    clear e1 e2 hc hcells hcells2 hp0 HTV HSV8 hkS hkT hkM
    have heq := fun w => eq_line (m.line k).shows (m.line k).shows q1 q1 q2 q2 w
    have hi8 := size22' q1
    have hu47 := Tryd.underlying47
    have hkN := HKL.out
    generalize (m.line k).shows = L at *
    have heq2 : ∀ w, (Op.equalIn 10000 47 (.agg (iv L).toArray) (.agg (iv L).toArray)).run Tryd.prog w = .ok true w := fun w => by rw [heq w, decide_eq_true rfl]
    have hkNI : (k : Int) < (m.L.length : Int) := by omega
    generalize m.L.length = N at *
    have HD := Lib.hid (H8.out.stay (bel_drew w8))
    have HS := Lib.hid (sanity_any w8.drew HD.out.tab)
    clear heq q1 q2 H8 hbl hbl2
    go_wp2_with fail
    refine wp_region_held_drew (S := fun W => W.rangeAt bb (oo + k * 8) (iv L) ∧ W.rangeAt bb2 (oo2 + k * 8) (iv L)) (by kernel_rfl) ⟨r1, r2⟩ (fun hHeld => ?_)
    generalize w8.drew = w9 at *
    refine wpAnyH_ready (rs := [0]) (by kernel_rfl) (by simp) ?_
    refine AllReadyH.cons rfl (fun K hK => ?_) AllReadyH.nil
    go_simp
    refine HS.out.mono ?_
    rintro e w10 ⟨rfl, hb3⟩
    have HD3 := Lib.hid (HD.out.stay hb3)
    refine hK.out _ _ ⟨range_below hb3 hHeld.1, range_below hb3 hHeld.2⟩ (fun hHeld1 => ?_)
    clear hK K hHeld hb3 HS HD
    refine wpAnyH_take (i := 1) (v := .bool true) rfl (by kernel_rfl) (by kernel_rfl) (by kernel_rfl) (fun _ _ _ h => h) (Or.inl ⟨by rfl, fun w hSw => by obtain ⟨h1, h2⟩ := hSw; go_simp⟩) (by assumption) ?_
    change wpAnyH _ _ _ _ _ _ _ (Act.put _ (some 49) _) _
    simp only [Act.put, List.setIfInBounds_toArray, List.set_cons_zero, List.set_cons_succ]
    refine wpAnyH_take (i := 2) (v := .int .i64 0) rfl (by kernel_rfl) (by kernel_rfl) (by kernel_rfl) (fun _ _ _ h => h) (Or.inl ⟨by rfl, fun w hSw => by obtain ⟨h1, h2⟩ := hSw; go_simp⟩) (by assumption) ?_
    change wpAnyH _ _ _ _ _ _ _ (Act.put _ (some 50) _) _
    simp only [Act.put, List.setIfInBounds_toArray, List.set_cons_zero, List.set_cons_succ]
    refine wpAnyH_take (i := 3) (v := .bool true) rfl (by kernel_rfl) (by kernel_rfl) (by kernel_rfl) (fun _ _ _ h => h) (Or.inl ⟨by rfl, fun w hSw => by obtain ⟨h1, h2⟩ := hSw; go_simp⟩) (by assumption) ?_
    change wpAnyH _ _ _ _ _ _ _ (Act.put _ (some 51) _) _
    simp only [Act.put, List.setIfInBounds_toArray, List.set_cons_zero, List.set_cons_succ]
    refine wpAnyH_take (i := 4) (v := .bool true) rfl (by kernel_rfl) (by kernel_rfl) (by kernel_rfl) (fun _ _ _ h => h) (Or.inl ⟨by rfl, fun w hSw => by obtain ⟨h1, h2⟩ := hSw; go_simp⟩) (by assumption) ?_
    change wpAnyH _ _ _ _ _ _ _ (Act.put _ (some 52) _) _
    simp only [Act.put, List.setIfInBounds_toArray, List.set_cons_zero, List.set_cons_succ]
    refine wpAnyH_take (i := 5) (v := .bool true) rfl (by kernel_rfl) (by kernel_rfl) (by kernel_rfl) (fun _ _ _ h => h) (Or.inl ⟨by rfl, fun w hSw => by obtain ⟨h1, h2⟩ := hSw; go_simp⟩) (by assumption) ?_
    change wpAnyH _ _ _ _ _ _ _ (Act.put _ (some 53) _) _
    simp only [Act.put, List.setIfInBounds_toArray, List.set_cons_zero, List.set_cons_succ]
    refine wpAnyH_take (i := 6) (v := .int .i64 0) rfl (by kernel_rfl) (by kernel_rfl) (by kernel_rfl) (fun _ _ _ h => h) (Or.inl ⟨by rfl, fun w hSw => by obtain ⟨h1, h2⟩ := hSw; go_simp⟩) (by assumption) ?_
    change wpAnyH _ _ _ _ _ _ _ (Act.put _ (some 54) _) _
    simp only [Act.put, List.setIfInBounds_toArray, List.set_cons_zero, List.set_cons_succ]
    refine wpAnyH_take (i := 7) (v := .bool true) rfl (by kernel_rfl) (by kernel_rfl) (by kernel_rfl) (fun _ _ _ h => h) (Or.inl ⟨by rfl, fun w hSw => by obtain ⟨h1, h2⟩ := hSw; go_simp⟩) (by assumption) ?_
    change wpAnyH _ _ _ _ _ _ _ (Act.put _ (some 55) _) _
    simp only [Act.put, List.setIfInBounds_toArray, List.set_cons_zero, List.set_cons_succ]
    refine wpAnyH_take (i := 8) (v := .bool true) rfl (by kernel_rfl) (by kernel_rfl) (by kernel_rfl) (fun _ _ _ h => h) (Or.inl ⟨by rfl, fun w hSw => by obtain ⟨h1, h2⟩ := hSw; go_simp⟩) (by assumption) ?_
    change wpAnyH _ _ _ _ _ _ _ (Act.put _ (some 56) _) _
    simp only [Act.put, List.setIfInBounds_toArray, List.set_cons_zero, List.set_cons_succ]
    refine wpAnyH_take (i := 9) (v := .bool true) rfl (by kernel_rfl) (by kernel_rfl) (by kernel_rfl) (fun _ _ _ h => h) (Or.inl ⟨by rfl, fun w hSw => by obtain ⟨h1, h2⟩ := hSw; go_simp⟩) (by assumption) ?_
    change wpAnyH _ _ _ _ _ _ _ (Act.put _ (some 57) _) _
    simp only [Act.put, List.setIfInBounds_toArray, List.set_cons_zero, List.set_cons_succ]
    refine wpAnyH_take (i := 10) (v := .slice (some ⟨bb, oo, none⟩) N cap8) rfl (by kernel_rfl) (by kernel_rfl) (by kernel_rfl) (fun _ _ _ h => h) (Or.inl ⟨by rfl, fun w hSw => by obtain ⟨h1, h2⟩ := hSw; go_simp⟩) (by assumption) ?_
    change wpAnyH _ _ _ _ _ _ _ (Act.put _ (some 58) _) _
    simp only [Act.put, List.setIfInBounds_toArray, List.set_cons_zero, List.set_cons_succ]
    refine wpAnyH_take (i := 11) (v := .int .i64 (N : Int)) rfl (by kernel_rfl) (by kernel_rfl) (by kernel_rfl) (fun _ _ _ h => h) (Or.inl ⟨by rfl, fun w hSw => by obtain ⟨h1, h2⟩ := hSw; go_simp⟩) (by assumption) ?_
    change wpAnyH _ _ _ _ _ _ _ (Act.put _ (some 59) _) _
    simp only [Act.put, List.setIfInBounds_toArray, List.set_cons_zero, List.set_cons_succ]
    refine wpAnyH_take (i := 12) (v := .slice (some ⟨bb2, oo2, none⟩) N cap2) rfl (by kernel_rfl) (by kernel_rfl) (by kernel_rfl) (fun _ _ _ h => h) (Or.inl ⟨by rfl, fun w hSw => by obtain ⟨h1, h2⟩ := hSw; go_simp⟩) (by assumption) ?_
    change wpAnyH _ _ _ _ _ _ _ (Act.put _ (some 60) _) _
    simp only [Act.put, List.setIfInBounds_toArray, List.set_cons_zero, List.set_cons_succ]
    refine wpAnyH_take (i := 13) (v := .int .i64 (N : Int)) rfl (by kernel_rfl) (by kernel_rfl) (by kernel_rfl) (fun _ _ _ h => h) (Or.inl ⟨by rfl, fun w hSw => by obtain ⟨h1, h2⟩ := hSw; go_simp⟩) (by assumption) ?_
    change wpAnyH _ _ _ _ _ _ _ (Act.put _ (some 61) _) _
    simp only [Act.put, List.setIfInBounds_toArray, List.set_cons_zero, List.set_cons_succ]
    refine wpAnyH_take (i := 14) (v := .bool true) rfl (by kernel_rfl) (by kernel_rfl) (by kernel_rfl) (fun _ _ _ h => h) (Or.inl ⟨by rfl, fun w hSw => by obtain ⟨h1, h2⟩ := hSw; go_simp⟩) (by assumption) ?_
    change wpAnyH _ _ _ _ _ _ _ (Act.put _ (some 62) _) _
    simp only [Act.put, List.setIfInBounds_toArray, List.set_cons_zero, List.set_cons_succ]
    refine wpAnyH_take (i := 15) (v := .bool true) rfl (by kernel_rfl) (by kernel_rfl) (by kernel_rfl) (fun _ _ _ h => h) (Or.inl ⟨by rfl, fun w hSw => by obtain ⟨h1, h2⟩ := hSw; go_simp⟩) (by assumption) ?_
    change wpAnyH _ _ _ _ _ _ _ (Act.put _ (some 63) _) _
    simp only [Act.put, List.setIfInBounds_toArray, List.set_cons_zero, List.set_cons_succ]
    refine wpAnyH_take (i := 16) (v := .bool true) rfl (by kernel_rfl) (by kernel_rfl) (by kernel_rfl) (fun _ _ _ h => h) (Or.inl ⟨by rfl, fun w hSw => by obtain ⟨h1, h2⟩ := hSw; go_simp⟩) (by assumption) ?_
    change wpAnyH _ _ _ _ _ _ _ (Act.put _ (some 64) _) _
    simp only [Act.put, List.setIfInBounds_toArray, List.set_cons_zero, List.set_cons_succ]
    refine wpAnyH_take (i := 17) (v := .slice (some ⟨bb, oo, none⟩) N cap8) rfl (by kernel_rfl) (by kernel_rfl) (by kernel_rfl) (fun _ _ _ h => h) (Or.inl ⟨by rfl, fun w hSw => by obtain ⟨h1, h2⟩ := hSw; go_simp⟩) (by assumption) ?_
    change wpAnyH _ _ _ _ _ _ _ (Act.put _ (some 65) _) _
    simp only [Act.put, List.setIfInBounds_toArray, List.set_cons_zero, List.set_cons_succ]
    refine wpAnyH_take (i := 18) (v := .int .i64 (k : Int)) rfl (by kernel_rfl) (by kernel_rfl) (by kernel_rfl) (fun _ _ _ h => h) (Or.inl ⟨by rfl, fun w hSw => by obtain ⟨h1, h2⟩ := hSw; go_simp⟩) (by assumption) ?_
    change wpAnyH _ _ _ _ _ _ _ (Act.put _ (some 66) _) _
    simp only [Act.put, List.setIfInBounds_toArray, List.set_cons_zero, List.set_cons_succ]
    refine wpAnyH_take (i := 19) (v := .pointer (some ⟨bb, oo + k * 8, none⟩)) rfl (by kernel_rfl) (by kernel_rfl) (by kernel_rfl) (fun _ _ _ h => h) (Or.inl ⟨by rfl, fun w hSw => by obtain ⟨h1, h2⟩ := hSw; go_simp⟩) (by assumption) ?_
    change wpAnyH _ _ _ _ _ _ _ (Act.put _ (some 67) _) _
    simp only [Act.put, List.setIfInBounds_toArray, List.set_cons_zero, List.set_cons_succ]
    refine wpAnyH_take (i := 20) (v := .agg (iv L).toArray) rfl (by kernel_rfl) (by kernel_rfl) (by kernel_rfl) (fun _ _ _ h => h) (yieldsIf_load_mid (by rfl) _ _ rfl _ _ rfl _ _ (fun w h => h.1) hu47 rfl hi8) (by assumption) ?_
    change wpAnyH _ _ _ _ _ _ _ (Act.put _ (some 68) _) _
    simp only [Act.put, List.setIfInBounds_toArray, List.set_cons_zero, List.set_cons_succ]
    refine wpAnyH_take (i := 21) (v := .slice (some ⟨bb2, oo2, none⟩) N cap2) rfl (by kernel_rfl) (by kernel_rfl) (by kernel_rfl) (fun _ _ _ h => h) (Or.inl ⟨by rfl, fun w hSw => by obtain ⟨h1, h2⟩ := hSw; go_simp⟩) (by assumption) ?_
    change wpAnyH _ _ _ _ _ _ _ (Act.put _ (some 69) _) _
    simp only [Act.put, List.setIfInBounds_toArray, List.set_cons_zero, List.set_cons_succ]
    refine wpAnyH_take (i := 22) (v := .int .i64 (k : Int)) rfl (by kernel_rfl) (by kernel_rfl) (by kernel_rfl) (fun _ _ _ h => h) (Or.inl ⟨by rfl, fun w hSw => by obtain ⟨h1, h2⟩ := hSw; go_simp⟩) (by assumption) ?_
    change wpAnyH _ _ _ _ _ _ _ (Act.put _ (some 70) _) _
    simp only [Act.put, List.setIfInBounds_toArray, List.set_cons_zero, List.set_cons_succ]
    refine wpAnyH_take (i := 23) (v := .pointer (some ⟨bb2, oo2 + k * 8, none⟩)) rfl (by kernel_rfl) (by kernel_rfl) (by kernel_rfl) (fun _ _ _ h => h) (Or.inl ⟨by rfl, fun w hSw => by obtain ⟨h1, h2⟩ := hSw; go_simp⟩) (by assumption) ?_
    change wpAnyH _ _ _ _ _ _ _ (Act.put _ (some 71) _) _
    simp only [Act.put, List.setIfInBounds_toArray, List.set_cons_zero, List.set_cons_succ]
    refine wpAnyH_take (i := 24) (v := .agg (iv L).toArray) rfl (by kernel_rfl) (by kernel_rfl) (by kernel_rfl) (fun _ _ _ h => h) (yieldsIf_load_mid (by rfl) _ _ rfl _ _ rfl _ _ (fun w h => h.2) hu47 rfl hi8) (by assumption) ?_
    change wpAnyH _ _ _ _ _ _ _ (Act.put _ (some 72) _) _
    simp only [Act.put, List.setIfInBounds_toArray, List.set_cons_zero, List.set_cons_succ]
    refine wpAnyH_take (i := 25) (v := .bool true) rfl (by kernel_rfl) (by kernel_rfl) (by kernel_rfl) (fun _ _ _ h => h) (Or.inl ⟨by rfl, fun w hSw => by obtain ⟨h1, h2⟩ := hSw; go_simp⟩) (by assumption) ?_
    change wpAnyH _ _ _ _ _ _ _ (Act.put _ (some 73) _) _
    simp only [Act.put, List.setIfInBounds_toArray, List.set_cons_zero, List.set_cons_succ]
    refine wpAnyH_take (i := 26) (v := .bool true) rfl (by kernel_rfl) (by kernel_rfl) (by kernel_rfl) (fun _ _ _ h => h) (Or.inl ⟨by rfl, fun w hSw => by obtain ⟨h1, h2⟩ := hSw; go_simp⟩) (by assumption) ?_
    change wpAnyH _ _ _ _ _ _ _ (Act.put _ (some 74) _) _
    simp only [Act.put, List.setIfInBounds_toArray, List.set_cons_zero, List.set_cons_succ]
    refine wpAnyH_take (i := 27) (v := .bool true) rfl (by kernel_rfl) (by kernel_rfl) (by kernel_rfl) (fun _ _ _ h => h) (Or.inl ⟨by rfl, fun w hSw => by obtain ⟨h1, h2⟩ := hSw; go_simp⟩) (by assumption) ?_
    change wpAnyH _ _ _ _ _ _ _ (Act.put _ (some 75) _) _
    simp only [Act.put, List.setIfInBounds_toArray, List.set_cons_zero, List.set_cons_succ]
    refine wpAnyH_take (i := 28) (v := .pointer (some ⟨p, 0, none⟩)) rfl (by kernel_rfl) (by kernel_rfl) (by kernel_rfl) (fun _ _ _ h => h) (Or.inl ⟨by rfl, fun w hSw => by obtain ⟨h1, h2⟩ := hSw; go_simp⟩) (by assumption) ?_
    change wpAnyH _ _ _ _ _ _ _ (Act.put _ (some 76) _) _
    simp only [Act.put, List.setIfInBounds_toArray, List.set_cons_zero, List.set_cons_succ]
    refine wpAnyH_take (i := 29) (v := .int .i64 (k : Int)) rfl (by kernel_rfl) (by kernel_rfl) (by kernel_rfl) (fun _ _ _ h => h) (Or.inl ⟨by rfl, fun w hSw => by obtain ⟨h1, h2⟩ := hSw; go_simp⟩) (by assumption) ?_
    change wpAnyH _ _ _ _ _ _ _ (Act.put _ (some 77) _) _
    simp only [Act.put, List.setIfInBounds_toArray, List.set_cons_zero, List.set_cons_succ]
    refine wpAnyH_ready (rs := [30]) (by kernel_rfl) (by simp) ?_
    refine AllReadyH.cons rfl (fun K hK => ?_) AllReadyH.nil
    go_simp
    refine (HPN.out _ HD3.out.rep).mono ?_
    rintro e w11 ⟨pv, rfl, hps, _, hb4⟩
    have HD4 := Lib.hid (HD3.out.stay hb4)
    obtain ⟨A9, cap9, rfl, _⟩ := hps.shape
    refine hK.out _ _ ⟨range_below hb4 hHeld1.1, range_below hb4 hHeld1.2⟩ (fun hHeld2 => ?_)
    clear hK K hHeld1 hb4 hps HPN HD3
    refine wpAnyH_take (i := 31) (v := .int .i64 0) rfl (by kernel_rfl) (by kernel_rfl) (by kernel_rfl) (fun _ _ _ h => h) (Or.inl ⟨by rfl, fun w hSw => by obtain ⟨h1, h2⟩ := hSw; go_simp⟩) (by assumption) ?_
    change wpAnyH _ _ _ _ _ _ _ (Act.put _ (some 79) _) _
    simp only [Act.put, List.setIfInBounds_toArray, List.set_cons_zero, List.set_cons_succ]
    refine wpAnyH_take (i := 32) (v := .bool true) rfl (by kernel_rfl) (by kernel_rfl) (by kernel_rfl) (fun _ _ _ h => h) (Or.inl ⟨by rfl, fun w hSw => by obtain ⟨h1, h2⟩ := hSw; go_simp⟩) (by assumption) ?_
    change wpAnyH _ _ _ _ _ _ _ (Act.put _ (some 80) _) _
    simp only [Act.put, List.setIfInBounds_toArray, List.set_cons_zero, List.set_cons_succ]
    refine wpAnyH_take (i := 33) (v := .bool true) rfl (by kernel_rfl) (by kernel_rfl) (by kernel_rfl) (fun _ _ _ h => h) (Or.inl ⟨by rfl, fun w hSw => by obtain ⟨h1, h2⟩ := hSw; go_simp⟩) (by assumption) ?_
    change wpAnyH _ _ _ _ _ _ _ (Act.put _ (some 81) _) _
    simp only [Act.put, List.setIfInBounds_toArray, List.set_cons_zero, List.set_cons_succ]
    refine wpAnyH_take (i := 34) (v := .bool true) rfl (by kernel_rfl) (by kernel_rfl) (by kernel_rfl) (fun _ _ _ h => h) (Or.inl ⟨by rfl, fun w hSw => by obtain ⟨h1, h2⟩ := hSw; go_simp⟩) (by assumption) ?_
    change wpAnyH _ _ _ _ _ _ _ (Act.put _ (some 8) _) _
    simp only [Act.put, List.setIfInBounds_toArray, List.set_cons_zero, List.set_cons_succ]
    refine wpAnyH_done (by kernel_rfl) ?_ _
    go_wp2_with fail
    go_ret
    exact ⟨rfl, HD4.out.below⟩
end Go.Proofs.YtmnncbgibngmiaaDoor
