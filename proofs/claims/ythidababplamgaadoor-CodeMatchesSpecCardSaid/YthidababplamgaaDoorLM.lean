/- CodeMatchesSpec answers true. -/
import Derived.Test.YthidababplamgaaDoorR8
import Derived.Test.YthidababplamgaaDoorLC
import Derived.Deep.CutRange
import Derived.Deep.DeepCutAuto
import Derived.Deep.RegionHeld3
namespace Go.Proofs.YthidababplamgaaDoor
open Go.RowKit
theorem flipR_lt {ws : List Nat} (c : Nat) (k b : Int) (h8 : ws.length = 8) (hs : ∀ x ∈ ws, x < 1099511627776) : ∀ x ∈ (flipR ws c k b).1, x < 1099511627776 := by
  unfold flipR
  split
  · rename_i hd
    obtain ⟨h1, h2, h3, h4⟩ := dataB_of hd
    exact (set_lt hs k.toNat b.toNat (by omega) (by omega)).2.2
  · split
    · exact hs
    · exact hs
theorem fixZ_good (L : List Int) (c : Int) (h8 : L.length = 8) : (fixZ L c).1.length = 8 ∧ ∀ z ∈ (fixZ L c).1, I64 z := by
  unfold fixZ
  split
  · rename_i hv
    unfold validB at hv
    simp only [Bool.and_eq_true, decide_eq_true_eq] at hv
    obtain ⟨hL, hs⟩ := of_all hv.1
    have hlen : (nw L).length = 8 := by rw [nw_len, h8]
    split
    · exact ⟨rfl, z8_i64⟩
    · split
      · exact ⟨by rw [ci_len, flipR_len, hlen], ci_i64 (flipR_lt _ _ _ hlen hs)⟩
      · refine ⟨h8, ?_⟩
        show ∀ z ∈ L, I64 z
        rw [hL]
        exact ci_i64 hs
  · exact ⟨rfl, z8_i64⟩
set_option maxRecDepth 100000 in
set_option linter.unusedSimpArgs false in
set_option linter.unusedVariables false in
set_option maxHeartbeats 8000000 in
theorem lawM (L : List Int) (c : Int) (M : List Int) (b word bit : Int) (w : World) (hL : L.length = 8) (hM : M.length = 8) (hT : Tab w) :
    Calls Tryd.prog 3 #[.agg (iv L).toArray, .int .i64 c, .agg (iv M).toArray, .int .i64 b, .int .i64 word, .int .i64 bit] w fun e w' => e = .returned (.bool true) ∧ Below w.heap.size w w' := by
  have HT := Lib.hid hT
  have HSAN := Lib.hid fun w hT => san_any w hT
  have H22 := Lib.hid Tryd.underlying22
  have H22s := Lib.hid size22
  have HF1 := Lib.hid fun w hT => fix_any L c w hL hT
  have HF2 := Lib.hid fun w => rFix_any L c w hL
  obtain ⟨hxl, hxz⟩ := fixZ_good L c hL
  generalize fixZ L c = r at *
  obtain ⟨x, n, er⟩ := r
  simp only at hxl hxz
  have HP1 := Lib.hid fun w => Position_any word bit w
  have HP2 := Lib.hid fun w => rPosition_any word bit w
  generalize posZ word bit = P at *
  have HE1 := Lib.hid fun w hT => encode_any L w hL hT
  have HE2 := Lib.hid fun w => rEncode_any L w hL
  generalize encZ L = E at *
  have HC1 := Lib.hid fun w hT => checked_any L c w hL hT
  have HC2 := Lib.hid fun w => rChecked_any L c w hL
  generalize chkZ L c = q at *
  obtain ⟨st0, kk0, bb0⟩ := q
  have HC1 := Lib.hid (show ∀ w, Tab w → Calls Tryd.prog 16 #[.agg (iv L).toArray, .int .i64 c] w (fun e w' => e = .returned (.agg #[.int .i64 (st0 : Int), .int .i64 (kk0 : Int), .int .i64 (bb0 : Int)]) ∧ Below w.heap.size w w') from HC1.out)
  have HC2 := Lib.hid (show ∀ w, Calls Tryd.prog 17 #[.agg (iv L).toArray, .int .i64 c] w (fun e w' => e = .returned (.agg #[.int .i64 (st0 : Int), .int .i64 (kk0 : Int), .int .i64 (bb0 : Int)]) ∧ Below w.heap.size w w') from HC2.out)
  generalize (st0 : Int) = st at *
  generalize (kk0 : Int) = kk at *
  generalize (bb0 : Int) = bb at *
  have HD1 := Lib.hid fun w => dist_any L c M b w hL hM
  have HD2 := Lib.hid fun w => rDist_any L c M b w hL hM
  generalize distZ L c M b = DD at *
  have HV := Lib.hid fun w => rvalid_any L c w hL
  obtain ⟨vb, hvb⟩ : ∃ vb, validB L c = vb := ⟨_, rfl⟩
  rw [hvb] at HV
  have HFL : Hid (vb = true → ∃ VF f, (∀ w, Calls Tryd.prog 22 #[.agg (iv L).toArray, .int .i64 c, .int .i64 word, .int .i64 bit] w fun e w' => e = .returned (.tuple #[.agg (List.toArray VF), .int .i64 f]) ∧ Below w.heap.size w w') ∧ (∀ w, Calls Tryd.prog 23 #[.agg (iv L).toArray, .int .i64 c, .int .i64 word, .int .i64 bit] w fun e w' => e = .returned (.tuple #[.agg VF.toArray, .int .i64 f]) ∧ Below w.heap.size w w') ∧ VF.length = 8 ∧ (∀ u ∈ VF, u.oneCell' = true) ∧ (∀ w, (Op.equalIn 10000 22 (.agg VF.toArray) (.agg VF.toArray)).run Tryd.prog w = .ok true w)) := Lib.hid fun hv => by
    rw [← hvb] at hv
    unfold validB at hv
    simp only [Bool.and_eq_true, decide_eq_true_eq] at hv
    obtain ⟨ha, hc0, hc1⟩ := hv
    obtain ⟨hLc, hs⟩ := of_all ha
    have hlen : (nw L).length = 8 := by rw [nw_len, hL]
    obtain ⟨m, rfl⟩ : ∃ m : Nat, c = m := ⟨c.toNat, by omega⟩
    have f1 := fun w => flip_any (nw L) m word bit w hlen hs (by omega)
    have f2 := fun w => rFlip_any (nw L) m word bit w hlen hs (by omega)
    have f3 := flipR_lt m word bit hlen hs
    have f4 : (flipR (nw L) m word bit).1.length = 8 := by rw [flipR_len, hlen]
    rw [← hLc] at f1 f2
    generalize flipR (nw L) m word bit = f at *
    obtain ⟨fw, fc⟩ := f
    exact ⟨iv (ci fw), fc, f1, f2, by rw [iv_len, ci_len]; exact f4, iv_one _, fun w => eq_same (ci fw) (by rw [ci_len]; exact f4) (ci_i64 f3) w⟩
  have HEQ := Lib.hid fun w => eq_same x hxl hxz w
  have HIW := Lib.hid (size22' hL)
  have HIM := Lib.hid (size22' hM)
  have HIX := Lib.hid (size22' hxl)
  have HOX := Lib.hid (iv_one x)
  have HLX : Hid ((iv x).length = 8) := Lib.hid (by rw [iv_len, hxl])
  unfold fr at HF1 HF2
  simp only at HF1 HF2
  generalize iv x = VX at *
  generalize iv L = VW at *
  generalize iv M = VV at *
  · clear hT hxl hxz hL hM hvb
    go_enter Tryd.func3, Tryd.ntmps3
    go_wp2_with ((with_reducible refine arm_row 22 w.heap.size 22 _ (Arr2_0 w VW 22 _) _ H22.out rfl HIW.out rfl _ rfl ?_ ?_); focus rfl)
    refine (HF1.out _ (HT.out.keep (bel2 _ _ _))).mono ?_
    rintro e w1 ⟨rfl, hb⟩
    have HA1 : Hid (Arr w1 w.heap.size 22 VW) := Lib.hid (Arr.keep (a2_0 _ _ _) hb)
    have HU1 : Hid (Arr w1 (w.heap.size + 1) 22 VV) := Lib.hid (Arr.keep (a2_1 _ _ _) hb)
    have HB1 : Hid (Below w.heap.size w w1) := Lib.hid (bel_on (bel2 _ _ _) hb)
    clear hb
    go_wp2_with (first
      | ((with_reducible refine arm_new 22 VX 8 HLX.out H22s.out HOX.out _ ?_ rfl _ _ rfl ?_ ?_ ?_); (focus rfl); (focus rfl); (focus rfl); (refine nm_l ?_; intro w2 hw2; have HA2 : Hid (Arr w2 w.heap.size 22 VW) := Lib.hid (by rw [hw2]; exact HA1.out.keep (bel_new _ _)); have HU2 : Hid (Arr w2 (w.heap.size + 1) 22 VV) := Lib.hid (by rw [hw2]; exact HU1.out.keep (bel_new _ _)); have HX2 : Hid (Arr w2 w1.heap.size 22 VX) := Lib.hid (by rw [hw2]; exact Arr.new _ _ _); have HB2 : Hid (Below w.heap.size w w2) := Lib.hid (by rw [hw2]; exact bel_on HB1.out (bel_new _ _)); clear hw2 HB1 HA1 HU1; generalize w1.heap.size = b1 at *))
      | ((with_reducible refine arm_row 22 w.heap.size 22 _ HA2.out _ H22.out rfl HIW.out rfl _ rfl ?_ ?_); focus rfl))
    refine (HF2.out _).mono ?_
    rintro e w3 ⟨rfl, hb⟩
    have HA3 := Lib.hid (HA2.out.keep hb)
    have HU3 := Lib.hid (HU2.out.keep hb)
    have HX3 := Lib.hid (HX2.out.keep hb)
    have HB3 := Lib.hid (bel_on HB2.out hb)
    clear hb HA2 HU2 HX2 HB2
    go_upto_region 3 with ((with_reducible refine arm_new 22 VX 8 HLX.out H22s.out HOX.out _ ?_ rfl _ _ rfl ?_ ?_ ?_); (focus rfl); (focus rfl); (focus rfl); (refine nm_l ?_; intro w4 hw4; have HA4 : Hid (Arr w4 w.heap.size 22 VW) := Lib.hid (by rw [hw4]; exact HA3.out.keep (bel_new _ _)); have HU4 : Hid (Arr w4 (w.heap.size + 1) 22 VV) := Lib.hid (by rw [hw4]; exact HU3.out.keep (bel_new _ _)); have HX4 : Hid (Arr w4 b1 22 VX) := Lib.hid (by rw [hw4]; exact HX3.out.keep (bel_new _ _)); have HY4 : Hid (Arr w4 w3.heap.size 22 VX) := Lib.hid (by rw [hw4]; exact Arr.new _ _ _); have HB4 : Hid (Below w.heap.size w w4) := Lib.hid (by rw [hw4]; exact bel_on HB3.out (bel_new _ _)); clear hw4 HB3 HA3 HU3 HX3; generalize w3.heap.size = b2 at *))
    have hbd := bel_drew w4
    have HA6 := Lib.hid (HA4.out.keep hbd)
    have HU6 := Lib.hid (HU4.out.keep hbd)
    have HX6 := Lib.hid (HX4.out.keep hbd)
    have HY6 := Lib.hid (HY4.out.keep hbd)
    have HB6 := Lib.hid (bel_on HB4.out hbd)
    have hu22 := Tryd.underlying22
    have hiW := HIW.out
    have hiV := HIM.out
    have hiX := HIX.out
    clear hbd
    refine wp_region_held_drew (S := fun W' => W'.rangeAt w.heap.size 0 VW ∧ W'.rangeAt (w.heap.size + 1) 0 VV ∧ W'.rangeAt b1 0 VX ∧ W'.rangeAt b2 0 VX ∧ (Op.equalIn 10000 22 (.agg VX.toArray) (.agg VX.toArray)).run Tryd.prog W' = .ok true W') (by kernel_rfl) ⟨HA6.out.range, HU6.out.range, HX6.out.range, HY6.out.range, HEQ.out _⟩ (fun hHeld => ?_)
    clear HA4 HU4 HX4 HY4 HB4
    generalize w4.drew = w6 at *
    refine wpAnyH_take (i := 0) (v := .int .i64 word) rfl (by kernel_rfl) (by kernel_rfl) (by kernel_rfl) (fun _ _ _ h => h) (Or.inl ⟨by rfl, fun w hSw => by obtain ⟨h1, h2, h3, h4, h5⟩ := hSw; go_simp⟩) (by assumption) ?_
    change wpAnyH _ _ _ _ _ _ _ (Act.put _ (some 38) _) _
    simp only [Act.put, List.setIfInBounds_toArray, List.set_cons_zero, List.set_cons_succ]
    refine wpAnyH_take (i := 1) (v := .int .i64 bit) rfl (by kernel_rfl) (by kernel_rfl) (by kernel_rfl) (fun _ _ _ h => h) (Or.inl ⟨by rfl, fun w hSw => by obtain ⟨h1, h2, h3, h4, h5⟩ := hSw; go_simp⟩) (by assumption) ?_
    change wpAnyH _ _ _ _ _ _ _ (Act.put _ (some 39) _) _
    simp only [Act.put, List.setIfInBounds_toArray, List.set_cons_zero, List.set_cons_succ]
    refine wpAnyH_take (i := 3) (v := .int .i64 word) rfl (by kernel_rfl) (by kernel_rfl) (by kernel_rfl) (fun _ _ _ h => h) (Or.inl ⟨by rfl, fun w hSw => by obtain ⟨h1, h2, h3, h4, h5⟩ := hSw; go_simp⟩) (by assumption) ?_
    change wpAnyH _ _ _ _ _ _ _ (Act.put _ (some 41) _) _
    simp only [Act.put, List.setIfInBounds_toArray, List.set_cons_zero, List.set_cons_succ]
    refine wpAnyH_take (i := 4) (v := .int .i64 bit) rfl (by kernel_rfl) (by kernel_rfl) (by kernel_rfl) (fun _ _ _ h => h) (Or.inl ⟨by rfl, fun w hSw => by obtain ⟨h1, h2, h3, h4, h5⟩ := hSw; go_simp⟩) (by assumption) ?_
    change wpAnyH _ _ _ _ _ _ _ (Act.put _ (some 42) _) _
    simp only [Act.put, List.setIfInBounds_toArray, List.set_cons_zero, List.set_cons_succ]
    refine wpAnyH_ready (rs := [2]) (by kernel_rfl) (by simp) ?_
    refine AllReadyH.cons rfl (fun K hK => ?_) AllReadyH.nil
    go_simp
    refine (HP1.out _).mono ?_
    rintro e w7 ⟨rfl, hw⟩
    have hbl : Below w6.heap.size w6 w7 := by rw [hw]; exact Below.refl _ _
    clear hw
    have HA7 := Lib.hid (HA6.out.keep hbl)
    have HU7 := Lib.hid (HU6.out.keep hbl)
    have HX7 := Lib.hid (HX6.out.keep hbl)
    have HY7 := Lib.hid (HY6.out.keep hbl)
    have HB7 := Lib.hid (bel_on HB6.out hbl)
    refine hK.out _ _ ⟨HA7.out.range, HU7.out.range, HX7.out.range, HY7.out.range, HEQ.out _⟩ (fun hHeld => ?_)
    clear hK K hbl HA6 HU6 HX6 HY6 HB6
    refine wpAnyH_ready (rs := [5]) (by kernel_rfl) (by simp) ?_
    refine AllReadyH.cons rfl (fun K hK => ?_) AllReadyH.nil
    go_simp
    refine (HP2.out _).mono ?_
    rintro e w8 ⟨rfl, hw⟩
    have hbl : Below w7.heap.size w7 w8 := by rw [hw]; exact Below.refl _ _
    clear hw
    have HA8 := Lib.hid (HA7.out.keep hbl)
    have HU8 := Lib.hid (HU7.out.keep hbl)
    have HX8 := Lib.hid (HX7.out.keep hbl)
    have HY8 := Lib.hid (HY7.out.keep hbl)
    have HB8 := Lib.hid (bel_on HB7.out hbl)
    refine hK.out _ _ ⟨HA8.out.range, HU8.out.range, HX8.out.range, HY8.out.range, HEQ.out _⟩ (fun hHeld => ?_)
    clear hK K hbl HA7 HU7 HX7 HY7 HB7
    refine wpAnyH_take (i := 6) (v := .bool false) rfl (by kernel_rfl) (by kernel_rfl) (by kernel_rfl) (fun _ _ _ h => h) (Or.inl ⟨by rfl, fun w hSw => by obtain ⟨h1, h2, h3, h4, h5⟩ := hSw; go_simp⟩) (by assumption) ?_
    change wpAnyH _ _ _ _ _ _ _ (Act.put _ (some 44) _) _
    simp only [Act.put, List.setIfInBounds_toArray, List.set_cons_zero, List.set_cons_succ]
    refine wpAnyH_take (i := 7) (v := .bool false) rfl (by kernel_rfl) (by kernel_rfl) (by kernel_rfl) (fun _ _ _ h => h) (Or.inl ⟨by rfl, fun w hSw => by obtain ⟨h1, h2, h3, h4, h5⟩ := hSw; go_simp⟩) (by assumption) ?_
    change wpAnyH _ _ _ _ _ _ _ (Act.put _ (some 45) _) _
    simp only [Act.put, List.setIfInBounds_toArray, List.set_cons_zero, List.set_cons_succ]
    refine wpAnyH_take (i := 8) (v := .agg VW.toArray) rfl (by kernel_rfl) (by kernel_rfl) (by kernel_rfl) (fun _ _ _ h => h) (yieldsIf_load_mid (by rfl) _ _ rfl _ _ rfl _ _ (fun w h => h.1) hu22 rfl hiW) (by assumption) ?_
    change wpAnyH _ _ _ _ _ _ _ (Act.put _ (some 46) _) _
    simp only [Act.put, List.setIfInBounds_toArray, List.set_cons_zero, List.set_cons_succ]
    refine wpAnyH_take (i := 10) (v := .agg VW.toArray) rfl (by kernel_rfl) (by kernel_rfl) (by kernel_rfl) (fun _ _ _ h => h) (yieldsIf_load_mid (by rfl) _ _ rfl _ _ rfl _ _ (fun w h => h.1) hu22 rfl hiW) (by assumption) ?_
    change wpAnyH _ _ _ _ _ _ _ (Act.put _ (some 48) _) _
    simp only [Act.put, List.setIfInBounds_toArray, List.set_cons_zero, List.set_cons_succ]
    refine wpAnyH_ready (rs := [9]) (by kernel_rfl) (by simp) ?_
    refine AllReadyH.cons rfl (fun K hK => ?_) AllReadyH.nil
    go_simp
    refine (HE1.out _ (HT.out.keep HB8.out)).mono ?_
    rintro e w9 ⟨rfl, hbl⟩
    have HA9 := Lib.hid (HA8.out.keep hbl)
    have HU9 := Lib.hid (HU8.out.keep hbl)
    have HX9 := Lib.hid (HX8.out.keep hbl)
    have HY9 := Lib.hid (HY8.out.keep hbl)
    have HB9 := Lib.hid (bel_on HB8.out hbl)
    refine hK.out _ _ ⟨HA9.out.range, HU9.out.range, HX9.out.range, HY9.out.range, HEQ.out _⟩ (fun hHeld => ?_)
    clear hK K hbl HA8 HU8 HX8 HY8 HB8
    refine wpAnyH_ready (rs := [11]) (by kernel_rfl) (by simp) ?_
    refine AllReadyH.cons rfl (fun K hK => ?_) AllReadyH.nil
    go_simp
    refine (HE2.out _).mono ?_
    rintro e w10 ⟨rfl, hbl⟩
    have HA10 := Lib.hid (HA9.out.keep hbl)
    have HU10 := Lib.hid (HU9.out.keep hbl)
    have HX10 := Lib.hid (HX9.out.keep hbl)
    have HY10 := Lib.hid (HY9.out.keep hbl)
    have HB10 := Lib.hid (bel_on HB9.out hbl)
    refine hK.out _ _ ⟨HA10.out.range, HU10.out.range, HX10.out.range, HY10.out.range, HEQ.out _⟩ (fun hHeld => ?_)
    clear hK K hbl HA9 HU9 HX9 HY9 HB9
    refine wpAnyH_take (i := 12) (v := .bool false) rfl (by kernel_rfl) (by kernel_rfl) (by kernel_rfl) (fun _ _ _ h => h) (Or.inl ⟨by rfl, fun w hSw => by obtain ⟨h1, h2, h3, h4, h5⟩ := hSw; go_simp⟩) (by assumption) ?_
    change wpAnyH _ _ _ _ _ _ _ (Act.put _ (some 50) _) _
    simp only [Act.put, List.setIfInBounds_toArray, List.set_cons_zero, List.set_cons_succ]
    refine wpAnyH_take (i := 13) (v := .bool false) rfl (by kernel_rfl) (by kernel_rfl) (by kernel_rfl) (fun _ _ _ h => h) (Or.inl ⟨by rfl, fun w hSw => by obtain ⟨h1, h2, h3, h4, h5⟩ := hSw; go_simp⟩) (by assumption) ?_
    change wpAnyH _ _ _ _ _ _ _ (Act.put _ (some 51) _) _
    simp only [Act.put, List.setIfInBounds_toArray, List.set_cons_zero, List.set_cons_succ]
    refine wpAnyH_take (i := 14) (v := .bool false) rfl (by kernel_rfl) (by kernel_rfl) (by kernel_rfl) (fun _ _ _ h => h) (Or.inl ⟨by rfl, fun w hSw => by obtain ⟨h1, h2, h3, h4, h5⟩ := hSw; go_simp⟩) (by assumption) ?_
    change wpAnyH _ _ _ _ _ _ _ (Act.put _ (some 52) _) _
    simp only [Act.put, List.setIfInBounds_toArray, List.set_cons_zero, List.set_cons_succ]
    refine wpAnyH_take (i := 15) (v := .agg VW.toArray) rfl (by kernel_rfl) (by kernel_rfl) (by kernel_rfl) (fun _ _ _ h => h) (yieldsIf_load_mid (by rfl) _ _ rfl _ _ rfl _ _ (fun w h => h.1) hu22 rfl hiW) (by assumption) ?_
    change wpAnyH _ _ _ _ _ _ _ (Act.put _ (some 53) _) _
    simp only [Act.put, List.setIfInBounds_toArray, List.set_cons_zero, List.set_cons_succ]
    refine wpAnyH_take (i := 16) (v := .int .i64 c) rfl (by kernel_rfl) (by kernel_rfl) (by kernel_rfl) (fun _ _ _ h => h) (Or.inl ⟨by rfl, fun w hSw => by obtain ⟨h1, h2, h3, h4, h5⟩ := hSw; go_simp⟩) (by assumption) ?_
    change wpAnyH _ _ _ _ _ _ _ (Act.put _ (some 54) _) _
    simp only [Act.put, List.setIfInBounds_toArray, List.set_cons_zero, List.set_cons_succ]
    refine wpAnyH_take (i := 18) (v := .agg VW.toArray) rfl (by kernel_rfl) (by kernel_rfl) (by kernel_rfl) (fun _ _ _ h => h) (yieldsIf_load_mid (by rfl) _ _ rfl _ _ rfl _ _ (fun w h => h.1) hu22 rfl hiW) (by assumption) ?_
    change wpAnyH _ _ _ _ _ _ _ (Act.put _ (some 56) _) _
    simp only [Act.put, List.setIfInBounds_toArray, List.set_cons_zero, List.set_cons_succ]
    refine wpAnyH_take (i := 19) (v := .int .i64 c) rfl (by kernel_rfl) (by kernel_rfl) (by kernel_rfl) (fun _ _ _ h => h) (Or.inl ⟨by rfl, fun w hSw => by obtain ⟨h1, h2, h3, h4, h5⟩ := hSw; go_simp⟩) (by assumption) ?_
    change wpAnyH _ _ _ _ _ _ _ (Act.put _ (some 57) _) _
    simp only [Act.put, List.setIfInBounds_toArray, List.set_cons_zero, List.set_cons_succ]
    refine wpAnyH_ready (rs := [17]) (by kernel_rfl) (by simp) ?_
    refine AllReadyH.cons rfl (fun K hK => ?_) AllReadyH.nil
    go_simp
    refine (HC1.out _ (HT.out.keep HB10.out)).mono ?_
    rintro e w11 ⟨rfl, hbl⟩
    have HA11 := Lib.hid (HA10.out.keep hbl)
    have HU11 := Lib.hid (HU10.out.keep hbl)
    have HX11 := Lib.hid (HX10.out.keep hbl)
    have HY11 := Lib.hid (HY10.out.keep hbl)
    have HB11 := Lib.hid (bel_on HB10.out hbl)
    refine hK.out _ _ ⟨HA11.out.range, HU11.out.range, HX11.out.range, HY11.out.range, HEQ.out _⟩ (fun hHeld => ?_)
    clear hK K hbl HA10 HU10 HX10 HY10 HB10
    refine wpAnyH_ready (rs := [20]) (by kernel_rfl) (by simp) ?_
    refine AllReadyH.cons rfl (fun K hK => ?_) AllReadyH.nil
    go_simp
    refine (HC2.out _).mono ?_
    rintro e w12 ⟨rfl, hbl⟩
    have HA12 := Lib.hid (HA11.out.keep hbl)
    have HU12 := Lib.hid (HU11.out.keep hbl)
    have HX12 := Lib.hid (HX11.out.keep hbl)
    have HY12 := Lib.hid (HY11.out.keep hbl)
    have HB12 := Lib.hid (bel_on HB11.out hbl)
    refine hK.out _ _ ⟨HA12.out.range, HU12.out.range, HX12.out.range, HY12.out.range, HEQ.out _⟩ (fun hHeld => ?_)
    clear hK K hbl HA11 HU11 HX11 HY11 HB11
    refine wpAnyH_take (i := 21) (v := .bool false) rfl (by kernel_rfl) (by kernel_rfl) (by kernel_rfl) (fun _ _ _ h => h) (Or.inl ⟨by rfl, fun w hSw => by obtain ⟨h1, h2, h3, h4, h5⟩ := hSw; go_simp⟩) (by assumption) ?_
    change wpAnyH _ _ _ _ _ _ _ (Act.put _ (some 59) _) _
    simp only [Act.put, List.setIfInBounds_toArray, List.set_cons_zero, List.set_cons_succ]
    refine wpAnyH_take (i := 22) (v := .bool false) rfl (by kernel_rfl) (by kernel_rfl) (by kernel_rfl) (fun _ _ _ h => h) (Or.inl ⟨by rfl, fun w hSw => by obtain ⟨h1, h2, h3, h4, h5⟩ := hSw; go_simp⟩) (by assumption) ?_
    change wpAnyH _ _ _ _ _ _ _ (Act.put _ (some 60) _) _
    simp only [Act.put, List.setIfInBounds_toArray, List.set_cons_zero, List.set_cons_succ]
    refine wpAnyH_take (i := 23) (v := .bool false) rfl (by kernel_rfl) (by kernel_rfl) (by kernel_rfl) (fun _ _ _ h => h) (Or.inl ⟨by rfl, fun w hSw => by obtain ⟨h1, h2, h3, h4, h5⟩ := hSw; go_simp⟩) (by assumption) ?_
    change wpAnyH _ _ _ _ _ _ _ (Act.put _ (some 61) _) _
    simp only [Act.put, List.setIfInBounds_toArray, List.set_cons_zero, List.set_cons_succ]
    refine wpAnyH_take (i := 24) (v := .agg VX.toArray) rfl (by kernel_rfl) (by kernel_rfl) (by kernel_rfl) (fun _ _ _ h => h) (yieldsIf_load_mid (by rfl) _ _ rfl _ _ rfl _ _ (fun w h => h.2.2.1) hu22 rfl hiX) (by assumption) ?_
    change wpAnyH _ _ _ _ _ _ _ (Act.put _ (some 62) _) _
    simp only [Act.put, List.setIfInBounds_toArray, List.set_cons_zero, List.set_cons_succ]
    refine wpAnyH_take (i := 25) (v := .agg VX.toArray) rfl (by kernel_rfl) (by kernel_rfl) (by kernel_rfl) (fun _ _ _ h => h) (yieldsIf_load_mid (by rfl) _ _ rfl _ _ rfl _ _ (fun w h => h.2.2.2.1) hu22 rfl hiX) (by assumption) ?_
    change wpAnyH _ _ _ _ _ _ _ (Act.put _ (some 63) _) _
    simp only [Act.put, List.setIfInBounds_toArray, List.set_cons_zero, List.set_cons_succ]
    refine wpAnyH_take (i := 26) (v := .bool false) rfl (by kernel_rfl) (by kernel_rfl) (by kernel_rfl) (fun _ _ _ h => h) (Or.inl ⟨by rfl, fun w hSw => by obtain ⟨h1, h2, h3, h4, h5⟩ := hSw; go_simp⟩) (by assumption) ?_
    change wpAnyH _ _ _ _ _ _ _ (Act.put _ (some 64) _) _
    simp only [Act.put, List.setIfInBounds_toArray, List.set_cons_zero, List.set_cons_succ]
    refine wpAnyH_take (i := 27) (v := .bool false) rfl (by kernel_rfl) (by kernel_rfl) (by kernel_rfl) (fun _ _ _ h => h) (Or.inl ⟨by rfl, fun w hSw => by obtain ⟨h1, h2, h3, h4, h5⟩ := hSw; go_simp⟩) (by assumption) ?_
    change wpAnyH _ _ _ _ _ _ _ (Act.put _ (some 65) _) _
    simp only [Act.put, List.setIfInBounds_toArray, List.set_cons_zero, List.set_cons_succ]
    refine wpAnyH_take (i := 28) (v := .bool false) rfl (by kernel_rfl) (by kernel_rfl) (by kernel_rfl) (fun _ _ _ h => h) (Or.inl ⟨by rfl, fun w hSw => by obtain ⟨h1, h2, h3, h4, h5⟩ := hSw; go_simp⟩) (by assumption) ?_
    change wpAnyH _ _ _ _ _ _ _ (Act.put _ (some 66) _) _
    simp only [Act.put, List.setIfInBounds_toArray, List.set_cons_zero, List.set_cons_succ]
    refine wpAnyH_take (i := 29) (v := .int .i64 n) rfl (by kernel_rfl) (by kernel_rfl) (by kernel_rfl) (fun _ _ _ h => h) (Or.inl ⟨by rfl, fun w hSw => by obtain ⟨h1, h2, h3, h4, h5⟩ := hSw; go_simp⟩) (by assumption) ?_
    change wpAnyH _ _ _ _ _ _ _ (Act.put _ (some 67) _) _
    simp only [Act.put, List.setIfInBounds_toArray, List.set_cons_zero, List.set_cons_succ]
    refine wpAnyH_take (i := 30) (v := .int .i64 n) rfl (by kernel_rfl) (by kernel_rfl) (by kernel_rfl) (fun _ _ _ h => h) (Or.inl ⟨by rfl, fun w hSw => by obtain ⟨h1, h2, h3, h4, h5⟩ := hSw; go_simp⟩) (by assumption) ?_
    change wpAnyH _ _ _ _ _ _ _ (Act.put _ (some 68) _) _
    simp only [Act.put, List.setIfInBounds_toArray, List.set_cons_zero, List.set_cons_succ]
    refine wpAnyH_take (i := 31) (v := .bool false) rfl (by kernel_rfl) (by kernel_rfl) (by kernel_rfl) (fun _ _ _ h => h) (Or.inl ⟨by rfl, fun w hSw => by obtain ⟨h1, h2, h3, h4, h5⟩ := hSw; go_simp⟩) (by assumption) ?_
    change wpAnyH _ _ _ _ _ _ _ (Act.put _ (some 69) _) _
    simp only [Act.put, List.setIfInBounds_toArray, List.set_cons_zero, List.set_cons_succ]
    refine wpAnyH_take (i := 32) (v := .bool false) rfl (by kernel_rfl) (by kernel_rfl) (by kernel_rfl) (fun _ _ _ h => h) (Or.inl ⟨by rfl, fun w hSw => by obtain ⟨h1, h2, h3, h4, h5⟩ := hSw; go_simp⟩) (by assumption) ?_
    change wpAnyH _ _ _ _ _ _ _ (Act.put _ (some 70) _) _
    simp only [Act.put, List.setIfInBounds_toArray, List.set_cons_zero, List.set_cons_succ]
    refine wpAnyH_take (i := 33) (v := .bool false) rfl (by kernel_rfl) (by kernel_rfl) (by kernel_rfl) (fun _ _ _ h => h) (Or.inl ⟨by rfl, fun w hSw => by obtain ⟨h1, h2, h3, h4, h5⟩ := hSw; go_simp⟩) (by assumption) ?_
    change wpAnyH _ _ _ _ _ _ _ (Act.put _ (some 71) _) _
    simp only [Act.put, List.setIfInBounds_toArray, List.set_cons_zero, List.set_cons_succ]
    refine wpAnyH_take (i := 34) (v := .int .i64 er) rfl (by kernel_rfl) (by kernel_rfl) (by kernel_rfl) (fun _ _ _ h => h) (Or.inl ⟨by rfl, fun w hSw => by obtain ⟨h1, h2, h3, h4, h5⟩ := hSw; go_simp⟩) (by assumption) ?_
    change wpAnyH _ _ _ _ _ _ _ (Act.put _ (some 72) _) _
    simp only [Act.put, List.setIfInBounds_toArray, List.set_cons_zero, List.set_cons_succ]
    refine wpAnyH_take (i := 35) (v := .int .i64 er) rfl (by kernel_rfl) (by kernel_rfl) (by kernel_rfl) (fun _ _ _ h => h) (Or.inl ⟨by rfl, fun w hSw => by obtain ⟨h1, h2, h3, h4, h5⟩ := hSw; go_simp⟩) (by assumption) ?_
    change wpAnyH _ _ _ _ _ _ _ (Act.put _ (some 73) _) _
    simp only [Act.put, List.setIfInBounds_toArray, List.set_cons_zero, List.set_cons_succ]
    refine wpAnyH_take (i := 36) (v := .bool false) rfl (by kernel_rfl) (by kernel_rfl) (by kernel_rfl) (fun _ _ _ h => h) (Or.inl ⟨by rfl, fun w hSw => by obtain ⟨h1, h2, h3, h4, h5⟩ := hSw; go_simp⟩) (by assumption) ?_
    change wpAnyH _ _ _ _ _ _ _ (Act.put _ (some 74) _) _
    simp only [Act.put, List.setIfInBounds_toArray, List.set_cons_zero, List.set_cons_succ]
    refine wpAnyH_take (i := 37) (v := .bool false) rfl (by kernel_rfl) (by kernel_rfl) (by kernel_rfl) (fun _ _ _ h => h) (Or.inl ⟨by rfl, fun w hSw => by obtain ⟨h1, h2, h3, h4, h5⟩ := hSw; go_simp⟩) (by assumption) ?_
    change wpAnyH _ _ _ _ _ _ _ (Act.put _ (some 75) _) _
    simp only [Act.put, List.setIfInBounds_toArray, List.set_cons_zero, List.set_cons_succ]
    refine wpAnyH_take (i := 38) (v := .bool false) rfl (by kernel_rfl) (by kernel_rfl) (by kernel_rfl) (fun _ _ _ h => h) (Or.inl ⟨by rfl, fun w hSw => by obtain ⟨h1, h2, h3, h4, h5⟩ := hSw; go_simp⟩) (by assumption) ?_
    change wpAnyH _ _ _ _ _ _ _ (Act.put _ (some 76) _) _
    simp only [Act.put, List.setIfInBounds_toArray, List.set_cons_zero, List.set_cons_succ]
    refine wpAnyH_take (i := 39) (v := .agg VW.toArray) rfl (by kernel_rfl) (by kernel_rfl) (by kernel_rfl) (fun _ _ _ h => h) (yieldsIf_load_mid (by rfl) _ _ rfl _ _ rfl _ _ (fun w h => h.1) hu22 rfl hiW) (by assumption) ?_
    change wpAnyH _ _ _ _ _ _ _ (Act.put _ (some 77) _) _
    simp only [Act.put, List.setIfInBounds_toArray, List.set_cons_zero, List.set_cons_succ]
    refine wpAnyH_take (i := 40) (v := .int .i64 c) rfl (by kernel_rfl) (by kernel_rfl) (by kernel_rfl) (fun _ _ _ h => h) (Or.inl ⟨by rfl, fun w hSw => by obtain ⟨h1, h2, h3, h4, h5⟩ := hSw; go_simp⟩) (by assumption) ?_
    change wpAnyH _ _ _ _ _ _ _ (Act.put _ (some 78) _) _
    simp only [Act.put, List.setIfInBounds_toArray, List.set_cons_zero, List.set_cons_succ]
    refine wpAnyH_take (i := 41) (v := .agg VV.toArray) rfl (by kernel_rfl) (by kernel_rfl) (by kernel_rfl) (fun _ _ _ h => h) (yieldsIf_load_mid (by rfl) _ _ rfl _ _ rfl _ _ (fun w h => h.2.1) hu22 rfl hiV) (by assumption) ?_
    change wpAnyH _ _ _ _ _ _ _ (Act.put _ (some 79) _) _
    simp only [Act.put, List.setIfInBounds_toArray, List.set_cons_zero, List.set_cons_succ]
    refine wpAnyH_take (i := 42) (v := .int .i64 b) rfl (by kernel_rfl) (by kernel_rfl) (by kernel_rfl) (fun _ _ _ h => h) (Or.inl ⟨by rfl, fun w hSw => by obtain ⟨h1, h2, h3, h4, h5⟩ := hSw; go_simp⟩) (by assumption) ?_
    change wpAnyH _ _ _ _ _ _ _ (Act.put _ (some 80) _) _
    simp only [Act.put, List.setIfInBounds_toArray, List.set_cons_zero, List.set_cons_succ]
    refine wpAnyH_take (i := 44) (v := .agg VW.toArray) rfl (by kernel_rfl) (by kernel_rfl) (by kernel_rfl) (fun _ _ _ h => h) (yieldsIf_load_mid (by rfl) _ _ rfl _ _ rfl _ _ (fun w h => h.1) hu22 rfl hiW) (by assumption) ?_
    change wpAnyH _ _ _ _ _ _ _ (Act.put _ (some 82) _) _
    simp only [Act.put, List.setIfInBounds_toArray, List.set_cons_zero, List.set_cons_succ]
    refine wpAnyH_take (i := 45) (v := .int .i64 c) rfl (by kernel_rfl) (by kernel_rfl) (by kernel_rfl) (fun _ _ _ h => h) (Or.inl ⟨by rfl, fun w hSw => by obtain ⟨h1, h2, h3, h4, h5⟩ := hSw; go_simp⟩) (by assumption) ?_
    change wpAnyH _ _ _ _ _ _ _ (Act.put _ (some 83) _) _
    simp only [Act.put, List.setIfInBounds_toArray, List.set_cons_zero, List.set_cons_succ]
    refine wpAnyH_take (i := 46) (v := .agg VV.toArray) rfl (by kernel_rfl) (by kernel_rfl) (by kernel_rfl) (fun _ _ _ h => h) (yieldsIf_load_mid (by rfl) _ _ rfl _ _ rfl _ _ (fun w h => h.2.1) hu22 rfl hiV) (by assumption) ?_
    change wpAnyH _ _ _ _ _ _ _ (Act.put _ (some 84) _) _
    simp only [Act.put, List.setIfInBounds_toArray, List.set_cons_zero, List.set_cons_succ]
    refine wpAnyH_take (i := 47) (v := .int .i64 b) rfl (by kernel_rfl) (by kernel_rfl) (by kernel_rfl) (fun _ _ _ h => h) (Or.inl ⟨by rfl, fun w hSw => by obtain ⟨h1, h2, h3, h4, h5⟩ := hSw; go_simp⟩) (by assumption) ?_
    change wpAnyH _ _ _ _ _ _ _ (Act.put _ (some 85) _) _
    simp only [Act.put, List.setIfInBounds_toArray, List.set_cons_zero, List.set_cons_succ]
    refine wpAnyH_ready (rs := [43]) (by kernel_rfl) (by simp) ?_
    refine AllReadyH.cons rfl (fun K hK => ?_) AllReadyH.nil
    go_simp
    refine (HD1.out _).mono ?_
    rintro e w13 ⟨rfl, hbl⟩
    have HA13 := Lib.hid (HA12.out.keep hbl)
    have HU13 := Lib.hid (HU12.out.keep hbl)
    have HX13 := Lib.hid (HX12.out.keep hbl)
    have HY13 := Lib.hid (HY12.out.keep hbl)
    have HB13 := Lib.hid (bel_on HB12.out hbl)
    refine hK.out _ _ ⟨HA13.out.range, HU13.out.range, HX13.out.range, HY13.out.range, HEQ.out _⟩ (fun hHeld => ?_)
    clear hK K hbl HA12 HU12 HX12 HY12 HB12
    refine wpAnyH_ready (rs := [48]) (by kernel_rfl) (by simp) ?_
    refine AllReadyH.cons rfl (fun K hK => ?_) AllReadyH.nil
    go_simp
    refine (HD2.out _).mono ?_
    rintro e w14 ⟨rfl, hbl⟩
    have HA14 := Lib.hid (HA13.out.keep hbl)
    have HU14 := Lib.hid (HU13.out.keep hbl)
    have HX14 := Lib.hid (HX13.out.keep hbl)
    have HY14 := Lib.hid (HY13.out.keep hbl)
    have HB14 := Lib.hid (bel_on HB13.out hbl)
    refine hK.out _ _ ⟨HA14.out.range, HU14.out.range, HX14.out.range, HY14.out.range, HEQ.out _⟩ (fun hHeld => ?_)
    clear hK K hbl HA13 HU13 HX13 HY13 HB13
    refine wpAnyH_take (i := 49) (v := .bool false) rfl (by kernel_rfl) (by kernel_rfl) (by kernel_rfl) (fun _ _ _ h => h) (Or.inl ⟨by rfl, fun w hSw => by obtain ⟨h1, h2, h3, h4, h5⟩ := hSw; go_simp⟩) (by assumption) ?_
    change wpAnyH _ _ _ _ _ _ _ (Act.put _ (some 87) _) _
    simp only [Act.put, List.setIfInBounds_toArray, List.set_cons_zero, List.set_cons_succ]
    refine wpAnyH_take (i := 50) (v := .bool false) rfl (by kernel_rfl) (by kernel_rfl) (by kernel_rfl) (fun _ _ _ h => h) (Or.inl ⟨by rfl, fun w hSw => by obtain ⟨h1, h2, h3, h4, h5⟩ := hSw; go_simp⟩) (by assumption) ?_
    change wpAnyH _ _ _ _ _ _ _ (Act.put _ (some 88) _) _
    simp only [Act.put, List.setIfInBounds_toArray, List.set_cons_zero, List.set_cons_succ]
    refine wpAnyH_done (by kernel_rfl) ?_ _
    clear hHeld
    go_wp2_with ((with_reducible refine arm_row 22 w.heap.size 22 _ HA14.out _ H22.out rfl HIW.out rfl _ rfl ?_ ?_); focus rfl)
    refine (HV.out _).mono ?_
    rintro e w15 ⟨rfl, hb⟩
    have HA15 := Lib.hid (HA14.out.keep hb)
    have HB15 := Lib.hid (bel_on HB14.out hb)
    clear hb HA14 HB14 HU14 HX14 HY14
    cases vb with
    | false =>
      go_wp2_with fail
      refine (HSAN.out _ (HT.out.keep HB15.out)).mono ?_
      rintro e w16 ⟨rfl, hb⟩
      have HB16 := Lib.hid (bel_on HB15.out hb)
      clear hb HB15 HA15
      go_wp2_with fail
      go_ret
      exact ⟨rfl, HB16.out⟩
    | true =>
      obtain ⟨VF, f, f1, f2, f3, f4, f5⟩ := HFL.out rfl
      have HG1 := Lib.hid f1
      have HG2 := Lib.hid f2
      have HG3 := Lib.hid f3
      have HG4 := Lib.hid f4
      have HG5 := Lib.hid f5
      have HG6 : Hid ((Tryd.prog.info? 22).map (·.size) = some VF.length) := Lib.hid (by rw [f3]; exact size22)
      clear f1 f2 f3 f4 f5
      go_wp2_with ((with_reducible refine arm_row 22 w.heap.size 22 _ HA15.out _ H22.out rfl HIW.out rfl _ rfl ?_ ?_); focus rfl)
      refine (HG1.out _).mono ?_
      rintro e w16 ⟨rfl, hb⟩
      have HA16 := Lib.hid (HA15.out.keep hb)
      have HB16 := Lib.hid (bel_on HB15.out hb)
      clear hb HA15 HB15
      go_wp2_with (first
        | ((with_reducible refine arm_new 22 VF 8 HG3.out H22s.out HG4.out _ ?_ rfl _ _ rfl ?_ ?_ ?_); (focus rfl); (focus rfl); (focus rfl); (refine nm_l ?_; intro w17 hw17; have HA17 : Hid (Arr w17 w.heap.size 22 VW) := Lib.hid (by rw [hw17]; exact HA16.out.keep (bel_new _ _)); have HP17 : Hid (Arr w17 w16.heap.size 22 VF) := Lib.hid (by rw [hw17]; exact Arr.new _ _ _); have HB17 : Hid (Below w.heap.size w w17) := Lib.hid (by rw [hw17]; exact bel_on HB16.out (bel_new _ _)); clear hw17 HB16 HA16; generalize w16.heap.size = b3 at *))
        | ((with_reducible refine arm_row 22 w.heap.size 22 _ HA17.out _ H22.out rfl HIW.out rfl _ rfl ?_ ?_); focus rfl))
      refine (HG2.out _).mono ?_
      rintro e w18 ⟨rfl, hb⟩
      have HP18 := Lib.hid (HP17.out.keep hb)
      have HB18 := Lib.hid (bel_on HB17.out hb)
      clear hb HA17 HB17 HP17
      go_wp2_with ((with_reducible refine arm_new 22 VF 8 HG3.out H22s.out HG4.out _ ?_ rfl _ _ rfl ?_ ?_ ?_); (focus rfl); (focus rfl); (focus rfl); (refine nm_l ?_; intro w19 hw19; have HP19 : Hid (Arr w19 b3 22 VF) := Lib.hid (by rw [hw19]; exact HP18.out.keep (bel_new _ _)); have HQ19 : Hid (Arr w19 w18.heap.size 22 VF) := Lib.hid (by rw [hw19]; exact Arr.new _ _ _); have HB19 : Hid (Below w.heap.size w w19) := Lib.hid (by rw [hw19]; exact bel_on HB18.out (bel_new _ _)); clear hw19 HB18 HP18; generalize w18.heap.size = b4 at *))
      refine (HSAN.out _ (HT.out.keep HB19.out)).mono ?_
      rintro e w20 ⟨rfl, hb⟩
      have HP20 := Lib.hid (HP19.out.keep hb)
      have HQ20 := Lib.hid (HQ19.out.keep hb)
      have HB20 := Lib.hid (bel_on HB19.out hb)
      clear hb HP19 HQ19 HB19
      have heq := HG5.out w20
      go_wp2_with (first
        | ((with_reducible refine arm_rowg 22 b3 22 _ HP20.out _ H22.out rfl HG6.out ?_ _ rfl ?_ ?_); (focus rfl); (focus rfl))
        | ((with_reducible refine arm_rowg 22 b4 22 _ HQ20.out _ H22.out rfl HG6.out ?_ _ rfl ?_ ?_); (focus rfl); (focus rfl)))
      go_ret
      exact ⟨rfl, HB20.out⟩

end Go.Proofs.YthidababplamgaaDoor
