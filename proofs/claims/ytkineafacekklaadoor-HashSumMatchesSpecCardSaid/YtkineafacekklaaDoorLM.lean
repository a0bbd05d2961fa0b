/- HashSumMatchesSpec answers true. -/
import Derived.Test.YtkineafacekklaaDoorSan
import Derived.Test.YtkineafacekklaaDoorRS
import Derived.Test.YtkineafacekklaaDoorConv2
import Derived.Test.YtkineafacekklaaDoorEqB
import Derived.Test.YtkineafacekklaaDoorOf
import Derived.Deep.RegionHeld3
namespace Go.Proofs.YtkineafacekklaaDoor
open Go.RowKit
set_option maxRecDepth 100000 in
set_option linter.unusedSimpArgs false in
set_option maxHeartbeats 4000000 in
theorem lawM (A : Option Addr) (n cap : Nat) (l : List UInt8) (w : World) (hn : l.length = n) (hr : RV w A (bv l)) (hT0 : Tab w 0) (hT : Tab w 1) :
    Calls Tryd.prog 11 #[.slice A n cap] w fun e w' => e = .returned (.bool true) ∧ Below w.heap.size w w' := by
  have HT := Lib.hid hT
  have HT0 := Lib.hid hT0
  have HN := Lib.hid hn
  have HR := Lib.hid hr
  clear hT hT0 hn hr
  go_enter Tryd.func11, Tryd.ntmps11
  go_wp2_with fail
  refine (san_any _ HT.out).mono ?_
  rintro e w1 ⟨rfl, hb1⟩
  have HB1 := Lib.hid hb1
  clear hb1
  by_cases h600 : 600 < n
  · have hi : (600 : Int) < (n : Int) := by omega
    go_wp2_with fail
    go_ret
    exact ⟨rfl, HB1.out⟩
  · have hi : (n : Int) ≤ 600 := by omega
    have hq := conv_at (HR.out.below HB1.out) HN.out cap
    obtain ⟨X, hX⟩ : ∃ X : ByteArray, X = ⟨l.toArray⟩ := ⟨_, rfl⟩
    rw [← hX] at hq
    have HXL : Hid (X.data.toList = l) := Lib.hid (by rw [hX])
    have HXS : Hid (X.size = n) := Lib.hid (by rw [hX]; show l.toArray.size = n; rw [List.size_toArray]; exact HN.out)
    have HX := Lib.hid hX
    clear hX
    have HS1 := Lib.hid (sum_any A n cap l w1 HN.out (HR.out.below HB1.out) (by omega) (HT.out.keep HB1.out))
    have HS2 := Lib.hid fun w2 (ht : Tab (Lib.bytesWorld w2 5 X) 0) => rsum_any (some ⟨w2.heap.size, 0, none⟩) X.size (grownCap w2 X.size 0 5) X.data.toList (Lib.bytesWorld w2 5 X) (by rw [Array.length_toList]; rfl) (rv_bytes w2 X) (by rw [HXS.out]; omega) ht
    rw [HXL.out] at HS2
    have hsl : (sha l).length = 32 := sha_len l
    have HE : Hid (∀ w', (Op.equalIn 10000 47 (.agg (bv (sha l)).toArray) (.agg (bv (sha l)).toArray)).run Tryd.prog w' = .ok true w') := Lib.hid fun w' => by rw [eq_sum (sha l) (sha l) hsl hsl w', decide_eq_true rfl]
    have HI47 := Lib.hid (size47' hsl)
    have HL47 : Hid ((bv (sha l)).length = 32) := Lib.hid (by rw [bv_len, hsl])
    have HO47 := Lib.hid (bv_one (sha l))
    clear hsl
    generalize bv (sha l) = D at *
    have H47 := Lib.hid size47
    go_wp2_with fail
    refine HS1.out.mono ?_
    rintro e w2 ⟨rfl, hb2⟩
    have HB2 := Lib.hid (bel_on HB1.out hb2)
    clear hb2 HS1 HB1 hq
    go_upto_region 6 with ((with_reducible refine arm_new 47 D 32 HL47.out H47.out HO47.out _ ?_ rfl _ _ rfl ?_ ?_ ?_); (focus rfl); (focus rfl); (focus rfl); (refine nm_l ?_; intro w3 hw3; have HD3 : Hid (Arr w3 w2.heap.size 47 D) := Lib.hid (by rw [hw3]; exact Arr.new _ _ _); have HB3 : Hid (Below w.heap.size w w3) := Lib.hid (by rw [hw3]; exact bel_on HB2.out (bel_new _ _)); clear hw3 HB2; generalize w2.heap.size = b5 at *))
    have hbd := bel_drew w3
    have HD4 := Lib.hid (HD3.out.keep hbd)
    have HB4 := Lib.hid (bel_on HB3.out hbd)
    have hq4 := conv_at (HR.out.below HB4.out) HN.out cap
    rw [← HX.out] at hq4
    have hr4 : w3.drew.rangeAt b5 0 D := HD4.out.range
    have hbs := run_bytes w3.drew X
    have HB5 := Lib.hid (bel_on HB4.out (bel_bytes w3.drew X))
    have HD5 := Lib.hid (HD4.out.keep (bel_bytes w3.drew X))
    have hq5 := conv_at (HR.out.below HB5.out) HN.out cap
    rw [← HX.out] at hq5
    have hr5 : (Lib.bytesWorld w3.drew 5 X).rangeAt b5 0 D := HD5.out.range
    have hu47 := Tryd.underlying47
    have hi47 := HI47.out
    clear hbd
    have hE4 := HE.out w3.drew
    have hE5 := HE.out (Lib.bytesWorld w3.drew 5 X)
    refine wp_region_held_drew (S := fun W' => W'.rangeAt b5 0 D ∧ (convert 22 9 (.slice A n cap)).run Tryd.prog W' = .ok (.string X) W' ∧ (Op.equalIn 10000 47 (.agg D.toArray) (.agg D.toArray)).run Tryd.prog W' = .ok true W') (by kernel_rfl) ⟨hr4, hq4, hE4⟩ (fun hHeld => ?_)
    refine wpAnyH_take (i := 0) (v := .bool true) rfl (by kernel_rfl) (by kernel_rfl) (by kernel_rfl) (fun _ _ _ h => h) (Or.inl ⟨by rfl, fun w hSw => by go_simp⟩) (by assumption) ?_
    change wpAnyH _ _ _ _ _ _ _ (Act.put _ (some 15) _) _
    simp only [Act.put, List.setIfInBounds_toArray, List.set_cons_zero, List.set_cons_succ]
    refine wpAnyH_take (i := 1) (v := .bool true) rfl (by kernel_rfl) (by kernel_rfl) (by kernel_rfl) (fun _ _ _ h => h) (Or.inl ⟨by rfl, fun w hSw => by go_simp⟩) (by assumption) ?_
    change wpAnyH _ _ _ _ _ _ _ (Act.put _ (some 16) _) _
    simp only [Act.put, List.setIfInBounds_toArray, List.set_cons_zero, List.set_cons_succ]
    refine wpAnyH_take (i := 2) (v := .agg D.toArray) rfl (by kernel_rfl) (by kernel_rfl) (by kernel_rfl) (fun _ _ _ h => h) (yieldsIf_load_mid (by rfl) _ _ rfl _ _ rfl _ _ (fun w h => h.1) hu47 rfl hi47) (by assumption) ?_
    change wpAnyH _ _ _ _ _ _ _ (Act.put _ (some 17) _) _
    simp only [Act.put, List.setIfInBounds_toArray, List.set_cons_zero, List.set_cons_succ]
    refine wpAnyH_take (i := 3) (v := .string X) rfl (by kernel_rfl) (by kernel_rfl) (by kernel_rfl) (fun _ _ _ h => h) (Or.inl ⟨by rfl, fun w hSw => by go_simp⟩) (by assumption) ?_
    change wpAnyH _ _ _ _ _ _ _ (Act.put _ (some 18) _) _
    simp only [Act.put, List.setIfInBounds_toArray, List.set_cons_zero, List.set_cons_succ]
    refine wpAnyH_ready (rs := [4]) (by kernel_rfl) (by simp) ?_
    refine AllReadyH.cons rfl (fun K hK => ?_) AllReadyH.nil
    go_simp
    refine hK.out _ _ ⟨hr5, hq5, hE5⟩ (fun hHeld5 => ?_)
    clear hK K hHeld
    refine wpAnyH_ready (rs := [5]) (by kernel_rfl) (by simp) ?_
    refine AllReadyH.cons rfl (fun K hK => ?_) AllReadyH.nil
    go_simp
    refine (HS2.out w3.drew (HT0.out.keep HB5.out)).mono ?_
    rintro e w6 ⟨rfl, hb6⟩
    have HB6 := Lib.hid (bel_on HB5.out hb6)
    have HD6 := Lib.hid (HD5.out.keep hb6)
    have hr6 : w6.rangeAt b5 0 D := HD6.out.range
    have hq6 := conv_at (HR.out.below HB6.out) HN.out cap
    rw [← HX.out] at hq6
    have hE6 := HE.out w6
    refine hK.out _ _ ⟨hr6, hq6, hE6⟩ (fun hHeld6 => ?_)
    clear hK K hHeld5 hr5 hq5 hE5 hr4 hq4 hE4
    refine wpAnyH_take (i := 6) (v := .bool true) rfl (by kernel_rfl) (by kernel_rfl) (by kernel_rfl) (fun _ _ _ h => h) (Or.inl ⟨by rfl, fun w hSw => by obtain ⟨h1, h2, h3⟩ := hSw; go_simp⟩) (by assumption) ?_
    change wpAnyH _ _ _ _ _ _ _ (Act.put _ (some 21) _) _
    simp only [Act.put, List.setIfInBounds_toArray, List.set_cons_zero, List.set_cons_succ]
    refine wpAnyH_take (i := 7) (v := .bool true) rfl (by kernel_rfl) (by kernel_rfl) (by kernel_rfl) (fun _ _ _ h => h) (Or.inl ⟨by rfl, fun w hSw => by go_simp⟩) (by assumption) ?_
    change wpAnyH _ _ _ _ _ _ _ (Act.put _ (some 22) _) _
    simp only [Act.put, List.setIfInBounds_toArray, List.set_cons_zero, List.set_cons_succ]
    refine wpAnyH_take (i := 8) (v := .bool true) rfl (by kernel_rfl) (by kernel_rfl) (by kernel_rfl) (fun _ _ _ h => h) (Or.inl ⟨by rfl, fun w hSw => by go_simp⟩) (by assumption) ?_
    change wpAnyH _ _ _ _ _ _ _ (Act.put _ (some 23) _) _
    simp only [Act.put, List.setIfInBounds_toArray, List.set_cons_zero, List.set_cons_succ]
    refine wpAnyH_take (i := 9) (v := .slice A n cap) rfl (by kernel_rfl) (by kernel_rfl) (by kernel_rfl) (fun _ _ _ h => h) (Or.inl ⟨by rfl, fun w hSw => by go_simp⟩) (by assumption) ?_
    change wpAnyH _ _ _ _ _ _ _ (Act.put _ (some 24) _) _
    simp only [Act.put, List.setIfInBounds_toArray, List.set_cons_zero, List.set_cons_succ]
    refine wpAnyH_take (i := 10) (v := .string X) rfl (by kernel_rfl) (by kernel_rfl) (by kernel_rfl) (fun _ _ _ h => h) (Or.inl ⟨by rfl, fun w hSw => by obtain ⟨h1, h2, h3⟩ := hSw; go_simp⟩) (by assumption) ?_
    change wpAnyH _ _ _ _ _ _ _ (Act.put _ (some 25) _) _
    simp only [Act.put, List.setIfInBounds_toArray, List.set_cons_zero, List.set_cons_succ]
    refine wpAnyH_take (i := 11) (v := .string X) rfl (by kernel_rfl) (by kernel_rfl) (by kernel_rfl) (fun _ _ _ h => h) (Or.inl ⟨by rfl, fun w hSw => by go_simp⟩) (by assumption) ?_
    change wpAnyH _ _ _ _ _ _ _ (Act.put _ (some 26) _) _
    simp only [Act.put, List.setIfInBounds_toArray, List.set_cons_zero, List.set_cons_succ]
    refine wpAnyH_take (i := 12) (v := .bool true) rfl (by kernel_rfl) (by kernel_rfl) (by kernel_rfl) (fun _ _ _ h => h) (Or.inl ⟨by rfl, fun w hSw => by go_simp⟩) (by assumption) ?_
    change wpAnyH _ _ _ _ _ _ _ (Act.put _ (some 27) _) _
    simp only [Act.put, List.setIfInBounds_toArray, List.set_cons_zero, List.set_cons_succ]
    refine wpAnyH_take (i := 13) (v := .bool true) rfl (by kernel_rfl) (by kernel_rfl) (by kernel_rfl) (fun _ _ _ h => h) (Or.inl ⟨by rfl, fun w hSw => by go_simp⟩) (by assumption) ?_
    change wpAnyH _ _ _ _ _ _ _ (Act.put _ (some 28) _) _
    simp only [Act.put, List.setIfInBounds_toArray, List.set_cons_zero, List.set_cons_succ]
    refine wpAnyH_take (i := 14) (v := .bool true) rfl (by kernel_rfl) (by kernel_rfl) (by kernel_rfl) (fun _ _ _ h => h) (Or.inl ⟨by rfl, fun w hSw => by go_simp⟩) (by assumption) ?_
    change wpAnyH _ _ _ _ _ _ _ (Act.put _ (some 2) _) _
    simp only [Act.put, List.setIfInBounds_toArray, List.set_cons_zero, List.set_cons_succ]
    refine wpAnyH_done (by kernel_rfl) ?_ _
    go_wp2_with fail
    go_ret
    exact ⟨rfl, HB6.out⟩
end Go.Proofs.YtkineafacekklaaDoor
