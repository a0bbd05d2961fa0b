/- HashOfMatchesSpec answers true. -/
import Derived.Test.YtkineafacekklaaDoorSan
import Derived.Test.YtkineafacekklaaDoorRO
import Derived.Test.YtkineafacekklaaDoorFew
import Derived.Test.YtkineafacekklaaDoorEqB
import Derived.Deep.RegionHeld3
namespace Go.Proofs.YtkineafacekklaaDoor
open Go.RowKit
theorem tag_mod (tag : Int) : tagB (tag % 256) = tagB tag := by
  unfold tagB
  rw [Int.emod_emod_of_dvd _ (Int.dvd_refl 256)]
set_option maxRecDepth 100000 in
set_option linter.unusedSimpArgs false in
set_option maxHeartbeats 4000000 in
theorem lawN (tag : Int) (A : Option Addr) (n cap : Nat) (ss : List ByteArray) (w : World) (hn : ss.length = n) (hr : RV w A (sv ss)) (hT0 : Tab w 0) (hT : Tab w 1) :
    Calls Tryd.prog 13 #[.int .i64 tag, .slice A n cap] w fun e w' => e = .returned (.bool true) ∧ Below w.heap.size w w' := by
  have HT := Lib.hid hT
  have HT0 := Lib.hid hT0
  have HF := Lib.hid fun w' (h : RV w' A (sv ss)) => few_any A n cap ss w' hn h
  have HN := Lib.hid hn
  have HR := Lib.hid hr
  clear hT hT0 hn hr
  go_enter Tryd.func13, Tryd.ntmps13
  go_wp2_with fail
  refine (san_any _ HT.out).mono ?_
  rintro e w1 ⟨rfl, hb1⟩
  have HB1 := Lib.hid hb1
  clear hb1
  rcases Bool.eq_false_or_eq_true (fewB ss) with hf | hf
  · rw [hf] at HF
    have hfew := fewB_of hf
    have hl : n ≤ 12 := by rw [← HN.out]; exact hfew.1
    have HS := Lib.hid hfew.2
    have h255 := i64_and255 tag
    have HO1 := Lib.hid fun w' (h : RV w' A (sv ss)) (ht : Tab w' 1) => of_any tag A n cap ss w' HN.out h HS.out hl ht
    have HO2 := Lib.hid fun w' (h : RV w' A (sv ss)) (ht : Tab w' 0) => rof_any tag A n cap ss w' HN.out h HS.out hl ht
    have HO3 := Lib.hid fun w' (h : RV w' A (sv ss)) (ht : Tab w' 1) => of_any (tag % 256) A n cap ss w' HN.out h HS.out hl ht
    have hin : input (tag % 256) ss = input tag ss := by unfold input; rw [tag_mod]
    rw [hin] at HO3
    have hsl : ((sha (input tag ss)).take 16).length = 16 := by rw [List.length_take, sha_len]; rfl
    have HE : Hid (∀ w', (Op.equalIn 10000 58 (.agg (bv ((sha (input tag ss)).take 16)).toArray) (.agg (bv ((sha (input tag ss)).take 16)).toArray)).run Tryd.prog w' = .ok true w') := Lib.hid fun w' => by rw [eq_dig _ _ hsl hsl w', decide_eq_true rfl]
    have HL58 : Hid ((bv ((sha (input tag ss)).take 16)).length = 16) := Lib.hid (by rw [bv_len, hsl])
    have HI58 : Hid ((Tryd.prog.info? 58).map (·.size) = some (bv ((sha (input tag ss)).take 16)).length) := Lib.hid (by rw [size58, HL58.out])
    have HO58 := Lib.hid (bv_one ((sha (input tag ss)).take 16))
    have H58 := Lib.hid size58
    clear hin hsl hf hfew
    generalize bv ((sha (input tag ss)).take 16) = D at *
    go_wp2_with fail
    refine (HF.out _ (HR.out.below HB1.out)).mono ?_
    rintro e w2 ⟨rfl, rfl⟩
    go_wp2_with fail
    refine (HO1.out _ (HR.out.below HB1.out) (HT.out.keep HB1.out)).mono ?_
    rintro e w2 ⟨rfl, hb2⟩
    have HB2 := Lib.hid (bel_on HB1.out hb2)
    clear hb2 HB1
    go_upto_region 5 with ((with_reducible refine arm_new 58 D 16 HL58.out H58.out HO58.out _ ?_ rfl _ _ rfl ?_ ?_ ?_); (focus rfl); (focus rfl); (focus rfl); (refine nm_l ?_; intro w3 hw3; have HD3 : Hid (Arr w3 w2.heap.size 58 D) := Lib.hid (by rw [hw3]; exact Arr.new _ _ _); have HB3 : Hid (Below w.heap.size w w3) := Lib.hid (by rw [hw3]; exact bel_on HB2.out (bel_new _ _)); clear hw3 HB2; generalize w2.heap.size = b6 at *))
    have hbd := bel_drew w3
    have HD4 := Lib.hid (HD3.out.keep hbd)
    have HB4 := Lib.hid (bel_on HB3.out hbd)
    have hr4 : w3.drew.rangeAt b6 0 D := HD4.out.range
    have hE4 := HE.out w3.drew
    have hu58 := Tryd.underlying58
    have hi58 := HI58.out
    clear hbd
    refine wp_region_held_drew (S := fun W' => W'.rangeAt b6 0 D ∧ (Op.equalIn 10000 58 (.agg D.toArray) (.agg D.toArray)).run Tryd.prog W' = .ok true W') (by kernel_rfl) ⟨hr4, hE4⟩ (fun hHeld => ?_)
    refine wpAnyH_take (i := 0) (v := .bool true) rfl (by kernel_rfl) (by kernel_rfl) (by kernel_rfl) (fun _ _ _ h => h) (Or.inl ⟨by rfl, fun w hSw => by go_simp⟩) (by assumption) ?_
    change wpAnyH _ _ _ _ _ _ _ (Act.put _ (some 15) _) _
    simp only [Act.put, List.setIfInBounds_toArray, List.set_cons_zero, List.set_cons_succ]
    refine wpAnyH_take (i := 1) (v := .bool true) rfl (by kernel_rfl) (by kernel_rfl) (by kernel_rfl) (fun _ _ _ h => h) (Or.inl ⟨by rfl, fun w hSw => by go_simp⟩) (by assumption) ?_
    change wpAnyH _ _ _ _ _ _ _ (Act.put _ (some 16) _) _
    simp only [Act.put, List.setIfInBounds_toArray, List.set_cons_zero, List.set_cons_succ]
    refine wpAnyH_take (i := 2) (v := .agg D.toArray) rfl (by kernel_rfl) (by kernel_rfl) (by kernel_rfl) (fun _ _ _ h => h) (yieldsIf_load_mid (by rfl) _ _ rfl _ _ rfl _ _ (fun w h => h.1) hu58 rfl hi58) (by assumption) ?_
    change wpAnyH _ _ _ _ _ _ _ (Act.put _ (some 17) _) _
    simp only [Act.put, List.setIfInBounds_toArray, List.set_cons_zero, List.set_cons_succ]
    refine wpAnyH_take (i := 3) (v := .int .i64 tag) rfl (by kernel_rfl) (by kernel_rfl) (by kernel_rfl) (fun _ _ _ h => h) (Or.inl ⟨by rfl, fun w hSw => by go_simp⟩) (by assumption) ?_
    change wpAnyH _ _ _ _ _ _ _ (Act.put _ (some 18) _) _
    simp only [Act.put, List.setIfInBounds_toArray, List.set_cons_zero, List.set_cons_succ]
    refine wpAnyH_take (i := 4) (v := .slice A n cap) rfl (by kernel_rfl) (by kernel_rfl) (by kernel_rfl) (fun _ _ _ h => h) (Or.inl ⟨by rfl, fun w hSw => by go_simp⟩) (by assumption) ?_
    change wpAnyH _ _ _ _ _ _ _ (Act.put _ (some 19) _) _
    simp only [Act.put, List.setIfInBounds_toArray, List.set_cons_zero, List.set_cons_succ]
    refine wpAnyH_ready (rs := [5]) (by kernel_rfl) (by simp) ?_
    refine AllReadyH.cons rfl (fun K hK => ?_) AllReadyH.nil
    go_simp
    refine (HO2.out w3.drew (HR.out.below HB4.out) (HT0.out.keep HB4.out)).mono ?_
    rintro e w5 ⟨rfl, hb5⟩
    have HB5 := Lib.hid (bel_on HB4.out hb5)
    have HD5 := Lib.hid (HD4.out.keep hb5)
    have hr5 : w5.rangeAt b6 0 D := HD5.out.range
    have hE5 := HE.out w5
    refine hK.out _ _ ⟨hr5, hE5⟩ (fun hHeld5 => ?_)
    clear hK K hHeld hr4 hE4
    refine wpAnyH_take (i := 6) (v := .bool true) rfl (by kernel_rfl) (by kernel_rfl) (by kernel_rfl) (fun _ _ _ h => h) (Or.inl ⟨by rfl, fun w hSw => by obtain ⟨h1, h2⟩ := hSw; go_simp⟩) (by assumption) ?_
    change wpAnyH _ _ _ _ _ _ _ (Act.put _ (some 21) _) _
    simp only [Act.put, List.setIfInBounds_toArray, List.set_cons_zero, List.set_cons_succ]
    refine wpAnyH_take (i := 7) (v := .bool true) rfl (by kernel_rfl) (by kernel_rfl) (by kernel_rfl) (fun _ _ _ h => h) (Or.inl ⟨by rfl, fun w hSw => by go_simp⟩) (by assumption) ?_
    change wpAnyH _ _ _ _ _ _ _ (Act.put _ (some 22) _) _
    simp only [Act.put, List.setIfInBounds_toArray, List.set_cons_zero, List.set_cons_succ]
    refine wpAnyH_take (i := 8) (v := .bool true) rfl (by kernel_rfl) (by kernel_rfl) (by kernel_rfl) (fun _ _ _ h => h) (Or.inl ⟨by rfl, fun w hSw => by go_simp⟩) (by assumption) ?_
    change wpAnyH _ _ _ _ _ _ _ (Act.put _ (some 23) _) _
    simp only [Act.put, List.setIfInBounds_toArray, List.set_cons_zero, List.set_cons_succ]
    refine wpAnyH_take (i := 9) (v := .agg D.toArray) rfl (by kernel_rfl) (by kernel_rfl) (by kernel_rfl) (fun _ _ _ h => h) (yieldsIf_load_mid (by rfl) _ _ rfl _ _ rfl _ _ (fun w h => h.1) hu58 rfl hi58) (by assumption) ?_
    change wpAnyH _ _ _ _ _ _ _ (Act.put _ (some 24) _) _
    simp only [Act.put, List.setIfInBounds_toArray, List.set_cons_zero, List.set_cons_succ]
    refine wpAnyH_take (i := 10) (v := .int .i64 tag) rfl (by kernel_rfl) (by kernel_rfl) (by kernel_rfl) (fun _ _ _ h => h) (Or.inl ⟨by rfl, fun w hSw => by go_simp⟩) (by assumption) ?_
    change wpAnyH _ _ _ _ _ _ _ (Act.put _ (some 25) _) _
    simp only [Act.put, List.setIfInBounds_toArray, List.set_cons_zero, List.set_cons_succ]
    refine wpAnyH_take (i := 11) (v := .int .i64 (tag % 256)) rfl (by kernel_rfl) (by kernel_rfl) (by kernel_rfl) (fun _ _ _ h => h) (Or.inl ⟨by rfl, fun w hSw => by go_simp⟩) (by assumption) ?_
    change wpAnyH _ _ _ _ _ _ _ (Act.put _ (some 26) _) _
    simp only [Act.put, List.setIfInBounds_toArray, List.set_cons_zero, List.set_cons_succ]
    refine wpAnyH_take (i := 12) (v := .slice A n cap) rfl (by kernel_rfl) (by kernel_rfl) (by kernel_rfl) (fun _ _ _ h => h) (Or.inl ⟨by rfl, fun w hSw => by go_simp⟩) (by assumption) ?_
    change wpAnyH _ _ _ _ _ _ _ (Act.put _ (some 27) _) _
    simp only [Act.put, List.setIfInBounds_toArray, List.set_cons_zero, List.set_cons_succ]
    refine wpAnyH_ready (rs := [13]) (by kernel_rfl) (by simp) ?_
    refine AllReadyH.cons rfl (fun K hK => ?_) AllReadyH.nil
    go_simp
    refine (HO3.out w5 (HR.out.below HB5.out) (HT.out.keep HB5.out)).mono ?_
    rintro e w6 ⟨rfl, hb6⟩
    have HB6 := Lib.hid (bel_on HB5.out hb6)
    have HD6 := Lib.hid (HD5.out.keep hb6)
    have hr6 : w6.rangeAt b6 0 D := HD6.out.range
    have hE6 := HE.out w6
    refine hK.out _ _ ⟨hr6, hE6⟩ (fun hHeld6 => ?_)
    clear hK K hHeld5 hr5 hE5
    refine wpAnyH_take (i := 14) (v := .bool true) rfl (by kernel_rfl) (by kernel_rfl) (by kernel_rfl) (fun _ _ _ h => h) (Or.inl ⟨by rfl, fun w hSw => by obtain ⟨h1, h2⟩ := hSw; go_simp⟩) (by assumption) ?_
    change wpAnyH _ _ _ _ _ _ _ (Act.put _ (some 29) _) _
    simp only [Act.put, List.setIfInBounds_toArray, List.set_cons_zero, List.set_cons_succ]
    refine wpAnyH_take (i := 15) (v := .bool true) rfl (by kernel_rfl) (by kernel_rfl) (by kernel_rfl) (fun _ _ _ h => h) (Or.inl ⟨by rfl, fun w hSw => by go_simp⟩) (by assumption) ?_
    change wpAnyH _ _ _ _ _ _ _ (Act.put _ (some 30) _) _
    simp only [Act.put, List.setIfInBounds_toArray, List.set_cons_zero, List.set_cons_succ]
    refine wpAnyH_take (i := 16) (v := .bool true) rfl (by kernel_rfl) (by kernel_rfl) (by kernel_rfl) (fun _ _ _ h => h) (Or.inl ⟨by rfl, fun w hSw => by go_simp⟩) (by assumption) ?_
    change wpAnyH _ _ _ _ _ _ _ (Act.put _ (some 4) _) _
    simp only [Act.put, List.setIfInBounds_toArray, List.set_cons_zero, List.set_cons_succ]
    refine wpAnyH_done (by kernel_rfl) ?_ _
    go_wp2_with fail
    go_ret
    exact ⟨rfl, HB6.out⟩
  · rw [hf] at HF
    go_wp2_with fail
    refine (HF.out _ (HR.out.below HB1.out)).mono ?_
    rintro e w2 ⟨rfl, rfl⟩
    go_wp2_with fail
    go_ret
    exact ⟨rfl, HB1.out⟩
end Go.Proofs.YtkineafacekklaaDoor
