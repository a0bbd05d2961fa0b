/- What the reference's Valid does. -/
import Derived.Test.YthidababplamgaaDoorC1
namespace Go.Proofs.YthidababplamgaaDoor
open Go.RowKit
set_option maxRecDepth 100000 in
set_option maxHeartbeats 400000 in
theorem rvalid_any (L : List Int) (c : Int) (w : World) (h8 : L.length = 8) :
    Calls Tryd.prog 20 #[.agg (iv L).toArray, .int .i64 c] w fun e w' => e = .returned (.bool (validB L c)) ∧ Below w.heap.size w w' := by
  have HB := Lib.hid (bel_new w (.cells (iv L).toArray 22))
  have HA := Lib.hid (Arr.new w (iv L) 22)
  go_enter Tryd.func20, Tryd.ntmps20
  go_wp2_with fail
  obtain ⟨W, hW⟩ : ∃ W, w.alloc (.cells (iv L).toArray 22) = W := ⟨_, rfl⟩
  rw [hW] at HA HB ⊢
  clear hW
  go_loopw [5] (fun i wr => ∃ k : Nat, i = .int .i64 (k : Int) ∧ k ≤ 8 ∧ (∀ j, j < k → okW (L.getD j 0) = true) ∧ wr = W) (fun i _ => 8 - (intOf i).toNat)
  case atStart => exact ⟨0, rfl, by omega, fun j hj => by omega, rfl⟩
  case round =>
    obtain ⟨k, rfl, hk, hall, rfl⟩ := hrel
    by_cases hlt : k < 8
    · have hidx := HA.out.cell (iv_at (l := L) (k := k) (by omega))
      have hnot := fun h => not_all (L := L) (k := k) (by omega) h
      have hstep : okW (L.getD k 0) = true → ∀ j, j < k + 1 → okW (L.getD j 0) = true := fun h j hj => by
        rcases Nat.lt_succ_iff_lt_or_eq.1 hj with h1 | h1
        · exact hall j h1
        · subst h1; exact h
      generalize L.getD k 0 = v at *
      unfold okW at hnot hstep
      have HS := Lib.hid hstep
      have HN := Lib.hid hnot
      clear hstep hnot hall
      by_cases h1 : v < 0
      · go_wp2_with fail
        go_ret
        refine ⟨ret_bool ?_, HB.out⟩
        unfold validB okW
        rw [HN.out (by simp; omega)]
        rfl
      · by_cases h2 : 1099511627775 < v
        · go_wp2_with fail
          go_ret
          refine ⟨ret_bool ?_, HB.out⟩
          unfold validB okW
          rw [HN.out (by simp; omega)]
          rfl
        · go_wp2_with fail
          go_roundw
          case rel => exact ⟨k + 1, by simp, by omega, HS.out (by simp; omega), trivial⟩
          case measure => simp [intOf]; omega
    · obtain rfl : k = 8 := by omega
      have ha := all_of h8 hall
      have HV : Hid (validB L c = decide (0 ≤ c ∧ c ≤ 1023)) := Lib.hid (by unfold validB; rw [ha, Bool.true_and])
      clear hall ha
      by_cases h1 : 0 ≤ c
      · by_cases h2 : c ≤ 1023
        · go_wp2_with fail
          go_ret
          exact ⟨ret_bool (by rw [HV.out]; simp; omega), HB.out⟩
        · go_wp2_with fail
          go_ret
          exact ⟨ret_bool (by rw [HV.out]; simp; omega), HB.out⟩
      · go_wp2_with fail
        go_ret
        exact ⟨ret_bool (by rw [HV.out]; simp; omega), HB.out⟩
end Go.Proofs.YthidababplamgaaDoor
