/- What code's valid does. -/
import Derived.Test.YthidababplamgaaDoorSyn
namespace Go.Proofs.YthidababplamgaaDoor
open Go.RowKit
def okW (z : Int) : Bool := decide (0 ≤ z ∧ z ≤ 1099511627775)
/-- Are all words of a line and its code in their ranges? -/
def validB (L : List Int) (c : Int) : Bool := L.all okW && decide (0 ≤ c ∧ c ≤ 1023)
theorem all_of {L : List Int} (h8 : L.length = 8) (h : ∀ j, j < 8 → okW (L.getD j 0) = true) : L.all okW = true := by
  rw [List.all_eq_true]
  intro z hz
  obtain ⟨j, hj, rfl⟩ := List.mem_iff_getElem.1 hz
  have := h j (by omega)
  rw [List.getD_eq_getElem?_getD, List.getElem?_eq_getElem hj] at this
  exact this
theorem not_all {L : List Int} {k : Nat} (hk : k < L.length) (h : okW (L.getD k 0) = false) : L.all okW = false := by
  rw [List.all_eq_false]
  refine ⟨L[k], List.getElem_mem hk, ?_⟩
  rw [List.getD_eq_getElem?_getD, List.getElem?_eq_getElem hk] at h
  simpa using h
set_option maxRecDepth 100000 in
set_option maxHeartbeats 400000 in
theorem valid_any (L : List Int) (c : Int) (w : World) (h8 : L.length = 8) :
    Calls Tryd.prog 27 #[.agg (iv L).toArray, .int .i64 c] w fun e w' => e = .returned (.bool (validB L c)) ∧ Below w.heap.size w w' := by
  have HI := Lib.hid (size22' h8)
  have HB := Lib.hid (bel_new w (.cells (iv L).toArray 22))
  have HA := Lib.hid (Arr.new w (iv L) 22)
  go_enter Tryd.func27, Tryd.ntmps27
  go_wp2_with ((with_reducible refine arm_row 22 w.heap.size 22 _ HA.out _ Tryd.underlying22 rfl HI.out rfl _ rfl ?_ ?_); focus rfl)
  obtain ⟨W, hW⟩ : ∃ W, w.alloc (.cells (iv L).toArray 22) = W := ⟨_, rfl⟩
  rw [hW] at HB ⊢
  clear hW HA
  go_loopw [8] (fun i wr => ∃ k : Nat, i = .int .i64 (k : Int) ∧ k ≤ 8 ∧ (∀ j, j < k → okW (L.getD j 0) = true) ∧ wr = W) (fun i _ => 8 - (intOf i).toNat)
  case atStart => exact ⟨0, rfl, by omega, fun j hj => by omega, rfl⟩
  case round =>
    obtain ⟨k, rfl, hk, hall, rfl⟩ := hrel
    by_cases hlt : k < 8
    · have hidx := index22 L k hlt h8 wr
      have hnot := fun h => not_all (L := L) (k := k) (by omega) h
      have hstep : okW (L.getD k 0) = true → ∀ j, j < k + 1 → okW (L.getD j 0) = true := fun h j hj => by
        rcases Nat.lt_succ_iff_lt_or_eq.1 hj with h1 | h1
        · exact hall j h1
        · subst h1; exact h
      generalize L.getD k 0 = v at *
      unfold okW at hnot hstep
      have HS := Lib.hid hstep
      have HN := Lib.hid hnot
      clear hstep hnot hall
      by_cases h1 : v < 0
      · go_wp2_with fail
        go_ret
        refine ⟨ret_bool ?_, HB.out⟩
        unfold validB okW
        rw [HN.out (by simp; omega)]
        rfl
      · by_cases h2 : 1099511627775 < v
        · go_wp2_with fail
          go_ret
          refine ⟨ret_bool ?_, HB.out⟩
          unfold validB okW
          rw [HN.out (by simp; omega)]
          rfl
        · go_wp2_with fail
          go_roundw
          case rel => exact ⟨k + 1, by simp, by omega, HS.out (by simp; omega), trivial⟩
          case measure => simp [intOf]; omega
    · obtain rfl : k = 8 := by omega
      have ha := all_of h8 hall
      have HV : Hid (validB L c = decide (0 ≤ c ∧ c ≤ 1023)) := Lib.hid (by unfold validB; rw [ha, Bool.true_and])
      clear hall ha
      by_cases h1 : 0 ≤ c
      · by_cases h2 : c ≤ 1023
        · go_wp2_with fail
          go_ret
          exact ⟨ret_bool (by rw [HV.out]; simp; omega), HB.out⟩
        · go_wp2_with fail
          go_ret
          exact ⟨ret_bool (by rw [HV.out]; simp; omega), HB.out⟩
      · go_wp2_with fail
        go_ret
        exact ⟨ret_bool (by rw [HV.out]; simp; omega), HB.out⟩
end Go.Proofs.YthidababplamgaaDoor
