/-
  The laws on Check and Replay: TraceCheckMatchesSpec, TraceReplayRefuses: the walks.
-/
import Derived.Test.YtpojhplnhppcpaaGreatDoorQS2
import Derived.Test.YtpojhplnhppcpaaGreatDoorQY6Fates
namespace Go.Proofs.YtpojhplnhppcpaaGreatDoor
open Go.RowKit Go.Maps
def fewB (n k : Nat) : Bool := decide (n ≤ 12) && decide (k ≤ 120)
set_option maxRecDepth 100000 in
set_option maxHeartbeats 8000000 in
set_option linter.unusedSimpArgs false in
theorem few_any (A A2 : Option Addr) (n cap k cap2 : Nat) (w : World) :
    Calls Tryz.prog 16 #[.slice A n cap, .slice A2 k cap2] w fun e w' => e = .returned (.bool (fewB n k)) ∧ Below w.heap.size w w' := by
  have hF : fewB n k = (decide (n ≤ 12) && decide (k ≤ 120)) := rfl
  rw [hF]
  clear hF
  go_enter Tryz.func16, Tryz.ntmps16
  by_cases h1 : n ≤ 12
  · have h1' : (n : Int) ≤ 12 := by omega
    by_cases h2 : k ≤ 120
    · have h2' : (k : Int) ≤ 120 := by omega
      go_wp2_with fail
      go_ret
      exact ⟨by simp [h1, h2], .refl _ _⟩
    · have h2' : ¬ (k : Int) ≤ 120 := by omega
      go_wp2_with fail
      go_ret
      exact ⟨by simp [h1, h2], .refl _ _⟩
  · have h1' : ¬ (n : Int) ≤ 12 := by omega
    go_wp2_with fail
    go_ret
    exact ⟨by simp [h1], .refl _ _⟩
theorem fewB_t {n k : Nat} (h : fewB n k = true) : n ≤ 12 ∧ k ≤ 120 := by
  unfold fewB at h
  simpa using h
end Go.Proofs.YtpojhplnhppcpaaGreatDoor
