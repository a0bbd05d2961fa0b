/-
  What alumref05's Point does.
-/
import Derived.Test.YtpojhplnhppcpaaGreatDoorQU5
namespace Go.Proofs.YtpojhplnhppcpaaGreatDoor
open Go.RowKit Go.Maps
def pointP (N : Nat) (z : Int) : Nat := restZ z % (N + 1)
theorem point_le (N : Nat) (z : Int) : pointP N z ≤ N := by
  have := Nat.mod_lt (restZ z) (show 0 < N + 1 by omega)
  unfold pointP
  omega
set_option maxRecDepth 100000 in
set_option maxHeartbeats 4000000 in
set_option linter.unusedSimpArgs false in
theorem point_any (A : Option Addr) (N cap : Nat) (z : Int) (w : World) (hN : N ≤ 1000000) (hz : I64 z) :
    Calls Tryz.prog 45 #[.slice A N cap, .int .i64 z] w fun e w' => e = .returned (.int .i64 ((pointP N z : Nat) : Int)) ∧ Below w.heap.size w w' := by
  obtain ⟨P, hP⟩ : ∃ P, pointP N z = P := ⟨_, rfl⟩
  rw [hP]
  unfold pointP at hP
  have hdl := rest_le hz
  have hcase : (z < 0 ∧ IntKind.i64.wrap (z + 1) = z + 1 ∧ IntKind.i64.wrap (-(z + 1)) = ((restZ z : Nat) : Int)) ∨ (¬ z < 0 ∧ z = ((restZ z : Nat) : Int)) := by
    by_cases hn : z < 0
    · have hr : ((restZ z : Nat) : Int) = -(z + 1) := by unfold restZ; rw [if_pos hn]; omega
      unfold I64 at hz
      exact .inl ⟨hn, by rw [i64_wraps]; omega, by rw [i64_wraps]; omega⟩
    · have hr : ((restZ z : Nat) : Int) = z := by unfold restZ; rw [if_neg hn]; omega
      exact .inr ⟨hn, hr.symm⟩
  obtain ⟨d, hd⟩ : ∃ d, restZ z = d := ⟨_, rfl⟩
  rw [hd] at hcase hP hdl
  obtain ⟨c, hc⟩ : ∃ c, N + 1 = c := ⟨_, rfl⟩
  rw [hc] at hP
  have hcw : IntKind.i64.wrap ((N : Int) + 1) = (c : Int) := by rw [i64_wraps]; omega
  have hcz : ¬ (c : Int) = 0 := by omega
  have hcN : ¬ c = 0 := by omega
  have hPl : P ≤ 1000000 := by have := Nat.mod_lt d (show 0 < c by omega); omega
  have hr3 : Int.tmod (d : Int) (c : Int) = (P : Int) := by
    rw [Int.tmod_eq_emod_of_nonneg (by omega), ← hP]
    exact (Int.natCast_emod d c).symm
  have hr : IntKind.i64.wrap (Int.tmod (d : Int) (c : Int)) = (P : Int) := by
    rw [hr3, i64_wraps]
    omega
  have hr2 : (d : Int) % (c : Int) = (P : Int) := by rw [← hP]; exact (Int.natCast_emod d c).symm
  clear hz hd hc hP
  go_enter Tryz.func45, Tryz.ntmps45
  rcases hcase with ⟨hn, hw1, hw2⟩ | ⟨hn, rfl⟩
  · go_wp2_with fail
    go_ret
    exact ⟨by first | rfl | (show Ending.returned (.int .i64 _) = _; simp [hw2, hr2, hr]), .refl _ _⟩
  · go_wp2_with fail
    go_ret
    exact ⟨by first | rfl | (show Ending.returned (.int .i64 _) = _; simp [hr2, hr]), .refl _ _⟩
end Go.Proofs.YtpojhplnhppcpaaGreatDoor
