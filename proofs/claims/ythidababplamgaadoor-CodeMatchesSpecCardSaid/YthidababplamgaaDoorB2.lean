/- What bits.Len does with a small number. -/
import Derived.Test.YthidababplamgaaDoorB1
namespace Go.Proofs.YthidababplamgaaDoor
open Go.RowKit
set_option maxRecDepth 100000 in
set_option maxHeartbeats 400000 in
theorem len_any (z : Int) (x : Nat) (w : World) (hz : z = x) (hx : x < 1024) :
    Calls Tryd.prog 39 #[.int .u64 z] w fun e w' => e = .returned (.int .i64 (bitLen x : Nat)) ∧ w' = w := by
  have h := len64_any z x w hz hx
  generalize bitLen x = L at *
  clear hz hx
  go_enter Tryd.func39, Tryd.ntmps39
  go_wp2_with fail
  refine h.mono ?_
  rintro e w1 ⟨rfl, rfl⟩
  go_wp2
  go_ret
  exact ⟨rfl, rfl⟩
theorem posn_lt (i : Nat) (h : i < 320) : posn i < 512 ∧ bitLen (i + 1) ≤ 10 ∧ bitLen (i + 1 + bitLen (i + 1)) ≤ 10 := by
  have all : ∀ i : Fin 320, posn i < 512 ∧ bitLen (i + 1) ≤ 10 ∧ bitLen (i + 1 + bitLen (i + 1)) ≤ 10 := by decide +kernel
  exact all ⟨i, h⟩
set_option maxRecDepth 100000 in
set_option maxHeartbeats 400000 in
theorem position_any (z : Int) (i : Nat) (w : World) (hz : z = i) (hi : i < 320) :
    Calls Tryd.prog 29 #[.int .i64 z] w fun e w' => e = .returned (.int .i64 (posn i : Nat)) ∧ w' = w := by
  obtain ⟨hp, h1, h2⟩ := posn_lt i hi
  have c1 := fun y w hz => len_any y (i + 1) w hz (by omega)
  have c2 := fun y w hz => len_any y (i + 1 + bitLen (i + 1)) w hz (by omega)
  unfold posn
  generalize hL2 : bitLen (i + 1 + bitLen (i + 1)) = L2 at *
  clear hL2
  generalize bitLen (i + 1) = L1 at *
  have hz0 : 0 ≤ z := by omega
  have hz1 : z < 320 := by omega
  have hl1 : (L1 : Int) ≤ 10 := by omega
  have hl2 : (L2 : Int) ≤ 10 := by omega
  clear hp
  go_enter Tryd.func29, Tryd.ntmps29
  go_wp2_with fail
  refine (c1 _ _ (by omega)).mono ?_
  rintro e w1 ⟨rfl, rfl⟩
  go_wp2_with fail
  refine (c2 _ _ (by omega)).mono ?_
  rintro e w1 ⟨rfl, rfl⟩
  go_wp2_with fail
  go_ret
  exact ⟨ret_i64 (by omega), rfl⟩
/-- Is there such a data bit, such a bit of a code? -/
def dataB (k b : Int) : Bool := decide (0 ≤ k ∧ k < 8 ∧ 0 ≤ b ∧ b < 40)
def codeB (k b : Int) : Bool := decide (k = 8 ∧ 0 ≤ b ∧ b < 10)
theorem ret_bool {a b : Bool} (h : a = b) : Ending.returned (.bool a) = .returned (.bool b) := by rw [h]
set_option maxRecDepth 100000 in
set_option maxHeartbeats 400000 in
theorem isData_any (k b : Int) (w : World) :
    Calls Tryd.prog 28 #[.int .i64 k, .int .i64 b] w fun e w' => e = .returned (.bool (dataB k b)) ∧ w' = w := by
  unfold dataB
  go_enter Tryd.func28, Tryd.ntmps28
  by_cases h1 : 0 ≤ k
  · by_cases h2 : k < 8
    · by_cases h3 : 0 ≤ b
      · by_cases h4 : b < 40
        · go_wp2_with fail
          go_ret
          exact ⟨ret_bool (by simp; try omega), rfl⟩
        · go_wp2_with fail
          go_ret
          exact ⟨ret_bool (by simp; try omega), rfl⟩
      · go_wp2_with fail
        go_ret
        exact ⟨ret_bool (by simp; try omega), rfl⟩
    · go_wp2_with fail
      go_ret
      exact ⟨ret_bool (by simp; try omega), rfl⟩
  · go_wp2_with fail
    go_ret
    exact ⟨ret_bool (by simp; try omega), rfl⟩
set_option maxRecDepth 100000 in
set_option maxHeartbeats 400000 in
theorem isCode_any (k b : Int) (w : World) :
    Calls Tryd.prog 30 #[.int .i64 k, .int .i64 b] w fun e w' => e = .returned (.bool (codeB k b)) ∧ w' = w := by
  unfold codeB
  go_enter Tryd.func30, Tryd.ntmps30
  by_cases h1 : k = 8
  · subst h1
    by_cases h3 : 0 ≤ b
    · by_cases h4 : b < 10
      · go_wp2_with fail
        go_ret
        exact ⟨ret_bool (by simp; try omega), rfl⟩
      · go_wp2_with fail
        go_ret
        exact ⟨ret_bool (by simp; try omega), rfl⟩
    · go_wp2_with fail
      go_ret
      exact ⟨ret_bool (by simp; try omega), rfl⟩
  · go_wp2_with fail
    go_ret
    exact ⟨ret_bool (by simp; try omega), rfl⟩
end Go.Proofs.YthidababplamgaaDoor
