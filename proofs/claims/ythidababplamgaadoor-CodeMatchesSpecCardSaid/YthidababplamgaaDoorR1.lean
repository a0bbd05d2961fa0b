/- What the reference's Exists, place and Position do. -/
import Derived.Test.YthidababplamgaaDoorC10
namespace Go.Proofs.YthidababplamgaaDoor
open Go.RowKit
set_option maxRecDepth 100000 in
set_option maxHeartbeats 400000 in
theorem exists_any (k b : Int) (w : World) :
    Calls Tryd.prog 31 #[.int .i64 k, .int .i64 b] w fun e w' => e = .returned (.bool (dataB k b || codeB k b)) ∧ w' = w := by
  obtain ⟨R, hR⟩ : ∃ R, (dataB k b || codeB k b) = R := ⟨_, rfl⟩
  rw [hR]
  unfold dataB codeB at hR
  have HR := Lib.hid hR
  clear hR
  by_cases h8 : k = 8
  · subst h8
    by_cases h3 : 0 ≤ b
    · by_cases h4 : b ≤ 9
      · go_enter Tryd.func31, Tryd.ntmps31
        go_wp2_with fail
        go_ret
        exact ⟨ret_bool (by rw [← HR.out]; simp; try omega), rfl⟩
      · go_enter Tryd.func31, Tryd.ntmps31
        go_wp2_with fail
        go_ret
        exact ⟨ret_bool (by rw [← HR.out]; simp; try omega), rfl⟩
    · go_enter Tryd.func31, Tryd.ntmps31
      go_wp2_with fail
      go_ret
      exact ⟨ret_bool (by rw [← HR.out]; simp; try omega), rfl⟩
  · have h8' : (k == 8) = false := by simp; omega
    by_cases h1 : 0 ≤ k
    · by_cases h2 : k < 8
      · by_cases h3 : 0 ≤ b
        · by_cases h4 : b < 40
          · go_enter Tryd.func31, Tryd.ntmps31
            go_wp2_with fail
            go_ret
            exact ⟨ret_bool (by rw [← HR.out]; simp; try omega), rfl⟩
          · go_enter Tryd.func31, Tryd.ntmps31
            go_wp2_with fail
            go_ret
            exact ⟨ret_bool (by rw [← HR.out]; simp; try omega), rfl⟩
        · go_enter Tryd.func31, Tryd.ntmps31
          go_wp2_with fail
          go_ret
          exact ⟨ret_bool (by rw [← HR.out]; simp; try omega), rfl⟩
      · go_enter Tryd.func31, Tryd.ntmps31
        go_wp2_with fail
        go_ret
        exact ⟨ret_bool (by rw [← HR.out]; simp; try omega), rfl⟩
    · go_enter Tryd.func31, Tryd.ntmps31
      go_wp2_with fail
      go_ret
      exact ⟨ret_bool (by rw [← HR.out]; simp; try omega), rfl⟩
def plJ (i : Nat) : Nat := bitLen (i + 1 + bitLen (i + 1))
theorem pl_steps (i : Nat) (h : i < 320) : 2 ≤ plJ i ∧ plJ i ≤ 10 ∧ i + 1 + plJ i < 2 ^ plJ i ∧ ∀ j, 2 ≤ j → j < plJ i → 2 ^ j ≤ i + 1 + j := by
  have all : ∀ i : Fin 320, 2 ≤ plJ i ∧ plJ i ≤ 10 ∧ i.val + 1 + plJ i < 2 ^ plJ i ∧ ∀ j : Fin 11, 2 ≤ j.val → j.val < plJ i → 2 ^ j.val ≤ i.val + 1 + j.val := by decide +kernel
  obtain ⟨a, b, c, d⟩ := all ⟨i, h⟩
  exact ⟨a, b, c, fun j h1 h2 => d ⟨j, by have : plJ i ≤ 10 := b; omega⟩ h1 h2⟩
set_option maxRecDepth 100000 in
set_option maxHeartbeats 400000 in
theorem place_any (z : Int) (i : Nat) (w : World) (hz : z = i) (hi : i < 320) :
    Calls Tryd.prog 32 #[.int .i64 z] w fun e w' => e = .returned (.int .i64 (posn i : Nat)) ∧ w' = w := by
  obtain ⟨p1, p2, p3, p4⟩ := pl_steps i hi
  have hp : posn i = i + 1 + plJ i := rfl
  rw [hp]
  generalize plJ i = J at *
  have HP3 := Lib.hid p3
  have HP4 := Lib.hid p4
  subst hz
  clear p3 p4 hp
  have hi2 : (i : Int) < 320 := by omega
  go_enter Tryd.func32, Tryd.ntmps32
  go_wp2_with fail
  go_loopw [3] (fun v wr => ∃ j : Nat, v = .int .i64 (j : Int) ∧ 2 ≤ j ∧ j ≤ J ∧ wr = w) (fun v _ => J - (intOf v).toNat)
  case atStart => exact ⟨2, rfl, by omega, p1, rfl⟩
  case round =>
    obtain ⟨j, rfl, hj2, hjJ, rfl⟩ := hrel
    have hw := pow_n j (by omega)
    by_cases hlt : j < J
    · have hc := HP4.out j hj2 hlt
      generalize 2 ^ j = q at *
      have hcond : decide ((q : Int) ≤ (i : Int) + 1 + (j : Int)) = true := by simp; omega
      have hj10 : (j : Int) < 10 := by omega
      clear hc
      go_wp2_with fail
      go_roundw
      case rel => exact ⟨j + 1, by simp, by omega, by omega, by first | rfl | trivial⟩
      case measure => simp [intOf]; omega
    · obtain rfl : j = J := by omega
      have hc := HP3.out
      generalize 2 ^ j = q at *
      have hcond : decide ((q : Int) ≤ (i : Int) + 1 + (j : Int)) = false := by simp; omega
      have hj10 : (j : Int) ≤ 10 := by omega
      clear hc
      go_wp2_with fail
      go_ret
      exact ⟨ret_i64 (by omega), rfl⟩
end Go.Proofs.YthidababplamgaaDoor
