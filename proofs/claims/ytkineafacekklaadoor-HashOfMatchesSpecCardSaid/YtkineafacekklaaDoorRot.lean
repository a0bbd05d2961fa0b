/- What the rotations do. -/
import Derived.Test.YtkineafacekklaaDoorJoin
import Derived.Test.YtkineafacekklaaDoorSha
namespace Go.Proofs.YtkineafacekklaaDoor
open Go.RowKit
theorem rot_arg (n : Nat) (hn : 1 ≤ n) (hn2 : n ≤ 31) : bits .and .u64 (IntKind.u64.wrap (-(n : Int))) 31 = 32 - (n : Int) := by
  rw [IntKind.wrap_u64]
  obtain ⟨m, hm⟩ : ∃ m : Nat, -(n : Int) % 18446744073709551616 = m := ⟨(-(n : Int) % 18446744073709551616).toNat, by omega⟩
  rw [hm, show (31 : Int) = ((31 : Nat) : Int) from rfl, u64_and_nat _ _ (by omega) (by omega), show (31 : Nat) = 2 ^ 5 - 1 from rfl, Nat.and_two_pow_sub_one_eq_mod]
  omega
theorem rot_lt (n x : Nat) (hx : x < 4294967296) : rot n x < 4294967296 := by
  unfold rot
  exact Nat.or_lt_two_pow (n := 32) (Nat.lt_of_le_of_lt (Nat.div_le_self _ _) hx) (Nat.mod_lt _ (by decide))
theorem rot_bits (n x : Nat) (hx : x < 4294967296) : bits .or .u32 ((x : Int) / 2 ^ n) (IntKind.u32.wrap ((x : Int) * 2 ^ (32 - n))) = ((rot n x : Nat) : Int) := by
  have e1 : (x : Int) / 2 ^ n = ((x / 2 ^ n : Nat) : Int) := by
    rw [show ((2 : Int) ^ n) = ((2 ^ n : Nat) : Int) by simp]
    rfl
  have e2 : (x : Int) * 2 ^ (32 - n) = ((x * 2 ^ (32 - n) : Nat) : Int) := by simp
  have hd : x / 2 ^ n ≤ x := Nat.div_le_self _ _
  rw [e1, e2, IntKind.wrap_u32, show ((x * 2 ^ (32 - n) : Nat) : Int) % 4294967296 = ((x * 2 ^ (32 - n) % 4294967296 : Nat) : Int) by omega, u32_or_nat _ _ (by omega) (by omega)]
  rfl
theorem rot_bits' (n x : Nat) (hx : x < 4294967296) : bits .or .u32 (IntKind.u32.wrap ((x : Int) * 2 ^ (32 - n))) ((x : Int) / 2 ^ n) = ((rot n x : Nat) : Int) := by
  rw [← rot_bits n x hx]
  simp only [bits, BitVec.or_comm]
theorem ret_u32 {a b : Int} (h : a = b) : Ending.returned (.int .u32 a) = .returned (.int .u32 b) := by rw [h]
set_option maxRecDepth 100000 in
set_option maxHeartbeats 1000000 in
theorem rotl_any (x n : Nat) (w : World) (hx : x < 4294967296) (hn : 1 ≤ n) (hn2 : n ≤ 31) :
    Calls Tryd.prog 58 #[.int .u32 (x : Int), .int .i64 (-(n : Int))] w fun e w' => e = .returned (.int .u32 (rot n x : Nat)) ∧ w' = w := by
  have h1 := rot_arg n hn hn2
  have h2 : 0 ≤ 32 - (n : Int) := by omega
  have h3 : 32 - (n : Int) < 64 := by omega
  have h4 : IntKind.u64.wrap (32 - (32 - (n : Int))) = n := by rw [IntKind.wrap_u64]; omega
  have H := Lib.hid (rot_bits' n x hx)
  rw [IntKind.wrap_u32] at H
  go_enter Tryd.func58, Tryd.ntmps58
  go_wp2
  go_ret
  exact ⟨ret_u32 H.out, rfl⟩
set_option maxRecDepth 100000 in
theorem rrot_any (x n : Nat) (w : World) (hx : x < 4294967296) (hn : 1 ≤ n) (hn2 : n ≤ 31) :
    Calls Tryd.prog 46 #[.int .u32 (x : Int), .int .i64 (n : Int)] w fun e w' => e = .returned (.int .u32 (rot n x : Nat)) ∧ ∃ k, w' = w.drewN k := by
  have h2 : 0 ≤ 32 - (n : Int) := by omega
  have h3 : 32 - (n : Int) < 64 := by omega
  have h5 : 0 ≤ (n : Int) := by omega
  have h6 : (n : Int) < 64 := by omega
  have H := Lib.hid (rot_bits n x hx)
  rw [IntKind.wrap_u32] at H
  go_enter Tryd.func46, Tryd.ntmps46
  go_wp2
  go_quiet (fail)
  go_wp2
  go_ret
  exact ⟨ret_u32 H.out, _, rfl⟩
set_option maxRecDepth 100000 in
theorem rotr_any (x n : Nat) (w : World) (hx : x < 4294967296) (hn : 1 ≤ n) (hn2 : n ≤ 31) :
    Calls Tryd.prog 56 #[.int .u32 (x : Int), .int .i64 (n : Int)] w fun e w' => e = .returned (.int .u32 (rot n x : Nat)) ∧ w' = w := by
  go_enter Tryd.func56, Tryd.ntmps56
  go_wp2_with fail
  refine (rotl_any x n _ hx hn hn2).mono ?_
  rintro e w' ⟨rfl, rfl⟩
  go_wp2
  go_ret
  exact ⟨rfl, rfl⟩
theorem rotr_q (x n : Nat) (z : Int) (w : World) (a : Nat) (hz : z = (n : Int)) (hx : x < 4294967296) (hn : 1 ≤ n) (hn2 : n ≤ 31) :
    Calls Tryd.prog 56 #[.int .u32 (x : Int), .int .i64 z] (w.drewN a) fun e w' => e = .returned (.int .u32 (rot n x : Nat)) ∧ ∃ k, w' = w.drewN k := by
  subst hz
  exact Calls.quiet_of_same (rotr_any x n _ hx hn hn2)
theorem rrot_q (x n : Nat) (z : Int) (w : World) (a : Nat) (hz : z = (n : Int)) (hx : x < 4294967296) (hn : 1 ≤ n) (hn2 : n ≤ 31) :
    Calls Tryd.prog 46 #[.int .u32 (x : Int), .int .i64 z] (w.drewN a) fun e w' => e = .returned (.int .u32 (rot n x : Nat)) ∧ ∃ k, w' = w.drewN k := by
  subst hz
  exact Calls.quiet_of (rrot_any x n _ hx hn hn2)
theorem rotr_s (x n : Nat) (z : Int) (w : World) (hz : z = (n : Int)) (hx : x < 4294967296) (hn : 1 ≤ n) (hn2 : n ≤ 31) :
    Calls Tryd.prog 56 #[.int .u32 (x : Int), .int .i64 z] w fun e w' => e = .returned (.int .u32 (rot n x : Nat)) ∧ w = w' := by
  subst hz
  exact (rotr_any x n _ hx hn hn2).mono fun _ _ h => ⟨h.1, h.2.symm⟩
end Go.Proofs.YtkineafacekklaaDoor
