/- What hash.shift, the reference's step and the like do. -/
import Derived.Test.YtkineafacekklaaDoorKit
import Derived.Test.YtkineafacekklaaDoorCrc2
namespace Go.Proofs.YtkineafacekklaaDoor
open Go.RowKit
theorem mask_mod (a : Nat) (ha : a < 18446744073709551616) : bits .and .u64 (a : Int) 1099511627775 = ((a % 1099511627776 : Nat) : Int) := by
  rw [show (1099511627775 : Int) = ((1099511627775 : Nat) : Int) from rfl, u64_and_nat _ _ ha (by omega)]
  rw [show (1099511627775 : Nat) = 2 ^ 40 - 1 from rfl, Nat.and_two_pow_sub_one_eq_mod]
theorem xor40 (a b : Nat) (ha : a < 1099511627776) (hb : b < 1099511627776) : bits .xor .u64 (a : Int) (b : Int) = ((a ^^^ b : Nat) : Int) := u64_xor_nat _ _ (by omega) (by omega)
theorem shift_bits (a t : Nat) (ha : a < 18446744073709551616) (ht : t < 16384) :
    bits .xor .u64 (bits .xor .u64 (bits .xor .u64 (bits .xor .u64 (bits .xor .u64 (bits .and .u64 (a : Int) 1099511627775) ((t * 67108864 : Nat) : Int)) ((t * 8388608 : Nat) : Int)) ((t * 131072 : Nat) : Int)) ((t * 8 : Nat) : Int)) ((t : Nat) : Int)
      = ((((((((a % 1099511627776) ^^^ t * 67108864) ^^^ t * 8388608) ^^^ t * 131072) ^^^ t * 8)) ^^^ t : Nat) : Int) := by
  have h0 : a % 1099511627776 < 1099511627776 := Nat.mod_lt _ (by decide)
  have h1 := xor_lt h0 (show t * 67108864 < 1099511627776 by omega)
  have h2 := xor_lt h1 (show t * 8388608 < 1099511627776 by omega)
  have h3 := xor_lt h2 (show t * 131072 < 1099511627776 by omega)
  have h4 := xor_lt h3 (show t * 8 < 1099511627776 by omega)
  rw [mask_mod _ ha, xor40 _ _ h0 (by omega), xor40 _ _ h1 (by omega), xor40 _ _ h2 (by omega), xor40 _ _ h3 (by omega), xor40 _ _ h4 (by omega)]
theorem ret_u64 {a b : Int} (h : a = b) : Ending.returned (.int .u64 a) = .returned (.int .u64 b) := by rw [h]
theorem ret_i64 {a b : Int} (h : a = b) : Ending.returned (.int .i64 a) = .returned (.int .i64 b) := by rw [h]
set_option maxRecDepth 100000 in
set_option maxHeartbeats 400000 in
theorem shift8 (p : Nat) (w : World) (hp : p < 1099511627776) :
    Calls Tryd.prog 51 #[.int .u64 (p : Int), .int .i64 8] w fun e w' => e = .returned (.int .u64 (It 8 p : Nat)) ∧ w = w' := by
  go_enter Tryd.func51, Tryd.ntmps51
  go_wp2
  go_ret
  refine ⟨ret_u64 ?_, rfl⟩
  have h := shift_bits (p * 256) (p / 4294967296) (by omega) (by omega)
  rw [← sh8 hp]
  unfold sh
  simpa only [Int.natCast_mul, Int.natCast_ediv, Int.cast_ofNat_Int] using h
set_option maxRecDepth 100000 in
set_option maxHeartbeats 400000 in
theorem shift1 (p : Nat) (w : World) (hp : p < 1099511627776) :
    Calls Tryd.prog 51 #[.int .u64 (p : Int), .int .i64 1] w fun e w' => e = .returned (.int .u64 (S p : Nat)) ∧ w = w' := by
  go_enter Tryd.func51, Tryd.ntmps51
  go_wp2
  go_ret
  refine ⟨ret_u64 ?_, rfl⟩
  have h := shift_bits (p * 2) (p / 549755813888) (by omega) (by omega)
  rw [← sh1 hp]
  unfold sh
  simpa only [Int.natCast_mul, Int.natCast_ediv, Int.cast_ofNat_Int] using h
theorem and1_64 (a : Nat) (ha : a < 18446744073709551616) : bits .and .u64 (a : Int) 1 = ((a % 2 : Nat) : Int) := and1 a ha
theorem step_bits (r b : Nat) (hr : r < 1099511627776) (hb : b < 2) :
    bits .xor .u64 (bits .and .u64 ((r : Int) / 549755813888) 1) (b : Int) = (((r / 549755813888 % 2) ^^^ b : Nat) : Int) ∧
    bits .and .u64 ((r : Int) * 2) 1099511627775 = ((r * 2 % 1099511627776 : Nat) : Int) ∧
    bits .xor .u64 (bits .and .u64 ((r : Int) * 2) 1099511627775) 75628553 = (((r * 2 % 1099511627776) ^^^ POLY : Nat) : Int) := by
  have e1 : (r : Int) / 549755813888 = ((r / 549755813888 : Nat) : Int) := by omega
  have e2 : (r : Int) * 2 = ((r * 2 : Nat) : Int) := by omega
  have h2 := mask_mod (r * 2) (by omega)
  rw [e1, e2, and1_64 _ (by omega), h2]
  exact ⟨u64_xor_nat _ _ (by omega) (by omega), rfl, u64_xor_nat _ 75628553 (by omega) (by omega)⟩
set_option maxRecDepth 100000 in
set_option maxHeartbeats 400000 in
theorem step_any (r b : Nat) (z : Int) (w : World) (hz : z = (b : Int)) (hr : r < 1099511627776) (hb : b < 2) :
    Calls Tryd.prog 41 #[.int .u64 (r : Int), .int .u64 z] w fun e w' => e = .returned (.int .u64 (stepBit r b : Nat)) ∧ w = w' := by
  subst hz
  obtain ⟨h1, h2, h3⟩ := step_bits r b hr hb
  have H2 := Lib.hid h2
  have H3 := Lib.hid h3
  clear h2 h3
  by_cases h : (r / 549755813888 % 2) ^^^ b = 1
  · have hc : (bits .xor .u64 (bits .and .u64 ((r : Int) / 549755813888) 1) (b : Int) == 1) = true := by rw [h1, h]; rfl
    have HX := Lib.hid h
    clear h1 h
    go_enter Tryd.func41, Tryd.ntmps41
    go_wp2
    go_ret
    exact ⟨ret_u64 (by unfold stepBit; rw [if_pos HX.out]; exact H3.out), rfl⟩
  · have hc : (bits .xor .u64 (bits .and .u64 ((r : Int) / 549755813888) 1) (b : Int) == 1) = false := by
      rw [h1, beq_eq_false_iff_ne]; omega
    have HX := Lib.hid h
    clear h1 h
    go_enter Tryd.func41, Tryd.ntmps41
    go_wp2
    go_ret
    exact ⟨ret_u64 (by unfold stepBit; rw [if_neg HX.out]; exact H2.out), rfl⟩
theorem shift8' (z : Int) (p : Nat) (w : World) (hz : z = (p : Int)) (hp : p < 1099511627776) :
    Calls Tryd.prog 51 #[.int .u64 z, .int .i64 8] w fun e w' => e = .returned (.int .u64 (It 8 p : Nat)) ∧ w = w' := by subst hz; exact shift8 p w hp
theorem next_bits (r c : Nat) (hr : r < 1099511627776) (hc : c < 256) : bits .xor .u64 (r : Int) ((c : Int) * 4294967296) = ((r ^^^ c * 4294967296 : Nat) : Int) := by
  have e : (c : Int) * 4294967296 = ((c * 4294967296 : Nat) : Int) := by omega
  rw [e]
  exact xor40 _ _ hr (by omega)
theorem next_lt (r c : Nat) (hr : r < 1099511627776) (hc : c < 256) : r ^^^ c * 4294967296 < 1099511627776 := xor_lt hr (by omega)
/-- A Crc with a register. -/
def cv (r : Nat) : Value := .agg #[.int .u64 (r : Int)]
set_option maxRecDepth 100000 in
set_option maxHeartbeats 400000 in
theorem next_any (r c : Nat) (z : Int) (w : World) (hz : z = (c : Int)) (hr : r < 1099511627776) (hc : c < 256) :
    Calls Tryd.prog 40 #[.agg #[.int .u64 (r : Int)], .int .u8 z] w fun e w' => e = .returned (.agg #[.int .u64 (nextB r c : Nat)]) ∧ Below w.heap.size w w' := by
  subst hz
  go_enter Tryd.func40, Tryd.ntmps40
  go_wp2_with fail
  refine (shift8' _ (r ^^^ c * 4294967296) _ (next_bits r c hr hc) (next_lt r c hr hc)).mono ?_
  rintro e w' ⟨rfl, rfl⟩
  go_wp2
  exact bodyPost_ret (v := .agg #[.int .u64 (nextB r c : Nat)]) (by simp [results, Tryd.results40, go_sem, nextB]) rfl ⟨rfl, ((Below.refl _ _).alloc (Nat.le_refl _) _).alloc (by simp) _⟩
set_option maxHeartbeats 400000 in
theorem value_any (r : Nat) (w : World) (hr : r < 1099511627776) :
    Calls Tryd.prog 22 #[.agg #[.int .u64 (r : Int)]] w fun e w' => e = .returned (.int .i64 (r ^^^ MASK : Nat)) ∧ Below w.heap.size w w' := by
  have h : bits .xor .u64 (r : Int) 1099511627775 = ((r ^^^ MASK : Nat) : Int) := xor40 r MASK hr MASK_lt
  have hl := xor_lt hr MASK_lt
  generalize r ^^^ MASK = m at *
  go_enter Tryd.func22, Tryd.ntmps22
  go_wp2
  go_ret
  exact ⟨rfl, (Below.refl _ _).alloc (Nat.le_refl _) _⟩
set_option maxHeartbeats 400000 in
theorem begin_any (w : World) : Calls Tryd.prog 19 #[] w fun e w' => e = .returned (.agg #[.int .u64 (MASK : Nat)]) ∧ Below w.heap.size w w' := by
  go_enter Tryd.func19, Tryd.ntmps19
  go_wp2
  exact bodyPost_ret (v := .agg #[.int .u64 (MASK : Nat)]) (by simp [results, Tryd.results19, go_sem, MASK]) rfl ⟨rfl, (Below.refl _ _).alloc (Nat.le_refl _) _⟩
end Go.Proofs.YtkineafacekklaaDoor
