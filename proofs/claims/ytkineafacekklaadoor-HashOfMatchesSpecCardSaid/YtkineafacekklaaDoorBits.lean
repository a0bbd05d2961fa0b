/- What the bit operations of the wire functions come to, as plain numbers. -/
import Derived.Test.YtkineafacekklaaDoorMath
import Derived.Laws.BitsAllLaws
import Derived.Laws.Bits64
namespace Go.Proofs.YtkineafacekklaaDoor
theorem xor_ones (a : Nat) (ha : a < 18446744073709551616) : bits .xor .u64 (a : Int) ((18446744073709551615 : Nat) : Int) = ((18446744073709551615 - a : Nat) : Int) := by
  show IntKind.u64.wrap ((BitVec.ofInt 64 (a : Int) ^^^ BitVec.ofInt 64 ((18446744073709551615 : Nat) : Int)).toNat : Int) = _
  have h1 : BitVec.ofInt 64 ((18446744073709551615 : Nat) : Int) = BitVec.allOnes 64 := by decide
  rw [h1, BitVec.xor_allOnes, BitVec.toNat_not, ofInt_u64 a (by omega), IntKind.wrap_u64]
  omega
theorem zig_bits (z : Int) (h : I64 z) : bits BinOp.xor IntKind.u64 (IntKind.u64.wrap (IntKind.u64.wrap z * 2)) (IntKind.u64.wrap (z / 9223372036854775808)) = (zig z : Int) := by
  unfold I64 at h
  have hw : ∀ n : Int, IntKind.u64.wrap n = n % 18446744073709551616 := fun n => by simp [IntKind.wrap, IntKind.bits, IntKind.signed]
  by_cases h0 : z < 0
  · have e1 : IntKind.u64.wrap (z / 9223372036854775808) = ((18446744073709551615 : Nat) : Int) := by rw [hw]; omega
    have e2 : IntKind.u64.wrap (IntKind.u64.wrap z * 2) = (((z * 2 + 18446744073709551616).toNat : Nat) : Int) := by rw [hw, hw]; omega
    rw [e1, e2, xor_ones _ (by omega)]
    unfold zig
    rw [if_pos h0]
    omega
  · have e1 : IntKind.u64.wrap (z / 9223372036854775808) = ((0 : Nat) : Int) := by rw [hw]; omega
    have e2 : IntKind.u64.wrap (IntKind.u64.wrap z * 2) = ((z.toNat * 2 : Nat) : Int) := by rw [hw, hw]; omega
    rw [e1, e2, u64_xor_nat _ _ (by omega) (by omega), Nat.xor_zero]
    unfold zig
    rw [if_neg h0]
theorem or128 (m : Nat) : bits BinOp.or IntKind.u8 (IntKind.u8.wrap (m : Int)) 128 = ((hi8 m).toNat : Int) := by
  have e : IntKind.u8.wrap (m : Int) = ((m % 256 : Nat) : Int) := by rw [IntKind.wrap_u8']; omega
  rw [e, show (128 : Int) = ((128 : Nat) : Int) from rfl, u8_or_nat _ _ (by omega) (by omega)]
  have hb : m % 256 ||| 128 = m % 128 + 128 := by
    by_cases h : m % 256 < 128
    · rw [Nat.or_comm, nat_join 7 128 (m % 256) (by decide) (by omega)]
      omega
    · obtain ⟨t, ht, he⟩ : ∃ t, t < 128 ∧ m % 256 = 128 ||| t := ⟨m % 256 - 128, by omega, by rw [nat_join 7 128 _ (by decide) (by omega)]; omega⟩
      rw [he, Nat.or_comm, ← Nat.or_assoc, Nat.or_self, nat_join 7 128 t (by decide) (by omega)]
      rw [nat_join 7 128 _ (by decide) (by omega)] at he
      omega
  rw [hb, hi8_toNat]
theorem byte_of (m : Nat) (h : m < 128) : IntKind.u8.wrap (m : Int) = ((lo8 m).toNat : Int) := by
  rw [IntKind.wrap_u8', lo8_toNat h]
  omega
theorem or128m (m : Nat) : bits BinOp.or IntKind.u8 ((m : Int) % 256) 128 = ((hi8 m).toNat : Int) := by rw [← or128, IntKind.wrap_u8']
theorem byte_ofm (m : Nat) (h : m < 128) : (m : Int) % 256 = ((lo8 m).toNat : Int) := by rw [← byte_of m h, IntKind.wrap_u8']
theorem byte_ofn (m : Nat) (h : m < 128) : (m : Int) = ((lo8 m).toNat : Int) := by rw [lo8_toNat h]
theorem DRel.wrap {m k : Nat} {p : List UInt8} (h : DRel m k p) : IntKind.u64.wrap ((k : Int) / 128) = ((k / 128 : Nat) : Int) := by
  have := h.1
  rw [IntKind.wrap_u64]
  omega
theorem and127 (c : UInt8) : bits BinOp.and IntKind.u8 (c.toNat : Int) 127 = ((c.toNat % 128 : Nat) : Int) := by
  have := c.toNat_lt
  rw [show (127 : Int) = ((127 : Nat) : Int) from rfl, u8_and_nat _ _ (by omega) (by omega), nat_mask7]
theorem or_step (x : Nat) (c : UInt8) (i : Nat) (hx : x < 128 ^ i) (h9 : i ≤ 9) (hg : i = 9 → c.toNat ≤ 1) :
    bits BinOp.or IntKind.u64 (x : Int) (IntKind.u64.wrap (IntKind.u64.wrap (bits BinOp.and IntKind.u8 (c.toNat : Int) 127) * 2 ^ (7 * i))) = ((x + c.toNat % 128 * 128 ^ i : Nat) : Int) := by
  have hlt := dig_lt x c.toNat i hx h9 hg
  have e : ((2 : Int) ^ (7 * i)) = ((128 ^ i : Nat) : Int) := by rw [Int.pow_mul, Int.natCast_pow]; rfl
  have e2 : IntKind.u64.wrap (IntKind.u64.wrap (bits BinOp.and IntKind.u8 (c.toNat : Int) 127) * 2 ^ (7 * i)) = ((c.toNat % 128 * 128 ^ i : Nat) : Int) := by
    rw [and127, e, IntKind.wrap_u64, IntKind.wrap_u64, show ((c.toNat % 128 : Nat) : Int) % 18446744073709551616 = ((c.toNat % 128 : Nat) : Int) from by omega, ← Int.natCast_mul]
    omega
  rw [e2, u64_or_nat _ _ (by omega) (by omega), Nat.or_comm]
  have e3 : (128 : Nat) ^ i = 2 ^ (7 * i) := by rw [Nat.pow_mul]
  rw [nat_join (7 * i) _ x (by rw [e3]; exact Nat.mul_mod_left _ _) (by rw [← e3]; exact hx), Nat.add_comm]
theorem and1 (m : Nat) (hm : m < 18446744073709551616) : bits BinOp.and IntKind.u64 (m : Int) 1 = ((m % 2 : Nat) : Int) := by
  rw [show (1 : Int) = ((1 : Nat) : Int) from rfl, u64_and_nat _ _ hm (by omega), nat_mask1]
theorem i64_wraps (n : Int) : IntKind.i64.wrap n = (n + 9223372036854775808) % 18446744073709551616 - 9223372036854775808 := by
  simp only [IntKind.wrap, IntKind.bits, IntKind.signed]
  simp
  omega
theorem xor_zero_i64 (a : Nat) (ha : a < 9223372036854775808) : bits .xor .i64 (a : Int) 0 = (a : Int) := by
  show IntKind.i64.wrap ((BitVec.ofInt 64 (a : Int) ^^^ BitVec.ofInt 64 0).toNat : Int) = _
  have h1 : BitVec.ofInt 64 0 = 0#64 := by decide
  rw [h1, BitVec.xor_zero, ofInt_u64 a (by omega), i64_wraps]
  omega
theorem xor_neg_i64 (a : Nat) (ha : a < 9223372036854775808) : bits .xor .i64 (a : Int) (-1) = -1 - (a : Int) := by
  show IntKind.i64.wrap ((BitVec.ofInt 64 (a : Int) ^^^ BitVec.ofInt 64 (-1)).toNat : Int) = _
  have h1 : BitVec.ofInt 64 (-1) = BitVec.allOnes 64 := by decide
  rw [h1, BitVec.xor_allOnes, BitVec.toNat_not, ofInt_u64 a (by omega), i64_wraps]
  omega
end Go.Proofs.YtkineafacekklaaDoor
