/- What times and Join do. -/
import Derived.Test.YtkineafacekklaaDoorCrc4
import Derived.BigQuiet
import Derived.Deep.QuietTactic
namespace Go.Proofs.YtkineafacekklaaDoor
open Go.RowKit
theorem below_drewN (w : World) (q : Nat) : Below w.heap.size w (w.drewN q) := ⟨rfl, rfl, rfl, Nat.le_refl _, fun _ _ => rfl⟩
theorem shift1q (p : Nat) (w : World) (hp : p < 1099511627776) :
    Calls Tryd.prog 51 #[.int .u64 (p : Int), .int .i64 1] w fun e w' => e = .returned (.int .u64 (S p : Nat)) ∧ w' = w := (shift1 p w hp).mono fun _ _ h => ⟨h.1, h.2.symm⟩
theorem times_bits (p q r m : Nat) (hp : p < 1099511627776) (hq : q < 1099511627776) (hr : r < 1099511627776) :
    bits .xor .u64 (r : Int) (IntKind.u64.wrap ((p : Int) * bits .and .u64 ((q : Int) / 2 ^ m) 1)) = ((r ^^^ (if q / 2 ^ m % 2 = 1 then p else 0) : Nat) : Int) := by
  have hle : q / 2 ^ m ≤ q := Nat.div_le_self _ _
  have e : (q : Int) / 2 ^ m = ((q / 2 ^ m : Nat) : Int) := by
    rw [show ((2 : Int) ^ m) = ((2 ^ m : Nat) : Int) by simp]
    rfl
  rw [e, and1_64 _ (by omega), ← Int.natCast_mul, IntKind.wrap_u64]
  rcases Nat.mod_two_eq_zero_or_one (q / 2 ^ m) with h | h
  · rw [h, if_neg (by decide), Nat.mul_zero]
    exact xor40 _ 0 hr (by decide)
  · rw [h, if_pos rfl, Nat.mul_one, show ((p : Int) % 18446744073709551616) = (p : Int) by omega]
    exact xor40 _ _ hr hp
set_option maxRecDepth 100000 in
set_option maxHeartbeats 400000 in
theorem times_any (p q : Nat) (w : World) (hp : p < 1099511627776) (hq : q < 1099511627776) :
    Calls Tryd.prog 43 #[.int .u64 (p : Int), .int .u64 (q : Int)] w fun e w' => e = .returned (.int .u64 (mulP p q : Nat)) ∧ Below w.heap.size w w' := by
  go_enter Tryd.func43, Tryd.ntmps43
  go_wp2
  go_loopw [5, 6] (fun x i wr => ∃ (k r : Nat), i = .int .i64 (39 - (k : Int)) ∧ k ≤ 40 ∧ x = .int .u64 (r : Int) ∧ r < 1099511627776 ∧ Hid (r = hor p q k) ∧ Below w.heap.size w wr) (fun _ i _ => (intOf i + 1).toNat)
  case atStart => exact ⟨0, 0, rfl, by omega, rfl, by decide, Lib.hid rfl, Below.refl _ _⟩
  case round =>
    obtain ⟨k, r, rfl, hk, rfl, hr40, HR, hb⟩ := hrel
    by_cases hlt : k < 40
    · have hs0 : (k : Int) ≤ 39 := by omega
      have hs1 : 0 ≤ (39 - (k : Int)) := by omega
      have hs2 : (39 - (k : Int)) < 64 := by omega
      go_wp2_with fail
      go_quiet ((go_at_call 51; exact Calls.quiet_of_same (shift1q r _ hr40)))
      have HX := Lib.hid (times_bits p q (S r) (39 - k) hp hq (S_lt r))
      rw [HX.out]
      go_wp2
      go_roundw
      case rel => exact ⟨k + 1, _, by go_num, by omega, rfl, xor_lt (S_lt r) (by split <;> omega), Lib.hid (by rw [hor, ← HR.out]), bel_on hb (below_drewN _ _)⟩
      case measure => simp [intOf]; omega
    · obtain rfl : k = 40 := by omega
      go_wp2
      go_ret
      exact ⟨ret_u64 (by rw [HR.out]; rfl), hb⟩
theorem pos_shift (n : Nat) : (n : Int) / 2 = ((n / 2 : Nat) : Int) := by omega
/-- The lowest 40 bits. -/
def lo (a : Int) : Nat := (a % 1099511627776).toNat
theorem lo_lt (a : Int) : lo a < 1099511627776 := by unfold lo; omega
theorem low40 (a : Int) : bits .and .u64 (IntKind.u64.wrap a) 1099511627775 = ((lo a : Nat) : Int) := by
  rw [IntKind.wrap_u64]
  obtain ⟨m, hm⟩ : ∃ m : Nat, a % 18446744073709551616 = m := ⟨(a % 18446744073709551616).toNat, by omega⟩
  rw [hm, mask_mod m (by omega)]
  unfold lo
  omega
theorem i64_mask (k : Nat) (hk : k ≤ 62) (n m : Int) (hm : (BitVec.ofInt 64 m).toNat = 2 ^ k - 1) : bits .and .i64 n m = n % ((2 ^ k : Nat) : Int) := by
  have key : (BitVec.ofInt 64 n &&& BitVec.ofInt 64 m).toNat = (n % ((2 ^ 64 : Nat) : Int)).toNat % 2 ^ k := by
    rw [BitVec.toNat_and, BitVec.toNat_ofInt, hm, Nat.and_two_pow_sub_one_eq_mod]
  show IntKind.i64.wrap ((BitVec.ofInt 64 n &&& BitVec.ofInt 64 m).toNat : Nat) = _
  rw [key, IntKind.wrap_i64]
  have hd : ((2 ^ k : Nat) : Int) ∣ ((2 ^ 64 : Nat) : Int) := Int.natCast_dvd_natCast.2 (Nat.pow_dvd_pow 2 (by omega))
  have h1 : (((n % ((2 ^ 64 : Nat) : Int)).toNat % 2 ^ k : Nat) : Int) = n % ((2 ^ k : Nat) : Int) := by
    rw [Int.natCast_emod, Int.toNat_of_nonneg (Int.emod_nonneg _ (by decide)), Int.emod_emod_of_dvd _ hd]
  have h2 : (2 ^ k : Nat) ≤ 2 ^ 62 := Nat.pow_le_pow_right (by decide) hk
  have h3 := Int.emod_nonneg n (show ((2 ^ k : Nat) : Int) ≠ 0 by have := Nat.two_pow_pos k; omega)
  have h4 := Int.emod_lt_of_pos n (show (0 : Int) < ((2 ^ k : Nat) : Int) by have := Nat.two_pow_pos k; omega)
  rw [h1]
  omega
theorem i64_and1 (n : Int) : bits .and .i64 n 1 = n % 2 := i64_mask 1 (by decide) n 1 (by decide)
theorem i64_and255 (n : Int) : bits .and .i64 n 255 = n % 256 := i64_mask 8 (by decide) n 255 (by decide)
theorem i64_and40 (n : Int) : bits .and .i64 n 1099511627775 = n % 1099511627776 := i64_mask 40 (by decide) n 1099511627775 (by decide)
theorem It256 : 256 = It 8 1 := by decide
set_option maxRecDepth 100000 in
set_option maxHeartbeats 1000000 in
theorem join_any (a b : Int) (n : Nat) (w : World) (hn : n < 9223372036854775808) :
    Calls Tryd.prog 26 #[.int .i64 a, .int .i64 b, .int .i64 (n : Int)] w fun e w' => e = .returned (.int .i64 (joinP (lo a) (lo b) n : Nat)) ∧ Below w.heap.size w w' := by
  have h1 := low40 a
  have h2 := low40 b
  have hla := lo_lt a
  have hlb := lo_lt b
  have HJ : Hid (joinP (lo a) (lo b) n = jl (lo a) 8 n ^^^ lo b) := Lib.hid rfl
  generalize joinP (lo a) (lo b) n = R at *
  go_enter Tryd.func26, Tryd.ntmps26
  go_wp2
  generalize lo a = la at *
  clear h1
  go_loopw [2, 7, 8] (fun x y z wr => ∃ (m p q e : Nat), x = .int .i64 (m : Int) ∧ m < 9223372036854775808 ∧ y = .int .u64 (p : Int) ∧ p < 1099511627776 ∧ z = .int .u64 (q : Int) ∧ q < 1099511627776 ∧ Hid (q = It e 1) ∧ Hid (jl p e m = jl la 8 n) ∧ Below w.heap.size w wr) (fun x _ _ _ => (intOf x).toNat)
  case atStart => exact ⟨n, la, 256, 8, rfl, hn, rfl, hla, rfl, by decide, Lib.hid It256, Lib.hid rfl, Below.refl _ _⟩
  case round =>
    obtain ⟨m, p, q, e, rfl, hm, rfl, hp, rfl, hq, HQ, HL, hb⟩ := hrel
    have HM := Lib.hid (pos_shift m)
    by_cases hm0 : 0 < m
    · have ha1 := i64_and1 (m : Int)
      by_cases hodd : m % 2 = 1
      · have hod : ((m : Int) % 2 == 1) = true := by rw [beq_iff_eq]; omega
        have HO := Lib.hid hodd
        clear hodd
        go_wp2_with fail
        refine (times_any p q _ hp hq).mono ?_
        rintro e1 w2 ⟨rfl, hb2⟩
        go_wp2_with fail
        refine (times_any q q _ hq hq).mono ?_
        rintro e2 w3 ⟨rfl, hb3⟩
        go_wp2_with fail
        go_roundw
        case rel => exact ⟨m / 2, mulP p q, mulP q q, e + e, by rw [HM.out], by omega, rfl, mulP_lt hp, rfl, mulP_lt hq, Lib.hid (by rw [HQ.out, pow_sq]), Lib.hid (by rw [HQ.out, jl_odd p e m HO.out hp]; exact HL.out), bel_on hb (bel_on hb2 hb3)⟩
        case measure => simp only [intOf, HM.out]; omega
      · have hod : ((m : Int) % 2 == 1) = false := by rw [beq_eq_false_iff_ne]; omega
        have HO := Lib.hid hodd
        clear hodd
        go_wp2_with fail
        refine (times_any q q _ hq hq).mono ?_
        rintro e2 w3 ⟨rfl, hb3⟩
        go_wp2_with fail
        go_roundw
        case rel => exact ⟨m / 2, p, mulP q q, e + e, by rw [HM.out], by omega, rfl, hp, rfl, mulP_lt hq, Lib.hid (by rw [HQ.out, pow_sq]), Lib.hid (by rw [jl_even p e m HO.out]; exact HL.out), bel_on hb hb3⟩
        case measure => simp only [intOf, HM.out]; omega
    · obtain rfl : m = 0 := by omega
      have hx := xor40 p (lo b) hp hlb
      have hxl := xor_lt hp hlb
      have HE : Hid (p ^^^ lo b = R) := Lib.hid (by rw [HJ.out, ← HL.out]; unfold jl; rw [Nat.mul_zero]; rfl)
      generalize p ^^^ lo b = y at *
      go_wp2
      go_ret
      exact ⟨ret_i64 (by rw [← HE.out]), hb⟩
set_option maxRecDepth 100000 in
theorem join_neg (a b n : Int) (w : World) (hn : n < 0) :
    Calls Tryd.prog 26 #[.int .i64 a, .int .i64 b, .int .i64 n] w fun e w' => e = .returned (.int .i64 0) ∧ Below w.heap.size w w' := by
  go_enter Tryd.func26, Tryd.ntmps26
  go_wp2
  go_ret
  exact ⟨rfl, Below.refl _ _⟩
end Go.Proofs.YtkineafacekklaaDoor
