/- HashShifts answers true. -/
import Derived.Test.YtkineafacekklaaDoorSan
namespace Go.Proofs.YtkineafacekklaaDoor
open Go.RowKit
theorem lo_and (a : Int) : bits .and .i64 a 1099511627775 = ((lo a : Nat) : Int) := by
  rw [i64_and40]
  unfold lo
  omega
theorem i64_xor_nat (a b : Nat) (ha : a < 1099511627776) (hb : b < 1099511627776) : bits .xor .i64 (a : Int) (b : Int) = ((a ^^^ b : Nat) : Int) := by
  have hx := xor_lt ha hb
  show IntKind.i64.wrap ((BitVec.ofInt 64 (a : Int) ^^^ BitVec.ofInt 64 (b : Int)).toNat : Nat) = _
  have e1 : (BitVec.ofInt 64 (a : Int)).toNat = a := by rw [BitVec.toNat_ofInt]; omega
  have e2 : (BitVec.ofInt 64 (b : Int)).toNat = b := by rw [BitVec.toNat_ofInt]; omega
  rw [BitVec.toNat_xor, e1, e2, i64_wraps]
  omega
theorem lo_nat (x : Nat) (h : x < 1099511627776) : lo (x : Int) = x := by unfold lo; omega
theorem joinP_lt {a b n : Nat} (ha : a < 1099511627776) (hb : b < 1099511627776) : joinP a b n < 1099511627776 := xor_lt (It_lt ha) hb
theorem joinP_zero (a n m : Nat) : joinP (joinP a 0 n) 0 m = joinP a 0 (n + m) := by
  unfold joinP
  rw [Nat.xor_zero, Nat.xor_zero, Nat.xor_zero, ← It_add, ← Nat.mul_add, Nat.add_comm]
theorem joinP_out (a b n : Nat) : joinP a b n = joinP a 0 n ^^^ b := by
  unfold joinP
  rw [Nat.xor_zero]
theorem joinP_left (b n : Nat) : joinP 0 b n = b := by
  unfold joinP
  rw [lin_zero (lin_It _), Nat.zero_xor]
set_option maxRecDepth 100000 in
set_option maxHeartbeats 400000 in
theorem lawH (acc word a b : Int) (w : World) (hT : Tab w 1) :
    Calls Tryd.prog 8 #[.int .i64 acc, .int .i64 word, .int .i64 a, .int .i64 b] w fun e w' => e = .returned (.bool true) ∧ Below w.heap.size w w' := by
  have HT := Lib.hid hT
  clear hT
  have ha := lo_and a
  have hb := lo_and b
  have hw := lo_and word
  have hal := lo_lt a
  have hbl := lo_lt b
  have hwl := lo_lt word
  have hcl := lo_lt acc
  go_enter Tryd.func8, Tryd.ntmps8
  go_wp2_with fail
  refine (san_any _ HT.out).mono ?_
  rintro e w1 ⟨rfl, hb1⟩
  have HB1 := Lib.hid hb1
  clear hb1
  have HW := Lib.hid (rfl : lo word = lo word)
  generalize lo a = x at *
  generalize lo b = y at *
  have hsum : IntKind.i64.wrap ((x : Int) + (y : Int)) = ((x + y : Nat) : Int) := by rw [i64_wraps]; omega
  go_wp2_with fail
  refine (join_any acc 0 (x + y) _ (by omega)).mono ?_
  rintro e w2 ⟨rfl, hb2⟩
  have HB2 := Lib.hid (bel_on HB1.out hb2)
  clear hb2 HB1
  rw [show lo 0 = 0 from rfl]
  go_wp2_with fail
  refine (join_any acc 0 x _ (by omega)).mono ?_
  rintro e w3 ⟨rfl, hb3⟩
  have HB3 := Lib.hid (bel_on HB2.out hb3)
  clear hb3 HB2
  rw [show lo 0 = 0 from rfl]
  have hj1 : joinP (lo acc) 0 x < 1099511627776 := joinP_lt hcl (by decide)
  have HJ : Hid (joinP (joinP (lo acc) 0 x) 0 y = joinP (lo acc) 0 (x + y)) := Lib.hid (joinP_zero _ _ _)
  have HO : Hid (joinP (lo acc) (lo word) (x + y) = joinP (lo acc) 0 (x + y) ^^^ lo word) := Lib.hid (joinP_out _ _ _)
  have hj2 : joinP (lo acc) 0 (x + y) < 1099511627776 := joinP_lt hcl (by decide)
  go_wp2_with fail
  refine (join_any _ 0 y _ (by omega)).mono ?_
  rintro e w4 ⟨rfl, hb4⟩
  have HB4 := Lib.hid (bel_on HB3.out hb4)
  clear hb4 HB3
  rw [show lo 0 = 0 from rfl, lo_nat _ hj1, HJ.out]
  go_wp2_with fail
  refine (join_any acc word (x + y) _ (by omega)).mono ?_
  rintro e w5 ⟨rfl, hb5⟩
  have HB5 := Lib.hid (bel_on HB4.out hb5)
  clear hb5 HB4
  rw [HO.out]
  clear HJ HO
  generalize joinP (lo acc) 0 (x + y) = u at *
  have hx := i64_xor_nat u (lo word) hj2 hwl
  go_wp2_with fail
  refine (join_any 0 word x _ (by omega)).mono ?_
  rintro e w6 ⟨rfl, hb6⟩
  have HB6 := Lib.hid (bel_on HB5.out hb6)
  clear hb6 HB5
  rw [show lo 0 = 0 from rfl, joinP_left]
  go_wp2_with fail
  go_ret
  exact ⟨rfl, HB6.out⟩
end Go.Proofs.YtkineafacekklaaDoor
