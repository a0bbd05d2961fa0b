/- What bits.OnesCount does. -/
import Derived.Test.YthidababplamgaaDoorB3
namespace Go.Proofs.YthidababplamgaaDoor
open Go.RowKit
theorem and_m (y : Int) (a m : Nat) (hy : y = a) (ha : a < 18446744073709551616) (hm : m < 18446744073709551616) : bits .and .u64 y (m : Int) = ((a &&& m : Nat) : Int) := by
  subst hy
  exact u64_and_nat a m ha hm
theorem wrap_n (z : Int) (n : Nat) (hz : z = n) (hn : n < 18446744073709551616) : IntKind.u64.wrap z = n := by
  rw [IntKind.wrap_u64]
  omega
theorem ones_steps (x : Nat) (hx : x < 1099511627776) : ∃ y1 y2 y3 y4 y5 y6 : Nat,
    IntKind.u64.wrap (bits .and .u64 ((x : Int) / 2) 6148914691236517205 + bits .and .u64 (x : Int) 6148914691236517205) = y1 ∧
    IntKind.u64.wrap (bits .and .u64 ((y1 : Int) / 4) 3689348814741910323 + bits .and .u64 (y1 : Int) 3689348814741910323) = y2 ∧
    bits .and .u64 (IntKind.u64.wrap ((y2 : Int) / 16 + (y2 : Int))) 1085102592571150095 = y3 ∧
    IntKind.u64.wrap ((y3 : Int) + (y3 : Int) / 256) = y4 ∧
    IntKind.u64.wrap ((y4 : Int) + (y4 : Int) / 65536) = y5 ∧
    IntKind.u64.wrap ((y5 : Int) + (y5 : Int) / 4294967296) = y6 ∧
    y6 < 9223372036854775808 ∧ bits .and .i64 (y6 : Int) 127 = ((popW x 40 : Nat) : Int) := by
  obtain ⟨l1, l2, l3⟩ := G_le x
  obtain ⟨m1, m2, m3⟩ := masks
  have hend := ones_eq x _ _ hx rfl rfl
  unfold GG at hend
  have f1 : ∀ X : Nat, X < 18446744073709551616 → bits .and .u64 (X : Int) 6148914691236517205 = ((X &&& msk 85 8 : Nat) : Int) := fun X h => by
    rw [m1]; exact u64_and_nat X 6148914691236517205 h (by decide)
  have f2 : ∀ X : Nat, X < 18446744073709551616 → bits .and .u64 (X : Int) 3689348814741910323 = ((X &&& msk 51 8 : Nat) : Int) := fun X h => by
    rw [m2]; exact u64_and_nat X 3689348814741910323 h (by decide)
  have f3 : ∀ X : Nat, X < 18446744073709551616 → bits .and .u64 (X : Int) 1085102592571150095 = ((X &&& msk 15 8 : Nat) : Int) := fun X h => by
    rw [m3]; exact u64_and_nat X 1085102592571150095 h (by decide)
  refine ⟨G1 8 x, G2 8 (G1 8 x), G3 8 (G2 8 (G1 8 x)), G3 8 (G2 8 (G1 8 x)) + G3 8 (G2 8 (G1 8 x)) / 256, (G3 8 (G2 8 (G1 8 x)) + G3 8 (G2 8 (G1 8 x)) / 256) + (G3 8 (G2 8 (G1 8 x)) + G3 8 (G2 8 (G1 8 x)) / 256) / 65536, _, ?_, ?_, ?_, ?_, ?_, wrap_n _ (((G3 8 (G2 8 (G1 8 x)) + G3 8 (G2 8 (G1 8 x)) / 256) + (G3 8 (G2 8 (G1 8 x)) + G3 8 (G2 8 (G1 8 x)) / 256) / 65536) + ((G3 8 (G2 8 (G1 8 x)) + G3 8 (G2 8 (G1 8 x)) / 256) + (G3 8 (G2 8 (G1 8 x)) + G3 8 (G2 8 (G1 8 x)) / 256) / 65536) / 4294967296) ?_ ?_, ?_, ?_⟩
  · refine wrap_n _ _ ?_ l1
    rw [show (x : Int) / 2 = ((x / 2 : Nat) : Int) by omega, f1 _ (by omega), f1 _ (by omega)]
    unfold G1
    omega
  · generalize G1 8 x = y at *
    refine wrap_n _ _ ?_ l2
    rw [show (y : Int) / 4 = ((y / 4 : Nat) : Int) by omega, f2 _ (by omega), f2 _ (by omega)]
    unfold G2
    omega
  · generalize G2 8 (G1 8 x) = y at *
    rw [wrap_n _ (y / 16 + y) (by omega) l3, f3 _ l3]
    rfl
  · generalize G3 8 (G2 8 (G1 8 x)) = y at *
    exact wrap_n _ _ (by omega) (by omega)
  · generalize G3 8 (G2 8 (G1 8 x)) = y at *
    exact wrap_n _ _ (by omega) (by omega)
  · generalize G3 8 (G2 8 (G1 8 x)) = y at *
    omega
  · generalize G3 8 (G2 8 (G1 8 x)) = y at *
    omega
  · generalize G3 8 (G2 8 (G1 8 x)) = y at *
    omega
  · rw [i64_and127, ← hend.1]
    omega
set_option maxRecDepth 100000 in
set_option maxHeartbeats 400000 in
theorem ones64_any (z : Int) (x : Nat) (w : World) (hz : z = x) (hx : x < 1099511627776) :
    Calls Tryd.prog 48 #[.int .u64 z] w fun e w' => e = .returned (.int .i64 (popW x 40 : Nat)) ∧ w' = w := by
  subst hz
  obtain ⟨y1, y2, y3, y4, y5, y6, e1, e2, e3, e4, e5, e6, l6, e7⟩ := ones_steps x hx
  generalize popW x 40 = p at *
  have l7 : (y6 : Int) < 9223372036854775808 := by omega
  clear hx l6
  go_enter Tryd.func48, Tryd.ntmps48
  go_wp2_with fail
  go_ret
  exact ⟨rfl, rfl⟩
set_option maxRecDepth 100000 in
set_option maxHeartbeats 400000 in
theorem ones_any (z : Int) (x : Nat) (w : World) (hz : z = x) (hx : x < 1099511627776) :
    Calls Tryd.prog 42 #[.int .u64 z] w fun e w' => e = .returned (.int .i64 (popW x 40 : Nat)) ∧ w' = w := by
  have h := fun w => ones64_any z x w hz hx
  generalize popW x 40 = p at *
  have h0 : 0 ≤ z := by omega
  have h1 : z < 1099511627776 := by omega
  clear hz hx
  go_enter Tryd.func42, Tryd.ntmps42
  go_wp2_with fail
  refine (h _).mono ?_
  rintro e w1 ⟨rfl, rfl⟩
  go_wp2
  go_ret
  exact ⟨rfl, rfl⟩
end Go.Proofs.YthidababplamgaaDoor
