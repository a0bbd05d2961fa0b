/-
  What bits.Len does with a small number. What code.Position and code's find do. What bits.OnesCount does. What bits.TrailingZeros does, the table being as the program's text lays it. The iterator over the positions of a line's bits that are 1. What code's syndrome does. What code's valid does. What the reference's Valid does.
-/
import Derived.Test.YtpojhplnhppcpaaGreatDoorQMath
import Derived.Lib.TrailingZeros
import Derived.RangeFuncNested
import Derived.RangeFuncBound
import Derived.RangeFuncCalls
import Derived.RangeFuncLeaves
import Derived.Shelf.Abstract
import Derived.Shelf.RegionOpen
import Derived.OwnWalkIn
import Derived.TacticsInMore
import Derived.LoopNIn
import Derived.LoopIn
import Derived.RangeFuncFrom
namespace Go.Proofs.YtpojhplnhppcpaaGreatDoor
open Go.RowKit
set_option maxRecDepth 100000 in
set_option maxHeartbeats 400000 in
theorem len_any (z : Int) (x : Nat) (w : World) (hz : z = x) (hx : x < 1024) :
    Calls Tryz.prog 149 #[.int .u64 z] w fun e w' => e = .returned (.int .i64 (bitLen x : Nat)) ∧ w' = w := by
  have h := len64_any z x w hz hx
  generalize bitLen x = L at *
  clear hz hx
  go_enter Tryz.func149, Tryz.ntmps149
  go_wp2_with fail
  refine h.mono ?_
  rintro e w1 ⟨rfl, rfl⟩
  go_wp2
  go_ret
  exact ⟨rfl, rfl⟩
theorem posn_lt (i : Nat) (h : i < 320) : posn i < 512 ∧ bitLen (i + 1) ≤ 10 ∧ bitLen (i + 1 + bitLen (i + 1)) ≤ 10 := by
  have all : ∀ i : Fin 320, posn i < 512 ∧ bitLen (i + 1) ≤ 10 ∧ bitLen (i + 1 + bitLen (i + 1)) ≤ 10 := by decide +kernel
  exact all ⟨i, h⟩
set_option maxRecDepth 100000 in
set_option maxHeartbeats 400000 in
theorem position_any (z : Int) (i : Nat) (w : World) (hz : z = i) (hi : i < 320) :
    Calls Tryz.prog 202 #[.int .i64 z] w fun e w' => e = .returned (.int .i64 (posn i : Nat)) ∧ w' = w := by
  obtain ⟨hp, h1, h2⟩ := posn_lt i hi
  have c1 := fun y w hz => len_any y (i + 1) w hz (by omega)
  have c2 := fun y w hz => len_any y (i + 1 + bitLen (i + 1)) w hz (by omega)
  unfold posn
  generalize hL2 : bitLen (i + 1 + bitLen (i + 1)) = L2 at *
  clear hL2
  generalize bitLen (i + 1) = L1 at *
  have hz0 : 0 ≤ z := by omega
  have hz1 : z < 320 := by omega
  have hl1 : (L1 : Int) ≤ 10 := by omega
  have hl2 : (L2 : Int) ≤ 10 := by omega
  clear hp
  go_enter Tryz.func202, Tryz.ntmps202
  go_wp2_with fail
  refine (c1 _ _ (by omega)).mono ?_
  rintro e w1 ⟨rfl, rfl⟩
  go_wp2_with fail
  refine (c2 _ _ (by omega)).mono ?_
  rintro e w1 ⟨rfl, rfl⟩
  go_wp2_with fail
  go_ret
  exact ⟨ret_i64 (by omega), rfl⟩
/-- Is there such a data bit, such a bit of a code? -/
def dataB (k b : Int) : Bool := decide (0 ≤ k ∧ k < 8 ∧ 0 ≤ b ∧ b < 40)
def codeB (k b : Int) : Bool := decide (k = 8 ∧ 0 ≤ b ∧ b < 10)
theorem ret_bool {a b : Bool} (h : a = b) : Ending.returned (.bool a) = .returned (.bool b) := by rw [h]
set_option maxRecDepth 100000 in
set_option maxHeartbeats 400000 in
theorem isData_any (k b : Int) (w : World) :
    Calls Tryz.prog 167 #[.int .i64 k, .int .i64 b] w fun e w' => e = .returned (.bool (dataB k b)) ∧ w' = w := by
  unfold dataB
  go_enter Tryz.func167, Tryz.ntmps167
  by_cases h1 : 0 ≤ k
  · by_cases h2 : k < 8
    · by_cases h3 : 0 ≤ b
      · by_cases h4 : b < 40
        · go_wp2_with fail
          go_ret
          exact ⟨ret_bool (by simp; try omega), rfl⟩
        · go_wp2_with fail
          go_ret
          exact ⟨ret_bool (by simp; try omega), rfl⟩
      · go_wp2_with fail
        go_ret
        exact ⟨ret_bool (by simp; try omega), rfl⟩
    · go_wp2_with fail
      go_ret
      exact ⟨ret_bool (by simp; try omega), rfl⟩
  · go_wp2_with fail
    go_ret
    exact ⟨ret_bool (by simp; try omega), rfl⟩
set_option maxRecDepth 100000 in
set_option maxHeartbeats 400000 in
theorem isCode_any (k b : Int) (w : World) :
    Calls Tryz.prog 168 #[.int .i64 k, .int .i64 b] w fun e w' => e = .returned (.bool (codeB k b)) ∧ w' = w := by
  unfold codeB
  go_enter Tryz.func168, Tryz.ntmps168
  by_cases h1 : k = 8
  · subst h1
    by_cases h3 : 0 ≤ b
    · by_cases h4 : b < 10
      · go_wp2_with fail
        go_ret
        exact ⟨ret_bool (by simp; try omega), rfl⟩
      · go_wp2_with fail
        go_ret
        exact ⟨ret_bool (by simp; try omega), rfl⟩
    · go_wp2_with fail
      go_ret
      exact ⟨ret_bool (by simp; try omega), rfl⟩
  · go_wp2_with fail
    go_ret
    exact ⟨ret_bool (by simp; try omega), rfl⟩
end Go.Proofs.YtpojhplnhppcpaaGreatDoor
namespace Go.Proofs.YtpojhplnhppcpaaGreatDoor
open Go.RowKit
def posZ (k b : Int) : Int := if dataB k b then ((posn (40 * k + b).toNat : Nat) : Int) else if codeB k b ∧ b < 9 then ((2 ^ b.toNat : Nat) : Int) else 0
theorem posZ_data {k b : Int} (h : dataB k b = true) : posZ k b = ((posn (40 * k + b).toNat : Nat) : Int) := by unfold posZ; rw [if_pos h]
theorem posZ_code {k b : Int} (h : dataB k b = false) (h2 : codeB k b = true) (h3 : b < 9) : posZ k b = ((2 ^ b.toNat : Nat) : Int) := by
  unfold posZ; rw [if_neg (by rw [h]; decide), if_pos ⟨h2, h3⟩]
theorem posZ_not {k b : Int} (h : dataB k b = false) (h2 : codeB k b = false) : posZ k b = 0 := by
  unfold posZ; rw [if_neg (by rw [h]; decide), if_neg (by rw [h2]; simp)]
theorem posZ_last {k b : Int} (h : dataB k b = false) (h3 : ¬ b < 9) : posZ k b = 0 := by
  unfold posZ; rw [if_neg (by rw [h]; decide), if_neg (by simp; omega)]
theorem pow_w (b : Int) (h0 : 0 ≤ b) (h : b < 62) : wrap64 (2 ^ b.toNat) = ((2 ^ b.toNat : Nat) : Int) := by
  have h2 : 2 ^ b.toNat ≤ 2 ^ 61 := Nat.pow_le_pow_right (by decide) (by omega)
  have e : (2 : Int) ^ b.toNat = ((2 ^ b.toNat : Nat) : Int) := by simp
  rw [e]
  generalize 2 ^ b.toNat = p at *
  rw [w64 _ (by omega) (by omega)]
theorem ret_tib {a b c d : Int} {e f : Bool} (h1 : a = b) (h2 : c = d) (h3 : e = f) : Ending.returned (.tuple #[.int .i64 a, .int .i64 c, .bool e]) = .returned (.tuple #[.int .i64 b, .int .i64 d, .bool f]) := by rw [h1, h2, h3]
theorem pow_n (e : Nat) (h : e < 62) : wrap64 (2 ^ e) = ((2 ^ e : Nat) : Int) := by
  have := pow_w (e : Int) (by omega) (by omega)
  rwa [Int.toNat_natCast] at this
theorem find_len (s : Nat) (h : s < 512) (h0 : s ≠ 0) : 1 ≤ bitLen s ∧ bitLen s ≤ 9 ∧ bitLen s + 1 ≤ s + 1 ∧ 2 ^ (bitLen s - 1) ≤ 256 ∧ (s ≠ 2 ^ (bitLen s - 1) → bitLen s + 1 ≤ s) := by
  have all : ∀ s : Fin 512, s.val ≠ 0 → 1 ≤ bitLen s ∧ bitLen s ≤ 9 ∧ bitLen s + 1 ≤ s + 1 ∧ 2 ^ (bitLen s - 1) ≤ 256 ∧ (s.val ≠ 2 ^ (bitLen s - 1) → bitLen s + 1 ≤ s.val) := by decide +kernel
  exact all ⟨s, h⟩ h0
set_option maxRecDepth 100000 in
set_option maxHeartbeats 400000 in
theorem find_any (z : Int) (s : Nat) (w : World) (hz : z = s) (hs : s < 512) :
    Calls Tryz.prog 166 #[.int .i64 z] w fun e w' => e = .returned (.tuple #[.int .i64 ((findF s).1 : Nat), .int .i64 ((findF s).2.1 : Nat), .bool (findF s).2.2]) ∧ w' = w := by
  rcases Nat.eq_zero_or_pos s with h0 | h0
  · subst h0
    have e : findF 0 = (8, 9, true) := rfl
    rw [e]
    have hz0 : z = 0 := hz
    subst hz0
    clear hz
    go_enter Tryz.func166, Tryz.ntmps166
    go_wp2_with fail
    go_ret3
    exact ⟨rfl, rfl⟩
  · obtain ⟨hl1, hl9, hl2, hq, hl3⟩ := find_len s hs (by omega)
    have hlen := fun y w hz => len_any y s w hz (by omega)
    have hw : wrap64 (2 ^ (bitLen s - 1)) = ((2 ^ (bitLen s - 1) : Nat) : Int) := pow_n _ (by omega)
    have ef : findF s = if s = 2 ^ (bitLen s - 1) then (8, bitLen s - 1, true) else ((s - bitLen s - 1) / 40, (s - bitLen s - 1) % 40, decide (s - bitLen s - 1 < 320)) := by
      unfold findF
      rw [if_neg (by omega)]
    rw [ef]
    clear ef
    generalize bitLen s = L at *
    generalize 2 ^ (L - 1) = q at *
    have hz0 : 0 < z := by omega
    have hz1 : z < 512 := by omega
    subst hz
    by_cases he : s = q
    · rw [if_pos he]
      subst he
      go_enter Tryz.func166, Tryz.ntmps166
      go_wp2_with fail
      refine (hlen _ _ (by omega)).mono ?_
      rintro e w1 ⟨rfl, rfl⟩
      go_wp2_with fail
      go_ret3
      exact ⟨ret_tib (by rfl) (by omega) rfl, rfl⟩
    · rw [if_neg he]
      have hzq : ¬ (s : Int) = q := by omega
      have hl4 := hl3 he
      have e1 : (s : Int) - L - 1 = ((s - L - 1 : Nat) : Int) := by omega
      have hd := fun k b w => isData_any k b w
      have ht : ∀ n : Nat, n < 512 → dataB ((n : Int) / 40) ((n : Int) % 40) = decide (n < 320) := fun n hn => by
        unfold dataB
        rw [decide_eq_decide]
        omega
      have hb : s - L - 1 < 512 := by omega
      have HT := ht _ hb
      rw [← e1] at HT
      have HT2 := Lib.hid HT
      have hs0 : 0 ≤ (s : Int) - L - 1 := by omega
      clear ht HT hl3 hq hl2 he
      go_enter Tryz.func166, Tryz.ntmps166
      go_wp2_with fail
      refine (hlen _ _ (by omega)).mono ?_
      rintro e w1 ⟨rfl, rfl⟩
      clear e1
      go_wp2_with fail
      refine (hd _ _ _).mono ?_
      rintro e w1 ⟨rfl, rfl⟩
      go_wp2_with fail
      go_ret3
      exact ⟨ret_tib (by omega) (by omega) HT2.out, rfl⟩
end Go.Proofs.YtpojhplnhppcpaaGreatDoor
namespace Go.Proofs.YtpojhplnhppcpaaGreatDoor
open Go.RowKit
theorem and_m (y : Int) (a m : Nat) (hy : y = a) (ha : a < 18446744073709551616) (hm : m < 18446744073709551616) : bits .and .u64 y (m : Int) = ((a &&& m : Nat) : Int) := by
  subst hy
  exact u64_and_nat a m ha hm
theorem wrap_n (z : Int) (n : Nat) (hz : z = n) (hn : n < 18446744073709551616) : IntKind.u64.wrap z = n := by
  rw [IntKind.wrap_u64]
  omega
theorem ones_steps (x : Nat) (hx : x < 1099511627776) : ∃ y1 y2 y3 y4 y5 y6 : Nat,
    IntKind.u64.wrap (bits .and .u64 ((x : Int) / 2) 6148914691236517205 + bits .and .u64 (x : Int) 6148914691236517205) = y1 ∧
    IntKind.u64.wrap (bits .and .u64 ((y1 : Int) / 4) 3689348814741910323 + bits .and .u64 (y1 : Int) 3689348814741910323) = y2 ∧
    bits .and .u64 (IntKind.u64.wrap ((y2 : Int) / 16 + (y2 : Int))) 1085102592571150095 = y3 ∧
    IntKind.u64.wrap ((y3 : Int) + (y3 : Int) / 256) = y4 ∧
    IntKind.u64.wrap ((y4 : Int) + (y4 : Int) / 65536) = y5 ∧
    IntKind.u64.wrap ((y5 : Int) + (y5 : Int) / 4294967296) = y6 ∧
    y6 < 9223372036854775808 ∧ bits .and .i64 (y6 : Int) 127 = ((popW x 40 : Nat) : Int) := by
  obtain ⟨l1, l2, l3⟩ := G_le x
  obtain ⟨m1, m2, m3⟩ := masks
  have hend := ones_eq x _ _ hx rfl rfl
  unfold GG at hend
  have f1 : ∀ X : Nat, X < 18446744073709551616 → bits .and .u64 (X : Int) 6148914691236517205 = ((X &&& msk 85 8 : Nat) : Int) := fun X h => by
    rw [m1]; exact u64_and_nat X 6148914691236517205 h (by decide)
  have f2 : ∀ X : Nat, X < 18446744073709551616 → bits .and .u64 (X : Int) 3689348814741910323 = ((X &&& msk 51 8 : Nat) : Int) := fun X h => by
    rw [m2]; exact u64_and_nat X 3689348814741910323 h (by decide)
  have f3 : ∀ X : Nat, X < 18446744073709551616 → bits .and .u64 (X : Int) 1085102592571150095 = ((X &&& msk 15 8 : Nat) : Int) := fun X h => by
    rw [m3]; exact u64_and_nat X 1085102592571150095 h (by decide)
  refine ⟨G1 8 x, G2 8 (G1 8 x), G3 8 (G2 8 (G1 8 x)), G3 8 (G2 8 (G1 8 x)) + G3 8 (G2 8 (G1 8 x)) / 256, (G3 8 (G2 8 (G1 8 x)) + G3 8 (G2 8 (G1 8 x)) / 256) + (G3 8 (G2 8 (G1 8 x)) + G3 8 (G2 8 (G1 8 x)) / 256) / 65536, _, ?_, ?_, ?_, ?_, ?_, wrap_n _ (((G3 8 (G2 8 (G1 8 x)) + G3 8 (G2 8 (G1 8 x)) / 256) + (G3 8 (G2 8 (G1 8 x)) + G3 8 (G2 8 (G1 8 x)) / 256) / 65536) + ((G3 8 (G2 8 (G1 8 x)) + G3 8 (G2 8 (G1 8 x)) / 256) + (G3 8 (G2 8 (G1 8 x)) + G3 8 (G2 8 (G1 8 x)) / 256) / 65536) / 4294967296) ?_ ?_, ?_, ?_⟩
  · refine wrap_n _ _ ?_ l1
    rw [show (x : Int) / 2 = ((x / 2 : Nat) : Int) by omega, f1 _ (by omega), f1 _ (by omega)]
    unfold G1
    omega
  · generalize G1 8 x = y at *
    refine wrap_n _ _ ?_ l2
    rw [show (y : Int) / 4 = ((y / 4 : Nat) : Int) by omega, f2 _ (by omega), f2 _ (by omega)]
    unfold G2
    omega
  · generalize G2 8 (G1 8 x) = y at *
    rw [wrap_n _ (y / 16 + y) (by omega) l3, f3 _ l3]
    rfl
  · generalize G3 8 (G2 8 (G1 8 x)) = y at *
    exact wrap_n _ _ (by omega) (by omega)
  · generalize G3 8 (G2 8 (G1 8 x)) = y at *
    exact wrap_n _ _ (by omega) (by omega)
  · generalize G3 8 (G2 8 (G1 8 x)) = y at *
    omega
  · generalize G3 8 (G2 8 (G1 8 x)) = y at *
    omega
  · generalize G3 8 (G2 8 (G1 8 x)) = y at *
    omega
  · rw [i64_and127, ← hend.1]
    omega
set_option maxRecDepth 100000 in
set_option maxHeartbeats 400000 in
theorem ones64_any (z : Int) (x : Nat) (w : World) (hz : z = x) (hx : x < 1099511627776) :
    Calls Tryz.prog 214 #[.int .u64 z] w fun e w' => e = .returned (.int .i64 (popW x 40 : Nat)) ∧ w' = w := by
  subst hz
  obtain ⟨y1, y2, y3, y4, y5, y6, e1, e2, e3, e4, e5, e6, l6, e7⟩ := ones_steps x hx
  generalize popW x 40 = p at *
  have l7 : (y6 : Int) < 9223372036854775808 := by omega
  clear hx l6
  go_enter Tryz.func214, Tryz.ntmps214
  go_wp2_with fail
  go_ret
  exact ⟨rfl, rfl⟩
set_option maxRecDepth 100000 in
set_option maxHeartbeats 400000 in
theorem ones_any (z : Int) (x : Nat) (w : World) (hz : z = x) (hx : x < 1099511627776) :
    Calls Tryz.prog 205 #[.int .u64 z] w fun e w' => e = .returned (.int .i64 (popW x 40 : Nat)) ∧ w' = w := by
  have h := fun w => ones64_any z x w hz hx
  generalize popW x 40 = p at *
  have h0 : 0 ≤ z := by omega
  have h1 : z < 1099511627776 := by omega
  clear hz hx
  go_enter Tryz.func205, Tryz.ntmps205
  go_wp2_with fail
  refine (h _).mono ?_
  rintro e w1 ⟨rfl, rfl⟩
  go_wp2
  go_ret
  exact ⟨rfl, rfl⟩
end Go.Proofs.YtpojhplnhppcpaaGreatDoor
namespace Go.Proofs.YtpojhplnhppcpaaGreatDoor
open Go.RowKit
/-- The table in its variable. -/
def Tab (w : World) : Prop := ∀ j, j < 64 → w.cell? ⟨6, j, none⟩ = some (.int .u8 (Lib.deBruijn64tab.getD j 0 : Nat))
theorem Tab.lt {w : World} (h : Tab w) : 6 < w.heap.size := block_lt_of_cell (h 0 (by decide))
theorem Tab.keep {w w2 : World} (h : Tab w) (hb : Below w.heap.size w w2) : Tab w2 := fun j hj => by
  rw [hb.cell (p := ⟨6, j, none⟩) h.lt]
  exact h j hj
set_option maxRecDepth 100000 in
set_option maxHeartbeats 400000 in
theorem tz64_core (z : Int) (k idx : Nat) (w : World) (hz0 : 0 < z) (hz : z < 1099511627776)
    (key : IntKind.u64.wrap (bits BinOp.and IntKind.u64 z (IntKind.u64.wrap (-z)) * 285870213051353865) / 288230376151711744 = (idx : Int))
    (hi : idx < 64) (hk : k < 64) (hcell : w.cell? ⟨6, idx, none⟩ = some (.int .u8 (k : Int))) :
    Calls Tryz.prog 212 #[.int .u64 z] w fun e w' => e = .returned (.int .i64 k) ∧ w' = w := by
  go_enter Tryz.func212, Tryz.ntmps212
  go_wp2_with fail
  go_ret
  exact ⟨rfl, rfl⟩
theorem tz64_any (z : Int) (x : Nat) (w : World) (hz : z = x) (h0 : x ≠ 0) (hx : x < 1099511627776) (hT : Tab w) :
    Calls Tryz.prog 212 #[.int .u64 z] w fun e w' => e = .returned (.int .i64 (Lib.ctz 64 x : Nat)) ∧ w' = w := by
  subst hz
  obtain ⟨hlow, hk⟩ := Lib.lowest_bit 64 x h0 (by omega)
  obtain ⟨hi, htab⟩ := Lib.deBruijn64_at _ hk
  have hcell := hT _ hi
  rw [htab] at hcell
  refine tz64_core x _ _ w (by omega) (by omega) ?_ hi hk hcell
  have e1 : IntKind.u64.wrap (-(x : Int)) = ((18446744073709551616 - x : Nat) : Int) := by rw [IntKind.wrap_u64]; omega
  have hlow' : x &&& (18446744073709551616 - x) = 2 ^ Lib.ctz 64 x := hlow
  rw [e1, u64_and_nat x _ (by omega) (by omega), hlow', IntKind.wrap_u64]
  generalize 2 ^ Lib.ctz 64 x = a
  omega
set_option maxRecDepth 100000 in
set_option maxHeartbeats 400000 in
theorem tz_any (z : Int) (x : Nat) (w : World) (hz : z = x) (h0 : x ≠ 0) (hx : x < 1099511627776) (hT : Tab w) :
    Calls Tryz.prog 203 #[.int .u64 z] w fun e w' => e = .returned (.int .i64 (Lib.ctz 64 x : Nat)) ∧ w' = w := by
  have h := tz64_any z x w hz h0 hx hT
  generalize Lib.ctz 64 x = p at *
  have h1 : 0 < z := by omega
  have h2 : z < 1099511627776 := by omega
  clear hz hx hT h0
  go_enter Tryz.func203, Tryz.ntmps203
  go_wp2_with fail
  refine h.mono ?_
  rintro e w1 ⟨rfl, rfl⟩
  go_wp2
  go_ret
  exact ⟨rfl, rfl⟩
end Go.Proofs.YtpojhplnhppcpaaGreatDoor
namespace Go.Proofs.YtpojhplnhppcpaaGreatDoor
open Go.RowKit Go.Shelf
section
variable {F : Fence} {n : Nat} {ops : Array Oper} {rest : List Oper} {o : Oper} {a : Act} {Q : Exit → Act → World → Prop} {w : World}
theorem armI_row (ty g t : Nat) (cs : List Value) (hA : Arr w g t cs) (d : TypeDesc) (hu : Tryz.prog.underlying ty = some d) (hd : d.isRow = true) (hi : (Tryz.prog.info? ty).map (·.size) = some cs.length)
    (hgd : o.guard = none) (x : Operand) (ho : o.op = .load ty x) (hx : a.eval x = .pointer (some ⟨g, 0, none⟩))
    (h : wpListIn F n Tryz.prog ops Q rest (a.put o.dst (.agg cs.toArray)) w) : wpListIn F n Tryz.prog ops Q (o :: rest) a w := by
  refine wpListIn_plain hgd fun K hK => ?_
  unfold Oper.wpIn
  refine ⟨?_, ?_⟩
  · simp [Oper.about, ho]
  · rw [Oper.semAt_plain F _ _ (by rw [ho]; intro c hc; cases hc)]
    unfold execOp
    simp only [ho, hx, Instr.loadAt, Instr.sureAddr, Sem.run_bind, Sem.run_pure, Result.andThen_ok, run_loadVar_mid w g 0 ty cs d hA.range hu hd hi]
    exact hK _ _ h
end
def xorF (xs : List (Fin 512)) : Nat := xs.foldl (fun a x => a ^^^ x.val) 0
theorem xorF_snoc (xs : List (Fin 512)) (x : Fin 512) : xorF (xs ++ [x]) = xorF xs ^^^ x.val := by simp [xorF]
/-- The lowest bit goes. -/
theorem low_flip (x : Nat) (h0 : x ≠ 0) (hx : x < 1099511627776) : x.testBit (Lib.ctz 64 x) = true ∧ Lib.ctz 64 x < 40 ∧ x &&& (x - 1) = x ^^^ 2 ^ Lib.ctz 64 x := by
  have hc : Lib.ctz 64 x = Lib.ctzFrom 64 x := by unfold Lib.ctz; rw [if_neg h0]
  rw [hc]
  obtain ⟨m, hm, hlt⟩ := Lib.ctzFrom_spec 64 x (by omega) (by omega)
  generalize Lib.ctzFrom 64 x = c at *
  have hp : 0 < 2 ^ c := Nat.two_pow_pos c
  have e1 : x = 2 ^ c * (2 * m + 1) + 0 := by omega
  have e2 : x - 1 = 2 ^ c * (2 * m) + (2 ^ c - 1) := by rw [hm, Nat.mul_add, Nat.mul_one]; omega
  have b1 : ∀ j, x.testBit j = if j < c then false else (2 * m + 1).testBit (j - c) := fun j => by
    rw [e1, Nat.testBit_two_pow_mul_add _ hp]
    simp
  have b2 : ∀ j, (x - 1).testBit j = if j < c then (2 ^ c - 1).testBit j else (2 * m).testBit (j - c) := fun j => by
    rw [e2, Nat.testBit_two_pow_mul_add _ (by omega)]
  have ht : x.testBit c = true := by rw [b1, if_neg (Nat.lt_irrefl _), Nat.sub_self, Nat.testBit_zero]; simp
  refine ⟨ht, ?_, ?_⟩
  · rcases Nat.lt_or_ge c 40 with h | h
    · exact h
    · have := Nat.testBit_lt_two_pow (x := x) (i := c) (Nat.lt_of_lt_of_le hx (Nat.pow_le_pow_right (n := 2) (by decide) h))
      rw [this] at ht
      cases ht
  · refine Nat.eq_of_testBit_eq fun i => ?_
    rw [Nat.testBit_and, Nat.testBit_xor, Nat.testBit_two_pow, b2, b1]
    by_cases h1 : i < c
    · rw [if_pos h1, if_pos h1]
      have : decide (c = i) = false := by simp; omega
      rw [this]
      rfl
    · rw [if_neg h1, if_neg h1]
      by_cases h2 : c = i
      · subst h2
        rw [Nat.sub_self, Nat.testBit_zero, Nat.testBit_zero]
        simp
      · obtain ⟨j, hj⟩ : ∃ j, i - c = j + 1 := ⟨i - c - 1, by omega⟩
        rw [hj, Nat.testBit_succ, Nat.testBit_succ]
        have g1 : (2 * m + 1) / 2 = m := by omega
        have g2 : (2 * m) / 2 = m := by omega
        rw [g1, g2]
        simp [h2]
theorem take_step (ws : List Nat) (k : Nat) (h : k < ws.length) : synL 0 (ws.take (k + 1)) = synL 0 (ws.take k) ^^^ synW k (ws.getD k 0) 40 ∧ popL (ws.take (k + 1)) = popL (ws.take k) + popW (ws.getD k 0) 40 := by
  rw [List.take_succ_eq_append_getElem h, synL_append, popL_append, List.length_take, Nat.min_eq_left (by omega)]
  have e : ws.getD k 0 = ws[k] := by simp [h]
  rw [e]
  simp [synL, popL]
theorem pop_take_le (ws : List Nat) (k : Nat) : popL (ws.take k) ≤ popL ws := by
  have h := popL_append (ws.take k) (ws.drop k)
  rw [List.take_append_drop] at h
  omega
theorem low_step (k x : Nat) (h0 : x ≠ 0) (hx : x < 1099511627776) : synW k (x &&& (x - 1)) 40 ^^^ psn k (Lib.ctz 64 x) = synW k x 40 ∧ popW (x &&& (x - 1)) 40 + 1 = popW x 40 ∧ x &&& (x - 1) < x := by
  obtain ⟨h1, h2, h3⟩ := low_flip x h0 hx
  have h4 : x &&& (x - 1) ≤ x - 1 := Nat.and_le_right
  refine ⟨?_, ?_, by omega⟩
  · rw [h3, synW_xor, synW_pow, if_pos h2, Nat.xor_assoc, Nat.xor_self, Nat.xor_zero]
  · rw [h3, popW_flip, if_pos h2, if_pos h1]
    have := popW_pos h2 h1
    omega
theorem Tab.keep' {n₀ : Nat} {w w2 : World} (h : Tab w) (hn : 6 < n₀) (hb : Below n₀ w w2) : Tab w2 := fun j hj => by
  rw [hb.cell (p := ⟨6, j, none⟩) hn]
  exact h j hj
theorem psn_posn {k c : Nat} (hk : k < 8) (hc : c < 40) : psn k c = posn (40 * k + c) ∧ psn k c < 512 := ⟨by unfold psn; rw [if_pos hk], psn_lt (by simp [okBit, hk, hc])⟩
set_option maxRecDepth 100000 in
set_option maxHeartbeats 2000000 in
theorem pos1_in (n : Nat) (hn : 1 ≤ n) (l Bs n₀ : Nat) (ws : List Nat) (h8 : ws.length = 8) (hs : ∀ x ∈ ws, x < 1099511627776) (hb1 : 6 < n₀) (J Jx : List (Fin 512) → World → Prop)
    (hY : ∀ pre x W, J pre W → pre.length < popL ws → YieldAt Fence.wide (n - 1) Tryz.prog l #[.int .i64 (x.val : Int)] W fun e W' =>
      (e = .returned (.bool true) ∧ J (pre ++ [x]) W' ∧ Below n₀ W W') ∨ (e = .returned (.bool false) ∧ Jx (pre ++ [x]) W'))
    (W : World) (hA : Arr W Bs 66 (iv (ci ws))) (hT : Tab W) (h0 : J [] W) :
    CallsIn Fence.wide n Tryz.prog 201 #[.func (.yield l) #[] #[], .pointer (some ⟨Bs, 0, none⟩)] W fun e W' => (∃ v, e = .returned v) ∧
      ((∃ ys, xorF ys = synL 0 ws ∧ J ys W') ∨ (∃ pre : List (Fin 512), True ∧ Jx pre W')) := by
  have HA := Lib.hid hA
  have HI := Lib.hid (size22' (l := ci ws) (by rw [ci_len, h8]))
  have HS := Lib.hid hs
  clear hA hs
  refine callsIn_of_wp Tryz.func201 rfl trivial ?_ rfl
  simp only [Tryz.ntmps201, List.size_toArray, List.length_cons, List.length_nil, Nat.reduceAdd, Nat.reduceSub, Array.replicate_succ, Array.replicate_zero, List.push_toArray, List.append_toArray, List.nil_append, List.cons_append]
  gi_wp2_with ((with_reducible refine armI_row 66 Bs 66 _ HA.out _ Tryz.underlying66 rfl HI.out rfl _ rfl ?_ ?_); focus rfl)
  have hbl : 6 < W.heap.size := hT.lt
  gi_loopw [7] (fun i wr => ∃ (k : Nat) (pre : List (Fin 512)), k ≤ 8 ∧ i = .int .i64 (k : Int) ∧ J pre wr ∧ xorF pre = synL 0 (ws.take k) ∧ pre.length = popL (ws.take k) ∧ Below n₀ W wr)
    (fun i _ => 8 - (intOf i).toNat)
  case atStart => exact ⟨0, [], Nat.zero_le _, rfl, h0, rfl, rfl, Below.refl _ _⟩
  case round =>
    obtain ⟨k, pre, hk, rfl, hJ, hx, hl, hbw⟩ := hrel
    by_cases hlt : k < 8
    · have hks : k < ws.length := by omega
      have hidx := index22 (ci ws) k hlt (by rw [ci_len, h8]) wr
      rw [ci_get] at hidx
      have hsm : ws.getD k 0 < 1099511627776 := by
        have e : ws.getD k 0 = ws[k] := by simp [hks]
        rw [e]
        exact HS.out _ (List.getElem_mem hks)
      obtain ⟨ts, tp⟩ := take_step ws k hks
      have hpl := pop_take_le ws (k + 1)
      generalize ws.getD k 0 = x0 at *
      have hwx : IntKind.u64.wrap (x0 : Int) = x0 := wrap_n _ _ rfl (by omega)
      have HSM := Lib.hid hsm
      clear hsm
      have hk1 : (k : Int) < 8 := by omega
      gi_wp2
      obtain ⟨wo, rfl⟩ : ∃ wo : World, wo = wr := ⟨_, rfl⟩
      gi_loopw [5] (fun v wr => ∃ (x : Nat) (pre : List (Fin 512)), v = .int .u64 (x : Int) ∧ Hid (x < 1099511627776) ∧ J pre wr ∧ xorF pre ^^^ synW k x 40 = synL 0 (ws.take (k + 1)) ∧ pre.length + popW x 40 = popL (ws.take (k + 1)) ∧ Below n₀ W wr)
        (fun v _ => (intOf v).toNat)
      case atStart => exact ⟨x0, pre, rfl, HSM, hJ, by rw [hx, ts], by omega, hbw⟩
      case round =>
        clear hJ hx hl hbw hidx HSM hwx tp ts
        clear pre
        obtain ⟨x, pre, rfl, HX, hJ, hx, hl, hbw⟩ := hrel
        by_cases hz : x = 0
        · subst hz
          gi_wp2
          go_roundw
          case rel => exact ⟨k + 1, pre, by omega, by simp, hJ, by rw [← hx, synW_zero, Nat.xor_zero], by rw [← hl, popW_zero, Nat.add_zero], hbw⟩
          case measure => simp [intOf]; omega
        · obtain ⟨f1, f2, f3⟩ := low_flip x hz HX.out
          obtain ⟨g1, g2, g3⟩ := low_step k x hz HX.out
          have htz := tz_any (x : Int) x wr rfl hz HX.out (hT.keep' hb1 hbw)
          have hsub : IntKind.u64.wrap ((x : Int) - 1) = ((x - 1 : Nat) : Int) := wrap_n _ _ (by omega) (by have := HX.out; omega)
          have hand : bits .and .u64 (x : Int) ((x - 1 : Nat) : Int) = ((x &&& (x - 1) : Nat) : Int) := u64_and_nat _ _ (by have := HX.out; omega) (by have := HX.out; omega)
          have hx2 : x &&& (x - 1) < 1099511627776 := by have := HX.out; omega
          have hxp : 0 < (x : Int) := by omega
          obtain ⟨e1, e2⟩ := psn_posn hlt f2
          have hpos := fun z hz => position_any z (40 * k + Lib.ctz 64 x) wr hz (by omega)
          have hgt : x &&& (x - 1) < x := g3
          rw [← e1] at hpos
          obtain ⟨fn, tmps, assign, body, hy, hR⟩ := hY pre ⟨psn k (Lib.ctz 64 x), e2⟩ wr hJ (by omega)
          dsimp only at hy
          have hxs := fun q (hq : q = psn k (Lib.ctz 64 x)) => xorF_snoc pre ⟨q, hq ▸ e2⟩
          have HX2 := Lib.hid hx2
          have HP := Lib.hid e2
          have hcz : Lib.ctz 64 x < 40 := f2
          clear e1 f1 f2 f3 g3 hx2 hxs
          generalize hq : psn k (Lib.ctz 64 x) = q at *
          generalize Lib.ctz 64 x = c at *
          generalize hx' : x &&& (x - 1) = x' at *
          generalize x - 1 = y at *
          have hc40 : (c : Int) < 40 := by omega
          have hq512 : (q : Int) < 512 := by omega
          gi_wp2_with (first | (refine ⟨trivial, ?_⟩; gi_at_call 203; refine (callsIn_wide.2 htz).mono ?_; rintro e w1 ⟨rfl, rfl⟩) | (refine ⟨trivial, ?_⟩; gi_at_call 202; refine (callsIn_wide.2 (hpos _ (by omega))).mono ?_; rintro e w1 ⟨rfl, rfl⟩))
          refine hR.mono ?_
          rintro e W3 (⟨rfl, hJ3, hk3⟩ | ⟨rfl, hJx3⟩)
          · gi_wp2
            go_roundw
            case rel =>
              refine ⟨x', _, rfl, HX2, hJ3, ?_, ?_, hbw.trans hk3⟩
              · rw [xorF_snoc, ← hx, ← g1, Nat.xor_assoc, Nat.xor_comm q]
              · rw [List.length_append, List.length_singleton]
                omega
            case measure => simp [intOf]; omega
          · gi_wp2
            refine bodyPost_ret (results_none rfl _ _ _) rfl ?_
            exact ⟨⟨_, rfl⟩, .inr ⟨_, trivial, hJx3⟩⟩
    · obtain rfl : k = 8 := by omega
      gi_wp2
      go_end0
      refine ⟨⟨_, rfl⟩, .inl ⟨pre, ?_, hJ⟩⟩
      rw [hx, List.take_of_length_le (by omega)]
end Go.Proofs.YtpojhplnhppcpaaGreatDoor
namespace Go.Proofs.YtpojhplnhppcpaaGreatDoor
open Go.RowKit Go.Shelf
attribute [local go_sem] Oper.semAt_some
theorem pos_stops (n : Nat) (hn : 1 ≤ n) (Bs n₀ : Nat) (ws : List Nat) (h8 : ws.length = 8) (hs : ∀ x ∈ ws, x < 1099511627776) (hb1 : 6 < n₀) (w : World) (hA : Arr w Bs 66 (iv (ci ws))) (hT : Tab w) :
    SeqStopsK Fence.wide n Tryz.prog 201 #[.pointer (some ⟨Bs, 0, none⟩)] (fun x : Fin 512 => #[.int .i64 (x.val : Int)]) (Below n₀) (fun ys => xorF ys = synL 0 ws) (fun _ => True) (popL ws) w := by
  intro l J Jx W hW _ _ hY h0
  exact pos1_in n hn l Bs n₀ ws h8 hs hb1 J Jx hY W (hA.keep hW) (hT.keep hW) h0
theorem xorF_lt (xs : List (Fin 512)) : xorF xs < 512 := by
  have key : ∀ (xs : List (Fin 512)) (a : Nat), a < 512 → xs.foldl (fun a x => a ^^^ x.val) a < 512 := by
    intro xs
    induction xs with
    | nil => intro a h; exact h
    | cons x xs ih => intro a h; exact ih _ (Nat.xor_lt_two_pow (n := 9) h x.isLt)
  exact key xs 0 (by decide)
theorem syn_code (c : Nat) (h : c < 1024) : synW 8 c 40 = c % 512 := by
  have all : ∀ c : Fin 1024, synW 8 c 40 = c.val % 512 := by decide +kernel
  exact all ⟨c, h⟩
theorem synT_eq (ws : List Nat) (c : Nat) (h8 : ws.length = 8) (h : c < 1024) : synT ws c = (c % 512) ^^^ synL 0 ws := by
  unfold synT
  rw [synL_append, h8, Nat.xor_comm, ← syn_code c h]
  show (synW 8 c 40 ^^^ 0) ^^^ _ = _
  rw [Nat.xor_zero]
set_option maxRecDepth 100000 in
set_option maxHeartbeats 400000 in
theorem positions_any (L : List Int) (w : World) :
    Calls Tryz.prog 180 #[.agg (iv L).toArray] w fun e w' => e = .returned (.func (.func 201) #[] #[.pointer (some ⟨w.heap.size, 0, none⟩)]) ∧ w' = w.alloc (.cells (iv L).toArray 66) := by
  have hmf : ∀ (fn : Fn) (first cap : Array Value) (w : World), (Instr.makeFunc fn first cap).run Tryz.prog w = .ok (.func fn first cap) w := fun _ _ _ _ => rfl
  go_enter Tryz.func180, Tryz.ntmps180
  go_wp2
  go_ret
  exact ⟨rfl, rfl⟩
set_option maxRecDepth 100000 in
set_option maxHeartbeats 2000000 in
theorem syn_any (ws : List Nat) (c : Nat) (w : World) (h8 : ws.length = 8) (hs : ∀ x ∈ ws, x < 1099511627776) (hc : c < 1024) (hT : Tab w) :
    Calls Tryz.prog 150 #[.agg (iv (ci ws)).toArray, .int .i64 (c : Int)] w fun e w' => e = .returned (.int .i64 (synT ws c : Nat)) ∧ Below w.heap.size w w' := by
  have hb1 := hT.lt
  rw [synT_eq ws c h8 hc]
  have hand : bits .and .i64 (c : Int) 511 = ((c % 512 : Nat) : Int) := by rw [i64_and511]; omega
  have hc5 : c % 512 < 512 := by omega
  generalize c % 512 = s0 at *
  have HI := Lib.hid (size22' (l := ci ws) (by rw [ci_len, h8]))
  refine (callsIn_wide (n := 5)).1 ?_
  refine callsIn_of_wp_marks Tryz.func150 rfl trivial ?_ rfl
  simp only [Tryz.ntmps150, List.size_toArray, List.length_cons, List.length_nil, Nat.reduceAdd, Nat.reduceSub, Array.replicate_succ, Array.replicate_zero, List.push_toArray, List.append_toArray, List.nil_append, List.cons_append]
  have hA0 : Arr ((w.alloc (.cells (iv (ci ws)).toArray 66)).alloc (.cells #[.int .i64 (s0 : Int)] 3)) w.heap.size 66 (iv (ci ws)) := a2_0 w _ _
  have HS := Lib.hid hs
  clear hs hc
  gi_wp2_with (first | ((with_reducible refine armI_row 66 w.heap.size 66 _ hA0 _ Tryz.underlying66 rfl HI.out rfl _ rfl ?_ ?_); focus rfl) | (refine ⟨trivial, ?_⟩; gi_at_call 180; refine (callsIn_wide.2 (positions_any (ci ws) _)).mono ?_; rintro e w1 ⟨rfl, rfl⟩))
  have hA2 : Arr (((w.alloc (.cells (iv (ci ws)).toArray 66)).alloc (.cells #[.int .i64 (s0 : Int)] 3)).alloc (.cells (iv (ci ws)).toArray 66)) (w.heap.size + 1 + 1) 66 (iv (ci ws)) := by
    have := Arr.new ((w.alloc (.cells (iv (ci ws)).toArray 66)).alloc (.cells #[.int .i64 (s0 : Int)] 3)) (iv (ci ws)) 66
    simpa using this
  have hB2 : Below w.heap.size w (((w.alloc (.cells (iv (ci ws)).toArray 66)).alloc (.cells #[.int .i64 (s0 : Int)] 3)).alloc (.cells (iv (ci ws)).toArray 66)) := ((bel_new w _).alloc (by simp) _).alloc (by simp; omega) _
  have hS1 : Arr ((w.alloc (.cells (iv (ci ws)).toArray 66)).alloc (.cells #[.int .i64 (s0 : Int)] 3)) (w.heap.size + 1) 3 [.int .i64 (s0 : Int)] := a2_1 w _ _
  have hS2 := hS1.keep (bel_new _ (.cells (iv (ci ws)).toArray 66))
  have hcell := hS2.cell (j := 0) rfl
  have hfroz := hS2.free 0
  have hsz : (((w.alloc (.cells (iv (ci ws)).toArray 66)).alloc (.cells #[.int .i64 (s0 : Int)] 3)).alloc (.cells (iv (ci ws)).toArray 66)).heap.size = w.heap.size + 3 := by simp
  obtain ⟨W, hW⟩ : ∃ W, (((w.alloc (.cells (iv (ci ws)).toArray 66)).alloc (.cells #[.int .i64 (s0 : Int)] 3)).alloc (.cells (iv (ci ws)).toArray 66)) = W := ⟨_, rfl⟩
  rw [hW] at hA2 hB2 hS2 hcell hfroz hsz ⊢
  clear hW hA0 hS1 hS2
  refine wpIn_rangeFunc_ownF rfl (by omega) (gf := 201) (lb := #[.pointer (some ⟨w.heap.size + 1 + 1, 0, none⟩)]) rfl trivial (enters_of Tryz.func201 (by kernel_rfl) rfl)
    (pos_stops 4 (by omega) (w.heap.size + 1 + 1) w.heap.size ws h8 HS.out hb1 W hA2 (hT.keep hB2)) belowK_t (belowK_b (by omega)) (Below.refl _ _) (fun _ => rfl)
    (fun pre W => (W.cell? ⟨w.heap.size + 1, 0, none⟩ = some (.int .i64 ((s0 ^^^ xorF pre : Nat) : Int)) ∧ W.frozen? ⟨w.heap.size + 1, 0, none⟩ = false) ∧ Below w.heap.size w W)
    (fun _ _ _ => False)
    (OwnFrom.and (Own.from (fun s A B row hs hg hr => ⟨cell_kept hs.1 hg hr, (frozen_kept hs.1 hg hr).trans hs.2⟩) _) (ownFrom_below (Nat.le_refl _) (by omega)))
    (fun _ _ _ _ _ hs _ _ => hs)
    ⟨⟨by rw [show xorF [] = 0 from rfl, Nat.xor_zero]; exact hcell, hfroz⟩, hB2⟩
    (fun x => { tmps := #[.agg (iv (ci ws)).toArray, .int .i64 (c : Int), .pointer (some ⟨w.heap.size, 0, none⟩), undef, .int .i64 0, .pointer (some ⟨w.heap.size + 1, 0, none⟩), .int .i64 (x.val : Int), .int .i64 (c : Int), .int .i64 (s0 : Int), .agg (iv (ci ws)).toArray, .func (.func 201) #[] #[.pointer (some ⟨w.heap.size + 1 + 1, 0, none⟩)], .int .i64 (x.val : Int), undef, undef, undef, undef], defers := [] }) ?assign ?body ?done ?stop
  case assign =>
    intro l x W K hK
    gi_wp2
    exact hK
  case body =>
    rintro l pre x W ⟨⟨hc, hf⟩, hB⟩ _
    have hlt := xorF_lt pre
    have hxl : s0 ^^^ xorF pre < 512 := Nat.xor_lt_two_pow (n := 9) hc5 hlt
    have hxor := i64_xor_nat (s0 ^^^ xorF pre) x.val (by omega) (by have := x.isLt; omega)
    have HX := Lib.hid (show s0 ^^^ xorF (pre ++ [x]) = (s0 ^^^ xorF pre) ^^^ x.val by rw [xorF_snoc, Nat.xor_assoc])
    generalize s0 ^^^ xorF pre = v at *
    clear hlt hxl
    gi_wp2
    exact ⟨KeepsOthers.setCell _ _ _, (Below.refl w.heap.size W).setCell (p := ⟨w.heap.size + 1, 0, none⟩) (by simp) _, ⟨by rw [HX.out]; exact World.cell?_setCell_same' _ _ _ (by rw [hc]; rfl), by rw [World.frozen?_setCell]; exact hf⟩, hB.setCell (p := ⟨w.heap.size + 1, 0, none⟩) (by simp) _⟩
  case done =>
    rintro D ys W' hD hys ⟨⟨hc, _⟩, hB⟩ hK
    rw [hys] at hc
    gi_wp2
    refine ⟨by simp, .inl ⟨_, _, rfl, run_takeDeferred hK, ?_⟩⟩
    exact ⟨_, results_tmp rfl _ _ _, rfl, hB.trans (belowK_b (w := w) (Nat.le_refl _) W' D _ _ (by omega) hK rfl rfl)⟩
  case stop =>
    rintro D c pre W _ _ h _
    exact h.elim
end Go.Proofs.YtpojhplnhppcpaaGreatDoor
namespace Go.Proofs.YtpojhplnhppcpaaGreatDoor
open Go.RowKit
def okW (z : Int) : Bool := decide (0 ≤ z ∧ z ≤ 1099511627775)
/-- Are all words of a line and its code in their ranges? -/
def validB (L : List Int) (c : Int) : Bool := L.all okW && decide (0 ≤ c ∧ c ≤ 1023)
theorem all_of {L : List Int} (h8 : L.length = 8) (h : ∀ j, j < 8 → okW (L.getD j 0) = true) : L.all okW = true := by
  rw [List.all_eq_true]
  intro z hz
  obtain ⟨j, hj, rfl⟩ := List.mem_iff_getElem.1 hz
  have := h j (by omega)
  rw [List.getD_eq_getElem?_getD, List.getElem?_eq_getElem hj] at this
  exact this
theorem not_all {L : List Int} {k : Nat} (hk : k < L.length) (h : okW (L.getD k 0) = false) : L.all okW = false := by
  rw [List.all_eq_false]
  refine ⟨L[k], List.getElem_mem hk, ?_⟩
  rw [List.getD_eq_getElem?_getD, List.getElem?_eq_getElem hk] at h
  simpa using h
set_option maxRecDepth 100000 in
set_option maxHeartbeats 400000 in
theorem valid_any (L : List Int) (c : Int) (w : World) (h8 : L.length = 8) :
    Calls Tryz.prog 145 #[.agg (iv L).toArray, .int .i64 c] w fun e w' => e = .returned (.bool (validB L c)) ∧ Below w.heap.size w w' := by
  have HI := Lib.hid (size22' h8)
  have HB := Lib.hid (bel_new w (.cells (iv L).toArray 66))
  have HA := Lib.hid (Arr.new w (iv L) 66)
  go_enter Tryz.func145, Tryz.ntmps145
  go_wp2_with ((with_reducible refine arm_row 66 w.heap.size 66 _ HA.out _ Tryz.underlying66 rfl HI.out rfl _ rfl ?_ ?_); focus rfl)
  obtain ⟨W, hW⟩ : ∃ W, w.alloc (.cells (iv L).toArray 66) = W := ⟨_, rfl⟩
  rw [hW] at HB ⊢
  clear hW HA
  go_loopw [8] (fun i wr => ∃ k : Nat, i = .int .i64 (k : Int) ∧ k ≤ 8 ∧ (∀ j, j < k → okW (L.getD j 0) = true) ∧ wr = W) (fun i _ => 8 - (intOf i).toNat)
  case atStart => exact ⟨0, rfl, by omega, fun j hj => by omega, rfl⟩
  case round =>
    obtain ⟨k, rfl, hk, hall, rfl⟩ := hrel
    by_cases hlt : k < 8
    · have hidx := index22 L k hlt h8 wr
      have hnot := fun h => not_all (L := L) (k := k) (by omega) h
      have hstep : okW (L.getD k 0) = true → ∀ j, j < k + 1 → okW (L.getD j 0) = true := fun h j hj => by
        rcases Nat.lt_succ_iff_lt_or_eq.1 hj with h1 | h1
        · exact hall j h1
        · subst h1; exact h
      generalize L.getD k 0 = v at *
      unfold okW at hnot hstep
      have HS := Lib.hid hstep
      have HN := Lib.hid hnot
      clear hstep hnot hall
      by_cases h1 : v < 0
      · go_wp2_with fail
        go_ret
        refine ⟨ret_bool ?_, HB.out⟩
        unfold validB okW
        rw [HN.out (by simp; omega)]
        rfl
      · by_cases h2 : 1099511627775 < v
        · go_wp2_with fail
          go_ret
          refine ⟨ret_bool ?_, HB.out⟩
          unfold validB okW
          rw [HN.out (by simp; omega)]
          rfl
        · go_wp2_with fail
          go_roundw
          case rel => exact ⟨k + 1, by simp, by omega, HS.out (by simp; omega), trivial⟩
          case measure => simp [intOf]; omega
    · obtain rfl : k = 8 := by omega
      have ha := all_of h8 hall
      have HV : Hid (validB L c = decide (0 ≤ c ∧ c ≤ 1023)) := Lib.hid (by unfold validB; rw [ha, Bool.true_and])
      clear hall ha
      by_cases h1 : 0 ≤ c
      · by_cases h2 : c ≤ 1023
        · go_wp2_with fail
          go_ret
          exact ⟨ret_bool (by rw [HV.out]; simp; omega), HB.out⟩
        · go_wp2_with fail
          go_ret
          exact ⟨ret_bool (by rw [HV.out]; simp; omega), HB.out⟩
      · go_wp2_with fail
        go_ret
        exact ⟨ret_bool (by rw [HV.out]; simp; omega), HB.out⟩
end Go.Proofs.YtpojhplnhppcpaaGreatDoor
namespace Go.Proofs.YtpojhplnhppcpaaGreatDoor
open Go.RowKit
set_option maxRecDepth 100000 in
set_option maxHeartbeats 400000 in
theorem rvalid_any (L : List Int) (c : Int) (w : World) (h8 : L.length = 8) :
    Calls Tryz.prog 152 #[.agg (iv L).toArray, .int .i64 c] w fun e w' => e = .returned (.bool (validB L c)) ∧ Below w.heap.size w w' := by
  have HB := Lib.hid (bel_new w (.cells (iv L).toArray 66))
  have HA := Lib.hid (Arr.new w (iv L) 66)
  go_enter Tryz.func152, Tryz.ntmps152
  go_wp2_with fail
  obtain ⟨W, hW⟩ : ∃ W, w.alloc (.cells (iv L).toArray 66) = W := ⟨_, rfl⟩
  rw [hW] at HA HB ⊢
  clear hW
  go_loopw [5] (fun i wr => ∃ k : Nat, i = .int .i64 (k : Int) ∧ k ≤ 8 ∧ (∀ j, j < k → okW (L.getD j 0) = true) ∧ wr = W) (fun i _ => 8 - (intOf i).toNat)
  case atStart => exact ⟨0, rfl, by omega, fun j hj => by omega, rfl⟩
  case round =>
    obtain ⟨k, rfl, hk, hall, rfl⟩ := hrel
    by_cases hlt : k < 8
    · have hidx := HA.out.cell (iv_at (l := L) (k := k) (by omega))
      have hnot := fun h => not_all (L := L) (k := k) (by omega) h
      have hstep : okW (L.getD k 0) = true → ∀ j, j < k + 1 → okW (L.getD j 0) = true := fun h j hj => by
        rcases Nat.lt_succ_iff_lt_or_eq.1 hj with h1 | h1
        · exact hall j h1
        · subst h1; exact h
      generalize L.getD k 0 = v at *
      unfold okW at hnot hstep
      have HS := Lib.hid hstep
      have HN := Lib.hid hnot
      clear hstep hnot hall
      by_cases h1 : v < 0
      · go_wp2_with fail
        go_ret
        refine ⟨ret_bool ?_, HB.out⟩
        unfold validB okW
        rw [HN.out (by simp; omega)]
        rfl
      · by_cases h2 : 1099511627775 < v
        · go_wp2_with fail
          go_ret
          refine ⟨ret_bool ?_, HB.out⟩
          unfold validB okW
          rw [HN.out (by simp; omega)]
          rfl
        · go_wp2_with fail
          go_roundw
          case rel => exact ⟨k + 1, by simp, by omega, HS.out (by simp; omega), trivial⟩
          case measure => simp [intOf]; omega
    · obtain rfl : k = 8 := by omega
      have ha := all_of h8 hall
      have HV : Hid (validB L c = decide (0 ≤ c ∧ c ≤ 1023)) := Lib.hid (by unfold validB; rw [ha, Bool.true_and])
      clear hall ha
      by_cases h1 : 0 ≤ c
      · by_cases h2 : c ≤ 1023
        · go_wp2_with fail
          go_ret
          exact ⟨ret_bool (by rw [HV.out]; simp; omega), HB.out⟩
        · go_wp2_with fail
          go_ret
          exact ⟨ret_bool (by rw [HV.out]; simp; omega), HB.out⟩
      · go_wp2_with fail
        go_ret
        exact ⟨ret_bool (by rw [HV.out]; simp; omega), HB.out⟩
end Go.Proofs.YtpojhplnhppcpaaGreatDoor
