/-
  What bits.Len does with a small number. What bits.Len does with a small number. What code.Position and code's find do. What bits.OnesCount does. What bits.TrailingZeros does, the table being as the program's text lays it.
-/
import Derived.Test.YtmnncbgibngmiaaGreatDoorQKit
import Derived.Lib.BitFns
import Derived.Lib.TrailingZeros
namespace Go.Proofs.YtmnncbgibngmiaaGreatDoor
open Go.RowKit
theorem w64 (z : Int) (h0 : -9223372036854775808 ≤ z) (h1 : z ≤ 9223372036854775807) : wrap64 z = z := by unfold wrap64; omega
theorem ret_i64 {a b : Int} (h : a = b) : Ending.returned (.int .i64 a) = .returned (.int .i64 b) := by rw [h]
theorem lib_len (x : Nat) (h : x < 1024) : Lib.bitLen x = bitLen x := by
  have all : ∀ x : Fin 1024, Lib.bitLen x = bitLen x := by decide +kernel
  exact all ⟨x, h⟩
theorem len_le (x : Nat) (h : x < 1024) : bitLen x ≤ 10 := by
  have all : ∀ x : Fin 1024, bitLen x ≤ 10 := by decide +kernel
  exact all ⟨x, h⟩
/-- The table of the standard library, as the program spells it. -/
def tab : ByteArray := { data := (([0, 1, 2, 2, 3, 3, 3, 3, 4, 4, 4, 4, 4, 4, 4, 4, 5, 5, 5, 5, 5, 5, 5, 5, 5, 5, 5, 5, 5, 5, 5, 5, 6, 6, 6, 6, 6, 6, 6, 6, 6, 6, 6, 6, 6, 6, 6, 6, 6, 6, 6, 6, 6, 6, 6, 6, 6, 6, 6, 6, 6, 6, 6, 6].append [7, 7, 7, 7, 7, 7, 7, 7, 7, 7, 7, 7, 7, 7, 7, 7, 7, 7, 7, 7, 7, 7, 7, 7, 7, 7, 7, 7, 7, 7, 7, 7, 7, 7, 7, 7, 7, 7, 7, 7, 7, 7, 7, 7, 7, 7, 7, 7, 7, 7, 7, 7, 7, 7, 7, 7, 7, 7, 7, 7, 7, 7, 7, 7]).append ([8, 8, 8, 8, 8, 8, 8, 8, 8, 8, 8, 8, 8, 8, 8, 8, 8, 8, 8, 8, 8, 8, 8, 8, 8, 8, 8, 8, 8, 8, 8, 8, 8, 8, 8, 8, 8, 8, 8, 8, 8, 8, 8, 8, 8, 8, 8, 8, 8, 8, 8, 8, 8, 8, 8, 8, 8, 8, 8, 8, 8, 8, 8, 8].append [8, 8, 8, 8, 8, 8, 8, 8, 8, 8, 8, 8, 8, 8, 8, 8, 8, 8, 8, 8, 8, 8, 8, 8, 8, 8, 8, 8, 8, 8, 8, 8, 8, 8, 8, 8, 8, 8, 8, 8, 8, 8, 8, 8, 8, 8, 8, 8, 8, 8, 8, 8, 8, 8, 8, 8, 8, 8, 8, 8, 8, 8, 8, 8])).toArray }
theorem fold_tab : tab = Lib.len8tab := by decide +kernel
theorem idx_tab (y : Nat) (h : y < 256) (w : World) : (Instr.index 9 (.string tab) (.int .u8 (y : Int))).run Tryz.prog w = .ok (.int .u8 (bitLen y : Nat)) w := by
  rw [fold_tab, Lib.run_index_len8tab w 9 .u8 (y : Int) Tryz.underlying9 (by omega) (by omega), Lib.len8_of _ (by omega) (by omega), Int.toNat_natCast, lib_len y (by omega)]
set_option maxRecDepth 100000 in
set_option maxHeartbeats 4000000 in
theorem len64_a (z : Int) (n : Nat) (w : World) (h0 : 0 ≤ z) (h1 : z ≤ 255) (hn : z = n) :
    Calls Tryz.prog 107 #[.int .u64 z] w fun e w' => e = .returned (.int .i64 (bitLen n : Nat)) ∧ w' = w := by
  go_enter Tryz.func107, Tryz.ntmps107
  have hi := idx_tab n (by omega) w
  have e : z % 256 = z := by omega
  rw [← hn] at hi
  have hle := len_le n (by omega)
  clear hn
  unfold tab at hi
  generalize ({ data := (([0, 1, 2, 2, 3, 3, 3, 3, 4, 4, 4, 4, 4, 4, 4, 4, 5, 5, 5, 5, 5, 5, 5, 5, 5, 5, 5, 5, 5, 5, 5, 5, 6, 6, 6, 6, 6, 6, 6, 6, 6, 6, 6, 6, 6, 6, 6, 6, 6, 6, 6, 6, 6, 6, 6, 6, 6, 6, 6, 6, 6, 6, 6, 6].append [7, 7, 7, 7, 7, 7, 7, 7, 7, 7, 7, 7, 7, 7, 7, 7, 7, 7, 7, 7, 7, 7, 7, 7, 7, 7, 7, 7, 7, 7, 7, 7, 7, 7, 7, 7, 7, 7, 7, 7, 7, 7, 7, 7, 7, 7, 7, 7, 7, 7, 7, 7, 7, 7, 7, 7, 7, 7, 7, 7, 7, 7, 7, 7]).append ([8, 8, 8, 8, 8, 8, 8, 8, 8, 8, 8, 8, 8, 8, 8, 8, 8, 8, 8, 8, 8, 8, 8, 8, 8, 8, 8, 8, 8, 8, 8, 8, 8, 8, 8, 8, 8, 8, 8, 8, 8, 8, 8, 8, 8, 8, 8, 8, 8, 8, 8, 8, 8, 8, 8, 8, 8, 8, 8, 8, 8, 8, 8, 8].append [8, 8, 8, 8, 8, 8, 8, 8, 8, 8, 8, 8, 8, 8, 8, 8, 8, 8, 8, 8, 8, 8, 8, 8, 8, 8, 8, 8, 8, 8, 8, 8, 8, 8, 8, 8, 8, 8, 8, 8, 8, 8, 8, 8, 8, 8, 8, 8, 8, 8, 8, 8, 8, 8, 8, 8, 8, 8, 8, 8, 8, 8, 8, 8])).toArray } : ByteArray) = T at *
  go_wp2
  go_ret
  refine ⟨ret_i64 ?_, rfl⟩
  rfl
set_option maxRecDepth 100000 in
set_option maxHeartbeats 4000000 in
theorem len64_b (z : Int) (n : Nat) (w : World) (h0 : 256 ≤ z) (h1 : z ≤ 1023) (hn : z / 256 = n) :
    Calls Tryz.prog 107 #[.int .u64 z] w fun e w' => e = .returned (.int .i64 (8 + bitLen n : Nat)) ∧ w' = w := by
  go_enter Tryz.func107, Tryz.ntmps107
  have hi := idx_tab n (by omega) w
  have e : z / 256 % 256 = z / 256 := by omega
  rw [← hn] at hi
  have hle := len_le n (by omega)
  clear hn
  unfold tab at hi
  generalize ({ data := (([0, 1, 2, 2, 3, 3, 3, 3, 4, 4, 4, 4, 4, 4, 4, 4, 5, 5, 5, 5, 5, 5, 5, 5, 5, 5, 5, 5, 5, 5, 5, 5, 6, 6, 6, 6, 6, 6, 6, 6, 6, 6, 6, 6, 6, 6, 6, 6, 6, 6, 6, 6, 6, 6, 6, 6, 6, 6, 6, 6, 6, 6, 6, 6].append [7, 7, 7, 7, 7, 7, 7, 7, 7, 7, 7, 7, 7, 7, 7, 7, 7, 7, 7, 7, 7, 7, 7, 7, 7, 7, 7, 7, 7, 7, 7, 7, 7, 7, 7, 7, 7, 7, 7, 7, 7, 7, 7, 7, 7, 7, 7, 7, 7, 7, 7, 7, 7, 7, 7, 7, 7, 7, 7, 7, 7, 7, 7, 7]).append ([8, 8, 8, 8, 8, 8, 8, 8, 8, 8, 8, 8, 8, 8, 8, 8, 8, 8, 8, 8, 8, 8, 8, 8, 8, 8, 8, 8, 8, 8, 8, 8, 8, 8, 8, 8, 8, 8, 8, 8, 8, 8, 8, 8, 8, 8, 8, 8, 8, 8, 8, 8, 8, 8, 8, 8, 8, 8, 8, 8, 8, 8, 8, 8].append [8, 8, 8, 8, 8, 8, 8, 8, 8, 8, 8, 8, 8, 8, 8, 8, 8, 8, 8, 8, 8, 8, 8, 8, 8, 8, 8, 8, 8, 8, 8, 8, 8, 8, 8, 8, 8, 8, 8, 8, 8, 8, 8, 8, 8, 8, 8, 8, 8, 8, 8, 8, 8, 8, 8, 8, 8, 8, 8, 8, 8, 8, 8, 8])).toArray } : ByteArray) = T at *
  go_wp2
  go_ret
  refine ⟨ret_i64 ?_, rfl⟩
  omega
theorem len64_any (z : Int) (x : Nat) (w : World) (hz : z = x) (hx : x < 1024) :
    Calls Tryz.prog 107 #[.int .u64 z] w fun e w' => e = .returned (.int .i64 (bitLen x : Nat)) ∧ w' = w := by
  rcases Nat.lt_or_ge x 256 with h | h
  · exact len64_a z x w (by omega) (by omega) hz
  · have hs : bitLen x = 8 + bitLen (x / 256) := bitLen_shift x 8 (by show x / 256 ≠ 0; omega)
    rw [hs]
    exact len64_b z (x / 256) w (by omega) (by omega) (by omega)
end Go.Proofs.YtmnncbgibngmiaaGreatDoor
namespace Go.Proofs.YtmnncbgibngmiaaGreatDoor
open Go.RowKit
set_option maxRecDepth 100000 in
set_option maxHeartbeats 400000 in
theorem len_any (z : Int) (x : Nat) (w : World) (hz : z = x) (hx : x < 1024) :
    Calls Tryz.prog 95 #[.int .u64 z] w fun e w' => e = .returned (.int .i64 (bitLen x : Nat)) ∧ w' = w := by
  have h := len64_any z x w hz hx
  generalize bitLen x = L at *
  clear hz hx
  go_enter Tryz.func95, Tryz.ntmps95
  go_wp2_with fail
  refine h.mono ?_
  rintro e w1 ⟨rfl, rfl⟩
  go_wp2
  go_ret
  exact ⟨rfl, rfl⟩
theorem posn_lt (i : Nat) (h : i < 320) : posn i < 512 ∧ bitLen (i + 1) ≤ 10 ∧ bitLen (i + 1 + bitLen (i + 1)) ≤ 10 := by
  have all : ∀ i : Fin 320, posn i < 512 ∧ bitLen (i + 1) ≤ 10 ∧ bitLen (i + 1 + bitLen (i + 1)) ≤ 10 := by decide +kernel
  exact all ⟨i, h⟩
set_option maxRecDepth 100000 in
set_option maxHeartbeats 400000 in
theorem position_any (z : Int) (i : Nat) (w : World) (hz : z = i) (hi : i < 320) :
    Calls Tryz.prog 102 #[.int .i64 z] w fun e w' => e = .returned (.int .i64 (posn i : Nat)) ∧ w' = w := by
  obtain ⟨hp, h1, h2⟩ := posn_lt i hi
  have c1 := fun y w hz => len_any y (i + 1) w hz (by omega)
  have c2 := fun y w hz => len_any y (i + 1 + bitLen (i + 1)) w hz (by omega)
  unfold posn
  generalize hL2 : bitLen (i + 1 + bitLen (i + 1)) = L2 at *
  clear hL2
  generalize bitLen (i + 1) = L1 at *
  have hz0 : 0 ≤ z := by omega
  have hz1 : z < 320 := by omega
  have hl1 : (L1 : Int) ≤ 10 := by omega
  have hl2 : (L2 : Int) ≤ 10 := by omega
  clear hp
  go_enter Tryz.func102, Tryz.ntmps102
  go_wp2_with fail
  refine (c1 _ _ (by omega)).mono ?_
  rintro e w1 ⟨rfl, rfl⟩
  go_wp2_with fail
  refine (c2 _ _ (by omega)).mono ?_
  rintro e w1 ⟨rfl, rfl⟩
  go_wp2_with fail
  go_ret
  exact ⟨ret_i64 (by omega), rfl⟩
/-- Is there such a data bit, such a bit of a code? -/
def dataB (k b : Int) : Bool := decide (0 ≤ k ∧ k < 8 ∧ 0 ≤ b ∧ b < 40)
def codeB (k b : Int) : Bool := decide (k = 8 ∧ 0 ≤ b ∧ b < 10)
theorem ret_bool {a b : Bool} (h : a = b) : Ending.returned (.bool a) = .returned (.bool b) := by rw [h]
set_option maxRecDepth 100000 in
set_option maxHeartbeats 400000 in
theorem isData_any (k b : Int) (w : World) :
    Calls Tryz.prog 96 #[.int .i64 k, .int .i64 b] w fun e w' => e = .returned (.bool (dataB k b)) ∧ w' = w := by
  unfold dataB
  go_enter Tryz.func96, Tryz.ntmps96
  by_cases h1 : 0 ≤ k
  · by_cases h2 : k < 8
    · by_cases h3 : 0 ≤ b
      · by_cases h4 : b < 40
        · go_wp2_with fail
          go_ret
          exact ⟨ret_bool (by simp; try omega), rfl⟩
        · go_wp2_with fail
          go_ret
          exact ⟨ret_bool (by simp; try omega), rfl⟩
      · go_wp2_with fail
        go_ret
        exact ⟨ret_bool (by simp; try omega), rfl⟩
    · go_wp2_with fail
      go_ret
      exact ⟨ret_bool (by simp; try omega), rfl⟩
  · go_wp2_with fail
    go_ret
    exact ⟨ret_bool (by simp; try omega), rfl⟩
set_option maxRecDepth 100000 in
set_option maxHeartbeats 400000 in
theorem isCode_any (k b : Int) (w : World) :
    Calls Tryz.prog 109 #[.int .i64 k, .int .i64 b] w fun e w' => e = .returned (.bool (codeB k b)) ∧ w' = w := by
  unfold codeB
  go_enter Tryz.func109, Tryz.ntmps109
  by_cases h1 : k = 8
  · subst h1
    by_cases h3 : 0 ≤ b
    · by_cases h4 : b < 10
      · go_wp2_with fail
        go_ret
        exact ⟨ret_bool (by simp; try omega), rfl⟩
      · go_wp2_with fail
        go_ret
        exact ⟨ret_bool (by simp; try omega), rfl⟩
    · go_wp2_with fail
      go_ret
      exact ⟨ret_bool (by simp; try omega), rfl⟩
  · go_wp2_with fail
    go_ret
    exact ⟨ret_bool (by simp; try omega), rfl⟩
end Go.Proofs.YtmnncbgibngmiaaGreatDoor
namespace Go.Proofs.YtmnncbgibngmiaaGreatDoor
open Go.RowKit
def posZ (k b : Int) : Int := if dataB k b then ((posn (40 * k + b).toNat : Nat) : Int) else if codeB k b ∧ b < 9 then ((2 ^ b.toNat : Nat) : Int) else 0
theorem posZ_data {k b : Int} (h : dataB k b = true) : posZ k b = ((posn (40 * k + b).toNat : Nat) : Int) := by unfold posZ; rw [if_pos h]
theorem posZ_code {k b : Int} (h : dataB k b = false) (h2 : codeB k b = true) (h3 : b < 9) : posZ k b = ((2 ^ b.toNat : Nat) : Int) := by
  unfold posZ; rw [if_neg (by rw [h]; decide), if_pos ⟨h2, h3⟩]
theorem posZ_not {k b : Int} (h : dataB k b = false) (h2 : codeB k b = false) : posZ k b = 0 := by
  unfold posZ; rw [if_neg (by rw [h]; decide), if_neg (by rw [h2]; simp)]
theorem posZ_last {k b : Int} (h : dataB k b = false) (h3 : ¬ b < 9) : posZ k b = 0 := by
  unfold posZ; rw [if_neg (by rw [h]; decide), if_neg (by simp; omega)]
theorem pow_w (b : Int) (h0 : 0 ≤ b) (h : b < 62) : wrap64 (2 ^ b.toNat) = ((2 ^ b.toNat : Nat) : Int) := by
  have h2 : 2 ^ b.toNat ≤ 2 ^ 61 := Nat.pow_le_pow_right (by decide) (by omega)
  have e : (2 : Int) ^ b.toNat = ((2 ^ b.toNat : Nat) : Int) := by simp
  rw [e]
  generalize 2 ^ b.toNat = p at *
  rw [w64 _ (by omega) (by omega)]
theorem ret_tib {a b c d : Int} {e f : Bool} (h1 : a = b) (h2 : c = d) (h3 : e = f) : Ending.returned (.tuple #[.int .i64 a, .int .i64 c, .bool e]) = .returned (.tuple #[.int .i64 b, .int .i64 d, .bool f]) := by rw [h1, h2, h3]
theorem pow_n (e : Nat) (h : e < 62) : wrap64 (2 ^ e) = ((2 ^ e : Nat) : Int) := by
  have := pow_w (e : Int) (by omega) (by omega)
  rwa [Int.toNat_natCast] at this
theorem find_len (s : Nat) (h : s < 512) (h0 : s ≠ 0) : 1 ≤ bitLen s ∧ bitLen s ≤ 9 ∧ bitLen s + 1 ≤ s + 1 ∧ 2 ^ (bitLen s - 1) ≤ 256 ∧ (s ≠ 2 ^ (bitLen s - 1) → bitLen s + 1 ≤ s) := by
  have all : ∀ s : Fin 512, s.val ≠ 0 → 1 ≤ bitLen s ∧ bitLen s ≤ 9 ∧ bitLen s + 1 ≤ s + 1 ∧ 2 ^ (bitLen s - 1) ≤ 256 ∧ (s.val ≠ 2 ^ (bitLen s - 1) → bitLen s + 1 ≤ s.val) := by decide +kernel
  exact all ⟨s, h⟩ h0
set_option maxRecDepth 100000 in
set_option maxHeartbeats 400000 in
theorem find_any (z : Int) (s : Nat) (w : World) (hz : z = s) (hs : s < 512) :
    Calls Tryz.prog 84 #[.int .i64 z] w fun e w' => e = .returned (.tuple #[.int .i64 ((findF s).1 : Nat), .int .i64 ((findF s).2.1 : Nat), .bool (findF s).2.2]) ∧ w' = w := by
  rcases Nat.eq_zero_or_pos s with h0 | h0
  · subst h0
    have e : findF 0 = (8, 9, true) := rfl
    rw [e]
    have hz0 : z = 0 := hz
    subst hz0
    clear hz
    go_enter Tryz.func84, Tryz.ntmps84
    go_wp2_with fail
    go_ret3
    exact ⟨rfl, rfl⟩
  · obtain ⟨hl1, hl9, hl2, hq, hl3⟩ := find_len s hs (by omega)
    have hlen := fun y w hz => len_any y s w hz (by omega)
    have hw : wrap64 (2 ^ (bitLen s - 1)) = ((2 ^ (bitLen s - 1) : Nat) : Int) := pow_n _ (by omega)
    have ef : findF s = if s = 2 ^ (bitLen s - 1) then (8, bitLen s - 1, true) else ((s - bitLen s - 1) / 40, (s - bitLen s - 1) % 40, decide (s - bitLen s - 1 < 320)) := by
      unfold findF
      rw [if_neg (by omega)]
    rw [ef]
    clear ef
    generalize bitLen s = L at *
    generalize 2 ^ (L - 1) = q at *
    have hz0 : 0 < z := by omega
    have hz1 : z < 512 := by omega
    subst hz
    by_cases he : s = q
    · rw [if_pos he]
      subst he
      go_enter Tryz.func84, Tryz.ntmps84
      go_wp2_with fail
      refine (hlen _ _ (by omega)).mono ?_
      rintro e w1 ⟨rfl, rfl⟩
      go_wp2_with fail
      go_ret3
      exact ⟨ret_tib (by rfl) (by omega) rfl, rfl⟩
    · rw [if_neg he]
      have hzq : ¬ (s : Int) = q := by omega
      have hl4 := hl3 he
      have e1 : (s : Int) - L - 1 = ((s - L - 1 : Nat) : Int) := by omega
      have hd := fun k b w => isData_any k b w
      have ht : ∀ n : Nat, n < 512 → dataB ((n : Int) / 40) ((n : Int) % 40) = decide (n < 320) := fun n hn => by
        unfold dataB
        rw [decide_eq_decide]
        omega
      have hb : s - L - 1 < 512 := by omega
      have HT := ht _ hb
      rw [← e1] at HT
      have HT2 := Lib.hid HT
      have hs0 : 0 ≤ (s : Int) - L - 1 := by omega
      clear ht HT hl3 hq hl2 he
      go_enter Tryz.func84, Tryz.ntmps84
      go_wp2_with fail
      refine (hlen _ _ (by omega)).mono ?_
      rintro e w1 ⟨rfl, rfl⟩
      clear e1
      go_wp2_with fail
      refine (hd _ _ _).mono ?_
      rintro e w1 ⟨rfl, rfl⟩
      go_wp2_with fail
      go_ret3
      exact ⟨ret_tib (by omega) (by omega) HT2.out, rfl⟩
end Go.Proofs.YtmnncbgibngmiaaGreatDoor
namespace Go.Proofs.YtmnncbgibngmiaaGreatDoor
open Go.RowKit
theorem and_m (y : Int) (a m : Nat) (hy : y = a) (ha : a < 18446744073709551616) (hm : m < 18446744073709551616) : bits .and .u64 y (m : Int) = ((a &&& m : Nat) : Int) := by
  subst hy
  exact u64_and_nat a m ha hm
theorem wrap_n (z : Int) (n : Nat) (hz : z = n) (hn : n < 18446744073709551616) : IntKind.u64.wrap z = n := by
  rw [IntKind.wrap_u64]
  omega
theorem ones_steps (x : Nat) (hx : x < 1099511627776) : ∃ y1 y2 y3 y4 y5 y6 : Nat,
    IntKind.u64.wrap (bits .and .u64 ((x : Int) / 2) 6148914691236517205 + bits .and .u64 (x : Int) 6148914691236517205) = y1 ∧
    IntKind.u64.wrap (bits .and .u64 ((y1 : Int) / 4) 3689348814741910323 + bits .and .u64 (y1 : Int) 3689348814741910323) = y2 ∧
    bits .and .u64 (IntKind.u64.wrap ((y2 : Int) / 16 + (y2 : Int))) 1085102592571150095 = y3 ∧
    IntKind.u64.wrap ((y3 : Int) + (y3 : Int) / 256) = y4 ∧
    IntKind.u64.wrap ((y4 : Int) + (y4 : Int) / 65536) = y5 ∧
    IntKind.u64.wrap ((y5 : Int) + (y5 : Int) / 4294967296) = y6 ∧
    y6 < 9223372036854775808 ∧ bits .and .i64 (y6 : Int) 127 = ((popW x 40 : Nat) : Int) := by
  obtain ⟨l1, l2, l3⟩ := G_le x
  obtain ⟨m1, m2, m3⟩ := masks
  have hend := ones_eq x _ _ hx rfl rfl
  unfold GG at hend
  have f1 : ∀ X : Nat, X < 18446744073709551616 → bits .and .u64 (X : Int) 6148914691236517205 = ((X &&& msk 85 8 : Nat) : Int) := fun X h => by
    rw [m1]; exact u64_and_nat X 6148914691236517205 h (by decide)
  have f2 : ∀ X : Nat, X < 18446744073709551616 → bits .and .u64 (X : Int) 3689348814741910323 = ((X &&& msk 51 8 : Nat) : Int) := fun X h => by
    rw [m2]; exact u64_and_nat X 3689348814741910323 h (by decide)
  have f3 : ∀ X : Nat, X < 18446744073709551616 → bits .and .u64 (X : Int) 1085102592571150095 = ((X &&& msk 15 8 : Nat) : Int) := fun X h => by
    rw [m3]; exact u64_and_nat X 1085102592571150095 h (by decide)
  refine ⟨G1 8 x, G2 8 (G1 8 x), G3 8 (G2 8 (G1 8 x)), G3 8 (G2 8 (G1 8 x)) + G3 8 (G2 8 (G1 8 x)) / 256, (G3 8 (G2 8 (G1 8 x)) + G3 8 (G2 8 (G1 8 x)) / 256) + (G3 8 (G2 8 (G1 8 x)) + G3 8 (G2 8 (G1 8 x)) / 256) / 65536, _, ?_, ?_, ?_, ?_, ?_, wrap_n _ (((G3 8 (G2 8 (G1 8 x)) + G3 8 (G2 8 (G1 8 x)) / 256) + (G3 8 (G2 8 (G1 8 x)) + G3 8 (G2 8 (G1 8 x)) / 256) / 65536) + ((G3 8 (G2 8 (G1 8 x)) + G3 8 (G2 8 (G1 8 x)) / 256) + (G3 8 (G2 8 (G1 8 x)) + G3 8 (G2 8 (G1 8 x)) / 256) / 65536) / 4294967296) ?_ ?_, ?_, ?_⟩
  · refine wrap_n _ _ ?_ l1
    rw [show (x : Int) / 2 = ((x / 2 : Nat) : Int) by omega, f1 _ (by omega), f1 _ (by omega)]
    unfold G1
    omega
  · generalize G1 8 x = y at *
    refine wrap_n _ _ ?_ l2
    rw [show (y : Int) / 4 = ((y / 4 : Nat) : Int) by omega, f2 _ (by omega), f2 _ (by omega)]
    unfold G2
    omega
  · generalize G2 8 (G1 8 x) = y at *
    rw [wrap_n _ (y / 16 + y) (by omega) l3, f3 _ l3]
    rfl
  · generalize G3 8 (G2 8 (G1 8 x)) = y at *
    exact wrap_n _ _ (by omega) (by omega)
  · generalize G3 8 (G2 8 (G1 8 x)) = y at *
    exact wrap_n _ _ (by omega) (by omega)
  · generalize G3 8 (G2 8 (G1 8 x)) = y at *
    omega
  · generalize G3 8 (G2 8 (G1 8 x)) = y at *
    omega
  · generalize G3 8 (G2 8 (G1 8 x)) = y at *
    omega
  · rw [i64_and127, ← hend.1]
    omega
set_option maxRecDepth 100000 in
set_option maxHeartbeats 400000 in
theorem ones64_any (z : Int) (x : Nat) (w : World) (hz : z = x) (hx : x < 1099511627776) :
    Calls Tryz.prog 122 #[.int .u64 z] w fun e w' => e = .returned (.int .i64 (popW x 40 : Nat)) ∧ w' = w := by
  subst hz
  obtain ⟨y1, y2, y3, y4, y5, y6, e1, e2, e3, e4, e5, e6, l6, e7⟩ := ones_steps x hx
  generalize popW x 40 = p at *
  have l7 : (y6 : Int) < 9223372036854775808 := by omega
  clear hx l6
  go_enter Tryz.func122, Tryz.ntmps122
  go_wp2_with fail
  go_ret
  exact ⟨rfl, rfl⟩
set_option maxRecDepth 100000 in
set_option maxHeartbeats 400000 in
theorem ones_any (z : Int) (x : Nat) (w : World) (hz : z = x) (hx : x < 1099511627776) :
    Calls Tryz.prog 105 #[.int .u64 z] w fun e w' => e = .returned (.int .i64 (popW x 40 : Nat)) ∧ w' = w := by
  have h := fun w => ones64_any z x w hz hx
  generalize popW x 40 = p at *
  have h0 : 0 ≤ z := by omega
  have h1 : z < 1099511627776 := by omega
  clear hz hx
  go_enter Tryz.func105, Tryz.ntmps105
  go_wp2_with fail
  refine (h _).mono ?_
  rintro e w1 ⟨rfl, rfl⟩
  go_wp2
  go_ret
  exact ⟨rfl, rfl⟩
end Go.Proofs.YtmnncbgibngmiaaGreatDoor
namespace Go.Proofs.YtmnncbgibngmiaaGreatDoor
open Go.RowKit
/-- The table in its variable. -/
def Tab (w : World) : Prop := ∀ j, j < 64 → w.cell? ⟨1, j, none⟩ = some (.int .u8 (Lib.deBruijn64tab.getD j 0 : Nat))
theorem Tab.lt {w : World} (h : Tab w) : 1 < w.heap.size := block_lt_of_cell (h 0 (by decide))
theorem Tab.keep {w w2 : World} (h : Tab w) (hb : Below w.heap.size w w2) : Tab w2 := fun j hj => by
  rw [hb.cell (p := ⟨1, j, none⟩) h.lt]
  exact h j hj
set_option maxRecDepth 100000 in
set_option maxHeartbeats 400000 in
theorem tz64_core (z : Int) (k idx : Nat) (w : World) (hz0 : 0 < z) (hz : z < 1099511627776)
    (key : IntKind.u64.wrap (bits BinOp.and IntKind.u64 z (IntKind.u64.wrap (-z)) * 285870213051353865) / 288230376151711744 = (idx : Int))
    (hi : idx < 64) (hk : k < 64) (hcell : w.cell? ⟨1, idx, none⟩ = some (.int .u8 (k : Int))) :
    Calls Tryz.prog 120 #[.int .u64 z] w fun e w' => e = .returned (.int .i64 k) ∧ w' = w := by
  go_enter Tryz.func120, Tryz.ntmps120
  go_wp2_with fail
  go_ret
  exact ⟨rfl, rfl⟩
theorem tz64_any (z : Int) (x : Nat) (w : World) (hz : z = x) (h0 : x ≠ 0) (hx : x < 1099511627776) (hT : Tab w) :
    Calls Tryz.prog 120 #[.int .u64 z] w fun e w' => e = .returned (.int .i64 (Lib.ctz 64 x : Nat)) ∧ w' = w := by
  subst hz
  obtain ⟨hlow, hk⟩ := Lib.lowest_bit 64 x h0 (by omega)
  obtain ⟨hi, htab⟩ := Lib.deBruijn64_at _ hk
  have hcell := hT _ hi
  rw [htab] at hcell
  refine tz64_core x _ _ w (by omega) (by omega) ?_ hi hk hcell
  have e1 : IntKind.u64.wrap (-(x : Int)) = ((18446744073709551616 - x : Nat) : Int) := by rw [IntKind.wrap_u64]; omega
  have hlow' : x &&& (18446744073709551616 - x) = 2 ^ Lib.ctz 64 x := hlow
  rw [e1, u64_and_nat x _ (by omega) (by omega), hlow', IntKind.wrap_u64]
  generalize 2 ^ Lib.ctz 64 x = a
  omega
set_option maxRecDepth 100000 in
set_option maxHeartbeats 400000 in
theorem tz_any (z : Int) (x : Nat) (w : World) (hz : z = x) (h0 : x ≠ 0) (hx : x < 1099511627776) (hT : Tab w) :
    Calls Tryz.prog 103 #[.int .u64 z] w fun e w' => e = .returned (.int .i64 (Lib.ctz 64 x : Nat)) ∧ w' = w := by
  have h := tz64_any z x w hz h0 hx hT
  generalize Lib.ctz 64 x = p at *
  have h1 : 0 < z := by omega
  have h2 : z < 1099511627776 := by omega
  clear hz hx hT h0
  go_enter Tryz.func103, Tryz.ntmps103
  go_wp2_with fail
  refine h.mono ?_
  rintro e w1 ⟨rfl, rfl⟩
  go_wp2
  go_ret
  exact ⟨rfl, rfl⟩
end Go.Proofs.YtmnncbgibngmiaaGreatDoor
