/- What code.Position and code's find do. -/
import Derived.Test.YthidababplamgaaDoorB2
namespace Go.Proofs.YthidababplamgaaDoor
open Go.RowKit
def posZ (k b : Int) : Int := if dataB k b then ((posn (40 * k + b).toNat : Nat) : Int) else if codeB k b ∧ b < 9 then ((2 ^ b.toNat : Nat) : Int) else 0
theorem posZ_data {k b : Int} (h : dataB k b = true) : posZ k b = ((posn (40 * k + b).toNat : Nat) : Int) := by unfold posZ; rw [if_pos h]
theorem posZ_code {k b : Int} (h : dataB k b = false) (h2 : codeB k b = true) (h3 : b < 9) : posZ k b = ((2 ^ b.toNat : Nat) : Int) := by
  unfold posZ; rw [if_neg (by rw [h]; decide), if_pos ⟨h2, h3⟩]
theorem posZ_not {k b : Int} (h : dataB k b = false) (h2 : codeB k b = false) : posZ k b = 0 := by
  unfold posZ; rw [if_neg (by rw [h]; decide), if_neg (by rw [h2]; simp)]
theorem posZ_last {k b : Int} (h : dataB k b = false) (h3 : ¬ b < 9) : posZ k b = 0 := by
  unfold posZ; rw [if_neg (by rw [h]; decide), if_neg (by simp; omega)]
theorem pow_w (b : Int) (h0 : 0 ≤ b) (h : b < 62) : wrap64 (2 ^ b.toNat) = ((2 ^ b.toNat : Nat) : Int) := by
  have h2 : 2 ^ b.toNat ≤ 2 ^ 61 := Nat.pow_le_pow_right (by decide) (by omega)
  have e : (2 : Int) ^ b.toNat = ((2 ^ b.toNat : Nat) : Int) := by simp
  rw [e]
  generalize 2 ^ b.toNat = p at *
  rw [w64 _ (by omega) (by omega)]
set_option maxRecDepth 100000 in
set_option maxHeartbeats 400000 in
theorem Position_any (k b : Int) (w : World) :
    Calls Tryd.prog 12 #[.int .i64 k, .int .i64 b] w fun e w' => e = .returned (.int .i64 (posZ k b)) ∧ w' = w := by
  have hd := isData_any k b w
  have hc := isCode_any k b w
  cases h : dataB k b with
  | true =>
    rw [h] at hd
    rw [posZ_data h]
    unfold dataB at h
    simp only [decide_eq_true_eq] at h
    obtain ⟨h1, h2, h3, h4⟩ := h
    have hp := fun z w hz => position_any z (40 * k + b).toNat w hz (by omega)
    have e : k * 40 + b = ((40 * k + b).toNat : Nat) := by omega
    generalize (40 * k + b).toNat = i at *
    generalize posn i = p at *
    go_enter Tryd.func12, Tryd.ntmps12
    go_wp2_with fail
    refine hd.mono ?_
    rintro e w1 ⟨rfl, rfl⟩
    go_wp2_with fail
    refine (hp _ _ (by omega)).mono ?_
    rintro e w1 ⟨rfl, rfl⟩
    go_wp2_with fail
    go_ret
    exact ⟨rfl, rfl⟩
  | false =>
    rw [h] at hd
    cases h2 : codeB k b with
    | true =>
      rw [h2] at hc
      by_cases h9 : b < 9
      · rw [posZ_code h h2 h9]
        unfold codeB at h2
        simp only [decide_eq_true_eq] at h2
        obtain ⟨rfl, h3, h4⟩ := h2
        have hb := Lib.hid (pow_w b h3 (by omega))
        go_enter Tryd.func12, Tryd.ntmps12
        go_wp2_with fail
        refine hd.mono ?_
        rintro e w1 ⟨rfl, rfl⟩
        go_wp2_with fail
        refine hc.mono ?_
        rintro e w1 ⟨rfl, rfl⟩
        go_wp2_with fail
        go_ret
        exact ⟨ret_i64 hb.out, rfl⟩
      · rw [posZ_last h h9]
        go_enter Tryd.func12, Tryd.ntmps12
        go_wp2_with fail
        refine hd.mono ?_
        rintro e w1 ⟨rfl, rfl⟩
        go_wp2_with fail
        refine hc.mono ?_
        rintro e w1 ⟨rfl, rfl⟩
        go_wp2_with fail
        go_ret
        exact ⟨rfl, rfl⟩
    | false =>
      rw [h2] at hc
      rw [posZ_not h h2]
      go_enter Tryd.func12, Tryd.ntmps12
      go_wp2_with fail
      refine hd.mono ?_
      rintro e w1 ⟨rfl, rfl⟩
      go_wp2_with fail
      refine hc.mono ?_
      rintro e w1 ⟨rfl, rfl⟩
      go_wp2_with fail
      go_ret
      exact ⟨rfl, rfl⟩
theorem ret_tib {a b c d : Int} {e f : Bool} (h1 : a = b) (h2 : c = d) (h3 : e = f) : Ending.returned (.tuple #[.int .i64 a, .int .i64 c, .bool e]) = .returned (.tuple #[.int .i64 b, .int .i64 d, .bool f]) := by rw [h1, h2, h3]
theorem pow_n (e : Nat) (h : e < 62) : wrap64 (2 ^ e) = ((2 ^ e : Nat) : Int) := by
  have := pow_w (e : Int) (by omega) (by omega)
  rwa [Int.toNat_natCast] at this
theorem find_len (s : Nat) (h : s < 512) (h0 : s ≠ 0) : 1 ≤ bitLen s ∧ bitLen s ≤ 9 ∧ bitLen s + 1 ≤ s + 1 ∧ 2 ^ (bitLen s - 1) ≤ 256 ∧ (s ≠ 2 ^ (bitLen s - 1) → bitLen s + 1 ≤ s) := by
  have all : ∀ s : Fin 512, s.val ≠ 0 → 1 ≤ bitLen s ∧ bitLen s ≤ 9 ∧ bitLen s + 1 ≤ s + 1 ∧ 2 ^ (bitLen s - 1) ≤ 256 ∧ (s.val ≠ 2 ^ (bitLen s - 1) → bitLen s + 1 ≤ s.val) := by decide +kernel
  exact all ⟨s, h⟩ h0
set_option maxRecDepth 100000 in
set_option maxHeartbeats 400000 in
theorem find_any (z : Int) (s : Nat) (w : World) (hz : z = s) (hs : s < 512) :
    Calls Tryd.prog 38 #[.int .i64 z] w fun e w' => e = .returned (.tuple #[.int .i64 ((findF s).1 : Nat), .int .i64 ((findF s).2.1 : Nat), .bool (findF s).2.2]) ∧ w' = w := by
  rcases Nat.eq_zero_or_pos s with h0 | h0
  · subst h0
    have e : findF 0 = (8, 9, true) := rfl
    rw [e]
    have hz0 : z = 0 := hz
    subst hz0
    clear hz
    go_enter Tryd.func38, Tryd.ntmps38
    go_wp2_with fail
    go_ret3
    exact ⟨rfl, rfl⟩
  · obtain ⟨hl1, hl9, hl2, hq, hl3⟩ := find_len s hs (by omega)
    have hlen := fun y w hz => len_any y s w hz (by omega)
    have hw : wrap64 (2 ^ (bitLen s - 1)) = ((2 ^ (bitLen s - 1) : Nat) : Int) := pow_n _ (by omega)
    have ef : findF s = if s = 2 ^ (bitLen s - 1) then (8, bitLen s - 1, true) else ((s - bitLen s - 1) / 40, (s - bitLen s - 1) % 40, decide (s - bitLen s - 1 < 320)) := by
      unfold findF
      rw [if_neg (by omega)]
    rw [ef]
    clear ef
    generalize bitLen s = L at *
    generalize 2 ^ (L - 1) = q at *
    have hz0 : 0 < z := by omega
    have hz1 : z < 512 := by omega
    subst hz
    by_cases he : s = q
    · rw [if_pos he]
      subst he
      go_enter Tryd.func38, Tryd.ntmps38
      go_wp2_with fail
      refine (hlen _ _ (by omega)).mono ?_
      rintro e w1 ⟨rfl, rfl⟩
      go_wp2_with fail
      go_ret3
      exact ⟨ret_tib (by rfl) (by omega) rfl, rfl⟩
    · rw [if_neg he]
      have hzq : ¬ (s : Int) = q := by omega
      have hl4 := hl3 he
      have e1 : (s : Int) - L - 1 = ((s - L - 1 : Nat) : Int) := by omega
      have hd := fun k b w => isData_any k b w
      have ht : ∀ n : Nat, n < 512 → dataB ((n : Int) / 40) ((n : Int) % 40) = decide (n < 320) := fun n hn => by
        unfold dataB
        rw [decide_eq_decide]
        omega
      have hb : s - L - 1 < 512 := by omega
      have HT := ht _ hb
      rw [← e1] at HT
      have HT2 := Lib.hid HT
      have hs0 : 0 ≤ (s : Int) - L - 1 := by omega
      clear ht HT hl3 hq hl2 he
      go_enter Tryd.func38, Tryd.ntmps38
      go_wp2_with fail
      refine (hlen _ _ (by omega)).mono ?_
      rintro e w1 ⟨rfl, rfl⟩
      clear e1
      go_wp2_with fail
      refine (hd _ _ _).mono ?_
      rintro e w1 ⟨rfl, rfl⟩
      go_wp2_with fail
      go_ret3
      exact ⟨ret_tib (by omega) (by omega) HT2.out, rfl⟩
end Go.Proofs.YthidababplamgaaDoor
