/-
  Plain facts on numerals and on texts that are parted at one byte.
-/
import Derived.Lib.AtoiAllCases
import Derived.Lib.ItoaLen
import Derived.Lib.IndexMore
import Derived.Lib.IndexLaws
namespace Go.Proofs.YtpojhplnhppcpaaGreatDoor
open Go
/-! ### numerals -/
theorem dec_small {u : Nat} (h : u < 10) : Lib.decDigits u = [UInt8.ofNat (48 + u)] := by rw [Lib.decDigits, dif_pos h]
theorem dec_big {u : Nat} (h : ¬ u < 10) : Lib.decDigits u = Lib.decDigits (u / 10) ++ [UInt8.ofNat (48 + u % 10)] := by rw [Lib.decDigits, dif_neg h]
theorem digit_nat {d : Nat} (h : d < 10) : (UInt8.ofNat (48 + d)).toNat = 48 + d := by
  rw [UInt8.toNat_ofNat']
  omega
theorem dec_digits (u : Nat) : ∀ c ∈ Lib.decDigits u, 48 ≤ c.toNat ∧ c.toNat ≤ 57 := by
  induction u using Nat.strongRecOn with
  | _ u ih =>
    intro c hc
    by_cases h : u < 10
    · rw [dec_small h] at hc
      simp only [List.mem_singleton] at hc
      rw [hc, digit_nat h]
      omega
    · rw [dec_big h, List.mem_append] at hc
      rcases hc with hc | hc
      · exact ih (u / 10) (by omega) c hc
      · simp only [List.mem_singleton] at hc
        rw [hc, digit_nat (Nat.mod_lt u (by omega))]
        omega
theorem dec_ne (u : Nat) : Lib.decDigits u ≠ [] := by
  by_cases h : u < 10
  · rw [dec_small h]; simp
  · rw [dec_big h]; simp
theorem uint_dec (u : Nat) : u < 18446744073709551616 → ∀ r, Lib.parseUint10 0 (Lib.decDigits u ++ r) = Lib.parseUint10 u r := by
  induction u using Nat.strongRecOn with
  | _ u ih =>
    intro hu r
    by_cases h : u < 10
    · rw [dec_small h, List.singleton_append, Lib.parseUint10, digit_nat h, if_pos (by omega), if_neg (by omega), if_neg (by omega)]
      congr 1
      omega
    · rw [dec_big h, List.append_assoc, ih (u / 10) (by omega) (by omega), List.singleton_append, Lib.parseUint10, digit_nat (Nat.mod_lt u (by omega)), if_pos (by omega), if_neg (by omega), if_neg (by omega)]
      congr 1
      omega
theorem mag_dec {u : Nat} (hu : u < 18446744073709551616) : Lib.parseMag (Lib.decDigits u) = .ok u := by
  unfold Lib.parseMag
  rw [if_neg (dec_ne u)]
  have := uint_dec u hu []
  rw [List.append_nil] at this
  rw [this]
  rfl
theorem itoa_pos {z : Int} (h : 0 ≤ z) : Lib.itoa z = Lib.decDigits z.toNat := by unfold Lib.itoa; rw [if_neg (by omega)]
theorem itoa_minus {z : Int} (h : z < 0) : Lib.itoa z = 45 :: Lib.decDigits z.natAbs := by unfold Lib.itoa; rw [if_pos h]
/-- What is printed is read. -/
theorem atoi_itoa {z : Int} (h0 : -9223372036854775808 ≤ z) (h1 : z ≤ 9223372036854775807) : Lib.atoiAll (Lib.itoa z) = .ok z := by
  by_cases h : z < 0
  · rw [itoa_minus h, Lib.atoiAll_minus, mag_dec (by omega)]
    show (if 9223372036854775808 < z.natAbs then _ else _) = _
    rw [if_neg (by omega)]
    congr 1
    omega
  · rw [itoa_pos (by omega)]
    obtain ⟨c, r, hcr⟩ : ∃ c r, Lib.decDigits z.toNat = c :: r := by
      cases hd : Lib.decDigits z.toNat with
      | nil => exact absurd hd (dec_ne _)
      | cons c r => exact ⟨c, r, rfl⟩
    have hc := dec_digits z.toNat c (by rw [hcr]; simp)
    rw [hcr, Lib.atoiAll_plain c r (by omega) (by omega), ← hcr, mag_dec (by omega)]
    show (if 9223372036854775808 ≤ z.toNat then _ else _) = _
    rw [if_neg (by omega)]
    congr 1
    omega
theorem itoa_byte {z : Int} {c : UInt8} (h : c ∈ Lib.itoa z) : c.toNat = 45 ∨ (48 ≤ c.toNat ∧ c.toNat ≤ 57) := by
  by_cases hz : z < 0
  · rw [itoa_minus hz, List.mem_cons] at h
    rcases h with rfl | h
    · exact .inl rfl
    · exact .inr (dec_digits _ c h)
  · rw [itoa_pos (by omega)] at h
    exact .inr (dec_digits _ c h)
theorem itoa_no32 (z : Int) : (32 : UInt8) ∉ Lib.itoa z := fun h => by
  have := itoa_byte h
  have e : (32 : UInt8).toNat = 32 := rfl
  omega
theorem nDigits_few : ∀ (k u : Nat), u < 10 ^ (k + 1) → Lib.nDigits u ≤ k + 1
  | 0, u, h => by rw [Lib.nDigits_small (by simpa using h)]; exact Nat.le_refl _
  | k + 1, u, h => by
    by_cases h1 : u < 10
    · rw [Lib.nDigits_small h1]; omega
    · rw [Lib.nDigits_big h1]
      have := nDigits_few k (u / 10) (by rw [Nat.pow_succ] at h; omega)
      omega
theorem itoa_len20 {z : Int} (h0 : -9223372036854775808 ≤ z) (h1 : z ≤ 9223372036854775807) : (Lib.itoa z).length ≤ 20 := by
  by_cases h : z < 0
  · rw [itoa_minus h, List.length_cons, Lib.decDigits_length]
    have := nDigits_few 18 z.natAbs (by omega)
    omega
  · rw [itoa_pos (by omega), Lib.decDigits_length]
    have := nDigits_few 18 z.toNat (by omega)
    omega
/-! ### the specification's reading of a number -/
/-- The digits' value, in a uint64. -/
def valN (s : List UInt8) : Nat := s.foldl (fun n c => if 48 ≤ c.toNat ∧ c.toNat ≤ 57 then (n * 10 + (c.toNat - 48)) % 18446744073709551616 else n) 0
theorem valN_snoc (s : List UInt8) (c : UInt8) : valN (s ++ [c]) = if 48 ≤ c.toNat ∧ c.toNat ≤ 57 then (valN s * 10 + (c.toNat - 48)) % 18446744073709551616 else valN s := by
  unfold valN
  rw [List.foldl_append]
  rfl
theorem valN_lt (s : List UInt8) : valN s < 18446744073709551616 := by
  have h : ∀ (s : List UInt8) (n : Nat), n < 18446744073709551616 → s.foldl (fun n c => if 48 ≤ c.toNat ∧ c.toNat ≤ 57 then (n * 10 + (c.toNat - 48)) % 18446744073709551616 else n) n < 18446744073709551616 := by
    intro s
    induction s with
    | nil => intro n h; exact h
    | cons c r ih =>
      intro n h
      rw [List.foldl_cons]
      refine ih _ ?_
      split
      · exact Nat.mod_lt _ (by decide)
      · exact h
  exact h s 0 (by decide)
theorem valN_dec (u : Nat) : u < 18446744073709551616 → valN (Lib.decDigits u) = u := by
  induction u using Nat.strongRecOn with
  | _ u ih =>
    intro hu
    by_cases h : u < 10
    · rw [dec_small h]
      show (if 48 ≤ (UInt8.ofNat (48 + u)).toNat ∧ (UInt8.ofNat (48 + u)).toNat ≤ 57 then (0 * 10 + ((UInt8.ofNat (48 + u)).toNat - 48)) % 18446744073709551616 else 0) = u
      rw [digit_nat h, if_pos (by omega)]
      omega
    · rw [dec_big h, valN_snoc, digit_nat (Nat.mod_lt u (by omega)), if_pos (by omega), ih (u / 10) (by omega) (by omega)]
      omega
theorem valN_minus (s : List UInt8) : valN (45 :: s) = valN s := by
  unfold valN
  rw [List.foldl_cons]
  rfl
/-- The int of a uint64. -/
def i64of (n : Nat) : Int := if n < 9223372036854775808 then (n : Int) else (n : Int) - 18446744073709551616
def numZ (s : List UInt8) : Int := if s.head? = some 45 then i64of ((18446744073709551616 - valN s) % 18446744073709551616) else i64of (valN s)
theorem i64of_I (n : Nat) (h : n < 18446744073709551616) : -9223372036854775808 ≤ i64of n ∧ i64of n ≤ 9223372036854775807 := by
  unfold i64of
  split <;> omega
theorem numZ_I (s : List UInt8) : -9223372036854775808 ≤ numZ s ∧ numZ s ≤ 9223372036854775807 := by
  unfold numZ
  split
  · exact i64of_I _ (Nat.mod_lt _ (by decide))
  · exact i64of_I _ (valN_lt s)
theorem numZ_itoa {z : Int} (h0 : -9223372036854775808 ≤ z) (h1 : z ≤ 9223372036854775807) : numZ (Lib.itoa z) = z := by
  by_cases h : z < 0
  · rw [itoa_minus h]
    unfold numZ
    rw [List.head?_cons, if_pos (rfl : some (45 : UInt8) = some 45), valN_minus, valN_dec _ (by omega)]
    unfold i64of
    split <;> omega
  · rw [itoa_pos (by omega)]
    have hh : (Lib.decDigits z.toNat).head? ≠ some 45 := fun e => by
      have := dec_digits z.toNat 45 (List.mem_of_head? e)
      have e : (45 : UInt8).toNat = 45 := rfl
      omega
    unfold numZ
    rw [if_neg hh, valN_dec _ (by omega)]
    unfold i64of
    split <;> omega
/-- The number whose numeral a text is. -/
def numR (s : List UInt8) : Option Int := if s.length ≤ 20 ∧ Lib.itoa (numZ s) = s then some (numZ s) else none
theorem numR_itoa {z : Int} (h0 : -9223372036854775808 ≤ z) (h1 : z ≤ 9223372036854775807) : numR (Lib.itoa z) = some z := by
  unfold numR
  rw [numZ_itoa h0 h1, if_pos ⟨itoa_len20 h0 h1, rfl⟩]
theorem numR_some {s : List UInt8} {z : Int} (h : numR s = some z) : s = Lib.itoa z ∧ -9223372036854775808 ≤ z ∧ z ≤ 9223372036854775807 := by
  unfold numR at h
  split at h
  · rename_i h1
    injection h with h
    subst h
    exact ⟨h1.2.symm, numZ_I s⟩
  · cases h
/-! ### texts parted at a byte -/
def splitF (c : UInt8) : List UInt8 → List UInt8 → List (List UInt8)
  | acc, [] => [acc]
  | acc, b :: r => if b = c then acc :: splitF c [] r else splitF c (acc ++ [b]) r
theorem splitF_ne (c : UInt8) : ∀ (s acc : List UInt8), splitF c acc s ≠ []
  | [], _ => by simp [splitF]
  | b :: r, acc => by
    unfold splitF
    split
    · simp
    · exact splitF_ne c r _
theorem splitF_no (c : UInt8) : ∀ (a acc r : List UInt8), c ∉ a → splitF c acc (a ++ c :: r) = (acc ++ a) :: splitF c [] r
  | [], acc, r, _ => by
    show (if c = c then _ else _) = _
    rw [if_pos rfl, List.append_nil]
  | b :: a, acc, r, h => by
    show (if b = c then acc :: splitF c [] (a ++ c :: r) else splitF c (acc ++ [b]) (a ++ c :: r)) = _
    rw [if_neg (fun e => h (by simp [e])), splitF_no c a _ r (fun e => h (by simp [e]))]
    simp
theorem splitF_end (c : UInt8) : ∀ (a acc : List UInt8), c ∉ a → splitF c acc a = [acc ++ a]
  | [], acc, _ => by simp [splitF]
  | b :: a, acc, h => by
    show (if b = c then _ else _) = _
    rw [if_neg (fun e => h (by simp [e])), splitF_end c a _ (fun e => h (by simp [e]))]
    simp
/-- The parts, with the byte between them. -/
def joinF (c : UInt8) : List (List UInt8) → List UInt8
  | [] => []
  | [a] => a
  | a :: b :: r => a ++ c :: joinF c (b :: r)
theorem join_cons (c : UInt8) (a : List UInt8) {r : List (List UInt8)} (h : r ≠ []) : joinF c (a :: r) = a ++ c :: joinF c r := by
  cases r with
  | nil => exact absurd rfl h
  | cons b r => rfl
theorem join_split (c : UInt8) : ∀ (s acc : List UInt8), joinF c (splitF c acc s) = acc ++ s
  | [], acc => by simp [splitF, joinF]
  | b :: r, acc => by
    unfold splitF
    split
    · rename_i h
      subst h
      rw [join_cons b acc (splitF_ne b r []), join_split b r []]
      simp
    · rw [join_split c r]
      simp
theorem cut_yes {a r : List UInt8} {c : UInt8} (h : c ∉ a) : Lib.cut (a ++ c :: r) [c] = (a, r, true) := by
  have hi : Lib.index (a ++ c :: r) [c] = (a.length : Int) := by
    refine Lib.index_first (by simp) ?_ fun j hj => ?_
    · unfold Lib.occAt
      rw [List.drop_append_of_le_length (Nat.le_refl _), List.drop_length]
      simp [List.isPrefixOf]
    · unfold Lib.occAt
      rw [List.drop_append_of_le_length (by omega), List.drop_eq_getElem_cons hj]
      have : c ≠ a[j] := fun e => h (by rw [e]; exact List.getElem_mem hj)
      show ((c == a[j]) && _) = false
      rw [beq_eq_false_iff_ne.2 this, Bool.false_and]
  unfold Lib.cut
  rw [hi, if_pos (by omega), Int.toNat_natCast, List.take_append_of_le_length (Nat.le_refl _), List.take_length]
  have : (a ++ c :: r).drop (a.length + [c].length) = r := by
    rw [List.length_singleton, List.drop_append]
    simp
  rw [this]
theorem cut_no {a : List UInt8} {c : UInt8} (h : c ∉ a) : Lib.cut a [c] = (a, [], false) := by
  have hi : Lib.index a [c] = -1 := by
    refine Lib.index_none fun j hj => ?_
    unfold Lib.occAt
    by_cases hj2 : j < a.length
    · rw [List.drop_eq_getElem_cons hj2]
      have : c ≠ a[j] := fun e => h (by rw [e]; exact List.getElem_mem hj2)
      show ((c == a[j]) && _) = false
      rw [beq_eq_false_iff_ne.2 this, Bool.false_and]
    · rw [List.drop_eq_nil_of_le (by omega)]
      rfl
  unfold Lib.cut
  rw [hi, if_neg (by omega)]
end Go.Proofs.YtpojhplnhppcpaaGreatDoor
