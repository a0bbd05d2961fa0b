/- The check's arithmetic, second part: exclusive or of messages, bursts, squares. -/
import Derived.Test.YtkineafacekklaaDoorCrc
namespace Go.Proofs.YtkineafacekklaaDoor
/-- Bytewise exclusive or with the length of the first (missing bytes are 0). -/
def xorL : List UInt8 → List UInt8 → List UInt8
  | [], _ => []
  | c :: l, [] => c :: xorL l []
  | c :: l, d :: m => (c ^^^ d) :: xorL l m
theorem xorL_length (a b : List UInt8) : (xorL a b).length = a.length := by
  induction a generalizing b with
  | nil => rfl
  | cons c l ih => cases b <;> simp [xorL, ih]
theorem u8_xor (c d : UInt8) : (c ^^^ d).toNat = c.toNat ^^^ d.toNat := UInt8.toNat_xor c d
theorem nextB_xor (r s c d : Nat) : nextB (r ^^^ s) (c ^^^ d) = nextB r c ^^^ nextB s d := by
  unfold nextB
  have h : (c ^^^ d) * 4294967296 = c * 4294967296 ^^^ d * 4294967296 := lin_mul 32 c d
  rw [← lin_It, h, xor4]
theorem run_xorL (a b : List UInt8) (h : b.length = a.length) : ∀ r s, run (r ^^^ s) (xorL a b) = run r a ^^^ run s b := by
  induction a generalizing b with
  | nil =>
    intro r s
    have : b = [] := List.eq_nil_of_length_eq_zero h
    subst this
    rfl
  | cons c l ih =>
    intro r s
    cases b with
    | nil => simp at h
    | cons d m =>
      show run (nextB (r ^^^ s) (c ^^^ d).toNat) (xorL l m) = _
      rw [u8_xor, nextB_xor, ih m (by simpa using h)]
      rfl
theorem crc_xor3 (a y z : List UInt8) (hy : y.length = a.length) (hz : z.length = a.length) : crc (xorL (xorL a y) z) = crc a ^^^ crc y ^^^ crc z := by
  unfold crc
  have h := run_xorL (xorL a y) z (by rw [xorL_length, hz]) (MASK ^^^ MASK) MASK
  rw [run_xorL a y hy, show MASK ^^^ MASK ^^^ MASK = MASK from by decide] at h
  rw [h]
  generalize run MASK a = x
  generalize run MASK y = u
  generalize run MASK z = v
  rw [xor4 x MASK u MASK, Nat.xor_self, Nat.xor_zero, Nat.xor_assoc]
/-- A message with one bit inverted. -/
theorem run_flip (l : List UInt8) (i : Nat) (hi : i < l.length) (m : UInt8) (r : Nat) : run r (l.set i (l[i] ^^^ m)) = run r l ^^^ It (8 * (l.length - i)) (m.toNat * 4294967296) := by
  induction l generalizing i r with
  | nil => simp at hi
  | cons c l ih =>
    cases i with
    | zero =>
      show run r ((c ^^^ m) :: l) = _
      rw [run_cons, run_cons, u8_xor]
      have e : nextB r (c.toNat ^^^ m.toNat) = It 8 (m.toNat * 4294967296) ^^^ nextB r c.toNat := by
        unfold nextB
        have h : (c.toNat ^^^ m.toNat) * 4294967296 = c.toNat * 4294967296 ^^^ m.toNat * 4294967296 := lin_mul 32 _ _
        rw [h, ← Nat.xor_assoc, lin_It, Nat.xor_comm]
      rw [e, run_lin, ← It_add, List.length_cons, show 8 * l.length + 8 = 8 * (l.length + 1 - 0) by omega, Nat.xor_comm]
    | succ i =>
      have hi' : i < l.length := by simpa using hi
      show run r (c :: l.set i (l[i] ^^^ m)) = _
      rw [run_cons, run_cons, ih i hi', List.length_cons, show l.length + 1 - (i + 1) = l.length - i by omega]
def bitB (j : Nat) : UInt8 := UInt8.ofNat (2 ^ (7 - j))
theorem It_bit (j : Nat) (hj : j < 8) : It j (2 ^ (39 - j)) = 549755813888 := by
  have h : ∀ j, j < 8 → It j (2 ^ (39 - j)) = 549755813888 := by decide
  exact h j hj
theorem It_bit40 (j : Nat) (hj : j < 40) : It j (2 ^ (39 - j)) = 549755813888 := by
  have h : ∀ j, j < 40 → It j (2 ^ (39 - j)) = 549755813888 := by decide +kernel
  exact h j hj
theorem bitB_nat (j : Nat) (hj : j < 8) : (bitB j).toNat * 4294967296 = 2 ^ (39 - j) := by
  have h : ∀ j, j < 8 → (bitB j).toNat * 4294967296 = 2 ^ (39 - j) := by decide
  exact h j hj
/-- Bit n of a message (counted from its first one) is inverted. -/
def flip (l : List UInt8) (n : Nat) : List UInt8 := l.set (n / 8) (l.getD (n / 8) 0 ^^^ bitB (n % 8))
theorem flip_length (l : List UInt8) (n : Nat) : (flip l n).length = l.length := by simp [flip]
theorem run_flipN (l : List UInt8) (n : Nat) (hn : n < 8 * l.length) (r : Nat) : run r (flip l n) = run r l ^^^ It (8 * l.length - n) 549755813888 := by
  unfold flip
  have hi : n / 8 < l.length := by omega
  rw [show l.getD (n / 8) 0 = l[n / 8] by simp [List.getD, hi], run_flip l _ hi, bitB_nat _ (Nat.mod_lt _ (by decide))]
  rw [show 8 * (l.length - n / 8) = (8 * l.length - n) + n % 8 by omega, It_add, It_bit _ (Nat.mod_lt _ (by decide))]
/-- The first k bits of the pattern, inverted in l from bit f on. -/
def flips (pat f : Nat) (l : List UInt8) : Nat → List UInt8
  | 0 => l
  | k + 1 => if pat / 2 ^ k % 2 = 1 then flip (flips pat f l k) (f + k) else flips pat f l k
theorem flips_length (pat f : Nat) (l : List UInt8) (k : Nat) : (flips pat f l k).length = l.length := by
  induction k with
  | zero => rfl
  | succ k ih => unfold flips; split <;> simp [flip_length, ih]
def somes (pat : Nat) : Nat → Bool
  | 0 => false
  | k + 1 => if pat / 2 ^ k % 2 = 1 then true else somes pat k
/-- The pattern, reversed. -/
def rev (pat : Nat) : Nat → Nat
  | 0 => 0
  | k + 1 => if pat / 2 ^ k % 2 = 1 then rev pat k ^^^ 2 ^ (39 - k) else rev pat k
theorem rev_low (pat k : Nat) (hk : k ≤ 40) : ∃ m, rev pat k = m * 2 ^ (40 - k) ∧ m < 2 ^ k := by
  induction k with
  | zero => exact ⟨0, by simp [rev], by decide⟩
  | succ k ih =>
    obtain ⟨m, hm, hl⟩ := ih (by omega)
    have e : 2 ^ (40 - k) = 2 * 2 ^ (40 - (k + 1)) := by rw [show 40 - k = 40 - (k + 1) + 1 by omega, Nat.pow_succ, Nat.mul_comm]
    have hm2 : rev pat k = (m * 2) * 2 ^ (40 - (k + 1)) := by rw [hm, e, Nat.mul_assoc]
    unfold rev
    split
    · refine ⟨(m * 2) ^^^ 1, ?_, ?_⟩
      · rw [hm2, show 39 - k = 40 - (k + 1) by omega]
        have := lin_mul (40 - (k + 1)) (m * 2) 1
        simp only [Nat.one_mul] at this
        exact this.symm
      · exact Nat.xor_lt_two_pow (by rw [Nat.pow_succ]; omega) (by rw [Nat.pow_succ]; have := Nat.one_le_two_pow (n := k); omega)
    · exact ⟨m * 2, hm2, by rw [Nat.pow_succ]; omega⟩
theorem rev_lt (pat k : Nat) (hk : k ≤ 40) : rev pat k < 1099511627776 := by
  obtain ⟨m, hm, hl⟩ := rev_low pat k hk
  rw [hm]
  calc m * 2 ^ (40 - k) < 2 ^ k * 2 ^ (40 - k) := Nat.mul_lt_mul_of_pos_right hl (Nat.two_pow_pos _)
    _ = 2 ^ 40 := by rw [← Nat.pow_add]; congr 1; omega
theorem rev_zero (pat k : Nat) (hk : k ≤ 40) : rev pat k = 0 ↔ somes pat k = false := by
  induction k with
  | zero => simp [rev, somes]
  | succ k ih =>
    unfold rev somes
    split
    · refine ⟨fun h => ?_, fun h => by cases h⟩
      obtain ⟨m, hm, _⟩ := rev_low pat k (by omega)
      have h2 : rev pat k = 2 ^ (39 - k) := by
        have h3 := congrArg (· ^^^ 2 ^ (39 - k)) h
        simp only [xor_back, Nat.zero_xor] at h3
        exact h3
      rw [hm, show 40 - k = 39 - k + 1 by omega, Nat.pow_succ] at h2
      have hp := Nat.two_pow_pos (39 - k)
      generalize 2 ^ (39 - k) = t at h2 hp
      rcases m with _ | m
      · omega
      · have : t * 2 ≤ (m + 1) * (t * 2) := Nat.le_mul_of_pos_left _ (by omega)
        omega
    · exact ih (by omega)
theorem run_flips (pat f : Nat) (l : List UInt8) (r k : Nat) (hk : k ≤ 40) (hf : f + k ≤ 8 * l.length) : run r (flips pat f l k) = run r l ^^^ It (8 * l.length - f) (rev pat k) := by
  induction k with
  | zero => simp [flips, rev, lin_zero (lin_It _)]
  | succ k ih =>
    have ih := ih (by omega) (by omega)
    unfold flips rev
    split
    · rw [run_flipN _ _ (by rw [flips_length]; omega), ih, flips_length, lin_It, Nat.xor_assoc]
      congr 2
      rw [show 8 * l.length - f = 8 * l.length - (f + k) + k by omega, It_add, It_bit40 k (by omega)]
    · exact ih
theorem xor_eq_self (a b : Nat) : a = a ^^^ b ↔ b = 0 := by
  constructor
  · intro h
    have h2 := congrArg (a ^^^ ·) h
    simp only [Nat.xor_self, ← Nat.xor_assoc, Nat.zero_xor] at h2
    exact h2.symm
  · intro h; rw [h, Nat.xor_zero]
theorem xor_right_inj (a b c : Nat) : a ^^^ c = b ^^^ c ↔ a = b := by
  constructor
  · intro h
    have h2 := congrArg (· ^^^ c) h
    simpa only [xor_back] using h2
  · intro h; rw [h]
theorem crc_flips (pat f : Nat) (l : List UInt8) (k : Nat) (hk : k ≤ 40) (hf : f + k ≤ 8 * l.length) : crc l = crc (flips pat f l k) ↔ somes pat k = false := by
  unfold crc
  rw [xor_right_inj, run_flips pat f l MASK k hk hf, xor_eq_self, ← rev_zero pat k hk]
  exact ⟨fun h => It_inj0 (rev_lt pat k hk) h, fun h => by rw [h]; exact lin_zero (lin_It _)⟩
/-- Squares: the loop of Join. -/
def jl (a e : Nat) (n : Nat) : Nat := It (e * n) a
theorem jl_odd (a e n : Nat) (h : n % 2 = 1) (ha : a < 1099511627776) : jl (mulP a (It e 1)) (e + e) (n / 2) = jl a e n := by
  unfold jl
  rw [mul_It ha, ← It_add]
  congr 1
  have h2 : n = 2 * (n / 2) + 1 := by omega
  generalize n / 2 = m at h2
  subst h2
  rw [Nat.mul_add, Nat.add_mul, ← Nat.mul_assoc, Nat.mul_comm e 2, Nat.mul_assoc]
  omega
theorem jl_even (a e n : Nat) (h : n % 2 ≠ 1) : jl a (e + e) (n / 2) = jl a e n := by
  unfold jl
  congr 1
  have h2 : n = 2 * (n / 2) := by omega
  generalize n / 2 = m at h2
  subst h2
  rw [Nat.add_mul, ← Nat.mul_assoc, Nat.mul_comm e 2, Nat.mul_assoc]
  omega
theorem pow_sq (e : Nat) : mulP (It e 1) (It e 1) = It (e + e) 1 := by rw [mul_It (It_lt (by decide)), ← It_add]
theorem mulP_lt {p q : Nat} (hp : p < 1099511627776) : mulP p q < 1099511627776 := by
  have h : ∀ k, hor p q k < 1099511627776 := by
    intro k
    cases k with
    | zero => exact (by decide : 0 < 1099511627776)
    | succ k => exact xor_lt (S_lt _) (by split <;> first | exact hp | decide)
  exact h 40
end Go.Proofs.YtkineafacekklaaDoor
