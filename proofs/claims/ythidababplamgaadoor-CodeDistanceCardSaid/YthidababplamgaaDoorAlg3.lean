/- Two clean lines are far from each other; the code of their exclusive or. -/
import Derived.Test.YthidababplamgaaDoorAlg2
namespace Go.Proofs.YthidababplamgaaDoor
open Go.RowKit
theorem xor4 (a b c d : Nat) : (a ^^^ b) ^^^ (c ^^^ d) = (a ^^^ c) ^^^ (b ^^^ d) := by
  rw [Nat.xor_assoc, ← Nat.xor_assoc b c d, Nat.xor_comm b c, Nat.xor_assoc c b d, ← Nat.xor_assoc]
theorem synL_xorL : ∀ (x y : List Nat) (k : Nat), x.length = y.length → synL k (xorL x y) = synL k x ^^^ synL k y := by
  intro x
  induction x with
  | nil =>
    intro y k h
    have : y = [] := List.eq_nil_of_length_eq_zero (by simpa using h.symm)
    subst this
    simp [xorL, synL]
  | cons n x ih =>
    intro y k h
    cases y with
    | nil => simp at h
    | cons m y =>
      show synW k (n ^^^ m) 40 ^^^ synL (k + 1) (xorL x y) = (synW k n 40 ^^^ synL (k + 1) x) ^^^ (synW k m 40 ^^^ synL (k + 1) y)
      rw [ih y (k + 1) (by simpa using h), synW_xor, xor4]
theorem popW_xor (n m : Nat) : ∀ b, popW (n ^^^ m) b % 2 = (popW n b + popW m b) % 2 := by
  intro b
  induction b with
  | zero => rfl
  | succ b ih =>
    unfold popW
    rw [Nat.testBit_xor]
    cases n.testBit b <;> cases m.testBit b <;> simp <;> omega
theorem popL_xorL : ∀ (x y : List Nat), x.length = y.length → popL (xorL x y) % 2 = (popL x + popL y) % 2 := by
  intro x
  induction x with
  | nil =>
    intro y h
    have : y = [] := List.eq_nil_of_length_eq_zero (by simpa using h.symm)
    subst this
    rfl
  | cons n x ih =>
    intro y h
    cases y with
    | nil => simp at h
    | cons m y =>
      have h1 := ih y (by simpa using h)
      have h2 := popW_xor n m 40
      show (popW (n ^^^ m) 40 + popL (xorL x y)) % 2 = ((popW n 40 + popL x) + (popW m 40 + popL y)) % 2
      omega
theorem xorL_zero : ∀ (x y : List Nat), x.length = y.length → (∀ n ∈ xorL x y, n = 0) → x = y := by
  intro x
  induction x with
  | nil => intro y h _; exact (List.eq_nil_of_length_eq_zero (by simpa using h.symm)).symm
  | cons n x ih =>
    intro y h hz
    cases y with
    | nil => simp at h
    | cons m y =>
      have e : xorL (n :: x) (m :: y) = (n ^^^ m) :: xorL x y := rfl
      rw [e] at hz
      have h1 := (xor_zero_iff n m).1 (hz _ (by simp))
      have h2 := ih y (by simpa using h) fun q hq => hz q (by simp [hq])
      rw [h1, h2]
theorem enc_xor {vs us : List Nat} (h8 : vs.length = 8) (h8' : us.length = 8) (hv : ∀ x ∈ vs, x < 1099511627776) (hu : ∀ x ∈ us, x < 1099511627776) :
    encN (xorL vs us) = encN vs ^^^ encN us := by
  have c1 := encN_clean h8 hv
  have c2 := encN_clean h8' hu
  have l1 := encN_lt h8 hv
  have l2 := encN_lt h8' hu
  have hl : (encN vs ^^^ encN us) < 1024 := Nat.xor_lt_two_pow (n := 10) l1 l2
  refine ((clean_iff (by rw [xorL_len vs us (by omega), h8]) (xorL_lt (by omega) hv hu) hl).1 ⟨?_, ?_⟩).symm
  · unfold synT
    rw [← xorL_app vs us _ _ (by omega), synL_xorL _ _ 0 (by simp; omega)]
    have e1 : synL 0 (vs ++ [encN vs]) = 0 := c1.1
    have e2 : synL 0 (us ++ [encN us]) = 0 := c2.1
    rw [e1, e2]
    rfl
  · rw [popT_xor vs us _ _ (by omega), popL_xorL _ _ (by simp; omega)]
    have e1 : popL (vs ++ [encN vs]) % 2 = 0 := c1.2
    have e2 : popL (us ++ [encN us]) % 2 = 0 := c2.2
    omega
theorem dist_far {vs us : List Nat} (h8 : vs.length = 8) (h8' : us.length = 8) (hv : ∀ x ∈ vs, x < 1099511627776) (hu : ∀ x ∈ us, x < 1099511627776) :
    ∃ n : Nat, distZ (ci vs) ((encN vs : Nat) : Int) (ci us) ((encN us : Nat) : Int) = (n : Int) ∧ ((n = 0 ∧ vs = us) ∨ 4 ≤ n) := by
  have l1 := encN_lt h8 hv
  have l2 := encN_lt h8' hu
  have hl : (encN vs ^^^ encN us) < 1024 := Nat.xor_lt_two_pow (n := 10) l1 l2
  have hx := xorL_lt (by omega) hv hu
  have hlx : (xorL vs us).length = 8 := by rw [xorL_len vs us (by omega), h8]
  refine ⟨_, distZ_ci hv hu l1 l2 (by omega), ?_⟩
  have hn := nine_of hlx hx hl
  rw [← enc_xor h8 h8' hv hu] at hn hl
  have c3 := encN_clean hlx hx
  rw [xorL_app vs us _ _ (by omega), ← enc_xor h8 h8' hv hu]
  rcases hn.far c3.1 c3.2 with h0 | h4
  · left
    refine ⟨h0, ?_⟩
    exact xorL_zero vs us (by omega) fun n h => all_zero _ h0 hn.small n (List.mem_append_left _ h)
  · exact .inr h4
/-- The exclusive or, filled into a line of zeros. -/
def fil (vs us : List Nat) : Nat → List Nat
  | 0 => [0, 0, 0, 0, 0, 0, 0, 0]
  | k + 1 => (fil vs us k).set k (vs.getD k 0 ^^^ us.getD k 0)
theorem fil_len (vs us : List Nat) : ∀ k, (fil vs us k).length = 8 := by
  intro k
  induction k with
  | zero => rfl
  | succ k ih => unfold fil; rw [List.length_set, ih]
theorem fil_get (vs us : List Nat) : ∀ k j, j < 8 → j < k → (fil vs us k).getD j 0 = vs.getD j 0 ^^^ us.getD j 0 := by
  intro k
  induction k with
  | zero => intro j _ h; omega
  | succ k ih =>
    intro j hj hjk
    unfold fil
    rw [List.getD_eq_getElem?_getD, List.getElem?_set]
    by_cases h : k = j
    · subst h
      rw [if_pos rfl, fil_len, if_pos hj]
      rfl
    · rw [if_neg h, ← List.getD_eq_getElem?_getD, ih j hj (by omega)]
theorem fil_all (vs us : List Nat) (h8 : vs.length = 8) (h8' : us.length = 8) : fil vs us 8 = xorL vs us := by
  refine List.ext_getElem (by rw [fil_len, xorL_len vs us (by omega), h8]) fun j h1 h2 => ?_
  have hj : j < 8 := by rw [fil_len] at h1; exact h1
  have e1 := fil_get vs us 8 j hj hj
  rw [← xorL_get vs us (by omega) j (by omega)] at e1
  rw [List.getD_eq_getElem?_getD, List.getD_eq_getElem?_getD, List.getElem?_eq_getElem h1, List.getElem?_eq_getElem h2] at e1
  exact e1
end Go.Proofs.YthidababplamgaaDoor
