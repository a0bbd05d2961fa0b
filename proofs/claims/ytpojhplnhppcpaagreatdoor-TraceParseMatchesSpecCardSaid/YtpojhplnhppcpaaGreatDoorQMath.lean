/-
  The code of lines in plain numbers: positions, syndromes, counts of bits. How the standard library counts the bits of a number, in plain numbers. Words for lines in memory: blocks of eight cells, read and written whole, over the translated program. What bits.Len does with a small number.
-/
import Derived.Laws.MathBits
import Derived.Laws.BitsAllLaws
import Derived.Laws.Bits64
import Derived.Test.YtpojhplnhppcpaaGreatDoorProg
import Derived.WalkKit
import Derived.WalkSpells
import Derived.Lib.Hide
import Derived.Deep.MidRow
import Derived.Deep.WholeRow
import Derived.OneCell
import Derived.Laws.Bits64b
import Derived.BigQuiet
import Derived.Deep.QuietTactic
import Derived.Laws.Tables
import Derived.Lib.BitFns
namespace Go.Proofs.YtpojhplnhppcpaaGreatDoor
/-- The position of the data bit number i. -/
def posn (i : Nat) : Nat := i + 1 + bitLen (i + 1 + bitLen (i + 1))
/-- The position of a bit: of a word, or of the code as the word 8. -/
def psn (k b : Nat) : Nat := if k < 8 then posn (40 * k + b) else if b < 9 then 2 ^ b else 0
def okBit (k b : Nat) : Bool := (decide (k < 8) && decide (b < 40)) || (decide (k = 8) && decide (b < 10))
/-- The exclusive or of the positions of the first bits of a word that are 1. -/
def synW (k n : Nat) : Nat → Nat
  | 0 => 0
  | b + 1 => synW k n b ^^^ (if n.testBit b then psn k b else 0)
def synL (k : Nat) : List Nat → Nat
  | [] => 0
  | n :: r => synW k n 40 ^^^ synL (k + 1) r
/-- How many of the first bits are 1. -/
def popW (n : Nat) : Nat → Nat
  | 0 => 0
  | b + 1 => popW n b + (if n.testBit b then 1 else 0)
def popL : List Nat → Nat
  | [] => 0
  | n :: r => popW n 40 + popL r
def synT (ws : List Nat) (c : Nat) : Nat := synL 0 (ws ++ [c])
def popT (ws : List Nat) (c : Nat) : Nat := popL (ws ++ [c])
def encN (ws : List Nat) : Nat := synT ws 0 + 512 * (popT ws (synT ws 0) % 2)
def findF (s : Nat) : Nat × Nat × Bool :=
  if s = 0 then (8, 9, true) else if s = 2 ^ (bitLen s - 1) then (8, bitLen s - 1, true) else ((s - bitLen s - 1) / 40, (s - bitLen s - 1) % 40, decide (s - bitLen s - 1 < 320))
/-- State, word and bit out of syndrome and parity. -/
def chkF (s p : Nat) : Nat × Nat × Nat :=
  if s = 0 ∧ p = 0 then (0, 0, 0) else if p = 0 then (2, 0, 0) else if (findF s).2.2 then (1, (findF s).1, (findF s).2.1) else (2, 0, 0)
theorem find_psn {k b : Nat} (h : okBit k b = true) : findF (psn k b) = (k, b, true) := by
  have all : ∀ k : Fin 9, ∀ b : Fin 40, okBit k b = true → findF (psn k b) = (k.val, b.val, true) := by decide +kernel
  have hk : k < 9 := by unfold okBit at h; simp at h; omega
  have hb : b < 40 := by unfold okBit at h; simp at h; omega
  exact all ⟨k, hk⟩ ⟨b, hb⟩ h
theorem psn_find {s : Nat} (hs : s < 512) (h : (findF s).2.2 = true) : okBit (findF s).1 (findF s).2.1 = true ∧ psn (findF s).1 (findF s).2.1 = s := by
  have all : ∀ s : Fin 512, (findF s).2.2 = true → okBit (findF s).1 (findF s).2.1 = true ∧ psn (findF s).1 (findF s).2.1 = s := by decide +kernel
  exact all ⟨s, hs⟩ h
theorem psn_lt {k b : Nat} (h : okBit k b = true) : psn k b < 512 := by
  have all : ∀ k : Fin 9, ∀ b : Fin 40, okBit k b = true → psn k b < 512 := by decide +kernel
  have hk : k < 9 := by unfold okBit at h; simp at h; omega
  have hb : b < 40 := by unfold okBit at h; simp at h; omega
  exact all ⟨k, hk⟩ ⟨b, hb⟩ h
theorem psn_inj {k b k' b' : Nat} (h : okBit k b = true) (h' : okBit k' b' = true) (he : psn k b = psn k' b') : k = k' ∧ b = b' := by
  have h1 := find_psn h
  rw [he, find_psn h'] at h1
  simp only [Prod.mk.injEq] at h1
  exact ⟨h1.1.symm, h1.2.1.symm⟩
theorem synW_xor (k n m : Nat) : ∀ b, synW k (n ^^^ m) b = synW k n b ^^^ synW k m b := by
  intro b
  induction b with
  | zero => simp [synW]
  | succ b ih =>
    unfold synW
    rw [ih, Nat.testBit_xor]
    have h1 : ∀ a b c d : Nat, (a ^^^ b) ^^^ (c ^^^ d) = (a ^^^ c) ^^^ (b ^^^ d) := fun a b c d => by
      rw [Nat.xor_assoc, ← Nat.xor_assoc b c d, Nat.xor_comm b c, Nat.xor_assoc c b d, ← Nat.xor_assoc]
    rw [← h1]
    congr 1
    cases n.testBit b <;> cases m.testBit b <;> simp
theorem synW_pow (k b : Nat) : ∀ m, synW k (2 ^ b) m = if b < m then psn k b else 0 := by
  intro m
  induction m with
  | zero => simp [synW]
  | succ m ih =>
    unfold synW
    rw [ih, Nat.testBit_two_pow]
    by_cases h : b = m
    · subst h
      simp
    · by_cases h2 : b < m
      · rw [if_pos h2, if_pos (show b < m + 1 by omega)]
        simp [h]
      · rw [if_neg h2, if_neg (show ¬ b < m + 1 by omega)]
        simp [h]
theorem synW_zero (k : Nat) : ∀ b, synW k 0 b = 0 := by
  intro b
  induction b with
  | zero => rfl
  | succ b ih => unfold synW; rw [ih]; simp
theorem popW_flip (n b : Nat) : ∀ m, popW (n ^^^ 2 ^ b) m = if b < m then (if n.testBit b then popW n m - 1 else popW n m + 1) else popW n m := by
  intro m
  induction m with
  | zero => simp [popW]
  | succ m ih =>
    unfold popW
    rw [ih, Nat.testBit_xor, Nat.testBit_two_pow]
    by_cases h : b = m
    · subst h
      rw [if_neg (Nat.lt_irrefl _), if_pos (Nat.lt_succ_self _)]
      cases n.testBit b <;> simp
    · by_cases h2 : b < m
      · rw [if_pos h2, if_pos (show b < m + 1 by omega)]
        have hd : decide (b = m) = false := by simp [h]
        rw [hd, Bool.xor_false]
        have : n.testBit b = true → 1 ≤ popW n m := by
          intro hb
          clear ih
          induction m with
          | zero => omega
          | succ m ih2 =>
            unfold popW
            by_cases h3 : b = m
            · subst h3; rw [if_pos hb]; omega
            · have := ih2 h3 (by omega) (by simp [h3])
              omega
        split
        · rename_i hb
          have := this hb
          omega
        · omega
      · rw [if_neg h2, if_neg (show ¬ b < m + 1 by omega)]
        simp [h]
theorem popW_pos {n b m : Nat} (hb : b < m) (h : n.testBit b = true) : 1 ≤ popW n m := by
  induction m with
  | zero => omega
  | succ m ih =>
    unfold popW
    by_cases h3 : b = m
    · subst h3; rw [if_pos h]; omega
    · have := ih (by omega)
      omega
theorem popW_zero (b : Nat) : popW 0 b = 0 := by
  induction b with
  | zero => rfl
  | succ b ih => unfold popW; rw [ih]; simp
theorem popW_some {n m : Nat} (h : popW n m ≠ 0) : ∃ b, b < m ∧ n.testBit b = true := by
  induction m with
  | zero => exact absurd rfl h
  | succ m ih =>
    by_cases hm : n.testBit m = true
    · exact ⟨m, by omega, hm⟩
    · unfold popW at h
      rw [if_neg hm] at h
      obtain ⟨b, hb, h2⟩ := ih h
      exact ⟨b, by omega, h2⟩
theorem zero_of_pop {n m : Nat} (hn : n < 2 ^ m) (h : popW n m = 0) : n = 0 := by
  refine Nat.eq_of_testBit_eq fun i => ?_
  rw [Nat.zero_testBit]
  by_cases hi : i < m
  · cases hb : n.testBit i with
    | false => rfl
    | true => have := popW_pos hi hb; omega
  · exact Nat.testBit_lt_two_pow (Nat.lt_of_lt_of_le hn (Nat.pow_le_pow_right (by decide) (by omega)))
theorem synL_append (l r : List Nat) : ∀ k, synL k (l ++ r) = synL k l ^^^ synL (k + l.length) r := by
  induction l with
  | nil => intro k; simp [synL]
  | cons n l ih =>
    intro k
    show synW k n 40 ^^^ synL (k + 1) (l ++ r) = (synW k n 40 ^^^ synL (k + 1) l) ^^^ synL (k + (l.length + 1)) r
    rw [ih, Nat.xor_assoc, Nat.add_assoc, Nat.add_comm 1]
theorem popL_append (l r : List Nat) : popL (l ++ r) = popL l + popL r := by
  induction l with
  | nil => simp [popL]
  | cons n l ih => simp only [List.cons_append, popL, ih]; omega
/-- One bit is inverted. -/
def flp (x : List Nat) (k b : Nat) : List Nat := x.set k (x.getD k 0 ^^^ 2 ^ b)
theorem flp_len (x : List Nat) (k b : Nat) : (flp x k b).length = x.length := by simp [flp]
theorem flp_get (x : List Nat) (k b j : Nat) (hk : k < x.length) : (flp x k b).getD j 0 = if j = k then x.getD k 0 ^^^ 2 ^ b else x.getD j 0 := by
  unfold flp
  rw [List.getD_eq_getElem?_getD, List.getElem?_set]
  split
  · rename_i h; subst h; simp [hk]
  · rename_i h; rw [if_neg (fun e => h e.symm)]; simp
theorem flp_flp (x : List Nat) (k b : Nat) : flp (flp x k b) k b = x := by
  by_cases hk : k < x.length
  · refine List.ext_getElem (by simp [flp]) fun j h1 h2 => ?_
    unfold flp
    simp only [List.getElem_set, List.getD_eq_getElem?_getD, List.getElem?_set]
    split
    · rename_i h; subst h; simp [hk, Nat.xor_assoc]
    · rfl
  · unfold flp
    rw [List.set_eq_of_length_le (by simp; omega), List.set_eq_of_length_le (by omega)]
theorem synL_flp (b : Nat) (hb : b < 40) : ∀ (x : List Nat) (j k : Nat), k < x.length → synL j (flp x k b) = synL j x ^^^ psn (j + k) b := by
  intro x
  induction x with
  | nil => intro j k hk; simp at hk
  | cons n x ih =>
    intro j k hk
    cases k with
    | zero =>
      show synW j (n ^^^ 2 ^ b) 40 ^^^ synL (j + 1) x = (synW j n 40 ^^^ synL (j + 1) x) ^^^ psn j b
      rw [synW_xor, synW_pow, if_pos hb, Nat.xor_assoc, Nat.xor_assoc, Nat.xor_comm (psn j b)]
    | succ k =>
      have := ih (j + 1) k (by simpa using hk)
      show synW j n 40 ^^^ synL (j + 1) (flp x k b) = (synW j n 40 ^^^ synL (j + 1) x) ^^^ psn (j + (k + 1)) b
      rw [this, Nat.xor_assoc, Nat.add_assoc, Nat.add_comm 1]
theorem popL_flp (b : Nat) (hb : b < 40) : ∀ (x : List Nat) (k : Nat), k < x.length → popL (flp x k b) = if (x.getD k 0).testBit b then popL x - 1 else popL x + 1 := by
  intro x
  induction x with
  | nil => intro k hk; simp at hk
  | cons n x ih =>
    intro k hk
    cases k with
    | zero =>
      show popW (n ^^^ 2 ^ b) 40 + popL x = if n.testBit b then popW n 40 + popL x - 1 else popW n 40 + popL x + 1
      rw [popW_flip, if_pos hb]
      split
      · rename_i h
        have := popW_pos hb h
        omega
      · omega
    | succ k =>
      have h1 := ih k (by simpa using hk)
      show popW n 40 + popL (flp x k b) = if (x.getD k 0).testBit b then popW n 40 + popL x - 1 else popW n 40 + popL x + 1
      rw [h1]
      split
      · rename_i h
        have h2 : 1 ≤ popL x := by
          clear h1 ih
          induction x generalizing k with
          | nil => simp at hk
          | cons m x ih2 =>
            cases k with
            | zero => have := popW_pos (n := m) (m := 40) hb h; simp only [popL]; omega
            | succ k => have := ih2 k (by simpa using hk) h; simp only [popL]; omega
        omega
      · omega
theorem popL_pos {b : Nat} (hb : b < 40) : ∀ (x : List Nat) (k : Nat), (x.getD k 0).testBit b = true → 1 ≤ popL x := by
  intro x
  induction x with
  | nil => intro k h; simp at h
  | cons n x ih =>
    intro k h
    cases k with
    | zero => have := popW_pos (n := n) (m := 40) hb h; simp only [popL]; omega
    | succ k => have := ih k h; simp only [popL]; omega
theorem popL_some : ∀ (x : List Nat), popL x ≠ 0 → ∃ k b, k < x.length ∧ b < 40 ∧ (x.getD k 0).testBit b = true := by
  intro x
  induction x with
  | nil => intro h; exact absurd rfl h
  | cons n x ih =>
    intro h
    by_cases h1 : popW n 40 = 0
    · have h2 : popL x ≠ 0 := by intro e; apply h; simp [popL, h1, e]
      obtain ⟨k, b, hk, hb, ht⟩ := ih h2
      exact ⟨k + 1, b, by simpa using hk, hb, ht⟩
    · obtain ⟨b, hb, ht⟩ := popW_some h1
      exact ⟨0, b, by simp, hb, ht⟩
theorem synL_none : ∀ (x : List Nat) (j : Nat), popL x = 0 → (∀ n ∈ x, n < 2 ^ 40) → synL j x = 0 := by
  intro x
  induction x with
  | nil => intro j _ _; rfl
  | cons n x ih =>
    intro j h hn
    simp only [popL] at h
    have h1 := zero_of_pop (hn n (by simp)) (by omega)
    subst h1
    show synW j 0 40 ^^^ synL (j + 1) x = 0
    rw [synW_zero, ih (j + 1) (by omega) (fun m hm => hn m (by simp [hm]))]
    rfl
theorem all_zero : ∀ (x : List Nat), popL x = 0 → (∀ n ∈ x, n < 2 ^ 40) → ∀ n ∈ x, n = 0 := by
  intro x
  induction x with
  | nil => intro _ _ n hn; cases hn
  | cons m x ih =>
    intro h hn n hm
    simp only [popL] at h
    rcases List.mem_cons.1 hm with rfl | h2
    · exact zero_of_pop (hn _ (by simp)) (by omega)
    · exact ih (by omega) (fun m hm => hn m (by simp [hm])) n h2
/-- A line with its code as nine words. -/
structure Nine (x : List Nat) : Prop where
  len : x.length = 9
  small : ∀ n ∈ x, n < 2 ^ 40
  code : x.getD 8 0 < 1024
theorem Nine.bit {x : List Nat} (h : Nine x) {k b : Nat} (hk : k < 9) (hb : b < 40) (ht : (x.getD k 0).testBit b = true) : okBit k b = true := by
  unfold okBit
  by_cases h8 : k < 8
  · simp [h8, hb]
  · have e : k = 8 := by omega
    subst e
    have : b < 10 := by
      rcases Nat.lt_or_ge b 10 with h1 | h1
      · exact h1
      · have h2 := h.code
        have := Nat.testBit_lt_two_pow (x := x.getD 8 0) (i := b) (Nat.lt_of_lt_of_le h2 (Nat.pow_le_pow_right (n := 2) (by decide) h1))
        rw [this] at ht
        cases ht
    simp [this]
theorem two_pow_lt {b m : Nat} (h : b < m) : 2 ^ b < 2 ^ m := Nat.pow_lt_pow_right (by decide) h
theorem Nine.flp {x : List Nat} (h : Nine x) {k b : Nat} (hb : okBit k b = true) : Nine (flp x k b) := by
  have hb40 : b < 40 := by unfold okBit at hb; simp at hb; omega
  have hk : k < x.length := by rw [h.len]; unfold okBit at hb; simp at hb; omega
  refine ⟨by rw [flp_len, h.len], ?_, ?_⟩
  · intro n hn
    rcases List.mem_or_eq_of_mem_set hn with h1 | h1
    · exact h.small n h1
    · subst h1
      refine Nat.xor_lt_two_pow (h.small _ ?_) (two_pow_lt hb40)
      rw [List.getD_eq_getElem?_getD]
      simp [hk]
  · rw [flp_get x k b 8 hk]
    split
    · rename_i e
      subst e
      have : b < 10 := by unfold okBit at hb; simp at hb; omega
      exact Nat.xor_lt_two_pow (n := 10) h.code (two_pow_lt this)
    · exact h.code
theorem synL_lt : ∀ (x : List Nat) (j : Nat), (∀ k b, k < x.length → b < 40 → (x.getD k 0).testBit b = true → psn (j + k) b < 512) → synL j x < 512 := by
  intro x
  induction x with
  | nil => intro j _; simp [synL]
  | cons n x ih =>
    intro j h
    have h1 : ∀ m, m ≤ 40 → synW j n m < 512 := by
      intro m
      induction m with
      | zero => intro _; simp [synW]
      | succ m ih2 =>
        intro hm
        unfold synW
        refine Nat.xor_lt_two_pow (n := 9) (ih2 (by omega)) ?_
        split
        · rename_i ht
          exact h 0 m (by simp) (by omega) ht
        · decide
    refine Nat.xor_lt_two_pow (n := 9) (h1 40 (Nat.le_refl _)) (ih (j + 1) fun k b hk hb ht => ?_)
    have := h (k + 1) b (by simpa using hk) hb ht
    rwa [show j + 1 + k = j + (k + 1) by omega]
theorem Nine.syn {x : List Nat} (h : Nine x) : synL 0 x < 512 :=
  synL_lt x 0 fun k b hk hb ht => by rw [Nat.zero_add]; exact psn_lt (h.bit (by rw [← h.len]; exact hk) hb ht)
theorem okBit_b {k b : Nat} (h : okBit k b = true) : b < 40 := by unfold okBit at h; simp at h; omega
theorem okBit_k {k b : Nat} (h : okBit k b = true) : k < 9 := by unfold okBit at h; simp at h; omega
/-- No two or three bits make a clean line out of a clean one. -/
theorem Nine.far {x : List Nat} (h : Nine x) (hs : synL 0 x = 0) (hp : popL x % 2 = 0) : popL x = 0 ∨ 4 ≤ popL x := by
  rcases Nat.eq_zero_or_pos (popL x) with h0 | h0
  · exact .inl h0
  · right
    rcases Nat.lt_or_ge (popL x) 4 with h4 | h4
    · exfalso
      have h2 : popL x = 2 := by omega
      obtain ⟨k, b, hk, hb, ht⟩ := popL_some x (by omega)
      have ok1 := h.bit (by rw [← h.len]; exact hk) hb ht
      have g := h.flp ok1
      have e1 := popL_flp b hb x k hk
      rw [if_pos ht] at e1
      have s1 := synL_flp b hb x 0 k hk
      obtain ⟨k', b', hk', hb', ht'⟩ := popL_some (Go.Proofs.YtpojhplnhppcpaaGreatDoor.flp x k b) (by omega)
      have ok2 := g.bit (by rw [← g.len]; exact hk') hb' ht'
      have g2 := g.flp ok2
      have e2 := popL_flp b' hb' _ k' hk'
      rw [if_pos ht'] at e2
      have s2 := synL_flp b' hb' _ 0 k' hk'
      have z := synL_none _ 0 (by omega) g2.small
      rw [s2, s1, hs, Nat.zero_add, Nat.zero_add, Nat.zero_xor] at z
      have he : psn k b = psn k' b' := by
        have := congrArg (· ^^^ psn k' b') z
        simpa [Nat.xor_assoc] using this
      obtain ⟨rfl, rfl⟩ := psn_inj ok1 ok2 he
      rw [flp_get x k b k hk, if_pos rfl, Nat.testBit_xor, ht, Nat.testBit_two_pow_self] at ht'
      cases ht'
    · exact h4
end Go.Proofs.YtpojhplnhppcpaaGreatDoor
namespace Go.Proofs.YtpojhplnhppcpaaGreatDoor
theorem land_split (X Y : Nat) : X &&& Y = (X % 256 &&& Y % 256) + 256 * (X / 256 &&& Y / 256) := by
  have h1 : (X &&& Y) % 256 = X % 256 &&& Y % 256 := Nat.and_mod_two_pow (n := 8)
  have h2 : (X &&& Y) / 256 = X / 256 &&& Y / 256 := by
    have := Nat.shiftRight_and_distrib (a := X) (b := Y) (i := 8)
    simpa [Nat.shiftRight_eq_div_pow] using this
  rw [← h1, ← h2]
  omega
/-- The mask of n bytes. -/
def msk (c : Nat) : Nat → Nat
  | 0 => 0
  | n + 1 => c + 256 * msk c n
theorem land_msk (X c n : Nat) (hc : c < 256) : X &&& msk c (n + 1) = (X % 256 &&& c) + 256 * (X / 256 &&& msk c n) := by
  rw [land_split]
  have h1 : msk c (n + 1) % 256 = c := by unfold msk; omega
  have h2 : msk c (n + 1) / 256 = msk c n := by rw [msk]; omega
  rw [h1, h2]
def G1 (n x : Nat) : Nat := (x / 2 &&& msk 85 n) + (x &&& msk 85 n)
def G2 (n x : Nat) : Nat := (x / 4 &&& msk 51 n) + (x &&& msk 51 n)
def G3 (n x : Nat) : Nat := (x / 16 + x) &&& msk 15 n
def g1 (a : Nat) : Nat := (a / 2 &&& 85) + (a &&& 85)
def g2 (a : Nat) : Nat := (a / 4 &&& 51) + (a &&& 51)
def g3 (a : Nat) : Nat := (a / 16 + a) &&& 15
theorem G1_step (n a b : Nat) (ha : a < 256) : G1 (n + 1) (a + 256 * b) = g1 a + 256 * G1 n b := by
  unfold G1 g1
  rw [land_msk _ _ _ (by decide), land_msk _ _ _ (by decide)]
  have e1 : (a + 256 * b) / 2 % 256 = a / 2 + 128 * (b % 2) := by omega
  have e2 : (a + 256 * b) / 2 / 256 = b / 2 := by omega
  have e3 : (a + 256 * b) % 256 = a := by omega
  have e4 : (a + 256 * b) / 256 = b := by omega
  have key : ∀ a : Fin 256, ∀ p : Fin 2, (a.val / 2 + 128 * p.val) &&& 85 = a.val / 2 &&& 85 := by decide +kernel
  have k : (a / 2 + 128 * (b % 2)) &&& 85 = a / 2 &&& 85 := key ⟨a, ha⟩ ⟨b % 2, by omega⟩
  rw [e1, e2, e3, e4, k]
  omega
theorem G2_step (n a b : Nat) (ha : a < 256) : G2 (n + 1) (a + 256 * b) = g2 a + 256 * G2 n b := by
  unfold G2 g2
  rw [land_msk _ _ _ (by decide), land_msk _ _ _ (by decide)]
  have e1 : (a + 256 * b) / 4 % 256 = a / 4 + 64 * (b % 4) := by omega
  have e2 : (a + 256 * b) / 4 / 256 = b / 4 := by omega
  have e3 : (a + 256 * b) % 256 = a := by omega
  have e4 : (a + 256 * b) / 256 = b := by omega
  have key : ∀ a : Fin 256, ∀ p : Fin 4, (a.val / 4 + 64 * p.val) &&& 51 = a.val / 4 &&& 51 := by decide +kernel
  have k : (a / 4 + 64 * (b % 4)) &&& 51 = a / 4 &&& 51 := key ⟨a, ha⟩ ⟨b % 4, by omega⟩
  rw [e1, e2, e3, e4, k]
  omega
theorem G3_step (n a b : Nat) (ha : a ≤ 68) (hb : b % 16 ≤ 4) : G3 (n + 1) (a + 256 * b) = g3 a + 256 * G3 n b := by
  unfold G3 g3
  rw [land_msk _ _ _ (by decide)]
  have e1 : ((a + 256 * b) / 16 + (a + 256 * b)) % 256 = (a / 16 + a) + 16 * (b % 16) := by omega
  have e2 : ((a + 256 * b) / 16 + (a + 256 * b)) / 256 = b / 16 + b := by omega
  have e3 : ((a / 16 + a) + 16 * (b % 16)) &&& 15 = (a / 16 + a) &&& 15 := by
    rw [nat_mask4, nat_mask4]
    omega
  rw [e1, e2, e3]
/-- All three steps. -/
def GG (n x : Nat) : Nat := G3 n (G2 n (G1 n x))
def gg (a : Nat) : Nat := g3 (g2 (g1 a))
theorem G_zero (n : Nat) : G1 n 0 = 0 ∧ G2 n 0 = 0 ∧ G3 n 0 = 0 := by
  refine ⟨?_, ?_, ?_⟩ <;> simp [G1, G2, G3]
theorem g_small (a : Nat) (ha : a < 256) : g1 a < 256 ∧ g2 (g1 a) ≤ 68 ∧ g2 (g1 a) % 16 ≤ 4 ∧ gg a = popW a 8 ∧ gg a ≤ 8 := by
  have all : ∀ a : Fin 256, g1 a < 256 ∧ g2 (g1 a) ≤ 68 ∧ g2 (g1 a) % 16 ≤ 4 ∧ gg a = popW a 8 ∧ gg a ≤ 8 := by decide +kernel
  exact all ⟨a, ha⟩
theorem low16 (n x : Nat) : G2 (n + 1) (G1 (n + 1) x) % 16 ≤ 4 := by
  have e : x = x % 256 + 256 * (x / 256) := by omega
  have hs := g_small (x % 256) (by omega)
  rw [e, G1_step _ _ _ (by omega), G2_step _ _ _ hs.1]
  omega
theorem GG_step (n a b : Nat) (ha : a < 256) : GG (n + 2) (a + 256 * b) = gg a + 256 * GG (n + 1) b := by
  have hs := g_small a ha
  unfold GG gg
  rw [G1_step _ _ _ ha, G2_step _ _ _ hs.1, G3_step _ _ _ hs.2.1 (low16 n b)]
theorem popW_eq (x y : Nat) : ∀ b, (∀ i, i < b → x.testBit i = y.testBit i) → popW x b = popW y b := by
  intro b
  induction b with
  | zero => intro _; rfl
  | succ b ih =>
    intro h
    unfold popW
    rw [ih (fun i hi => h i (by omega)), h b (by omega)]
theorem popW_add (x k : Nat) : ∀ m, popW x (k + m) = popW x k + popW (x / 2 ^ k) m := by
  intro m
  induction m with
  | zero => simp [popW]
  | succ m ih =>
    show popW x (k + m) + (if x.testBit (k + m) then 1 else 0) = popW x k + (popW (x / 2 ^ k) m + (if (x / 2 ^ k).testBit m then 1 else 0))
    rw [ih, Nat.testBit_div_two_pow, Nat.add_comm k m]
    omega
theorem popW_byte (a b m : Nat) (ha : a < 256) : popW (a + 256 * b) (8 + m) = popW a 8 + popW b m := by
  rw [popW_add]
  have e : (a + 256 * b) / 2 ^ 8 = b := by
    show (a + 256 * b) / 256 = b
    omega
  rw [e]
  congr 1
  refine popW_eq _ _ _ fun i hi => ?_
  have h1 : (a + 256 * b) % 2 ^ 8 = a := by
    show (a + 256 * b) % 256 = a
    omega
  have h2 := Nat.testBit_mod_two_pow (a + 256 * b) 8 i
  rw [h1] at h2
  rw [h2]
  simp [hi]
/-- What the six steps of the standard library come to. -/
theorem ones_eq (x y1 y2 : Nat) (hx : x < 1099511627776) (h1 : y1 = GG 8 x + GG 8 x / 256) (h2 : y2 = y1 + y1 / 65536) : (y2 + y2 / 4294967296) % 128 = popW x 40 ∧ GG 8 x < 1099511627776 := by
  obtain ⟨a0, a1, a2, a3, a4, ha0, ha1, ha2, ha3, ha4, rfl⟩ : ∃ a0 a1 a2 a3 a4, a0 < 256 ∧ a1 < 256 ∧ a2 < 256 ∧ a3 < 256 ∧ a4 < 256 ∧ x = a0 + 256 * (a1 + 256 * (a2 + 256 * (a3 + 256 * (a4 + 256 * 0)))) :=
    ⟨x % 256, x / 256 % 256, x / 65536 % 256, x / 16777216 % 256, x / 4294967296 % 256, by omega, by omega, by omega, by omega, by omega, by omega⟩
  have hz : GG (2 + 1) 0 = 0 := by unfold GG; rw [(G_zero _).1, (G_zero _).2.1, (G_zero _).2.2]
  rw [GG_step 6 _ _ ha0, GG_step 5 _ _ ha1, GG_step 4 _ _ ha2, GG_step 3 _ _ ha3, GG_step 2 _ _ ha4, hz] at h1 ⊢
  rw [show (40 : Nat) = 8 + (8 + (8 + (8 + (8 + 0)))) from rfl, popW_byte _ _ _ ha0, popW_byte _ _ _ ha1, popW_byte _ _ _ ha2, popW_byte _ _ _ ha3, popW_byte _ _ _ ha4]
  have b0 := g_small a0 ha0
  have b1 := g_small a1 ha1
  have b2 := g_small a2 ha2
  have b3 := g_small a3 ha3
  have b4 := g_small a4 ha4
  rw [← b0.2.2.2.1, ← b1.2.2.2.1, ← b2.2.2.2.1, ← b3.2.2.2.1, ← b4.2.2.2.1]
  have c0 := b0.2.2.2.2
  have c1 := b1.2.2.2.2
  have c2 := b2.2.2.2.2
  have c3 := b3.2.2.2.2
  have c4 := b4.2.2.2.2
  clear b0 b1 b2 b3 b4 hz
  generalize gg a0 = p0 at *
  generalize gg a1 = p1 at *
  generalize gg a2 = p2 at *
  generalize gg a3 = p3 at *
  generalize gg a4 = p4 at *
  have hp : popW 0 0 = 0 := rfl
  rw [hp]
  have q1 : (p0 + 256 * (p1 + 256 * (p2 + 256 * (p3 + 256 * (p4 + 256 * 0))))) / 256 = p1 + 256 * p2 + 65536 * p3 + 16777216 * p4 := by omega
  have q2 : y1 = (p0 + p1) + 256 * (p1 + p2) + 65536 * ((p2 + p3) + 256 * (p3 + p4) + 65536 * p4) := by omega
  have q3 : y1 / 65536 = (p2 + p3) + 256 * (p3 + p4) + 65536 * p4 := by omega
  have q4 : y2 = (p0 + p1 + p2 + p3) + 256 * (p1 + p2 + p3 + p4) + 65536 * ((p2 + p3 + p4) + 256 * (p3 + p4)) + 4294967296 * p4 := by omega
  have q5 : y2 / 4294967296 = p4 := by omega
  refine ⟨?_, by omega⟩
  rw [q5]
  omega
theorem popW_le (x : Nat) : ∀ b, popW x b ≤ b := by
  intro b
  induction b with
  | zero => simp [popW]
  | succ b ih => unfold popW; split <;> omega
theorem masks : msk 85 8 = 6148914691236517205 ∧ msk 51 8 = 3689348814741910323 ∧ msk 15 8 = 1085102592571150095 := by decide
theorem G_le (x : Nat) : G1 8 x < 18446744073709551616 ∧ G2 8 (G1 8 x) < 18446744073709551616 ∧ G2 8 (G1 8 x) / 16 + G2 8 (G1 8 x) < 18446744073709551616 := by
  have m1 : ∀ X, X &&& msk 85 8 ≤ 6148914691236517205 := fun X => by rw [← masks.1]; exact Nat.and_le_right
  have m2 : ∀ X, X &&& msk 51 8 ≤ 3689348814741910323 := fun X => by rw [← masks.2.1]; exact Nat.and_le_right
  have a1 := m1 (x / 2)
  have a2 := m1 x
  have a3 := m2 (G1 8 x / 4)
  have a4 := m2 (G1 8 x)
  refine ⟨by unfold G1; omega, by unfold G2; omega, ?_⟩
  unfold G2
  omega
end Go.Proofs.YtpojhplnhppcpaaGreatDoor
namespace Go.Proofs.YtpojhplnhppcpaaGreatDoor
open Go.RowKit
/-- The cells of integers. -/
def iv (l : List Int) : List Value := l.map fun z => Value.int .i64 z
theorem iv_len (l : List Int) : (iv l).length = l.length := by simp [iv]
theorem iv_one (l : List Int) : ∀ u ∈ iv l, u.oneCell' = true := by
  intro u hu
  obtain ⟨_, _, rfl⟩ := List.mem_map.1 hu
  rfl
theorem iv_at {l : List Int} {k : Nat} (h : k < l.length) : (iv l)[k]? = some (.int .i64 (l.getD k 0)) := by simp [iv, h]
theorem iv_set (l : List Int) (k : Nat) (z : Int) : (iv l).set k (.int .i64 z) = iv (l.set k z) := by simp [iv, List.map_set]
/-- Words as integers. -/
def ci (l : List Nat) : List Int := l.map fun n : Nat => (n : Int)
theorem ci_len (l : List Nat) : (ci l).length = l.length := by simp [ci]
theorem ci_get (l : List Nat) (k : Nat) : (ci l).getD k 0 = ((l.getD k 0 : Nat) : Int) := by
  unfold ci
  rw [List.getD_eq_getElem?_getD, List.getD_eq_getElem?_getD, List.getElem?_map]
  cases l[k]? <;> rfl
theorem ci_set (l : List Nat) (k n : Nat) : (ci l).set k (n : Int) = ci (l.set k n) := by simp [ci, List.map_set]
/-- Block b holds the cells. -/
def Arr (w : World) (b : Nat) (t : TypeId) (cs : List Value) : Prop := w.heap[b]? = some (.cells cs.toArray t (0, 0))
theorem blk_keep {w w2 : World} {b : Nat} {o : Obj} (h : w.heap[b]? = some o) (hb : Below w.heap.size w w2) : w2.heap[b]? = some o := by rw [hb.block b (lt_of_block h)]; exact h
theorem bel_new (W : World) (o : Obj) : Below W.heap.size W (W.alloc o) := (Below.refl _ _).alloc (Nat.le_refl _) _
theorem bel_on {W w1 w' : World} (h : Below W.heap.size W w1) (h2 : Below w1.heap.size w1 w') : Below W.heap.size W w' := h.trans (h2.mono h.size)
theorem bel_drew (w : World) : Below w.heap.size w w.drew := (Below.refl _ _).drew
theorem Arr.cell {w : World} {b : Nat} {t : TypeId} {cs : List Value} (h : Arr w b t cs) {j : Nat} {u : Value} (hj : cs[j]? = some u) : w.cell? ⟨b, j, none⟩ = some u := by
  rw [cell_of_row w b j _ t (0, 0) h]
  simpa using hj
theorem Arr.free {w : World} {b : Nat} {t : TypeId} {cs : List Value} (h : Arr w b t cs) (j : Nat) : w.frozen? ⟨b, j, none⟩ = false := frozen_of_row w b j _ t h
theorem Arr.keep {w w2 : World} {b : Nat} {t : TypeId} {cs : List Value} (h : Arr w b t cs) (hb : Below w.heap.size w w2) : Arr w2 b t cs := blk_keep h hb
theorem Arr.set {w : World} {b : Nat} {t : TypeId} {cs : List Value} (h : Arr w b t cs) (j : Nat) (u : Value) : Arr (w.setCell ⟨b, j, none⟩ u) b t (cs.set j u) := by
  unfold Arr
  rw [heap_setCell_same w b j _ t u h]
  simp
theorem Arr.other {w : World} {b : Nat} {t : TypeId} {cs : List Value} (h : Arr w b t cs) {a : Addr} (hne : b ≠ a.block) (u : Value) : Arr (w.setCell a u) b t cs := (heap_setCell_other w a b u hne).trans h
theorem Arr.row {w : World} {b : Nat} {t : TypeId} {cs : List Value} (h : Arr w b t cs) (ds : List Value) : Arr (w.setRow b ds.toArray) b t ds := setRow_heap w b _ _ t _ h
theorem Arr.row_other {w : World} {b g : Nat} {t : TypeId} {cs : List Value} (h : Arr w b t cs) (hne : b ≠ g) (ds : Array Value) : Arr (w.setRow g ds) b t cs := (setRow_other w g b ds hne).trans h
theorem Arr.new (w : World) (cs : List Value) (t : TypeId) : Arr (w.alloc (.cells cs.toArray t)) w.heap.size t cs := heap_alloc_last w _
theorem Arr.lt {w : World} {b : Nat} {t : TypeId} {cs : List Value} (h : Arr w b t cs) : b < w.heap.size := lt_of_block h
theorem bel_row {B : Nat} {a w : World} (h : Below B a w) {g : Nat} (hg : B ≤ g) (cs : Array Value) : Below B a (w.setRow g cs) :=
  h.trans ⟨rfl, rfl, rfl, by simp, fun k hk => setRow_other w g k cs (by omega)⟩
theorem Arr.range {w : World} {b : Nat} {t : TypeId} {cs : List Value} (h : Arr w b t cs) : w.rangeAt b 0 cs := fun j v hv => by
  rw [Nat.zero_add]; exact h.cell hv
theorem hp_old {w : World} (o : Obj) {i : Nat} (h : i < w.heap.size) : (w.alloc o).heap[i]? = w.heap[i]? := by
  show (w.heap.push o)[i]? = w.heap[i]?
  rw [Array.getElem?_push, if_neg (Nat.ne_of_lt h)]
theorem a2_0 (w : World) (A B : Obj) : ((w.alloc A).alloc B).heap[w.heap.size]? = some A := heap_alloc2_old w A B
theorem a2_1 (w : World) (A B : Obj) : ((w.alloc A).alloc B).heap[w.heap.size + 1]? = some B := heap_alloc2_new w A B
theorem bel2 (w : World) (A B : Obj) : Below w.heap.size w ((w.alloc A).alloc B) := (bel_new w A).alloc (by simp) _
theorem size22 : (Tryz.prog.info? 66).map (·.size) = some 8 := by kernel_rfl
theorem size3 : (Tryz.prog.info? 3).map (·.size) = some 1 := by kernel_rfl
theorem size22' {l : List Int} (h : l.length = 8) : (Tryz.prog.info? 66).map (·.size) = some (iv l).length := by rw [size22, iv_len, h]
theorem index22 (l : List Int) (k : Nat) (h : k < 8) (hl : l.length = 8) (w : World) : (Instr.index 66 (.agg (iv l).toArray) (.int .i64 (k : Int))).run Tryz.prog w = .ok (.int .i64 (l.getD k 0)) w := by
  obtain ⟨i5, hi5, hs5⟩ := Option.map_eq_some_iff.1 size3
  simp [Instr.index, asIntOf, run_underlying Tryz.underlying66, sizeOf, typeInfo, hi5, hs5, h]
  simp [part, isAgg, underlying, Tryz.underlying3, iv, hl, h]
/-- The world gets a name. -/
theorem name_world {P : Program} {c : Code} {Q : Exit → Act → World → Prop} {a : Act} {W : World} (h : ∀ W', W' = W → c.wp P Q a W') : c.wp P Q a W := h W rfl
theorem nm_l {P : Program} {ops : Array Oper} {rest : List Oper} {Q : Exit → Act → World → Prop} {a : Act} {W : World} (h : ∀ W', W' = W → wpList P ops Q rest a W') : wpList P ops Q rest a W := h W rfl
section
variable {ops : Array Oper} {rest : List Oper} {o : Oper} {a : Act} {Q : Exit → Act → World → Prop} {w : World}
/-- A whole block is read. -/
theorem arm_row (ty g t : Nat) (cs : List Value) (hA : Arr w g t cs) (d : TypeDesc) (hu : Tryz.prog.underlying ty = some d) (hd : d.isRow = true) (hi : (Tryz.prog.info? ty).map (·.size) = some cs.length)
    (hgd : o.guard = none) (x : Operand) (ho : o.op = .load ty x) (hx : a.eval x = .pointer (some ⟨g, 0, none⟩))
    (h : wpList Tryz.prog ops Q rest (a.put o.dst (.agg cs.toArray)) w) : wpList Tryz.prog ops Q (o :: rest) a w :=
  wpList_load_mid hgd ty x ho g 0 hx cs d hA.range hu hd hi h
/-- A whole block is written. -/
theorem arm_put (ty g t : Nat) (cs ds : List Value) (hA : Arr w g t cs) (hi : (Tryz.prog.info? ty).map (·.size) = some ds.length) (hl : cs.length = ds.length) (h1 : ∀ v ∈ ds, v.oneCell' = true)
    (hgd : o.guard = none) (x y : Operand) (ho : o.op = .store ty x y) (hx : a.eval x = .pointer (some ⟨g, 0, none⟩)) (hy : a.eval y = .agg ds.toArray)
    (h : wpList Tryz.prog ops Q rest (a.put o.dst undef) (w.setRow g ds.toArray)) : wpList Tryz.prog ops Q (o :: rest) a w :=
  wpList_store_row hgd ty x y ho g ds.toArray hx hy t cs.toArray hA (by simpa using hi) (by simpa using hl) (all_oneCell_toArray h1) h
/-- A whole block that has just been made is written. -/
theorem arm_new (ty : Nat) (ds : List Value) (n : Nat) (hn : ds.length = n) (hi : (Tryz.prog.info? ty).map (·.size) = some n) (h1 : ∀ v ∈ ds, v.oneCell' = true) (c : Array Value) (hc : c.size = n)
    (hgd : o.guard = none) (x y : Operand) (ho : o.op = .store ty x y) (hx : a.eval x = .pointer (some ⟨w.heap.size, 0, none⟩)) (hy : a.eval y = .agg ds.toArray)
    (h : wpList Tryz.prog ops Q rest (a.put o.dst undef) (w.alloc (.cells ds.toArray ty))) : wpList Tryz.prog ops Q (o :: rest) a (w.alloc (.cells c ty)) := by
  refine wpList_plain hgd fun K hK => ?_
  have hrun := run_storeAt_new (P := Tryz.prog) w ty c ds.toArray (by rw [hi, ← hn]; simp) (by rw [hc, ← hn]; simp) (all_oneCell_toArray h1)
  unfold Oper.wp execOp
  simp only [ho, hx, hy, hrun, Sem.run_bind, Sem.run_pure, Result.andThen_ok]
  exact hK _ _ h
end
/-- A whole block is handed back. -/
theorem ret_row {fn : Func} {p : Tmp} {ty : TypeId} (h : fn.results = #[.cell p ty]) (tmps : Array Value) (w : World) (g t : Nat) (cs : List Value) (hA : Arr w g t cs) (hp : tmps.getD p undef = .pointer (some ⟨g, 0, none⟩))
    (d : TypeDesc) (hu : Tryz.prog.underlying ty = some d) (hd : d.isRow = true) (hi : (Tryz.prog.info? ty).map (·.size) = some cs.length) :
    (results fn tmps).run Tryz.prog w = .ok (.agg cs.toArray) w := by
  have hp' : tmps[p]?.getD undef = .pointer (some ⟨g, 0, none⟩) := by simpa using hp
  simp [results, h, hp', asAddr, run_loadVar_mid w g 0 ty cs d hA.range hu hd hi]
/-- Numbers of 64 bits. -/
theorem i64_wraps (n : Int) : IntKind.i64.wrap n = (n + 9223372036854775808) % 18446744073709551616 - 9223372036854775808 := by rw [IntKind.wrap_i64]
theorem i64_xor_nat (a b : Nat) (ha : a < 4611686018427387904) (hb : b < 4611686018427387904) : bits .xor .i64 (a : Int) (b : Int) = ((a ^^^ b : Nat) : Int) := by
  have hx : a ^^^ b < 2 ^ 62 := Nat.xor_lt_two_pow ha hb
  show IntKind.i64.wrap ((BitVec.ofInt 64 (a : Int) ^^^ BitVec.ofInt 64 (b : Int)).toNat : Nat) = _
  have e1 : (BitVec.ofInt 64 (a : Int)).toNat = a := by rw [BitVec.toNat_ofInt]; omega
  have e2 : (BitVec.ofInt 64 (b : Int)).toNat = b := by rw [BitVec.toNat_ofInt]; omega
  rw [BitVec.toNat_xor, e1, e2, i64_wraps]
  omega
theorem i64_or_nat (a b : Nat) (ha : a < 4611686018427387904) (hb : b < 4611686018427387904) : bits .or .i64 (a : Int) (b : Int) = ((a ||| b : Nat) : Int) := by
  have hx : a ||| b < 2 ^ 62 := Nat.or_lt_two_pow ha hb
  show IntKind.i64.wrap ((BitVec.ofInt 64 (a : Int) ||| BitVec.ofInt 64 (b : Int)).toNat : Nat) = _
  have e1 : (BitVec.ofInt 64 (a : Int)).toNat = a := by rw [BitVec.toNat_ofInt]; omega
  have e2 : (BitVec.ofInt 64 (b : Int)).toNat = b := by rw [BitVec.toNat_ofInt]; omega
  rw [BitVec.toNat_or, e1, e2, i64_wraps]
  omega
theorem i64_and_nat (a b : Nat) (ha : a < 4611686018427387904) (hb : b < 4611686018427387904) : bits .and .i64 (a : Int) (b : Int) = ((a &&& b : Nat) : Int) := by
  have hx : a &&& b < 2 ^ 62 := Nat.and_lt_two_pow a hb
  show IntKind.i64.wrap ((BitVec.ofInt 64 (a : Int) &&& BitVec.ofInt 64 (b : Int)).toNat : Nat) = _
  have e1 : (BitVec.ofInt 64 (a : Int)).toNat = a := by rw [BitVec.toNat_ofInt]; omega
  have e2 : (BitVec.ofInt 64 (b : Int)).toNat = b := by rw [BitVec.toNat_ofInt]; omega
  rw [BitVec.toNat_and, e1, e2, i64_wraps]
  omega
theorem i64_mask (k : Nat) (hk : k ≤ 62) (n m : Int) (hm : (BitVec.ofInt 64 m).toNat = 2 ^ k - 1) : bits .and .i64 n m = n % ((2 ^ k : Nat) : Int) := by
  have key : (BitVec.ofInt 64 n &&& BitVec.ofInt 64 m).toNat = (n % ((2 ^ 64 : Nat) : Int)).toNat % 2 ^ k := by
    rw [BitVec.toNat_and, BitVec.toNat_ofInt, hm, Nat.and_two_pow_sub_one_eq_mod]
  show IntKind.i64.wrap ((BitVec.ofInt 64 n &&& BitVec.ofInt 64 m).toNat : Nat) = _
  rw [key, IntKind.wrap_i64]
  have hd : ((2 ^ k : Nat) : Int) ∣ ((2 ^ 64 : Nat) : Int) := Int.natCast_dvd_natCast.2 (Nat.pow_dvd_pow 2 (by omega))
  have h1 : (((n % ((2 ^ 64 : Nat) : Int)).toNat % 2 ^ k : Nat) : Int) = n % ((2 ^ k : Nat) : Int) := by
    rw [Int.natCast_emod, Int.toNat_of_nonneg (Int.emod_nonneg _ (by decide)), Int.emod_emod_of_dvd _ hd]
  have h2 : (2 ^ k : Nat) ≤ 2 ^ 62 := Nat.pow_le_pow_right (by decide) hk
  have h3 := Int.emod_nonneg n (show ((2 ^ k : Nat) : Int) ≠ 0 by have := Nat.two_pow_pos k; omega)
  have h4 := Int.emod_lt_of_pos n (show (0 : Int) < ((2 ^ k : Nat) : Int) by have := Nat.two_pow_pos k; omega)
  rw [h1]
  omega
theorem i64_and1 (n : Int) : bits .and .i64 n 1 = n % 2 := i64_mask 1 (by decide) n 1 (by decide)
theorem i64_and511 (n : Int) : bits .and .i64 n 511 = n % 512 := i64_mask 9 (by decide) n 511 (by decide)
theorem i64_and127 (n : Int) : bits .and .i64 n 127 = n % 128 := i64_mask 7 (by decide) n 127 (by decide)
theorem i64_and40 (n : Int) : bits .and .i64 n 1099511627775 = n % 1099511627776 := i64_mask 40 (by decide) n 1099511627775 (by decide)
end Go.Proofs.YtpojhplnhppcpaaGreatDoor
namespace Go.Proofs.YtpojhplnhppcpaaGreatDoor
open Go.RowKit
theorem w64 (z : Int) (h0 : -9223372036854775808 ≤ z) (h1 : z ≤ 9223372036854775807) : wrap64 z = z := by unfold wrap64; omega
theorem ret_i64 {a b : Int} (h : a = b) : Ending.returned (.int .i64 a) = .returned (.int .i64 b) := by rw [h]
theorem lib_len (x : Nat) (h : x < 1024) : Lib.bitLen x = bitLen x := by
  have all : ∀ x : Fin 1024, Lib.bitLen x = bitLen x := by decide +kernel
  exact all ⟨x, h⟩
theorem len_le (x : Nat) (h : x < 1024) : bitLen x ≤ 10 := by
  have all : ∀ x : Fin 1024, bitLen x ≤ 10 := by decide +kernel
  exact all ⟨x, h⟩
/-- The table of the standard library, as the program spells it. -/
def tab : ByteArray := { data := (([0, 1, 2, 2, 3, 3, 3, 3, 4, 4, 4, 4, 4, 4, 4, 4, 5, 5, 5, 5, 5, 5, 5, 5, 5, 5, 5, 5, 5, 5, 5, 5, 6, 6, 6, 6, 6, 6, 6, 6, 6, 6, 6, 6, 6, 6, 6, 6, 6, 6, 6, 6, 6, 6, 6, 6, 6, 6, 6, 6, 6, 6, 6, 6].append [7, 7, 7, 7, 7, 7, 7, 7, 7, 7, 7, 7, 7, 7, 7, 7, 7, 7, 7, 7, 7, 7, 7, 7, 7, 7, 7, 7, 7, 7, 7, 7, 7, 7, 7, 7, 7, 7, 7, 7, 7, 7, 7, 7, 7, 7, 7, 7, 7, 7, 7, 7, 7, 7, 7, 7, 7, 7, 7, 7, 7, 7, 7, 7]).append ([8, 8, 8, 8, 8, 8, 8, 8, 8, 8, 8, 8, 8, 8, 8, 8, 8, 8, 8, 8, 8, 8, 8, 8, 8, 8, 8, 8, 8, 8, 8, 8, 8, 8, 8, 8, 8, 8, 8, 8, 8, 8, 8, 8, 8, 8, 8, 8, 8, 8, 8, 8, 8, 8, 8, 8, 8, 8, 8, 8, 8, 8, 8, 8].append [8, 8, 8, 8, 8, 8, 8, 8, 8, 8, 8, 8, 8, 8, 8, 8, 8, 8, 8, 8, 8, 8, 8, 8, 8, 8, 8, 8, 8, 8, 8, 8, 8, 8, 8, 8, 8, 8, 8, 8, 8, 8, 8, 8, 8, 8, 8, 8, 8, 8, 8, 8, 8, 8, 8, 8, 8, 8, 8, 8, 8, 8, 8, 8])).toArray }
theorem fold_tab : tab = Lib.len8tab := by decide +kernel
theorem idx_tab (y : Nat) (h : y < 256) (w : World) : (Instr.index 9 (.string tab) (.int .u8 (y : Int))).run Tryz.prog w = .ok (.int .u8 (bitLen y : Nat)) w := by
  rw [fold_tab, Lib.run_index_len8tab w 9 .u8 (y : Int) Tryz.underlying9 (by omega) (by omega), Lib.len8_of _ (by omega) (by omega), Int.toNat_natCast, lib_len y (by omega)]
set_option maxRecDepth 100000 in
set_option maxHeartbeats 4000000 in
theorem len64_a (z : Int) (n : Nat) (w : World) (h0 : 0 ≤ z) (h1 : z ≤ 255) (hn : z = n) :
    Calls Tryz.prog 179 #[.int .u64 z] w fun e w' => e = .returned (.int .i64 (bitLen n : Nat)) ∧ w' = w := by
  go_enter Tryz.func179, Tryz.ntmps179
  have hi := idx_tab n (by omega) w
  have e : z % 256 = z := by omega
  rw [← hn] at hi
  have hle := len_le n (by omega)
  clear hn
  unfold tab at hi
  generalize ({ data := (([0, 1, 2, 2, 3, 3, 3, 3, 4, 4, 4, 4, 4, 4, 4, 4, 5, 5, 5, 5, 5, 5, 5, 5, 5, 5, 5, 5, 5, 5, 5, 5, 6, 6, 6, 6, 6, 6, 6, 6, 6, 6, 6, 6, 6, 6, 6, 6, 6, 6, 6, 6, 6, 6, 6, 6, 6, 6, 6, 6, 6, 6, 6, 6].append [7, 7, 7, 7, 7, 7, 7, 7, 7, 7, 7, 7, 7, 7, 7, 7, 7, 7, 7, 7, 7, 7, 7, 7, 7, 7, 7, 7, 7, 7, 7, 7, 7, 7, 7, 7, 7, 7, 7, 7, 7, 7, 7, 7, 7, 7, 7, 7, 7, 7, 7, 7, 7, 7, 7, 7, 7, 7, 7, 7, 7, 7, 7, 7]).append ([8, 8, 8, 8, 8, 8, 8, 8, 8, 8, 8, 8, 8, 8, 8, 8, 8, 8, 8, 8, 8, 8, 8, 8, 8, 8, 8, 8, 8, 8, 8, 8, 8, 8, 8, 8, 8, 8, 8, 8, 8, 8, 8, 8, 8, 8, 8, 8, 8, 8, 8, 8, 8, 8, 8, 8, 8, 8, 8, 8, 8, 8, 8, 8].append [8, 8, 8, 8, 8, 8, 8, 8, 8, 8, 8, 8, 8, 8, 8, 8, 8, 8, 8, 8, 8, 8, 8, 8, 8, 8, 8, 8, 8, 8, 8, 8, 8, 8, 8, 8, 8, 8, 8, 8, 8, 8, 8, 8, 8, 8, 8, 8, 8, 8, 8, 8, 8, 8, 8, 8, 8, 8, 8, 8, 8, 8, 8, 8])).toArray } : ByteArray) = T at *
  go_wp2
  go_ret
  refine ⟨ret_i64 ?_, rfl⟩
  rfl
set_option maxRecDepth 100000 in
set_option maxHeartbeats 4000000 in
theorem len64_b (z : Int) (n : Nat) (w : World) (h0 : 256 ≤ z) (h1 : z ≤ 1023) (hn : z / 256 = n) :
    Calls Tryz.prog 179 #[.int .u64 z] w fun e w' => e = .returned (.int .i64 (8 + bitLen n : Nat)) ∧ w' = w := by
  go_enter Tryz.func179, Tryz.ntmps179
  have hi := idx_tab n (by omega) w
  have e : z / 256 % 256 = z / 256 := by omega
  rw [← hn] at hi
  have hle := len_le n (by omega)
  clear hn
  unfold tab at hi
  generalize ({ data := (([0, 1, 2, 2, 3, 3, 3, 3, 4, 4, 4, 4, 4, 4, 4, 4, 5, 5, 5, 5, 5, 5, 5, 5, 5, 5, 5, 5, 5, 5, 5, 5, 6, 6, 6, 6, 6, 6, 6, 6, 6, 6, 6, 6, 6, 6, 6, 6, 6, 6, 6, 6, 6, 6, 6, 6, 6, 6, 6, 6, 6, 6, 6, 6].append [7, 7, 7, 7, 7, 7, 7, 7, 7, 7, 7, 7, 7, 7, 7, 7, 7, 7, 7, 7, 7, 7, 7, 7, 7, 7, 7, 7, 7, 7, 7, 7, 7, 7, 7, 7, 7, 7, 7, 7, 7, 7, 7, 7, 7, 7, 7, 7, 7, 7, 7, 7, 7, 7, 7, 7, 7, 7, 7, 7, 7, 7, 7, 7]).append ([8, 8, 8, 8, 8, 8, 8, 8, 8, 8, 8, 8, 8, 8, 8, 8, 8, 8, 8, 8, 8, 8, 8, 8, 8, 8, 8, 8, 8, 8, 8, 8, 8, 8, 8, 8, 8, 8, 8, 8, 8, 8, 8, 8, 8, 8, 8, 8, 8, 8, 8, 8, 8, 8, 8, 8, 8, 8, 8, 8, 8, 8, 8, 8].append [8, 8, 8, 8, 8, 8, 8, 8, 8, 8, 8, 8, 8, 8, 8, 8, 8, 8, 8, 8, 8, 8, 8, 8, 8, 8, 8, 8, 8, 8, 8, 8, 8, 8, 8, 8, 8, 8, 8, 8, 8, 8, 8, 8, 8, 8, 8, 8, 8, 8, 8, 8, 8, 8, 8, 8, 8, 8, 8, 8, 8, 8, 8, 8])).toArray } : ByteArray) = T at *
  go_wp2
  go_ret
  refine ⟨ret_i64 ?_, rfl⟩
  omega
theorem len64_any (z : Int) (x : Nat) (w : World) (hz : z = x) (hx : x < 1024) :
    Calls Tryz.prog 179 #[.int .u64 z] w fun e w' => e = .returned (.int .i64 (bitLen x : Nat)) ∧ w' = w := by
  rcases Nat.lt_or_ge x 256 with h | h
  · exact len64_a z x w (by omega) (by omega) hz
  · have hs : bitLen x = 8 + bitLen (x / 256) := bitLen_shift x 8 (by show x / 256 ≠ 0; omega)
    rw [hs]
    exact len64_b z (x / 256) w (by omega) (by omega) (by omega)
end Go.Proofs.YtpojhplnhppcpaaGreatDoor
