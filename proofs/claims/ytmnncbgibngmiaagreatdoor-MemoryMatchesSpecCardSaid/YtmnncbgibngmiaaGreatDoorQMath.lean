/-
  The code of lines in plain numbers: positions, syndromes, counts of bits. How the standard library counts the bits of a number, in plain numbers.
-/
import Derived.Laws.MathBits
import Derived.Laws.BitsAllLaws
import Derived.Laws.Bits64
namespace Go.Proofs.YtmnncbgibngmiaaGreatDoor
/-- The position of the data bit number i. -/
def posn (i : Nat) : Nat := i + 1 + bitLen (i + 1 + bitLen (i + 1))
/-- The position of a bit: of a word, or of the code as the word 8. -/
def psn (k b : Nat) : Nat := if k < 8 then posn (40 * k + b) else if b < 9 then 2 ^ b else 0
def okBit (k b : Nat) : Bool := (decide (k < 8) && decide (b < 40)) || (decide (k = 8) && decide (b < 10))
/-- The exclusive or of the positions of the first bits of a word that are 1. -/
def synW (k n : Nat) : Nat → Nat
  | 0 => 0
  | b + 1 => synW k n b ^^^ (if n.testBit b then psn k b else 0)
def synL (k : Nat) : List Nat → Nat
  | [] => 0
  | n :: r => synW k n 40 ^^^ synL (k + 1) r
/-- How many of the first bits are 1. -/
def popW (n : Nat) : Nat → Nat
  | 0 => 0
  | b + 1 => popW n b + (if n.testBit b then 1 else 0)
def popL : List Nat → Nat
  | [] => 0
  | n :: r => popW n 40 + popL r
def synT (ws : List Nat) (c : Nat) : Nat := synL 0 (ws ++ [c])
def popT (ws : List Nat) (c : Nat) : Nat := popL (ws ++ [c])
def encN (ws : List Nat) : Nat := synT ws 0 + 512 * (popT ws (synT ws 0) % 2)
def findF (s : Nat) : Nat × Nat × Bool :=
  if s = 0 then (8, 9, true) else if s = 2 ^ (bitLen s - 1) then (8, bitLen s - 1, true) else ((s - bitLen s - 1) / 40, (s - bitLen s - 1) % 40, decide (s - bitLen s - 1 < 320))
/-- State, word and bit out of syndrome and parity. -/
def chkF (s p : Nat) : Nat × Nat × Nat :=
  if s = 0 ∧ p = 0 then (0, 0, 0) else if p = 0 then (2, 0, 0) else if (findF s).2.2 then (1, (findF s).1, (findF s).2.1) else (2, 0, 0)
theorem find_psn {k b : Nat} (h : okBit k b = true) : findF (psn k b) = (k, b, true) := by
  have all : ∀ k : Fin 9, ∀ b : Fin 40, okBit k b = true → findF (psn k b) = (k.val, b.val, true) := by decide +kernel
  have hk : k < 9 := by unfold okBit at h; simp at h; omega
  have hb : b < 40 := by unfold okBit at h; simp at h; omega
  exact all ⟨k, hk⟩ ⟨b, hb⟩ h
theorem psn_find {s : Nat} (hs : s < 512) (h : (findF s).2.2 = true) : okBit (findF s).1 (findF s).2.1 = true ∧ psn (findF s).1 (findF s).2.1 = s := by
  have all : ∀ s : Fin 512, (findF s).2.2 = true → okBit (findF s).1 (findF s).2.1 = true ∧ psn (findF s).1 (findF s).2.1 = s := by decide +kernel
  exact all ⟨s, hs⟩ h
theorem psn_lt {k b : Nat} (h : okBit k b = true) : psn k b < 512 := by
  have all : ∀ k : Fin 9, ∀ b : Fin 40, okBit k b = true → psn k b < 512 := by decide +kernel
  have hk : k < 9 := by unfold okBit at h; simp at h; omega
  have hb : b < 40 := by unfold okBit at h; simp at h; omega
  exact all ⟨k, hk⟩ ⟨b, hb⟩ h
theorem psn_inj {k b k' b' : Nat} (h : okBit k b = true) (h' : okBit k' b' = true) (he : psn k b = psn k' b') : k = k' ∧ b = b' := by
  have h1 := find_psn h
  rw [he, find_psn h'] at h1
  simp only [Prod.mk.injEq] at h1
  exact ⟨h1.1.symm, h1.2.1.symm⟩
theorem synW_xor (k n m : Nat) : ∀ b, synW k (n ^^^ m) b = synW k n b ^^^ synW k m b := by
  intro b
  induction b with
  | zero => simp [synW]
  | succ b ih =>
    unfold synW
    rw [ih, Nat.testBit_xor]
    have h1 : ∀ a b c d : Nat, (a ^^^ b) ^^^ (c ^^^ d) = (a ^^^ c) ^^^ (b ^^^ d) := fun a b c d => by
      rw [Nat.xor_assoc, ← Nat.xor_assoc b c d, Nat.xor_comm b c, Nat.xor_assoc c b d, ← Nat.xor_assoc]
    rw [← h1]
    congr 1
    cases n.testBit b <;> cases m.testBit b <;> simp
theorem synW_pow (k b : Nat) : ∀ m, synW k (2 ^ b) m = if b < m then psn k b else 0 := by
  intro m
  induction m with
  | zero => simp [synW]
  | succ m ih =>
    unfold synW
    rw [ih, Nat.testBit_two_pow]
    by_cases h : b = m
    · subst h
      simp
    · by_cases h2 : b < m
      · rw [if_pos h2, if_pos (show b < m + 1 by omega)]
        simp [h]
      · rw [if_neg h2, if_neg (show ¬ b < m + 1 by omega)]
        simp [h]
theorem synW_zero (k : Nat) : ∀ b, synW k 0 b = 0 := by
  intro b
  induction b with
  | zero => rfl
  | succ b ih => unfold synW; rw [ih]; simp
theorem popW_flip (n b : Nat) : ∀ m, popW (n ^^^ 2 ^ b) m = if b < m then (if n.testBit b then popW n m - 1 else popW n m + 1) else popW n m := by
  intro m
  induction m with
  | zero => simp [popW]
  | succ m ih =>
    unfold popW
    rw [ih, Nat.testBit_xor, Nat.testBit_two_pow]
    by_cases h : b = m
    · subst h
      rw [if_neg (Nat.lt_irrefl _), if_pos (Nat.lt_succ_self _)]
      cases n.testBit b <;> simp
    · by_cases h2 : b < m
      · rw [if_pos h2, if_pos (show b < m + 1 by omega)]
        have hd : decide (b = m) = false := by simp [h]
        rw [hd, Bool.xor_false]
        have : n.testBit b = true → 1 ≤ popW n m := by
          intro hb
          clear ih
          induction m with
          | zero => omega
          | succ m ih2 =>
            unfold popW
            by_cases h3 : b = m
            · subst h3; rw [if_pos hb]; omega
            · have := ih2 h3 (by omega) (by simp [h3])
              omega
        split
        · rename_i hb
          have := this hb
          omega
        · omega
      · rw [if_neg h2, if_neg (show ¬ b < m + 1 by omega)]
        simp [h]
theorem popW_pos {n b m : Nat} (hb : b < m) (h : n.testBit b = true) : 1 ≤ popW n m := by
  induction m with
  | zero => omega
  | succ m ih =>
    unfold popW
    by_cases h3 : b = m
    · subst h3; rw [if_pos h]; omega
    · have := ih (by omega)
      omega
theorem popW_zero (b : Nat) : popW 0 b = 0 := by
  induction b with
  | zero => rfl
  | succ b ih => unfold popW; rw [ih]; simp
theorem popW_some {n m : Nat} (h : popW n m ≠ 0) : ∃ b, b < m ∧ n.testBit b = true := by
  induction m with
  | zero => exact absurd rfl h
  | succ m ih =>
    by_cases hm : n.testBit m = true
    · exact ⟨m, by omega, hm⟩
    · unfold popW at h
      rw [if_neg hm] at h
      obtain ⟨b, hb, h2⟩ := ih h
      exact ⟨b, by omega, h2⟩
theorem zero_of_pop {n m : Nat} (hn : n < 2 ^ m) (h : popW n m = 0) : n = 0 := by
  refine Nat.eq_of_testBit_eq fun i => ?_
  rw [Nat.zero_testBit]
  by_cases hi : i < m
  · cases hb : n.testBit i with
    | false => rfl
    | true => have := popW_pos hi hb; omega
  · exact Nat.testBit_lt_two_pow (Nat.lt_of_lt_of_le hn (Nat.pow_le_pow_right (by decide) (by omega)))
theorem synL_append (l r : List Nat) : ∀ k, synL k (l ++ r) = synL k l ^^^ synL (k + l.length) r := by
  induction l with
  | nil => intro k; simp [synL]
  | cons n l ih =>
    intro k
    show synW k n 40 ^^^ synL (k + 1) (l ++ r) = (synW k n 40 ^^^ synL (k + 1) l) ^^^ synL (k + (l.length + 1)) r
    rw [ih, Nat.xor_assoc, Nat.add_assoc, Nat.add_comm 1]
theorem popL_append (l r : List Nat) : popL (l ++ r) = popL l + popL r := by
  induction l with
  | nil => simp [popL]
  | cons n l ih => simp only [List.cons_append, popL, ih]; omega
/-- One bit is inverted. -/
def flp (x : List Nat) (k b : Nat) : List Nat := x.set k (x.getD k 0 ^^^ 2 ^ b)
theorem flp_len (x : List Nat) (k b : Nat) : (flp x k b).length = x.length := by simp [flp]
theorem flp_get (x : List Nat) (k b j : Nat) (hk : k < x.length) : (flp x k b).getD j 0 = if j = k then x.getD k 0 ^^^ 2 ^ b else x.getD j 0 := by
  unfold flp
  rw [List.getD_eq_getElem?_getD, List.getElem?_set]
  split
  · rename_i h; subst h; simp [hk]
  · rename_i h; rw [if_neg (fun e => h e.symm)]; simp
theorem flp_flp (x : List Nat) (k b : Nat) : flp (flp x k b) k b = x := by
  by_cases hk : k < x.length
  · refine List.ext_getElem (by simp [flp]) fun j h1 h2 => ?_
    unfold flp
    simp only [List.getElem_set, List.getD_eq_getElem?_getD, List.getElem?_set]
    split
    · rename_i h; subst h; simp [hk, Nat.xor_assoc]
    · rfl
  · unfold flp
    rw [List.set_eq_of_length_le (by simp; omega), List.set_eq_of_length_le (by omega)]
theorem synL_flp (b : Nat) (hb : b < 40) : ∀ (x : List Nat) (j k : Nat), k < x.length → synL j (flp x k b) = synL j x ^^^ psn (j + k) b := by
  intro x
  induction x with
  | nil => intro j k hk; simp at hk
  | cons n x ih =>
    intro j k hk
    cases k with
    | zero =>
      show synW j (n ^^^ 2 ^ b) 40 ^^^ synL (j + 1) x = (synW j n 40 ^^^ synL (j + 1) x) ^^^ psn j b
      rw [synW_xor, synW_pow, if_pos hb, Nat.xor_assoc, Nat.xor_assoc, Nat.xor_comm (psn j b)]
    | succ k =>
      have := ih (j + 1) k (by simpa using hk)
      show synW j n 40 ^^^ synL (j + 1) (flp x k b) = (synW j n 40 ^^^ synL (j + 1) x) ^^^ psn (j + (k + 1)) b
      rw [this, Nat.xor_assoc, Nat.add_assoc, Nat.add_comm 1]
theorem popL_flp (b : Nat) (hb : b < 40) : ∀ (x : List Nat) (k : Nat), k < x.length → popL (flp x k b) = if (x.getD k 0).testBit b then popL x - 1 else popL x + 1 := by
  intro x
  induction x with
  | nil => intro k hk; simp at hk
  | cons n x ih =>
    intro k hk
    cases k with
    | zero =>
      show popW (n ^^^ 2 ^ b) 40 + popL x = if n.testBit b then popW n 40 + popL x - 1 else popW n 40 + popL x + 1
      rw [popW_flip, if_pos hb]
      split
      · rename_i h
        have := popW_pos hb h
        omega
      · omega
    | succ k =>
      have h1 := ih k (by simpa using hk)
      show popW n 40 + popL (flp x k b) = if (x.getD k 0).testBit b then popW n 40 + popL x - 1 else popW n 40 + popL x + 1
      rw [h1]
      split
      · rename_i h
        have h2 : 1 ≤ popL x := by
          clear h1 ih
          induction x generalizing k with
          | nil => simp at hk
          | cons m x ih2 =>
            cases k with
            | zero => have := popW_pos (n := m) (m := 40) hb h; simp only [popL]; omega
            | succ k => have := ih2 k (by simpa using hk) h; simp only [popL]; omega
        omega
      · omega
theorem popL_pos {b : Nat} (hb : b < 40) : ∀ (x : List Nat) (k : Nat), (x.getD k 0).testBit b = true → 1 ≤ popL x := by
  intro x
  induction x with
  | nil => intro k h; simp at h
  | cons n x ih =>
    intro k h
    cases k with
    | zero => have := popW_pos (n := n) (m := 40) hb h; simp only [popL]; omega
    | succ k => have := ih k h; simp only [popL]; omega
theorem popL_some : ∀ (x : List Nat), popL x ≠ 0 → ∃ k b, k < x.length ∧ b < 40 ∧ (x.getD k 0).testBit b = true := by
  intro x
  induction x with
  | nil => intro h; exact absurd rfl h
  | cons n x ih =>
    intro h
    by_cases h1 : popW n 40 = 0
    · have h2 : popL x ≠ 0 := by intro e; apply h; simp [popL, h1, e]
      obtain ⟨k, b, hk, hb, ht⟩ := ih h2
      exact ⟨k + 1, b, by simpa using hk, hb, ht⟩
    · obtain ⟨b, hb, ht⟩ := popW_some h1
      exact ⟨0, b, by simp, hb, ht⟩
theorem synL_none : ∀ (x : List Nat) (j : Nat), popL x = 0 → (∀ n ∈ x, n < 2 ^ 40) → synL j x = 0 := by
  intro x
  induction x with
  | nil => intro j _ _; rfl
  | cons n x ih =>
    intro j h hn
    simp only [popL] at h
    have h1 := zero_of_pop (hn n (by simp)) (by omega)
    subst h1
    show synW j 0 40 ^^^ synL (j + 1) x = 0
    rw [synW_zero, ih (j + 1) (by omega) (fun m hm => hn m (by simp [hm]))]
    rfl
theorem all_zero : ∀ (x : List Nat), popL x = 0 → (∀ n ∈ x, n < 2 ^ 40) → ∀ n ∈ x, n = 0 := by
  intro x
  induction x with
  | nil => intro _ _ n hn; cases hn
  | cons m x ih =>
    intro h hn n hm
    simp only [popL] at h
    rcases List.mem_cons.1 hm with rfl | h2
    · exact zero_of_pop (hn _ (by simp)) (by omega)
    · exact ih (by omega) (fun m hm => hn m (by simp [hm])) n h2
/-- A line with its code as nine words. -/
structure Nine (x : List Nat) : Prop where
  len : x.length = 9
  small : ∀ n ∈ x, n < 2 ^ 40
  code : x.getD 8 0 < 1024
theorem Nine.bit {x : List Nat} (h : Nine x) {k b : Nat} (hk : k < 9) (hb : b < 40) (ht : (x.getD k 0).testBit b = true) : okBit k b = true := by
  unfold okBit
  by_cases h8 : k < 8
  · simp [h8, hb]
  · have e : k = 8 := by omega
    subst e
    have : b < 10 := by
      rcases Nat.lt_or_ge b 10 with h1 | h1
      · exact h1
      · have h2 := h.code
        have := Nat.testBit_lt_two_pow (x := x.getD 8 0) (i := b) (Nat.lt_of_lt_of_le h2 (Nat.pow_le_pow_right (n := 2) (by decide) h1))
        rw [this] at ht
        cases ht
    simp [this]
theorem two_pow_lt {b m : Nat} (h : b < m) : 2 ^ b < 2 ^ m := Nat.pow_lt_pow_right (by decide) h
theorem Nine.flp {x : List Nat} (h : Nine x) {k b : Nat} (hb : okBit k b = true) : Nine (flp x k b) := by
  have hb40 : b < 40 := by unfold okBit at hb; simp at hb; omega
  have hk : k < x.length := by rw [h.len]; unfold okBit at hb; simp at hb; omega
  refine ⟨by rw [flp_len, h.len], ?_, ?_⟩
  · intro n hn
    rcases List.mem_or_eq_of_mem_set hn with h1 | h1
    · exact h.small n h1
    · subst h1
      refine Nat.xor_lt_two_pow (h.small _ ?_) (two_pow_lt hb40)
      rw [List.getD_eq_getElem?_getD]
      simp [hk]
  · rw [flp_get x k b 8 hk]
    split
    · rename_i e
      subst e
      have : b < 10 := by unfold okBit at hb; simp at hb; omega
      exact Nat.xor_lt_two_pow (n := 10) h.code (two_pow_lt this)
    · exact h.code
theorem synL_lt : ∀ (x : List Nat) (j : Nat), (∀ k b, k < x.length → b < 40 → (x.getD k 0).testBit b = true → psn (j + k) b < 512) → synL j x < 512 := by
  intro x
  induction x with
  | nil => intro j _; simp [synL]
  | cons n x ih =>
    intro j h
    have h1 : ∀ m, m ≤ 40 → synW j n m < 512 := by
      intro m
      induction m with
      | zero => intro _; simp [synW]
      | succ m ih2 =>
        intro hm
        unfold synW
        refine Nat.xor_lt_two_pow (n := 9) (ih2 (by omega)) ?_
        split
        · rename_i ht
          exact h 0 m (by simp) (by omega) ht
        · decide
    refine Nat.xor_lt_two_pow (n := 9) (h1 40 (Nat.le_refl _)) (ih (j + 1) fun k b hk hb ht => ?_)
    have := h (k + 1) b (by simpa using hk) hb ht
    rwa [show j + 1 + k = j + (k + 1) by omega]
theorem Nine.syn {x : List Nat} (h : Nine x) : synL 0 x < 512 :=
  synL_lt x 0 fun k b hk hb ht => by rw [Nat.zero_add]; exact psn_lt (h.bit (by rw [← h.len]; exact hk) hb ht)
theorem okBit_b {k b : Nat} (h : okBit k b = true) : b < 40 := by unfold okBit at h; simp at h; omega
theorem okBit_k {k b : Nat} (h : okBit k b = true) : k < 9 := by unfold okBit at h; simp at h; omega
/-- No two or three bits make a clean line out of a clean one. -/
theorem Nine.far {x : List Nat} (h : Nine x) (hs : synL 0 x = 0) (hp : popL x % 2 = 0) : popL x = 0 ∨ 4 ≤ popL x := by
  rcases Nat.eq_zero_or_pos (popL x) with h0 | h0
  · exact .inl h0
  · right
    rcases Nat.lt_or_ge (popL x) 4 with h4 | h4
    · exfalso
      have h2 : popL x = 2 := by omega
      obtain ⟨k, b, hk, hb, ht⟩ := popL_some x (by omega)
      have ok1 := h.bit (by rw [← h.len]; exact hk) hb ht
      have g := h.flp ok1
      have e1 := popL_flp b hb x k hk
      rw [if_pos ht] at e1
      have s1 := synL_flp b hb x 0 k hk
      obtain ⟨k', b', hk', hb', ht'⟩ := popL_some (Go.Proofs.YtmnncbgibngmiaaGreatDoor.flp x k b) (by omega)
      have ok2 := g.bit (by rw [← g.len]; exact hk') hb' ht'
      have g2 := g.flp ok2
      have e2 := popL_flp b' hb' _ k' hk'
      rw [if_pos ht'] at e2
      have s2 := synL_flp b' hb' _ 0 k' hk'
      have z := synL_none _ 0 (by omega) g2.small
      rw [s2, s1, hs, Nat.zero_add, Nat.zero_add, Nat.zero_xor] at z
      have he : psn k b = psn k' b' := by
        have := congrArg (· ^^^ psn k' b') z
        simpa [Nat.xor_assoc] using this
      obtain ⟨rfl, rfl⟩ := psn_inj ok1 ok2 he
      rw [flp_get x k b k hk, if_pos rfl, Nat.testBit_xor, ht, Nat.testBit_two_pow_self] at ht'
      cases ht'
    · exact h4
end Go.Proofs.YtmnncbgibngmiaaGreatDoor
namespace Go.Proofs.YtmnncbgibngmiaaGreatDoor
theorem land_split (X Y : Nat) : X &&& Y = (X % 256 &&& Y % 256) + 256 * (X / 256 &&& Y / 256) := by
  have h1 : (X &&& Y) % 256 = X % 256 &&& Y % 256 := Nat.and_mod_two_pow (n := 8)
  have h2 : (X &&& Y) / 256 = X / 256 &&& Y / 256 := by
    have := Nat.shiftRight_and_distrib (a := X) (b := Y) (i := 8)
    simpa [Nat.shiftRight_eq_div_pow] using this
  rw [← h1, ← h2]
  omega
/-- The mask of n bytes. -/
def msk (c : Nat) : Nat → Nat
  | 0 => 0
  | n + 1 => c + 256 * msk c n
theorem land_msk (X c n : Nat) (hc : c < 256) : X &&& msk c (n + 1) = (X % 256 &&& c) + 256 * (X / 256 &&& msk c n) := by
  rw [land_split]
  have h1 : msk c (n + 1) % 256 = c := by unfold msk; omega
  have h2 : msk c (n + 1) / 256 = msk c n := by rw [msk]; omega
  rw [h1, h2]
def G1 (n x : Nat) : Nat := (x / 2 &&& msk 85 n) + (x &&& msk 85 n)
def G2 (n x : Nat) : Nat := (x / 4 &&& msk 51 n) + (x &&& msk 51 n)
def G3 (n x : Nat) : Nat := (x / 16 + x) &&& msk 15 n
def g1 (a : Nat) : Nat := (a / 2 &&& 85) + (a &&& 85)
def g2 (a : Nat) : Nat := (a / 4 &&& 51) + (a &&& 51)
def g3 (a : Nat) : Nat := (a / 16 + a) &&& 15
theorem G1_step (n a b : Nat) (ha : a < 256) : G1 (n + 1) (a + 256 * b) = g1 a + 256 * G1 n b := by
  unfold G1 g1
  rw [land_msk _ _ _ (by decide), land_msk _ _ _ (by decide)]
  have e1 : (a + 256 * b) / 2 % 256 = a / 2 + 128 * (b % 2) := by omega
  have e2 : (a + 256 * b) / 2 / 256 = b / 2 := by omega
  have e3 : (a + 256 * b) % 256 = a := by omega
  have e4 : (a + 256 * b) / 256 = b := by omega
  have key : ∀ a : Fin 256, ∀ p : Fin 2, (a.val / 2 + 128 * p.val) &&& 85 = a.val / 2 &&& 85 := by decide +kernel
  have k : (a / 2 + 128 * (b % 2)) &&& 85 = a / 2 &&& 85 := key ⟨a, ha⟩ ⟨b % 2, by omega⟩
  rw [e1, e2, e3, e4, k]
  omega
theorem G2_step (n a b : Nat) (ha : a < 256) : G2 (n + 1) (a + 256 * b) = g2 a + 256 * G2 n b := by
  unfold G2 g2
  rw [land_msk _ _ _ (by decide), land_msk _ _ _ (by decide)]
  have e1 : (a + 256 * b) / 4 % 256 = a / 4 + 64 * (b % 4) := by omega
  have e2 : (a + 256 * b) / 4 / 256 = b / 4 := by omega
  have e3 : (a + 256 * b) % 256 = a := by omega
  have e4 : (a + 256 * b) / 256 = b := by omega
  have key : ∀ a : Fin 256, ∀ p : Fin 4, (a.val / 4 + 64 * p.val) &&& 51 = a.val / 4 &&& 51 := by decide +kernel
  have k : (a / 4 + 64 * (b % 4)) &&& 51 = a / 4 &&& 51 := key ⟨a, ha⟩ ⟨b % 4, by omega⟩
  rw [e1, e2, e3, e4, k]
  omega
theorem G3_step (n a b : Nat) (ha : a ≤ 68) (hb : b % 16 ≤ 4) : G3 (n + 1) (a + 256 * b) = g3 a + 256 * G3 n b := by
  unfold G3 g3
  rw [land_msk _ _ _ (by decide)]
  have e1 : ((a + 256 * b) / 16 + (a + 256 * b)) % 256 = (a / 16 + a) + 16 * (b % 16) := by omega
  have e2 : ((a + 256 * b) / 16 + (a + 256 * b)) / 256 = b / 16 + b := by omega
  have e3 : ((a / 16 + a) + 16 * (b % 16)) &&& 15 = (a / 16 + a) &&& 15 := by
    rw [nat_mask4, nat_mask4]
    omega
  rw [e1, e2, e3]
/-- All three steps. -/
def GG (n x : Nat) : Nat := G3 n (G2 n (G1 n x))
def gg (a : Nat) : Nat := g3 (g2 (g1 a))
theorem G_zero (n : Nat) : G1 n 0 = 0 ∧ G2 n 0 = 0 ∧ G3 n 0 = 0 := by
  refine ⟨?_, ?_, ?_⟩ <;> simp [G1, G2, G3]
theorem g_small (a : Nat) (ha : a < 256) : g1 a < 256 ∧ g2 (g1 a) ≤ 68 ∧ g2 (g1 a) % 16 ≤ 4 ∧ gg a = popW a 8 ∧ gg a ≤ 8 := by
  have all : ∀ a : Fin 256, g1 a < 256 ∧ g2 (g1 a) ≤ 68 ∧ g2 (g1 a) % 16 ≤ 4 ∧ gg a = popW a 8 ∧ gg a ≤ 8 := by decide +kernel
  exact all ⟨a, ha⟩
theorem low16 (n x : Nat) : G2 (n + 1) (G1 (n + 1) x) % 16 ≤ 4 := by
  have e : x = x % 256 + 256 * (x / 256) := by omega
  have hs := g_small (x % 256) (by omega)
  rw [e, G1_step _ _ _ (by omega), G2_step _ _ _ hs.1]
  omega
theorem GG_step (n a b : Nat) (ha : a < 256) : GG (n + 2) (a + 256 * b) = gg a + 256 * GG (n + 1) b := by
  have hs := g_small a ha
  unfold GG gg
  rw [G1_step _ _ _ ha, G2_step _ _ _ hs.1, G3_step _ _ _ hs.2.1 (low16 n b)]
theorem popW_eq (x y : Nat) : ∀ b, (∀ i, i < b → x.testBit i = y.testBit i) → popW x b = popW y b := by
  intro b
  induction b with
  | zero => intro _; rfl
  | succ b ih =>
    intro h
    unfold popW
    rw [ih (fun i hi => h i (by omega)), h b (by omega)]
theorem popW_add (x k : Nat) : ∀ m, popW x (k + m) = popW x k + popW (x / 2 ^ k) m := by
  intro m
  induction m with
  | zero => simp [popW]
  | succ m ih =>
    show popW x (k + m) + (if x.testBit (k + m) then 1 else 0) = popW x k + (popW (x / 2 ^ k) m + (if (x / 2 ^ k).testBit m then 1 else 0))
    rw [ih, Nat.testBit_div_two_pow, Nat.add_comm k m]
    omega
theorem popW_byte (a b m : Nat) (ha : a < 256) : popW (a + 256 * b) (8 + m) = popW a 8 + popW b m := by
  rw [popW_add]
  have e : (a + 256 * b) / 2 ^ 8 = b := by
    show (a + 256 * b) / 256 = b
    omega
  rw [e]
  congr 1
  refine popW_eq _ _ _ fun i hi => ?_
  have h1 : (a + 256 * b) % 2 ^ 8 = a := by
    show (a + 256 * b) % 256 = a
    omega
  have h2 := Nat.testBit_mod_two_pow (a + 256 * b) 8 i
  rw [h1] at h2
  rw [h2]
  simp [hi]
/-- What the six steps of the standard library come to. -/
theorem ones_eq (x y1 y2 : Nat) (hx : x < 1099511627776) (h1 : y1 = GG 8 x + GG 8 x / 256) (h2 : y2 = y1 + y1 / 65536) : (y2 + y2 / 4294967296) % 128 = popW x 40 ∧ GG 8 x < 1099511627776 := by
  obtain ⟨a0, a1, a2, a3, a4, ha0, ha1, ha2, ha3, ha4, rfl⟩ : ∃ a0 a1 a2 a3 a4, a0 < 256 ∧ a1 < 256 ∧ a2 < 256 ∧ a3 < 256 ∧ a4 < 256 ∧ x = a0 + 256 * (a1 + 256 * (a2 + 256 * (a3 + 256 * (a4 + 256 * 0)))) :=
    ⟨x % 256, x / 256 % 256, x / 65536 % 256, x / 16777216 % 256, x / 4294967296 % 256, by omega, by omega, by omega, by omega, by omega, by omega⟩
  have hz : GG (2 + 1) 0 = 0 := by unfold GG; rw [(G_zero _).1, (G_zero _).2.1, (G_zero _).2.2]
  rw [GG_step 6 _ _ ha0, GG_step 5 _ _ ha1, GG_step 4 _ _ ha2, GG_step 3 _ _ ha3, GG_step 2 _ _ ha4, hz] at h1 ⊢
  rw [show (40 : Nat) = 8 + (8 + (8 + (8 + (8 + 0)))) from rfl, popW_byte _ _ _ ha0, popW_byte _ _ _ ha1, popW_byte _ _ _ ha2, popW_byte _ _ _ ha3, popW_byte _ _ _ ha4]
  have b0 := g_small a0 ha0
  have b1 := g_small a1 ha1
  have b2 := g_small a2 ha2
  have b3 := g_small a3 ha3
  have b4 := g_small a4 ha4
  rw [← b0.2.2.2.1, ← b1.2.2.2.1, ← b2.2.2.2.1, ← b3.2.2.2.1, ← b4.2.2.2.1]
  have c0 := b0.2.2.2.2
  have c1 := b1.2.2.2.2
  have c2 := b2.2.2.2.2
  have c3 := b3.2.2.2.2
  have c4 := b4.2.2.2.2
  clear b0 b1 b2 b3 b4 hz
  generalize gg a0 = p0 at *
  generalize gg a1 = p1 at *
  generalize gg a2 = p2 at *
  generalize gg a3 = p3 at *
  generalize gg a4 = p4 at *
  have hp : popW 0 0 = 0 := rfl
  rw [hp]
  have q1 : (p0 + 256 * (p1 + 256 * (p2 + 256 * (p3 + 256 * (p4 + 256 * 0))))) / 256 = p1 + 256 * p2 + 65536 * p3 + 16777216 * p4 := by omega
  have q2 : y1 = (p0 + p1) + 256 * (p1 + p2) + 65536 * ((p2 + p3) + 256 * (p3 + p4) + 65536 * p4) := by omega
  have q3 : y1 / 65536 = (p2 + p3) + 256 * (p3 + p4) + 65536 * p4 := by omega
  have q4 : y2 = (p0 + p1 + p2 + p3) + 256 * (p1 + p2 + p3 + p4) + 65536 * ((p2 + p3 + p4) + 256 * (p3 + p4)) + 4294967296 * p4 := by omega
  have q5 : y2 / 4294967296 = p4 := by omega
  refine ⟨?_, by omega⟩
  rw [q5]
  omega
theorem popW_le (x : Nat) : ∀ b, popW x b ≤ b := by
  intro b
  induction b with
  | zero => simp [popW]
  | succ b ih => unfold popW; split <;> omega
theorem masks : msk 85 8 = 6148914691236517205 ∧ msk 51 8 = 3689348814741910323 ∧ msk 15 8 = 1085102592571150095 := by decide
theorem G_le (x : Nat) : G1 8 x < 18446744073709551616 ∧ G2 8 (G1 8 x) < 18446744073709551616 ∧ G2 8 (G1 8 x) / 16 + G2 8 (G1 8 x) < 18446744073709551616 := by
  have m1 : ∀ X, X &&& msk 85 8 ≤ 6148914691236517205 := fun X => by rw [← masks.1]; exact Nat.and_le_right
  have m2 : ∀ X, X &&& msk 51 8 ≤ 3689348814741910323 := fun X => by rw [← masks.2.1]; exact Nat.and_le_right
  have a1 := m1 (x / 2)
  have a2 := m1 x
  have a3 := m2 (G1 8 x / 4)
  have a4 := m2 (G1 8 x)
  refine ⟨by unfold G1; omega, by unfold G2; omega, ?_⟩
  unfold G2
  omega
end Go.Proofs.YtmnncbgibngmiaaGreatDoor
