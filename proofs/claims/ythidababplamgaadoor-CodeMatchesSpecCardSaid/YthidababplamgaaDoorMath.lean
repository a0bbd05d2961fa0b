/- The code of lines in plain numbers: positions, syndromes, counts of bits. -/
import Derived.Laws.MathBits
namespace Go.Proofs.YthidababplamgaaDoor
/-- The position of the data bit number i. -/
def posn (i : Nat) : Nat := i + 1 + bitLen (i + 1 + bitLen (i + 1))
/-- The position of a bit: of a word, or of the code as the word 8. -/
def psn (k b : Nat) : Nat := if k < 8 then posn (40 * k + b) else if b < 9 then 2 ^ b else 0
def okBit (k b : Nat) : Bool := (decide (k < 8) && decide (b < 40)) || (decide (k = 8) && decide (b < 10))
/-- The exclusive or of the positions of the first bits of a word that are 1. -/
def synW (k n : Nat) : Nat → Nat
  | 0 => 0
  | b + 1 => synW k n b ^^^ (if n.testBit b then psn k b else 0)
def synL (k : Nat) : List Nat → Nat
  | [] => 0
  | n :: r => synW k n 40 ^^^ synL (k + 1) r
/-- How many of the first bits are 1. -/
def popW (n : Nat) : Nat → Nat
  | 0 => 0
  | b + 1 => popW n b + (if n.testBit b then 1 else 0)
def popL : List Nat → Nat
  | [] => 0
  | n :: r => popW n 40 + popL r
def synT (ws : List Nat) (c : Nat) : Nat := synL 0 (ws ++ [c])
def popT (ws : List Nat) (c : Nat) : Nat := popL (ws ++ [c])
def encN (ws : List Nat) : Nat := synT ws 0 + 512 * (popT ws (synT ws 0) % 2)
def findF (s : Nat) : Nat × Nat × Bool :=
  if s = 0 then (8, 9, true) else if s = 2 ^ (bitLen s - 1) then (8, bitLen s - 1, true) else ((s - bitLen s - 1) / 40, (s - bitLen s - 1) % 40, decide (s - bitLen s - 1 < 320))
/-- State, word and bit out of syndrome and parity. -/
def chkF (s p : Nat) : Nat × Nat × Nat :=
  if s = 0 ∧ p = 0 then (0, 0, 0) else if p = 0 then (2, 0, 0) else if (findF s).2.2 then (1, (findF s).1, (findF s).2.1) else (2, 0, 0)
theorem find_psn {k b : Nat} (h : okBit k b = true) : findF (psn k b) = (k, b, true) := by
  have all : ∀ k : Fin 9, ∀ b : Fin 40, okBit k b = true → findF (psn k b) = (k.val, b.val, true) := by decide +kernel
  have hk : k < 9 := by unfold okBit at h; simp at h; omega
  have hb : b < 40 := by unfold okBit at h; simp at h; omega
  exact all ⟨k, hk⟩ ⟨b, hb⟩ h
theorem psn_find {s : Nat} (hs : s < 512) (h : (findF s).2.2 = true) : okBit (findF s).1 (findF s).2.1 = true ∧ psn (findF s).1 (findF s).2.1 = s := by
  have all : ∀ s : Fin 512, (findF s).2.2 = true → okBit (findF s).1 (findF s).2.1 = true ∧ psn (findF s).1 (findF s).2.1 = s := by decide +kernel
  exact all ⟨s, hs⟩ h
theorem psn_lt {k b : Nat} (h : okBit k b = true) : psn k b < 512 := by
  have all : ∀ k : Fin 9, ∀ b : Fin 40, okBit k b = true → psn k b < 512 := by decide +kernel
  have hk : k < 9 := by unfold okBit at h; simp at h; omega
  have hb : b < 40 := by unfold okBit at h; simp at h; omega
  exact all ⟨k, hk⟩ ⟨b, hb⟩ h
theorem psn_inj {k b k' b' : Nat} (h : okBit k b = true) (h' : okBit k' b' = true) (he : psn k b = psn k' b') : k = k' ∧ b = b' := by
  have h1 := find_psn h
  rw [he, find_psn h'] at h1
  simp only [Prod.mk.injEq] at h1
  exact ⟨h1.1.symm, h1.2.1.symm⟩
theorem synW_xor (k n m : Nat) : ∀ b, synW k (n ^^^ m) b = synW k n b ^^^ synW k m b := by
  intro b
  induction b with
  | zero => simp [synW]
  | succ b ih =>
    unfold synW
    rw [ih, Nat.testBit_xor]
    have h1 : ∀ a b c d : Nat, (a ^^^ b) ^^^ (c ^^^ d) = (a ^^^ c) ^^^ (b ^^^ d) := fun a b c d => by
      rw [Nat.xor_assoc, ← Nat.xor_assoc b c d, Nat.xor_comm b c, Nat.xor_assoc c b d, ← Nat.xor_assoc]
    rw [← h1]
    congr 1
    cases n.testBit b <;> cases m.testBit b <;> simp
theorem synW_pow (k b : Nat) : ∀ m, synW k (2 ^ b) m = if b < m then psn k b else 0 := by
  intro m
  induction m with
  | zero => simp [synW]
  | succ m ih =>
    unfold synW
    rw [ih, Nat.testBit_two_pow]
    by_cases h : b = m
    · subst h
      simp
    · by_cases h2 : b < m
      · rw [if_pos h2, if_pos (show b < m + 1 by omega)]
        simp [h]
      · rw [if_neg h2, if_neg (show ¬ b < m + 1 by omega)]
        simp [h]
theorem synW_zero (k : Nat) : ∀ b, synW k 0 b = 0 := by
  intro b
  induction b with
  | zero => rfl
  | succ b ih => unfold synW; rw [ih]; simp
theorem popW_flip (n b : Nat) : ∀ m, popW (n ^^^ 2 ^ b) m = if b < m then (if n.testBit b then popW n m - 1 else popW n m + 1) else popW n m := by
  intro m
  induction m with
  | zero => simp [popW]
  | succ m ih =>
    unfold popW
    rw [ih, Nat.testBit_xor, Nat.testBit_two_pow]
    by_cases h : b = m
    · subst h
      rw [if_neg (Nat.lt_irrefl _), if_pos (Nat.lt_succ_self _)]
      cases n.testBit b <;> simp
    · by_cases h2 : b < m
      · rw [if_pos h2, if_pos (show b < m + 1 by omega)]
        have hd : decide (b = m) = false := by simp [h]
        rw [hd, Bool.xor_false]
        have : n.testBit b = true → 1 ≤ popW n m := by
          intro hb
          clear ih
          induction m with
          | zero => omega
          | succ m ih2 =>
            unfold popW
            by_cases h3 : b = m
            · subst h3; rw [if_pos hb]; omega
            · have := ih2 h3 (by omega) (by simp [h3])
              omega
        split
        · rename_i hb
          have := this hb
          omega
        · omega
      · rw [if_neg h2, if_neg (show ¬ b < m + 1 by omega)]
        simp [h]
theorem popW_pos {n b m : Nat} (hb : b < m) (h : n.testBit b = true) : 1 ≤ popW n m := by
  induction m with
  | zero => omega
  | succ m ih =>
    unfold popW
    by_cases h3 : b = m
    · subst h3; rw [if_pos h]; omega
    · have := ih (by omega)
      omega
theorem popW_zero (b : Nat) : popW 0 b = 0 := by
  induction b with
  | zero => rfl
  | succ b ih => unfold popW; rw [ih]; simp
theorem popW_some {n m : Nat} (h : popW n m ≠ 0) : ∃ b, b < m ∧ n.testBit b = true := by
  induction m with
  | zero => exact absurd rfl h
  | succ m ih =>
    by_cases hm : n.testBit m = true
    · exact ⟨m, by omega, hm⟩
    · unfold popW at h
      rw [if_neg hm] at h
      obtain ⟨b, hb, h2⟩ := ih h
      exact ⟨b, by omega, h2⟩
theorem zero_of_pop {n m : Nat} (hn : n < 2 ^ m) (h : popW n m = 0) : n = 0 := by
  refine Nat.eq_of_testBit_eq fun i => ?_
  rw [Nat.zero_testBit]
  by_cases hi : i < m
  · cases hb : n.testBit i with
    | false => rfl
    | true => have := popW_pos hi hb; omega
  · exact Nat.testBit_lt_two_pow (Nat.lt_of_lt_of_le hn (Nat.pow_le_pow_right (by decide) (by omega)))
theorem synL_append (l r : List Nat) : ∀ k, synL k (l ++ r) = synL k l ^^^ synL (k + l.length) r := by
  induction l with
  | nil => intro k; simp [synL]
  | cons n l ih =>
    intro k
    show synW k n 40 ^^^ synL (k + 1) (l ++ r) = (synW k n 40 ^^^ synL (k + 1) l) ^^^ synL (k + (l.length + 1)) r
    rw [ih, Nat.xor_assoc, Nat.add_assoc, Nat.add_comm 1]
theorem popL_append (l r : List Nat) : popL (l ++ r) = popL l + popL r := by
  induction l with
  | nil => simp [popL]
  | cons n l ih => simp only [List.cons_append, popL, ih]; omega
/-- One bit is inverted. -/
def flp (x : List Nat) (k b : Nat) : List Nat := x.set k (x.getD k 0 ^^^ 2 ^ b)
theorem flp_len (x : List Nat) (k b : Nat) : (flp x k b).length = x.length := by simp [flp]
theorem flp_get (x : List Nat) (k b j : Nat) (hk : k < x.length) : (flp x k b).getD j 0 = if j = k then x.getD k 0 ^^^ 2 ^ b else x.getD j 0 := by
  unfold flp
  rw [List.getD_eq_getElem?_getD, List.getElem?_set]
  split
  · rename_i h; subst h; simp [hk]
  · rename_i h; rw [if_neg (fun e => h e.symm)]; simp
theorem flp_flp (x : List Nat) (k b : Nat) : flp (flp x k b) k b = x := by
  by_cases hk : k < x.length
  · refine List.ext_getElem (by simp [flp]) fun j h1 h2 => ?_
    unfold flp
    simp only [List.getElem_set, List.getD_eq_getElem?_getD, List.getElem?_set]
    split
    · rename_i h; subst h; simp [hk, Nat.xor_assoc]
    · rfl
  · unfold flp
    rw [List.set_eq_of_length_le (by simp; omega), List.set_eq_of_length_le (by omega)]
theorem synL_flp (b : Nat) (hb : b < 40) : ∀ (x : List Nat) (j k : Nat), k < x.length → synL j (flp x k b) = synL j x ^^^ psn (j + k) b := by
  intro x
  induction x with
  | nil => intro j k hk; simp at hk
  | cons n x ih =>
    intro j k hk
    cases k with
    | zero =>
      show synW j (n ^^^ 2 ^ b) 40 ^^^ synL (j + 1) x = (synW j n 40 ^^^ synL (j + 1) x) ^^^ psn j b
      rw [synW_xor, synW_pow, if_pos hb, Nat.xor_assoc, Nat.xor_assoc, Nat.xor_comm (psn j b)]
    | succ k =>
      have := ih (j + 1) k (by simpa using hk)
      show synW j n 40 ^^^ synL (j + 1) (flp x k b) = (synW j n 40 ^^^ synL (j + 1) x) ^^^ psn (j + (k + 1)) b
      rw [this, Nat.xor_assoc, Nat.add_assoc, Nat.add_comm 1]
theorem popL_flp (b : Nat) (hb : b < 40) : ∀ (x : List Nat) (k : Nat), k < x.length → popL (flp x k b) = if (x.getD k 0).testBit b then popL x - 1 else popL x + 1 := by
  intro x
  induction x with
  | nil => intro k hk; simp at hk
  | cons n x ih =>
    intro k hk
    cases k with
    | zero =>
      show popW (n ^^^ 2 ^ b) 40 + popL x = if n.testBit b then popW n 40 + popL x - 1 else popW n 40 + popL x + 1
      rw [popW_flip, if_pos hb]
      split
      · rename_i h
        have := popW_pos hb h
        omega
      · omega
    | succ k =>
      have h1 := ih k (by simpa using hk)
      show popW n 40 + popL (flp x k b) = if (x.getD k 0).testBit b then popW n 40 + popL x - 1 else popW n 40 + popL x + 1
      rw [h1]
      split
      · rename_i h
        have h2 : 1 ≤ popL x := by
          clear h1 ih
          induction x generalizing k with
          | nil => simp at hk
          | cons m x ih2 =>
            cases k with
            | zero => have := popW_pos (n := m) (m := 40) hb h; simp only [popL]; omega
            | succ k => have := ih2 k (by simpa using hk) h; simp only [popL]; omega
        omega
      · omega
theorem popL_pos {b : Nat} (hb : b < 40) : ∀ (x : List Nat) (k : Nat), (x.getD k 0).testBit b = true → 1 ≤ popL x := by
  intro x
  induction x with
  | nil => intro k h; simp at h
  | cons n x ih =>
    intro k h
    cases k with
    | zero => have := popW_pos (n := n) (m := 40) hb h; simp only [popL]; omega
    | succ k => have := ih k h; simp only [popL]; omega
theorem popL_some : ∀ (x : List Nat), popL x ≠ 0 → ∃ k b, k < x.length ∧ b < 40 ∧ (x.getD k 0).testBit b = true := by
  intro x
  induction x with
  | nil => intro h; exact absurd rfl h
  | cons n x ih =>
    intro h
    by_cases h1 : popW n 40 = 0
    · have h2 : popL x ≠ 0 := by intro e; apply h; simp [popL, h1, e]
      obtain ⟨k, b, hk, hb, ht⟩ := ih h2
      exact ⟨k + 1, b, by simpa using hk, hb, ht⟩
    · obtain ⟨b, hb, ht⟩ := popW_some h1
      exact ⟨0, b, by simp, hb, ht⟩
theorem synL_none : ∀ (x : List Nat) (j : Nat), popL x = 0 → (∀ n ∈ x, n < 2 ^ 40) → synL j x = 0 := by
  intro x
  induction x with
  | nil => intro j _ _; rfl
  | cons n x ih =>
    intro j h hn
    simp only [popL] at h
    have h1 := zero_of_pop (hn n (by simp)) (by omega)
    subst h1
    show synW j 0 40 ^^^ synL (j + 1) x = 0
    rw [synW_zero, ih (j + 1) (by omega) (fun m hm => hn m (by simp [hm]))]
    rfl
theorem all_zero : ∀ (x : List Nat), popL x = 0 → (∀ n ∈ x, n < 2 ^ 40) → ∀ n ∈ x, n = 0 := by
  intro x
  induction x with
  | nil => intro _ _ n hn; cases hn
  | cons m x ih =>
    intro h hn n hm
    simp only [popL] at h
    rcases List.mem_cons.1 hm with rfl | h2
    · exact zero_of_pop (hn _ (by simp)) (by omega)
    · exact ih (by omega) (fun m hm => hn m (by simp [hm])) n h2
/-- A line with its code as nine words. -/
structure Nine (x : List Nat) : Prop where
  len : x.length = 9
  small : ∀ n ∈ x, n < 2 ^ 40
  code : x.getD 8 0 < 1024
theorem Nine.bit {x : List Nat} (h : Nine x) {k b : Nat} (hk : k < 9) (hb : b < 40) (ht : (x.getD k 0).testBit b = true) : okBit k b = true := by
  unfold okBit
  by_cases h8 : k < 8
  · simp [h8, hb]
  · have e : k = 8 := by omega
    subst e
    have : b < 10 := by
      rcases Nat.lt_or_ge b 10 with h1 | h1
      · exact h1
      · have h2 := h.code
        have := Nat.testBit_lt_two_pow (x := x.getD 8 0) (i := b) (Nat.lt_of_lt_of_le h2 (Nat.pow_le_pow_right (n := 2) (by decide) h1))
        rw [this] at ht
        cases ht
    simp [this]
theorem two_pow_lt {b m : Nat} (h : b < m) : 2 ^ b < 2 ^ m := Nat.pow_lt_pow_right (by decide) h
theorem Nine.flp {x : List Nat} (h : Nine x) {k b : Nat} (hb : okBit k b = true) : Nine (flp x k b) := by
  have hb40 : b < 40 := by unfold okBit at hb; simp at hb; omega
  have hk : k < x.length := by rw [h.len]; unfold okBit at hb; simp at hb; omega
  refine ⟨by rw [flp_len, h.len], ?_, ?_⟩
  · intro n hn
    rcases List.mem_or_eq_of_mem_set hn with h1 | h1
    · exact h.small n h1
    · subst h1
      refine Nat.xor_lt_two_pow (h.small _ ?_) (two_pow_lt hb40)
      rw [List.getD_eq_getElem?_getD]
      simp [hk]
  · rw [flp_get x k b 8 hk]
    split
    · rename_i e
      subst e
      have : b < 10 := by unfold okBit at hb; simp at hb; omega
      exact Nat.xor_lt_two_pow (n := 10) h.code (two_pow_lt this)
    · exact h.code
theorem synL_lt : ∀ (x : List Nat) (j : Nat), (∀ k b, k < x.length → b < 40 → (x.getD k 0).testBit b = true → psn (j + k) b < 512) → synL j x < 512 := by
  intro x
  induction x with
  | nil => intro j _; simp [synL]
  | cons n x ih =>
    intro j h
    have h1 : ∀ m, m ≤ 40 → synW j n m < 512 := by
      intro m
      induction m with
      | zero => intro _; simp [synW]
      | succ m ih2 =>
        intro hm
        unfold synW
        refine Nat.xor_lt_two_pow (n := 9) (ih2 (by omega)) ?_
        split
        · rename_i ht
          exact h 0 m (by simp) (by omega) ht
        · decide
    refine Nat.xor_lt_two_pow (n := 9) (h1 40 (Nat.le_refl _)) (ih (j + 1) fun k b hk hb ht => ?_)
    have := h (k + 1) b (by simpa using hk) hb ht
    rwa [show j + 1 + k = j + (k + 1) by omega]
theorem Nine.syn {x : List Nat} (h : Nine x) : synL 0 x < 512 :=
  synL_lt x 0 fun k b hk hb ht => by rw [Nat.zero_add]; exact psn_lt (h.bit (by rw [← h.len]; exact hk) hb ht)
theorem okBit_b {k b : Nat} (h : okBit k b = true) : b < 40 := by unfold okBit at h; simp at h; omega
theorem okBit_k {k b : Nat} (h : okBit k b = true) : k < 9 := by unfold okBit at h; simp at h; omega
/-- No two or three bits make a clean line out of a clean one. -/
theorem Nine.far {x : List Nat} (h : Nine x) (hs : synL 0 x = 0) (hp : popL x % 2 = 0) : popL x = 0 ∨ 4 ≤ popL x := by
  rcases Nat.eq_zero_or_pos (popL x) with h0 | h0
  · exact .inl h0
  · right
    rcases Nat.lt_or_ge (popL x) 4 with h4 | h4
    · exfalso
      have h2 : popL x = 2 := by omega
      obtain ⟨k, b, hk, hb, ht⟩ := popL_some x (by omega)
      have ok1 := h.bit (by rw [← h.len]; exact hk) hb ht
      have g := h.flp ok1
      have e1 := popL_flp b hb x k hk
      rw [if_pos ht] at e1
      have s1 := synL_flp b hb x 0 k hk
      obtain ⟨k', b', hk', hb', ht'⟩ := popL_some (Go.Proofs.YthidababplamgaaDoor.flp x k b) (by omega)
      have ok2 := g.bit (by rw [← g.len]; exact hk') hb' ht'
      have g2 := g.flp ok2
      have e2 := popL_flp b' hb' _ k' hk'
      rw [if_pos ht'] at e2
      have s2 := synL_flp b' hb' _ 0 k' hk'
      have z := synL_none _ 0 (by omega) g2.small
      rw [s2, s1, hs, Nat.zero_add, Nat.zero_add, Nat.zero_xor] at z
      have he : psn k b = psn k' b' := by
        have := congrArg (· ^^^ psn k' b') z
        simpa [Nat.xor_assoc] using this
      obtain ⟨rfl, rfl⟩ := psn_inj ok1 ok2 he
      rw [flp_get x k b k hk, if_pos rfl, Nat.testBit_xor, ht, Nat.testBit_two_pow_self] at ht'
      cases ht'
    · exact h4
end Go.Proofs.YthidababplamgaaDoor
