/- Plain definitions and lemmas on the encoding of integers, byte strings and lists; no program in sight. -/
import Derived.Laws.BitsAllLaws
namespace Go.Proofs.YtkineafacekklaaDoor

/-- The unsigned number of an integer. -/
def zig (z : Int) : Nat := if z < 0 then (-1 - z).toNat * 2 + 1 else z.toNat * 2
/-- The integer of an unsigned number. -/
def zag (m : Nat) : Int := if m % 2 = 1 then -1 - ((m / 2 : Nat) : Int) else ((m / 2 : Nat) : Int)
def lo8 (m : Nat) : UInt8 := UInt8.ofNat m
def hi8 (m : Nat) : UInt8 := UInt8.ofNat (m % 128 + 128)
def digs : Nat → Nat → List UInt8
  | 0, _ => []
  | f + 1, m => if m < 128 then [lo8 m] else hi8 m :: digs f (m / 128)
theorem lo8_toNat {m : Nat} (h : m < 128) : (lo8 m).toNat = m := by unfold lo8; exact UInt8.toNat_ofNat_of_lt' (by show _ < 256; omega)
theorem hi8_toNat (m : Nat) : (hi8 m).toNat = m % 128 + 128 := by unfold hi8; exact UInt8.toNat_ofNat_of_lt' (by show _ < 256; omega)
/-- After the digits p of m, the number k is left. -/
def DRel (m k : Nat) (p : List UInt8) : Prop := k < 18446744073709551616 ∧ ∃ f, p.length + (f + 1) = 10 ∧ k < 128 ^ (f + 1) ∧ p ++ digs (f + 1) k = digs 10 m
theorem DRel.start {m : Nat} (h : m < 18446744073709551616) : DRel m m [] := ⟨h, 9, rfl, by omega, rfl⟩
theorem DRel.len {m k : Nat} {p : List UInt8} (h : DRel m k p) : p.length ≤ 9 := by obtain ⟨_, f, h1, _⟩ := h; omega
theorem DRel.step {m k : Nat} {p : List UInt8} (h : DRel m k p) (hk : 128 ≤ k) : DRel m (k / 128) (p ++ [hi8 k]) := by
  obtain ⟨h0, f, h1, h2, h3⟩ := h
  cases f with
  | zero => omega
  | succ f =>
    refine ⟨by omega, f, by simp; omega, ?_, ?_⟩
    · rw [Nat.div_lt_iff_lt_mul (by decide), ← Nat.pow_succ]; exact h2
    · rw [← h3, List.append_assoc]
      rw [show digs (f + 1 + 1) k = hi8 k :: digs (f + 1) (k / 128) from by rw [digs, if_neg (by omega)]]
      rfl
theorem DRel.stop {m k : Nat} {p : List UInt8} (h : DRel m k p) (hk : k < 128) : p ++ [lo8 k] = digs 10 m := by
  obtain ⟨_, f, h1, h2, h3⟩ := h
  rw [← h3, digs, if_pos hk]
def enc (z : Int) : List UInt8 := digs 10 (zig z)
theorem digs_len (f : Nat) : ∀ m, (digs f m).length ≤ f := by
  induction f with
  | zero => intro m; simp [digs]
  | succ f ih => intro m; have := ih (m / 128); rw [digs]; split <;> simp; omega
theorem enc_len (z : Int) : (enc z).length ≤ 10 := digs_len 10 _
/-- A list's encoding. -/
def encL {α : Type} (f : α → List UInt8) (xs : List α) : List UInt8 := enc xs.length ++ xs.flatMap f
theorem encL_take {α : Type} (f : α → List UInt8) (xs : List α) (k : Nat) (h : k < xs.length) (p : List UInt8) : (p ++ (xs.take k).flatMap f) ++ f xs[k] = p ++ (xs.take (k + 1)).flatMap f := by
  rw [List.take_succ_eq_append_getElem h, List.flatMap_append, List.append_assoc]; simp
theorem flat_len {α : Type} (f : α → List UInt8) (c : Nat) (xs : List α) (h : ∀ x ∈ xs, (f x).length ≤ c) : (xs.flatMap f).length ≤ c * xs.length := by
  induction xs with
  | nil => simp
  | cons x r ih =>
    have h1 := h x (by simp)
    have h2 := ih fun y hy => h y (by simp [hy])
    simp only [List.flatMap_cons, List.length_append, List.length_cons, Nat.mul_add]
    omega
theorem encL_room {α : Type} (f : α → List UInt8) (xs : List α) (k : Nat) (h : k < xs.length) : (enc xs.length ++ (xs.take k).flatMap f).length + (f xs[k]).length ≤ (encL f xs).length := by
  have e : xs = xs.take k ++ (xs[k] :: xs.drop (k + 1)) := by rw [← List.drop_eq_getElem_cons h, List.take_append_drop]
  have e2 : (xs.flatMap f).length = ((xs.take k).flatMap f).length + ((f xs[k]).length + ((xs.drop (k + 1)).flatMap f).length) := by
    have := congrArg (fun l => (List.flatMap f l).length) e
    simpa only [List.flatMap_append, List.flatMap_cons, List.length_append] using this
  unfold encL
  simp only [List.length_append]
  omega
/-- 64-bit integers. -/
def I64 (z : Int) : Prop := -9223372036854775808 ≤ z ∧ z ≤ 9223372036854775807

theorem zig_lt {z : Int} (h : I64 z) : zig z < 18446744073709551616 := by unfold I64 at h; unfold zig; split <;> omega
theorem zag_zig (z : Int) : zag (zig z) = z := by
  unfold zag zig
  split <;> split <;> omega
theorem zig_zag (m : Nat) : zig (zag m) = m := by
  unfold zag zig
  split <;> split <;> omega
theorem zag_i64 {m : Nat} (h : m < 18446744073709551616) : I64 (zag m) := by
  unfold I64 zag
  split <;> omega

/-- The number of leading bytes from 128 on, at most f. -/
def cont : Nat → List UInt8 → Nat
  | 0, _ => 0
  | _ + 1, [] => 0
  | f + 1, c :: r => if 128 ≤ c.toNat then cont f r + 1 else 0
/-- The number of a list of digits, the lowest first. -/
def vl : List UInt8 → Nat
  | [] => 0
  | c :: r => c.toNat % 128 + 128 * vl r
def bad (k : Nat) (c : UInt8) : Bool := (decide (k = 9) && decide (1 < c.toNat)) || (decide (0 < k) && decide (c.toNat = 0))
def getI (l : List UInt8) : Int × Nat × Nat :=
  if cont 10 l = 10 then (0, 0, 11)
  else if l.length = cont 10 l then (0, 0, 10)
  else if bad (cont 10 l) (l.getD (cont 10 l) 0) = true then (0, 0, 11)
  else (zag (vl (l.take (cont 10 l + 1))), cont 10 l + 1, 0)

theorem cont_of (f : Nat) : ∀ (l : List UInt8) (k : Nat), k ≤ f → k ≤ l.length → (∀ j, j < k → 128 ≤ (l.getD j 0).toNat) → (k = f ∨ k = l.length ∨ (l.getD k 0).toNat < 128) → cont f l = k := by
  induction f with
  | zero => intro l k hk _ _ _; simp [cont]; omega
  | succ f ih =>
    intro l k hk hl hj he
    cases l with
    | nil => simp [cont]; simp at hl; omega
    | cons c r =>
      cases k with
      | zero =>
        have : c.toNat < 128 := by simpa using he
        rw [cont, if_neg (by omega)]
      | succ k =>
        have h0 : 128 ≤ c.toNat := by simpa using hj 0 (by omega)
        rw [cont, if_pos h0, ih r k (by omega) (by simpa using hl) (fun j h => by simpa using hj (j + 1) (by omega)) (by simpa using he)]

theorem cont_spec (f : Nat) : ∀ (l : List UInt8), cont f l ≤ f ∧ cont f l ≤ l.length ∧ (∀ j, j < cont f l → 128 ≤ (l.getD j 0).toNat) ∧ (cont f l = f ∨ cont f l = l.length ∨ (l.getD (cont f l) 0).toNat < 128) := by
  induction f with
  | zero => intro l; simp [cont]
  | succ f ih =>
    intro l
    cases l with
    | nil => simp [cont]
    | cons c r =>
      obtain ⟨h1, h2, h3, h4⟩ := ih r
      by_cases h : 128 ≤ c.toNat
      · rw [cont, if_pos h]
        refine ⟨by omega, by simpa using h2, ?_, by simpa using h4⟩
        intro j hj
        cases j with
        | zero => simpa using h
        | succ j => simpa using h3 j (by omega)
      · rw [cont, if_neg h]
        refine ⟨by omega, by omega, by omega, ?_⟩
        right; right
        simp
        omega

theorem vl_append (a b : List UInt8) : vl (a ++ b) = vl a + 128 ^ a.length * vl b := by
  induction a with
  | nil => simp [vl]
  | cons c r ih => simp only [List.cons_append, vl, ih, List.length_cons, Nat.pow_succ, Nat.mul_add]; rw [Nat.add_assoc, Nat.mul_comm (128 ^ r.length) 128, Nat.mul_assoc]
theorem vl_lt (l : List UInt8) : vl l < 128 ^ l.length := by
  induction l with
  | nil => simp [vl]
  | cons c r ih => simp only [vl, List.length_cons, Nat.pow_succ]; omega
theorem getI_end (l : List UInt8) (h9 : l.length ≤ 9) (hj : ∀ j, j < l.length → 128 ≤ (l.getD j 0).toNat) : getI l = (0, 0, 10) := by
  have hc := cont_of 10 l l.length (by omega) (Nat.le_refl _) hj (.inr (.inl rfl))
  unfold getI
  rw [hc, if_neg (by omega), if_pos rfl]
theorem getI_bad (l : List UInt8) (i : Nat) (hi : i < l.length) (h9 : i ≤ 9) (hj : ∀ j, j < i → 128 ≤ (l.getD j 0).toNat) (hb : bad i (l.getD i 0) = true) : getI l = (0, 0, 11) := by
  by_cases hc : 128 ≤ (l.getD i 0).toNat
  · have h : i = 9 := by
      unfold bad at hb
      simp only [Bool.or_eq_true, Bool.and_eq_true, decide_eq_true_eq] at hb
      omega
    subst h
    have hc := cont_of 10 l 10 (Nat.le_refl _) (by omega) (fun j h => by
      by_cases h' : j = 9
      · subst h'; exact hc
      · exact hj j (by omega)) (.inl rfl)
    unfold getI
    rw [hc, if_pos rfl]
  · have hc := cont_of 10 l i (by omega) (by omega) hj (.inr (.inr (by omega)))
    unfold getI
    rw [hc, if_neg (by omega), if_neg (by omega), if_pos hb]
theorem getI_ok (l : List UInt8) (i : Nat) (hi : i < l.length) (h9 : i ≤ 9) (hj : ∀ j, j < i → 128 ≤ (l.getD j 0).toNat) (hb : bad i (l.getD i 0) = false) (hc : (l.getD i 0).toNat < 128) : getI l = (zag (vl (l.take (i + 1))), i + 1, 0) := by
  have hc := cont_of 10 l i (by omega) (by omega) hj (.inr (.inr hc))
  unfold getI
  rw [hc, if_neg (by omega), if_neg (by omega), if_neg (by rw [hb]; simp)]
theorem getD_get (l : List UInt8) (i : Nat) (h : i < l.length) : l.getD i 0 = l[i] := by simp [h]
theorem vl_take (l : List UInt8) (i : Nat) (h : i < l.length) : vl (l.take (i + 1)) = vl (l.take i) + l[i].toNat % 128 * 128 ^ i := by
  rw [List.take_succ_eq_append_getElem h, vl_append, List.length_take, Nat.min_eq_left (by omega)]
  simp only [vl]
  rw [Nat.mul_comm]
  simp
theorem vl_take_lt (l : List UInt8) (i : Nat) (h : i ≤ l.length) : vl (l.take i) < 128 ^ i := by
  have := vl_lt (l.take i)
  rwa [List.length_take, Nat.min_eq_left h] at this
theorem pow128_le (i : Nat) (h : i ≤ 9) : 128 ^ i ≤ 9223372036854775808 := by
  calc 128 ^ i ≤ 128 ^ 9 := Nat.pow_le_pow_right (by decide) h
    _ = 9223372036854775808 := by decide
theorem pow128_le8 (i : Nat) (h : i ≤ 8) : 128 ^ i ≤ 72057594037927936 := by
  calc 128 ^ i ≤ 128 ^ 8 := Nat.pow_le_pow_right (by decide) h
    _ = 72057594037927936 := by decide
/-- What is collected fits 64 bits. -/
theorem dig_lt (x c i : Nat) (hx : x < 128 ^ i) (h9 : i ≤ 9) (hg : i = 9 → c ≤ 1) : x + c % 128 * 128 ^ i < 18446744073709551616 := by
  by_cases h : i = 9
  · have := hg h
    subst h
    have e : (128 : Nat) ^ 9 = 9223372036854775808 := by decide
    rw [e] at hx ⊢
    have : c % 128 ≤ 1 := by omega
    have h2 : c % 128 * 9223372036854775808 ≤ 1 * 9223372036854775808 := Nat.mul_le_mul_right _ this
    omega
  · have h2 := pow128_le8 i (by omega)
    have h3 : c % 128 * 128 ^ i ≤ 127 * 128 ^ i := Nat.mul_le_mul_right _ (by omega)
    omega
theorem bad_of {k : Nat} {c : UInt8} (h : bad k c = true) : (k = 9 ∧ 1 < c.toNat) ∨ (0 < k ∧ c.toNat < 1) := by
  unfold bad at h
  simp only [Bool.or_eq_true, Bool.and_eq_true, decide_eq_true_eq] at h
  omega
theorem good_of {k : Nat} {c : UInt8} (h : bad k c = false) : (k = 9 → c.toNat ≤ 1) ∧ (0 < k → 0 < c.toNat) := by
  unfold bad at h
  simp only [Bool.or_eq_false_iff, Bool.and_eq_false_iff, decide_eq_false_iff_not] at h
  omega
theorem vl_drop (L : List UInt8) (n : Nat) (h : n < L.length) : vl (L.drop n) = L[n].toNat % 128 + 128 * vl (L.drop (n + 1)) := by
  rw [List.drop_eq_getElem_cons h]
  rfl
theorem vl_drop_le (L : List UInt8) (n : Nat) : vl (L.drop n) ≤ vl L := by
  induction L generalizing n with
  | nil => simp
  | cons c r ih =>
    cases n with
    | zero => simp
    | succ n =>
      have := ih n
      simp only [List.drop_succ_cons, vl]
      omega
theorem zag_odd {m : Nat} (h : m % 2 = 1) : -1 - (m : Int) / 2 = zag m := by unfold zag; rw [if_pos h]; omega
theorem zag_even {m : Nat} (h : ¬ m % 2 = 1) : (m : Int) / 2 = zag m := by unfold zag; rw [if_neg h]; omega
end Go.Proofs.YtkineafacekklaaDoor
