/- Plain facts: byte strings and lists that are encoded are decoded, whatever follows; what is cut short says so; what is decoded is what it encodes. -/
import Derived.Test.YtgnhkhcfelmnhaaMath3
namespace Go.Proofs.Ytgnhkhcfelmnhaa
theorem i64_nat {n : Nat} (h : n ≤ 9223372036854775807) : I64 (n : Int) := by unfold I64; omega
theorem getL_of {size n u : Nat} {l : List UInt8} (hg : getI l = ((n : Int), u, 0)) (hs : 1 ≤ size) (hu : u + n * size ≤ l.length) : getL size l = ((n : Int), u, 0) := by
  unfold getL
  rw [hg]
  simp only
  rw [if_neg (by simp), if_neg (by omega), if_neg]
  have h1 : (n : Int) ≤ ((l.length : Int) - u) / size := by
    rw [Int.le_ediv_iff_mul_le (by omega)]
    have h6 : ((n * size : Nat) : Int) = n * size := Int.natCast_mul _ _
    omega
  omega
theorem getL_enc {size n : Nat} (hn : n ≤ 9223372036854775807) (hs : 1 ≤ size) (t : List UInt8) (ht : n * size ≤ t.length) : getL size (enc n ++ t) = ((n : Int), (enc n).length, 0) :=
  getL_of (getI_enc (i64_nat hn) t) hs (by simp; omega)
theorem getB_enc (s t : List UInt8) (hs : s.length ≤ 9223372036854775807) : getB (enc s.length ++ s ++ t) = (s, (enc s.length ++ s).length, 0) := by
  have h := getL_enc (size := 1) hs (Nat.le_refl _) (s ++ t) (by simp)
  unfold getB
  rw [List.append_assoc, h]
  simp
theorem many_enc {α : Type} (get : List UInt8 → α × Nat × Nat) (f : α → List UInt8) : ∀ (xs : List α) (p t : List UInt8), (∀ x ∈ xs, ∀ t, get (f x ++ t) = (x, (f x).length, 0)) →
    many get (p ++ (xs.flatMap f ++ t)) xs.length p.length = (xs, p.length + (xs.flatMap f).length, 0) := by
  intro xs
  induction xs with
  | nil => intro p t _; simp [many]
  | cons x r ih =>
    intro p t h
    have hx := h x (by simp) (r.flatMap f ++ t)
    have e1 : (p ++ ((x :: r).flatMap f ++ t)).drop p.length = f x ++ (r.flatMap f ++ t) := by
      rw [List.drop_left]; simp
    have e2 := ih (p ++ f x) t (fun y hy => h y (by simp [hy]))
    have e3 : p ++ f x ++ (r.flatMap f ++ t) = p ++ ((x :: r).flatMap f ++ t) := by simp
    have e4 : (p ++ f x).length = p.length + (f x).length := by simp
    rw [e3, e4] at e2
    rw [List.length_cons, many, e1, hx]
    simp only [ne_eq, not_true_eq_false, if_false]
    rw [e2]
    simp
    omega
theorem getS_enc {α : Type} (get : List UInt8 → α × Nat × Nat) (f : α → List UInt8) (size : Nat) (hs : 1 ≤ size) (xs : List α) (t : List UInt8) (hn : xs.length ≤ 9223372036854775807) (hsz : ∀ x ∈ xs, size ≤ (f x).length)
    (h : ∀ x ∈ xs, ∀ t, get (f x ++ t) = (x, (f x).length, 0)) : getS get size (encL f xs ++ t) = (xs, (encL f xs).length, 0) := by
  have hfl : xs.length * size ≤ (xs.flatMap f).length := by
    clear h hn
    induction xs with
    | nil => simp
    | cons x r ih =>
      have h1 := hsz x (by simp)
      have h2 := ih fun y hy => hsz y (by simp [hy])
      simp only [List.flatMap_cons, List.length_append, List.length_cons, Nat.add_mul]
      omega
  have hL := getL_enc (size := size) hn hs (xs.flatMap f ++ t) (by rw [List.length_append]; omega)
  have hM := many_enc get f xs (enc xs.length) t h
  unfold getS encL
  rw [List.append_assoc, hL]
  simp only [ne_eq, not_true_eq_false, if_false, Int.toNat_natCast]
  rw [hM]
  simp
theorem getInts_enc (zs : List Int) (t : List UInt8) (hn : zs.length ≤ 9223372036854775807) (hz : ∀ z ∈ zs, I64 z) : getS getI 1 (encL enc zs ++ t) = (zs, (encL enc zs).length, 0) :=
  getS_enc getI enc 1 (Nat.le_refl _) zs t hn (fun z h => (enc_shape (hz z h)).1) (fun z h t => getI_enc (hz z h) t)
/-- A byte string's encoding, over lists of bytes. -/
def encB (s : List UInt8) : List UInt8 := enc s.length ++ s
theorem encB_pos (s : List UInt8) (hs : s.length ≤ 9223372036854775807) : 1 ≤ (encB s).length := by
  have := (enc_shape (i64_nat hs)).1
  unfold encB
  simp only [List.length_append]
  omega
theorem getTexts_enc (ss : List (List UInt8)) (t : List UInt8) (hn : ss.length ≤ 9223372036854775807) (hs : ∀ s ∈ ss, s.length ≤ 9223372036854775807) : getS getB 1 (encL encB ss ++ t) = (ss, (encL encB ss).length, 0) :=
  getS_enc getB encB 1 (Nat.le_refl _) ss t hn (fun s h => encB_pos s (hs s h)) (fun s h t => getB_enc s t (hs s h))
/-! Cut short. -/
theorem getL_short {size n : Nat} (hn : n ≤ 9223372036854775807) (hs : 1 ≤ size) (t : List UInt8) (ht : t.length < n * size) : getL size (enc n ++ t) = (0, 0, 10) := by
  have hg := getI_enc (i64_nat hn) t
  unfold getL
  rw [hg]
  simp only
  rw [if_neg (by simp), if_neg (by omega), if_pos]
  have h1 : ¬ ((n : Int) ≤ (((enc n ++ t).length : Int) - (enc n).length) / size) := by
    rw [Int.le_ediv_iff_mul_le (by omega)]
    have h6 : ((n * size : Nat) : Int) = n * size := Int.natCast_mul _ _
    rw [List.length_append]
    omega
  omega
theorem getL_cut {size n : Nat} (hn : n ≤ 9223372036854775807) (t : List UInt8) {i : Nat} (hi : i < (enc n).length) : getL size ((enc n ++ t).take i) = (0, 0, 10) := by
  rw [List.take_append_of_le_length (by omega)]
  unfold getL
  rw [getI_short (i64_nat hn) i hi]
  simp
theorem getB_short (s : List UInt8) (hs : s.length ≤ 9223372036854775807) (i : Nat) (hi : i < (encB s).length) : (getB ((encB s).take i)).2.2 = 10 := by
  unfold encB at hi ⊢
  rw [List.length_append] at hi
  rcases Nat.lt_or_ge i (enc s.length).length with h | h
  · unfold getB
    rw [getL_cut hs s h]
    simp
  · have e : (enc s.length ++ s).take i = enc s.length ++ s.take (i - (enc s.length).length) := by
      rw [List.take_append, List.take_of_length_le h]
    rw [e]
    unfold getB
    rw [getL_short hs (Nat.le_refl _) _ (by rw [List.length_take]; omega)]
    simp
theorem many_short {α : Type} (get : List UInt8 → α × Nat × Nat) (f : α → List UInt8) : ∀ (xs : List α) (p : List UInt8) (i : Nat), (∀ x ∈ xs, ∀ t, get (f x ++ t) = (x, (f x).length, 0)) →
    (∀ x ∈ xs, ∀ j, j < (f x).length → (get ((f x).take j)).2.2 = 10) → i < (xs.flatMap f).length → (many get (p ++ (xs.flatMap f).take i) xs.length p.length).2.2 = 10 := by
  intro xs
  induction xs with
  | nil => intro p i _ _ hi; simp at hi
  | cons x r ih =>
    intro p i h hs hi
    have e1 : (p ++ ((x :: r).flatMap f).take i).drop p.length = ((x :: r).flatMap f).take i := List.drop_left
    rw [List.length_cons, many, e1]
    rw [List.flatMap_cons] at hi ⊢
    rw [List.length_append] at hi
    rcases Nat.lt_or_ge i (f x).length with hlt | hge
    · have e2 : (f x ++ r.flatMap f).take i = (f x).take i := List.take_append_of_le_length (by omega)
      have h10 := hs x (by simp) i hlt
      rw [e2, if_pos (by rw [h10]; simp)]
      exact h10
    · have e2 : (f x ++ r.flatMap f).take i = f x ++ (r.flatMap f).take (i - (f x).length) := by
        rw [List.take_append, List.take_of_length_le hge]
      have hx := h x (by simp) ((r.flatMap f).take (i - (f x).length))
      have h10 := ih (p ++ f x) (i - (f x).length) (fun y hy => h y (by simp [hy])) (fun y hy => hs y (by simp [hy])) (by omega)
      rw [List.length_append, List.append_assoc] at h10
      rw [e2, hx]
      simp only [ne_eq, not_true_eq_false, if_false]
      rw [if_pos (by rw [h10]; simp)]
      exact h10
theorem getS_short {α : Type} (get : List UInt8 → α × Nat × Nat) (f : α → List UInt8) (xs : List α) (hn : xs.length ≤ 9223372036854775807)
    (h : ∀ x ∈ xs, ∀ t, get (f x ++ t) = (x, (f x).length, 0)) (hs : ∀ x ∈ xs, ∀ j, j < (f x).length → (get ((f x).take j)).2.2 = 10) (i : Nat) (hi : i < (encL f xs).length) : (getS get 1 ((encL f xs).take i)).2.2 = 10 := by
  unfold encL at hi ⊢
  rw [List.length_append] at hi
  rcases Nat.lt_or_ge i (enc xs.length).length with hlt | hge
  · unfold getS
    rw [getL_cut hn _ hlt]
    simp
  · have e : (enc xs.length ++ xs.flatMap f).take i = enc xs.length ++ (xs.flatMap f).take (i - (enc xs.length).length) := by
      rw [List.take_append, List.take_of_length_le hge]
    rw [e]
    unfold getS
    rcases Nat.lt_or_ge ((xs.flatMap f).take (i - (enc xs.length).length)).length (xs.length * 1) with h1 | h1
    · rw [getL_short hn (Nat.le_refl _) _ h1]
      simp
    · rw [getL_enc hn (Nat.le_refl _) _ h1]
      simp only [ne_eq, not_true_eq_false, if_false, Int.toNat_natCast]
      exact many_short get f xs (enc xs.length) _ h hs (by omega)
theorem getInts_short (zs : List Int) (hn : zs.length ≤ 9223372036854775807) (hz : ∀ z ∈ zs, I64 z) (i : Nat) (hi : i < (encL enc zs).length) : (getS getI 1 ((encL enc zs).take i)).2.2 = 10 :=
  getS_short getI enc zs hn (fun z h t => getI_enc (hz z h) t) (fun z h j hj => by rw [getI_short (hz z h) j hj]) i hi
theorem getTexts_short (ss : List (List UInt8)) (hn : ss.length ≤ 9223372036854775807) (hs : ∀ s ∈ ss, s.length ≤ 9223372036854775807) (i : Nat) (hi : i < (encL encB ss).length) : (getS getB 1 ((encL encB ss).take i)).2.2 = 10 :=
  getS_short getB encB ss hn (fun s h t => getB_enc s t (hs s h)) (fun s h j hj => getB_short s (hs s h) j hj) i hi
/-! What is decoded is what it encodes. -/
theorem getL_canon {size : Nat} (hs : 1 ≤ size) {l : List UInt8} {n : Int} {u : Nat} (h : getL size l = (n, u, 0)) : ∃ m : Nat, n = m ∧ enc m = l.take u ∧ u + m * size ≤ l.length := by
  have hf := getL_fits size hs l
  rw [h] at hf
  simp only at hf
  rcases hf with ⟨_, h0, _, _, h4, h5⟩ | ⟨h0, _⟩
  · obtain ⟨m, rfl⟩ := Int.eq_ofNat_of_zero_le h0
    exact ⟨m, rfl, enc_getI h5.symm, by simpa using h4⟩
  · omega
theorem getB_canon {l s : List UInt8} {u : Nat} (h : getB l = (s, u, 0)) : encB s = l.take u ∧ u ≤ l.length := by
  unfold getB at h
  obtain ⟨n, v, f, hg⟩ : ∃ n v f, getL 1 l = (n, v, f) := ⟨_, _, _, rfl⟩
  rw [hg] at h
  simp only at h
  split at h
  · injection h with h1 h2
    injection h2 with h2 h3
    rename_i hne
    exact absurd h3 hne
  · rename_i hf
    have hf0 : f = 0 := by omega
    subst hf0
    obtain ⟨m, rfl, he, hle⟩ := getL_canon (Nat.le_refl _) hg
    simp only [Int.toNat_natCast] at h
    injection h with h1 h2
    injection h2 with h2 _
    subst h1 h2
    have hl : ((l.drop v).take m).length = m := by rw [List.length_take, List.length_drop]; omega
    unfold encB
    rw [hl, he, ← List.take_add]
    exact ⟨rfl, by omega⟩
theorem many_canon {α : Type} (get : List UInt8 → α × Nat × Nat) (f : α → List UInt8) (l : List UInt8) (hc : ∀ l' x c, get l' = (x, c, 0) → f x = l'.take c ∧ c ≤ l'.length) :
    ∀ k at_ xs u, at_ ≤ l.length → many get l k at_ = (xs, u, 0) → xs.length = k ∧ at_ ≤ u ∧ u ≤ l.length ∧ l.take at_ ++ xs.flatMap f = l.take u := by
  intro k
  induction k with
  | zero =>
    intro at_ xs u ha h
    simp only [many] at h
    injection h with h1 h2
    injection h2 with h2 _
    subst h1 h2
    simp [ha]
  | succ k ih =>
    intro at_ xs u ha h
    rw [many] at h
    obtain ⟨x, c, e, hg⟩ : ∃ x c e, get (l.drop at_) = (x, c, e) := ⟨_, _, _, rfl⟩
    rw [hg] at h
    simp only at h
    split at h
    · rename_i hne
      injection h with _ h2
      injection h2 with _ h3
      exact absurd h3 hne
    · rename_i he
      have he0 : e = 0 := by omega
      subst he0
      obtain ⟨ys, v, g, hm⟩ : ∃ ys v g, many get l k (at_ + c) = (ys, v, g) := ⟨_, _, _, rfl⟩
      rw [hm] at h
      simp only at h
      split at h
      · rename_i hne
        injection h with _ h2
        injection h2 with _ h3
        exact absurd h3 hne
      · rename_i hg0
        have hg1 : g = 0 := by omega
        subst hg1
        injection h with h1 h2
        injection h2 with h2 _
        subst h1 h2
        obtain ⟨hfx, hcl⟩ := hc _ _ _ hg
        rw [List.length_drop] at hcl
        obtain ⟨i1, i2, i3, i4⟩ := ih (at_ + c) ys v (by omega) hm
        refine ⟨by simp [i1], by omega, i3, ?_⟩
        rw [List.flatMap_cons, ← List.append_assoc, hfx, ← List.take_add]
        exact i4
theorem getS_canon {α : Type} (get : List UInt8 → α × Nat × Nat) (f : α → List UInt8) (size : Nat) (hs : 1 ≤ size) (hc : ∀ l' x c, get l' = (x, c, 0) → f x = l'.take c ∧ c ≤ l'.length) {l : List UInt8} {xs : List α} {u : Nat}
    (h : getS get size l = (xs, u, 0)) : encL f xs = l.take u ∧ u ≤ l.length := by
  unfold getS at h
  obtain ⟨n, v, e, hg⟩ : ∃ n v e, getL size l = (n, v, e) := ⟨_, _, _, rfl⟩
  rw [hg] at h
  simp only at h
  split at h
  · rename_i hne
    injection h with _ h2
    injection h2 with _ h3
    exact absurd h3 hne
  · rename_i he
    have he0 : e = 0 := by omega
    subst he0
    obtain ⟨m, rfl, hen, hle⟩ := getL_canon hs hg
    simp only [Int.toNat_natCast] at h
    obtain ⟨i1, i2, i3, i4⟩ := many_canon get f l hc m v xs u (by omega) h
    unfold encL
    rw [i1, hen]
    exact ⟨i4, i3⟩
theorem getI_canon (l' : List UInt8) (z : Int) (c : Nat) (h : getI l' = (z, c, 0)) : enc z = l'.take c ∧ c ≤ l'.length := by
  refine ⟨enc_getI h, ?_⟩
  have hf := getI_fits l'
  rw [h] at hf
  simp only at hf
  omega
end Go.Proofs.Ytgnhkhcfelmnhaa
