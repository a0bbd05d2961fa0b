/- Plain definitions of the decoders of byte strings and lists, and what they give. -/
import Derived.Test.YtgnhkhcfelmnhaaMath
namespace Go.Proofs.Ytgnhkhcfelmnhaa
theorem getL_fits (size : Nat) (hs : 1 ≤ size) (l : List UInt8) : ((getL size l).2.2 = 0 ∧ 0 ≤ (getL size l).1 ∧ 1 ≤ (getL size l).2.1 ∧ (getL size l).2.1 ≤ 10 ∧ (getL size l).2.1 + (getL size l).1.toNat * size ≤ l.length ∧ getL size l = getI l) ∨ (((getL size l).2.2 = 10 ∨ (getL size l).2.2 = 11) ∧ (getL size l).1 = 0 ∧ (getL size l).2.1 = 0) := by
  have hf := getI_fits l
  unfold getL
  obtain ⟨n, u, f, hg⟩ : ∃ n u f, getI l = (n, u, f) := ⟨_, _, _, rfl⟩
  rw [hg] at hf ⊢
  simp only at hf ⊢
  split
  · rename_i h
    refine .inr ⟨?_, rfl, rfl⟩
    simp only
    rcases hf with h1 | h1 <;> omega
  · rename_i h
    have h0 : f = 0 := by omega
    split
    · exact .inr ⟨.inr rfl, rfl, rfl⟩
    · split
      · exact .inr ⟨.inl rfl, rfl, rfl⟩
      · rename_i h2 h3
        refine .inl ⟨h0, by simp only; omega, ?_, ?_, ?_, rfl⟩
        · simp only; omega
        · simp only; omega
        · simp only
          have h4 : n ≤ ((l.length : Int) - u) / size := by omega
          have h5 := (Int.le_ediv_iff_mul_le (by omega)).1 h4
          have h6 : ((n.toNat * size : Nat) : Int) = n * size := by rw [Int.natCast_mul, Int.toNat_of_nonneg (by omega)]
          omega
/-- A byte string at the beginning. -/
def getB (l : List UInt8) : List UInt8 × Nat × Nat :=
  if (getL 1 l).2.2 ≠ 0 then ([], 0, (getL 1 l).2.2)
  else ((l.drop (getL 1 l).2.1).take (getL 1 l).1.toNat, (getL 1 l).2.1 + (getL 1 l).1.toNat, 0)
/-- What getB gives: an error, or what fits. -/
theorem getB_fits (l : List UInt8) : ((getB l).2.2 = 0 ∧ 1 ≤ (getB l).2.1 ∧ (getB l).2.1 ≤ l.length) ∨ (((getB l).2.2 = 10 ∨ (getB l).2.2 = 11) ∧ (getB l).1 = [] ∧ (getB l).2.1 = 0) := by
  have hf := getL_fits 1 (Nat.le_refl _) l
  unfold getB
  split
  · rename_i h
    refine .inr ⟨?_, rfl, rfl⟩
    rcases hf with h1 | h1
    · exact absurd h1.1 h
    · exact h1.1
  · rename_i h
    rcases hf with h1 | h1
    · refine .inl ⟨rfl, ?_, ?_⟩ <;> simp only <;> omega
    · omega
/-- What one decoder gives again and again: k times, from place at on. -/
def many {α : Type} (get : List UInt8 → α × Nat × Nat) (l : List UInt8) : Nat → Nat → List α × Nat × Nat
  | 0, at_ => ([], at_, 0)
  | k + 1, at_ =>
    if (get (l.drop at_)).2.2 ≠ 0 then ([], 0, (get (l.drop at_)).2.2)
    else if (many get l k (at_ + (get (l.drop at_)).2.1)).2.2 ≠ 0 then ([], 0, (many get l k (at_ + (get (l.drop at_)).2.1)).2.2)
    else ((get (l.drop at_)).1 :: (many get l k (at_ + (get (l.drop at_)).2.1)).1, (many get l k (at_ + (get (l.drop at_)).2.1)).2.1, 0)
/-- A list at the beginning. -/
def getS {α : Type} (get : List UInt8 → α × Nat × Nat) (size : Nat) (l : List UInt8) : List α × Nat × Nat :=
  if (getL size l).2.2 ≠ 0 then ([], 0, (getL size l).2.2) else many get l (getL size l).1.toNat (getL size l).2.1
/-- After the elements xs, k are left, from place at on: the whole gives r. -/
def MRel {α : Type} (get : List UInt8 → α × Nat × Nat) (l : List UInt8) (r : List α × Nat × Nat) (k at_ : Nat) (xs : List α) : Prop :=
  ((many get l k at_).2.2 ≠ 0 ∧ r = ([], 0, (many get l k at_).2.2)) ∨ ((many get l k at_).2.2 = 0 ∧ r = (xs ++ (many get l k at_).1, (many get l k at_).2.1, 0))
theorem MRel.err {α : Type} {get : List UInt8 → α × Nat × Nat} {l : List UInt8} {r : List α × Nat × Nat} {k at_ : Nat} {xs : List α} (h : MRel get l r (k + 1) at_ xs) (he : (get (l.drop at_)).2.2 ≠ 0) : r = ([], 0, (get (l.drop at_)).2.2) := by
  have e : (many get l (k + 1) at_).2.2 = (get (l.drop at_)).2.2 := by rw [many, if_pos he]
  rcases h with ⟨_, h2⟩ | ⟨h1, _⟩
  · rw [e] at h2; exact h2
  · rw [e] at h1; exact absurd h1 he
theorem MRel.step {α : Type} {get : List UInt8 → α × Nat × Nat} {l : List UInt8} {r : List α × Nat × Nat} {k at_ : Nat} {xs : List α} (h : MRel get l r (k + 1) at_ xs) (he : (get (l.drop at_)).2.2 = 0) : MRel get l r k (at_ + (get (l.drop at_)).2.1) (xs ++ [(get (l.drop at_)).1]) := by
  unfold MRel at h ⊢
  rw [many, if_neg (by omega)] at h
  by_cases h2 : (many get l k (at_ + (get (l.drop at_)).2.1)).2.2 ≠ 0
  · rw [if_pos h2] at h
    rcases h with ⟨_, h⟩ | ⟨h1, _⟩
    · exact .inl ⟨h2, h⟩
    · exact absurd h1 h2
  · rw [if_neg h2] at h
    rcases h with ⟨h1, _⟩ | ⟨_, h⟩
    · exact absurd rfl h1
    · refine .inr ⟨by omega, ?_⟩
      rw [h]
      simp
theorem MRel.stop {α : Type} {get : List UInt8 → α × Nat × Nat} {l : List UInt8} {r : List α × Nat × Nat} {at_ : Nat} {xs : List α} (h : MRel get l r 0 at_ xs) : r = (xs, at_, 0) := by
  unfold MRel at h
  rcases h with ⟨h1, _⟩ | ⟨_, h⟩
  · exact absurd rfl h1
  · rw [h]; simp [many]
theorem many_fits {α : Type} (get : List UInt8 → α × Nat × Nat) (l : List UInt8) : ∀ k at_, (many get l k at_).2.2 ≠ 0 → many get l k at_ = ([], 0, (many get l k at_).2.2) := by
  intro k
  induction k with
  | zero => intro at_ h; exact absurd rfl h
  | succ k ih =>
    intro at_ h
    rw [many] at h ⊢
    split
    · rfl
    · rename_i h1
      rw [if_neg h1] at h
      split
      · rfl
      · rename_i h2
        rw [if_neg h2] at h
        exact absurd rfl h
theorem MRel.start {α : Type} (get : List UInt8 → α × Nat × Nat) (l : List UInt8) (k at_ : Nat) : MRel get l (many get l k at_) k at_ [] := by
  unfold MRel
  by_cases h : (many get l k at_).2.2 ≠ 0
  · exact .inl ⟨h, many_fits get l k at_ h⟩
  · refine .inr ⟨by omega, ?_⟩
    have h0 : (many get l k at_).2.2 = 0 := by omega
    rw [List.nil_append]
    exact Prod.ext rfl (Prod.ext rfl h0)
theorem getB_err {l : List UInt8} {n : Int} {u f : Nat} (hg : getI l = (n, u, f)) (hf : f ≠ 0) : getB l = ([], 0, f) := by
  have e : getL 1 l = (0, 0, f) := by unfold getL; rw [hg]; exact if_pos hf
  unfold getB; rw [e]; exact if_pos hf
theorem getB_neg {l : List UInt8} {n : Int} {u : Nat} (hg : getI l = (n, u, 0)) (hn : n < 0) : getB l = ([], 0, 11) := by
  have e : getL 1 l = (0, 0, 11) := by unfold getL; rw [hg]; exact (if_neg (by simp)).trans (if_pos hn)
  unfold getB; rw [e]; rfl
theorem getB_big {l : List UInt8} {n : Int} {u : Nat} (hg : getI l = (n, u, 0)) (hn : ¬ n < 0) (hb : (l.length : Int) - (u : Int) < n) : getB l = ([], 0, 10) := by
  have e : getL 1 l = (0, 0, 10) := by unfold getL; rw [hg]; exact (if_neg (by simp)).trans ((if_neg hn).trans (if_pos (by simpa using hb)))
  unfold getB; rw [e]; rfl
theorem getB_ok {l : List UInt8} {n u : Nat} (hg : getI l = ((n : Int), u, 0)) (hb : ¬ ((l.length : Int) - (u : Int) < (n : Int))) : getB l = ((l.drop u).take n, u + n, 0) := by
  have e : getL 1 l = ((n : Int), u, 0) := by
    unfold getL; rw [hg]; exact (if_neg (by simp)).trans ((if_neg (by simp only; omega)).trans ((if_neg (by simpa using hb))))
  unfold getB; rw [e]; rfl
theorem getS_err {α : Type} {get : List UInt8 → α × Nat × Nat} {size : Nat} {l : List UInt8} (h : (getL size l).2.2 ≠ 0) : getS get size l = ([], 0, (getL size l).2.2) := if_pos h
theorem getS_rel {α : Type} {get : List UInt8 → α × Nat × Nat} {size : Nat} {l : List UInt8} (h : (getL size l).2.2 = 0) : MRel get l (getS get size l) (getL size l).1.toNat (getL size l).2.1 [] := by
  have e : getS get size l = many get l (getL size l).1.toNat (getL size l).2.1 := if_neg (by omega)
  rw [e]
  exact MRel.start get l _ _
end Go.Proofs.Ytgnhkhcfelmnhaa
