/- Plain facts on decoded lists: how many elements they have; digests have 16 bytes. -/
import Derived.Test.YtgnhkhcfelmnhaaMath3
import Derived.Test.YtgnhkhcfelmnhaaLst4
namespace Go.Proofs.Ytgnhkhcfelmnhaa
theorem many_len {α : Type} (get : List UInt8 → α × Nat × Nat) (l : List UInt8) : ∀ k at_, (many get l k at_).1.length ≤ k := by
  intro k
  induction k with
  | zero => intro at_; simp [many]
  | succ k ih =>
    intro at_
    rw [many]
    split
    · simp
    · split
      · simp
      · have := ih (at_ + (get (l.drop at_)).2.1)
        simp only [List.length_cons]
        omega
theorem getS_len {α : Type} (get : List UInt8 → α × Nat × Nat) (size : Nat) (hs : 1 ≤ size) (l : List UInt8) : (getS get size l).1.length ≤ l.length := by
  unfold getS
  have hf := getL_fits size hs l
  split
  · simp
  · rename_i h
    rcases hf with h1 | h1
    · have h2 := many_len get l (getL size l).1.toNat (getL size l).2.1
      have h3 : (getL size l).1.toNat * 1 ≤ (getL size l).1.toNat * size := Nat.mul_le_mul_left _ hs
      omega
    · omega
theorem many_d16 (l : List UInt8) : ∀ k at_, at_ + k * 16 ≤ l.length → ∀ d ∈ (many getD16 l k at_).1, d.length = 16 := by
  intro k
  induction k with
  | zero => intro at_ _ d hd; simp [many] at hd
  | succ k ih =>
    intro at_ h d hd
    have h16 : ((l.drop at_).take 16).length = 16 := by rw [List.length_take, List.length_drop]; omega
    rw [many] at hd
    split at hd
    · simp at hd
    · split at hd
      · simp at hd
      · rcases List.mem_cons.1 hd with h1 | h1
        · rw [h1]; exact h16
        · exact ih (at_ + 16) (by omega) d h1
theorem getS_d16 (l : List UInt8) : ∀ d ∈ (getS getD16 16 l).1, d.length = 16 := by
  unfold getS
  have hf := getL_fits 16 (by omega) l
  split
  · simp
  · rename_i h
    rcases hf with h1 | h1
    · exact many_d16 l _ _ h1.2.2.2.2.1
    · omega
end Go.Proofs.Ytgnhkhcfelmnhaa
