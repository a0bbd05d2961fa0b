/- How long an integer's encoding is, and that none begins another. -/
import Derived.Test.YtgnhkhcfelmnhaaMath3
namespace Go.Proofs.Ytgnhkhcfelmnhaa
theorem digs_mono : ∀ (f m n : Nat), m / 2 ≤ n / 2 → (digs f m).length ≤ (digs f n).length
  | 0, _, _, _ => Nat.le_refl _
  | f + 1, m, n, h => by
    have ih := digs_mono f (m / 128) (n / 128) (by omega)
    unfold digs
    by_cases hn : n < 128
    · rw [if_pos hn, if_pos (by omega)]; simp
    · rw [if_neg hn]
      split
      · simp
      · simp only [List.length_cons]; omega
theorem digs_one (f m : Nat) : (digs (f + 2) m).length = 1 ↔ m < 128 := by
  unfold digs
  by_cases hm : m < 128
  · rw [if_pos hm]; simp [hm]
  · rw [if_neg hm]
    unfold digs
    split <;> simp [hm]
/-- What the document compares: the greater one of z and -1-z. -/
def mag (z : Int) : Int := if z < 0 then -1 - z else z
theorem zig_half (z : Int) : ((zig z / 2 : Nat) : Int) = mag z := by
  unfold zig mag
  split <;> omega
theorem enc_mono {m n : Int} (h : mag m ≤ mag n) : (enc m).length ≤ (enc n).length := by
  refine digs_mono 10 _ _ ?_
  have h1 := zig_half m
  have h2 := zig_half n
  omega
theorem enc_one (m : Int) : (enc m).length = 1 ↔ mag m < 64 := by
  have h1 := zig_half m
  unfold enc
  rw [digs_one 8]
  omega
theorem mag_not (m : Int) : mag (-1 - m) = mag m := by
  unfold mag
  split <;> split <;> omega
theorem enc_not (m : Int) : (enc (-1 - m)).length = (enc m).length :=
  Nat.le_antisymm (enc_mono (by rw [mag_not]; exact Int.le_refl _)) (enc_mono (by rw [mag_not]; exact Int.le_refl _))
theorem enc_begins {m n : Int} (hm : I64 m) (hn : I64 n) (h : (enc m).length ≤ (enc n).length) (e : (enc m).take (min (enc m).length (enc n).length) = (enc n).take (min (enc m).length (enc n).length)) : m = n := by
  rw [Nat.min_eq_left h, List.take_length] at e
  have h1 := getI_enc hm ((enc n).drop (enc m).length)
  have h2 := getI_enc hn []
  rw [List.append_nil] at h2
  have e2 : enc m ++ (enc n).drop (enc m).length = enc n := by
    conv => lhs; arg 1; rw [e]
    exact List.take_append_drop _ _
  rw [e2, h2] at h1
  exact (congrArg (fun r : Int × Nat × Nat => r.1) h1).symm
theorem enc_least {m n : Int} (hm : I64 m) (hn : I64 n) : (enc m).take (min (enc m).length (enc n).length) = (enc n).take (min (enc m).length (enc n).length) ↔ m = n := by
  constructor
  · intro e
    rcases Nat.le_total (enc m).length (enc n).length with h | h
    · exact enc_begins hm hn h e
    · rw [Nat.min_comm] at e
      exact (enc_begins hn hm h e.symm).symm
  · rintro rfl; rfl
end Go.Proofs.Ytgnhkhcfelmnhaa
