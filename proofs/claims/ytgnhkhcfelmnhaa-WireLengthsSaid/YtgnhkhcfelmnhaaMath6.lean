/- Plain facts on lists of digests: round trip, cut short, what is decoded is what it encodes. -/
import Derived.Test.YtgnhkhcfelmnhaaMath5
import Derived.Test.YtgnhkhcfelmnhaaMath4
namespace Go.Proofs.Ytgnhkhcfelmnhaa
theorem getDigests_enc (ds : List (List UInt8)) (t : List UInt8) (hn : ds.length ≤ 9223372036854775807) (hd : ∀ d ∈ ds, d.length = 16) : getS getD16 16 (encL id ds ++ t) = (ds, (encL id ds).length, 0) :=
  getS_enc getD16 id 16 (by omega) ds t hn (fun d h => by rw [id, hd d h]; exact Nat.le_refl _) (fun d h t => by
    unfold getD16
    rw [id, hd d h, ← hd d h, List.take_left])
theorem getDigests_short (ds : List (List UInt8)) (hn : ds.length ≤ 9223372036854775807) (hd : ∀ d ∈ ds, d.length = 16) (i : Nat) (hi : i < (encL id ds).length) : (getS getD16 16 ((encL id ds).take i)).2.2 = 10 := by
  have hfl : (ds.flatMap id).length = ds.length * 16 := by
    clear hi hn
    induction ds with
    | nil => rfl
    | cons d r ih =>
      have h1 := hd d (by simp)
      have h2 := ih fun x hx => hd x (by simp [hx])
      rw [List.flatMap_cons, List.length_append, h2, id, h1, List.length_cons]
      omega
  unfold encL at hi ⊢
  rw [List.length_append] at hi
  unfold getS
  rcases Nat.lt_or_ge i (enc ds.length).length with hlt | hge
  · rw [getL_cut hn _ hlt]
    simp
  · have e : (enc ds.length ++ ds.flatMap id).take i = enc ds.length ++ (ds.flatMap id).take (i - (enc ds.length).length) := by
      rw [List.take_append, List.take_of_length_le hge]
    rw [e, getL_short hn (by omega) _ (by rw [List.length_take]; omega)]
    simp
theorem manyD_canon (l : List UInt8) : ∀ k at_ xs u, at_ + k * 16 ≤ l.length → many getD16 l k at_ = (xs, u, 0) → xs.length = k ∧ at_ ≤ u ∧ u ≤ l.length ∧ l.take at_ ++ xs.flatMap id = l.take u := by
  intro k
  induction k with
  | zero =>
    intro at_ xs u ha h
    simp only [many] at h
    injection h with h1 h2
    injection h2 with h2 _
    subst h1 h2
    simp
    omega
  | succ k ih =>
    intro at_ xs u ha h
    rw [many] at h
    have hg : getD16 (l.drop at_) = ((l.drop at_).take 16, 16, 0) := rfl
    rw [hg] at h
    simp only [ne_eq, not_true_eq_false, if_false] at h
    obtain ⟨ys, v, g, hm⟩ : ∃ ys v g, many getD16 l k (at_ + 16) = (ys, v, g) := ⟨_, _, _, rfl⟩
    rw [hm] at h
    simp only at h
    split at h
    · rename_i hne
      injection h with _ h2
      injection h2 with _ h3
      exact absurd h3 hne
    · rename_i hg0
      have hg1 : g = 0 := by omega
      subst hg1
      injection h with h1 h2
      injection h2 with h2 _
      subst h1 h2
      obtain ⟨i1, i2, i3, i4⟩ := ih (at_ + 16) ys v (by omega) hm
      refine ⟨by simp [i1], by omega, i3, ?_⟩
      rw [List.flatMap_cons, ← List.append_assoc, id, ← List.take_add]
      exact i4
theorem getD_canon {l : List UInt8} {xs : List (List UInt8)} {u : Nat} (h : getS getD16 16 l = (xs, u, 0)) : encL id xs = l.take u ∧ u ≤ l.length := by
  unfold getS at h
  obtain ⟨n, v, e, hg⟩ : ∃ n v e, getL 16 l = (n, v, e) := ⟨_, _, _, rfl⟩
  rw [hg] at h
  simp only at h
  split at h
  · rename_i hne
    injection h with _ h2
    injection h2 with _ h3
    exact absurd h3 hne
  · rename_i he
    have he0 : e = 0 := by omega
    subst he0
    obtain ⟨m, rfl, hen, hle⟩ := getL_canon (by omega) hg
    simp only [Int.toNat_natCast] at h
    obtain ⟨i1, i2, i3, i4⟩ := manyD_canon l m v xs u hle h
    unfold encL
    rw [i1, hen]
    exact ⟨i4, i3⟩
end Go.Proofs.Ytgnhkhcfelmnhaa
