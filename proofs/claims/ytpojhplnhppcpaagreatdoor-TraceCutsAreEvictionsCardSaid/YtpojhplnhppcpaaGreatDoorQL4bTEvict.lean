/-
  TraceCutsMatchSpec: what alumref05's Choice does; the walk.
-/
import Derived.Test.YtpojhplnhppcpaaGreatDoorQL4TEvict
namespace Go.Proofs.YtpojhplnhppcpaaGreatDoor
open Go.RowKit Go.Maps
theorem choP_I : ∀ (L : List PL) (i d : Nat), i + L.length ≤ 5000 → d ≤ 9223372036854775807 → ∀ c ∈ choP i d L, I64 c.1 ∧ I64 c.2
  | [], _, _, _, _ => fun c hc => by simp [choP] at hc
  | x :: r, i, d, hi, hd => fun c hc => by
    simp only [List.length_cons] at hi
    unfold choP at hc
    split at hc
    · exact choP_I r (i + 1) d (by omega) hd c hc
    · rcases List.mem_cons.1 hc with rfl | hc
      · have := Nat.mod_le d (x.pend.length + 1)
        generalize d % (x.pend.length + 1) = M at *
        unfold I64
        simp only
        omega
      · exact choP_I r (i + 1) _ (by omega) (Nat.le_trans (Nat.div_le_self _ _) hd) c hc
theorem choE_I {img : List (List Int × Int)} (h8 : ∀ x ∈ img, x.1.length = 8) {l : List (List Int)} (hl : EvI l) (hll : l.length ≤ 400) {n k : Int} (hk : I64 k) (hn : img.length ≤ 4000) : (∀ c ∈ choE img l n k, I64 c.1 ∧ I64 c.2) ∧ (choE img l n k).length ≤ 5000 := by
  unfold choE
  split
  · rename_i h0
    obtain ⟨m1, m2, m3⟩ := at_good h8 hl hll h0
    unfold chosenP
    exact ⟨choP_I _ 0 _ (by rw [m2]; omega) (rest_le hk), Nat.le_trans (choP_len _ _ _) (by rw [m2]; omega)⟩
  · exact ⟨fun c hc => by simp at hc, by simp⟩
end Go.Proofs.YtpojhplnhppcpaaGreatDoor
