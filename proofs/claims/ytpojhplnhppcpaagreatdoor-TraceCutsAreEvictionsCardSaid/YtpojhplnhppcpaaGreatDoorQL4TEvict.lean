/-
  TraceCutsMatchSpec: what alumref05's Chosen and Choice and alumlaw05's sameCuts do; the walk.
-/
import Derived.Test.YtpojhplnhppcpaaGreatDoorQU5
import Derived.Test.YtpojhplnhppcpaaGreatDoorQY1TEvict
import Derived.Test.YtpojhplnhppcpaaGreatDoorQU1
namespace Go.Proofs.YtpojhplnhppcpaaGreatDoor
open Go.RowKit Go.Maps
theorem choP_len : ∀ (L : List PL) (i d : Nat), (choP i d L).length ≤ L.length
  | [], _, _ => Nat.le_refl _
  | x :: r, i, d => by
    unfold choP
    split
    · have := choP_len r (i + 1) d
      simp only [List.length_cons]; omega
    · have := choP_len r (i + 1) (d / (x.pend.length + 1))
      simp only [List.length_cons]; omega
end Go.Proofs.YtpojhplnhppcpaaGreatDoor
