/-
  A point of the trace of a memory; what its choices are.
-/
import Derived.Test.YtpojhplnhppcpaaGreatDoorQL2TEvict
import Derived.Test.YtpojhplnhppcpaaGreatDoorQU5
import Derived.Test.YtpojhplnhppcpaaGreatDoorQLPTEvict
namespace Go.Proofs.YtpojhplnhppcpaaGreatDoor
open Go.RowKit Go.Maps
theorem atE_of {img : List (List Int × Int)} {m : PM} (h : Replays img m) (hr : rightB img = true) {n : Nat} (hn : n ≤ m.ev.length) : atE img m.ev (n : Int) = 0 := by
  unfold atE
  rw [if_neg (by rw [hr]; simp; omega), Int.toNat_natCast, fits_take m.ev n (by rw [h.fits]; exact hn), if_neg (Nat.lt_irrefl _)]
end Go.Proofs.YtpojhplnhppcpaaGreatDoor
