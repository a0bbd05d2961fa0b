/-
  A point of the trace of a memory; what its choices are.
-/
import Derived.Test.YtpojhplnhppcpaaGreatDoorQL2Differ
import Derived.Test.YtpojhplnhppcpaaGreatDoorQU5
import Derived.Test.YtpojhplnhppcpaaGreatDoorQLPDiffer
namespace Go.Proofs.YtpojhplnhppcpaaGreatDoor
open Go.RowKit Go.Maps
theorem atE_of {img : List (List Int × Int)} {m : PM} (h : Replays img m) (hr : rightB img = true) {n : Nat} (hn : n ≤ m.ev.length) : atE img m.ev (n : Int) = 0 := by
  unfold atE
  rw [if_neg (by rw [hr]; simp; omega), Int.toNat_natCast, fits_take m.ev n (by rw [h.fits]; exact hn), if_neg (Nat.lt_irrefl _)]
theorem crash_chosen {m : PM} {k : Int} : (crashP m (chosenP m k)).1 = 0 := by
  have := choP_ok (m := m) m.L 0 (restZ k) (-1) (by simp) (by simp)
  unfold crashP
  unfold chosenP
  rw [this, if_neg (by simp)]
theorem product_pos (m : PM) : 1 ≤ productP m := prodP_pos m.L 1 (by omega)
theorem product_le (m : PM) : productP m ≤ 1099511627775 := prodP_le m.L 1 (by omega)
theorem chosen_eq {m : PM} {a b : Nat} (h : productP m ≠ 1099511627775) : decide (chosenP m (a : Int) = chosenP m (b : Int)) = decide (a % productP m = b % productP m) := by
  have h1 : productP m = allP m.L := by
    have := prodP_all m.L 1 h
    rw [Nat.one_mul] at this
    exact this
  have ha : ∀ z : Nat, restZ (z : Int) = z := fun z => by unfold restZ; rw [if_neg (by omega), Int.toNat_natCast]
  unfold chosenP
  rw [ha, ha, h1]
  exact decide_eq_decide.2 (choP_eq m.L 0 a b)
end Go.Proofs.YtpojhplnhppcpaaGreatDoor
