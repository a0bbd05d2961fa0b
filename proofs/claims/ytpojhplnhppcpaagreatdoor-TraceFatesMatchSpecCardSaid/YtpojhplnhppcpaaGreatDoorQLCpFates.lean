/-
  Fates at two points of one list; how many stores of a line are pending.
-/
import Derived.Test.YtpojhplnhppcpaaGreatDoorQV4
namespace Go.Proofs.YtpojhplnhppcpaaGreatDoor
open Go.RowKit
theorem getD_take {l : List (List Int)} {n q : Nat} (h : q < n) : (l.take n).getD q [] = l.getD q [] := by
  rw [List.getD_eq_getElem?_getD, List.getD_eq_getElem?_getD, List.getElem?_take, if_pos h]
/-- The address of a store that was recorded as it is. -/
theorem store_at {m0 : PM} {l : List (List Int)} (hf : fitsP m0 l = l.length) {k : Nat} (hk : k < l.length) (hs : stq (l.getD k []) = true) : 0 ≤ (l.getD k []).getD 1 0 := ((apply_pl (fits_step hf hk)).1 hs).2.1
end Go.Proofs.YtpojhplnhppcpaaGreatDoor
