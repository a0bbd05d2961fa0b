/-
  What comes in at stage 5: two numbers in an array.
-/
import Derived.Test.YtpojhplnhppcpaaGreatDoorQArgATEvict
namespace Go.Proofs.YtpojhplnhppcpaaGreatDoor
open Go.ChangeShapes Go.WideShapes Go.ChangeAt Go.RowKit Go.Maps
section
variable {H : Type} {enc : TypeId × Value → H} {W : World} {base : Nat} {sp : Nat → Bool} {held : Bool}
theorem wf_u32 {z : Int} (h : (Lit.int .u32 z).wf = true) : 0 ≤ z ∧ z < 4294967296 := by
  simp only [Lit.wf, IntKind.min, IntKind.max, IntKind.bits, IntKind.signed] at h
  simp at h
  omega
end
end Go.Proofs.YtpojhplnhppcpaaGreatDoor
