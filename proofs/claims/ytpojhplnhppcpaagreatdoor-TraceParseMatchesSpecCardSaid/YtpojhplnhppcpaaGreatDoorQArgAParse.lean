/-
  What comes in at stage 5: scripts, images, lists of events, of cuts, of numbers.
-/
import Derived.Test.YtpojhplnhppcpaaGreatDoorQN22z
import Derived.Test.YtpojhplnhppcpaaGreatDoorQN17
import Derived.Test.YtpojhplnhppcpaaGreatDoorQN25z
import Derived.Test.YtpojhplnhppcpaaGreatDoorQLaidAParse
import Derived.Deep.Slices
namespace Go.Proofs.YtpojhplnhppcpaaGreatDoor
open Go.ChangeShapes Go.WideShapes Go.ChangeAt Go.RowKit Go.Maps
section
variable {H : Type} {enc : TypeId × Value → H} {W : World} {base : Nat} {sp : Nat → Bool} {held : Bool}
theorem c3 : Tryz.prog.cellsOf 3 = 1 := by kernel_rfl
instance : Inhabited (POp × Value) := ⟨(⟨0, 0, 0, [], []⟩, .int .i64 0)⟩
instance : Inhabited (List Int × Int) := ⟨([], 0)⟩
end
end Go.Proofs.YtpojhplnhppcpaaGreatDoor
