/-
  What the reference's Copy does: the walk.
-/
import Derived.Test.YtpojhplnhppcpaaGreatDoorQY2Differ
namespace Go.Proofs.YtpojhplnhppcpaaGreatDoor
open Go.RowKit Go.Maps
end Go.Proofs.YtpojhplnhppcpaaGreatDoor
