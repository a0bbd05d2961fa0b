/-
  What the reference's Copy does: the walk.
-/
import Derived.Test.YtpojhplnhppcpaaGreatDoorQY2TApart
namespace Go.Proofs.YtpojhplnhppcpaaGreatDoor
open Go.RowKit Go.Maps
end Go.Proofs.YtpojhplnhppcpaaGreatDoor
