/-
  What the reference's From does.
-/
import Derived.Test.YtpojhplnhppcpaaGreatDoorQY2Differ
import Derived.Test.YtpojhplnhppcpaaGreatDoorQN25rDiffer
namespace Go.Proofs.YtpojhplnhppcpaaGreatDoor
open Go.RowKit Go.Maps
end Go.Proofs.YtpojhplnhppcpaaGreatDoor
