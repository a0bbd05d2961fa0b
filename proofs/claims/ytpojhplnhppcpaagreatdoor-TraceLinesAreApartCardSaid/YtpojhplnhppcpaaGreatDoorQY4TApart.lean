/-
  What the reference's From does.
-/
import Derived.Test.YtpojhplnhppcpaaGreatDoorQY2TApart
import Derived.Test.YtpojhplnhppcpaaGreatDoorQN25rTApart
namespace Go.Proofs.YtpojhplnhppcpaaGreatDoor
open Go.RowKit Go.Maps
end Go.Proofs.YtpojhplnhppcpaaGreatDoor
