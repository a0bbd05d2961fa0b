/-
  What the reference's From does.
-/
import Derived.Test.YtpojhplnhppcpaaGreatDoorQY2Refuses
import Derived.Test.YtpojhplnhppcpaaGreatDoorQN25rRefuses
namespace Go.Proofs.YtpojhplnhppcpaaGreatDoor
open Go.RowKit Go.Maps
end Go.Proofs.YtpojhplnhppcpaaGreatDoor
