/-
  What alumref05's behind does.
-/
import Derived.Test.YtpojhplnhppcpaaGreatDoorQY1Refuses
import Derived.Test.YtpojhplnhppcpaaGreatDoorQY3Refuses
import Derived.Test.YtpojhplnhppcpaaGreatDoorQY4Refuses
namespace Go.Proofs.YtpojhplnhppcpaaGreatDoor
open Go.RowKit Go.Maps
end Go.Proofs.YtpojhplnhppcpaaGreatDoor
