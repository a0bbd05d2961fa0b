/-
  What alumref05's behind does.
-/
import Derived.Test.YtpojhplnhppcpaaGreatDoorQY1Differ
import Derived.Test.YtpojhplnhppcpaaGreatDoorQY3Differ
import Derived.Test.YtpojhplnhppcpaaGreatDoorQY4Differ
namespace Go.Proofs.YtpojhplnhppcpaaGreatDoor
open Go.RowKit Go.Maps
end Go.Proofs.YtpojhplnhppcpaaGreatDoor
