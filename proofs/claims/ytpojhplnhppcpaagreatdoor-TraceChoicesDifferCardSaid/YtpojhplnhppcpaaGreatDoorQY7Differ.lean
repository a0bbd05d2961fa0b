/-
  What alumref05's Product and Cuts do.
-/
import Derived.Test.YtpojhplnhppcpaaGreatDoorQY6Differ
import Derived.Test.YtpojhplnhppcpaaGreatDoorQV1
namespace Go.Proofs.YtpojhplnhppcpaaGreatDoor
open Go.RowKit Go.Maps
end Go.Proofs.YtpojhplnhppcpaaGreatDoor
