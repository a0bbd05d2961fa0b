/-
  What alumref05's Check and At do.
-/
import Derived.Test.YtpojhplnhppcpaaGreatDoorQY5TApart
import Derived.Test.YtpojhplnhppcpaaGreatDoorQV1
namespace Go.Proofs.YtpojhplnhppcpaaGreatDoor
open Go.RowKit Go.Maps
end Go.Proofs.YtpojhplnhppcpaaGreatDoor
