/-
  What alumref05's Parse does.
-/
import Derived.Test.YtpojhplnhppcpaaGreatDoorQK9Print
namespace Go.Proofs.YtpojhplnhppcpaaGreatDoor
open Go.RowKit Go.Maps
end Go.Proofs.YtpojhplnhppcpaaGreatDoor
