/-
  What alumref05's Lines does.
-/
import Derived.Test.YtpojhplnhppcpaaGreatDoorQK6Print
namespace Go.Proofs.YtpojhplnhppcpaaGreatDoor
open Go.RowKit Go.Maps
end Go.Proofs.YtpojhplnhppcpaaGreatDoor
