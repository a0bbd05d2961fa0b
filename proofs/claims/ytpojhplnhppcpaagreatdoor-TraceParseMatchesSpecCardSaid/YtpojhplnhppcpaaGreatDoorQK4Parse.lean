/-
  What alumref05's words and Line do.
-/
import Derived.Test.YtpojhplnhppcpaaGreatDoorQK3Parse
import Derived.Test.YtpojhplnhppcpaaGreatDoorQN11
namespace Go.Proofs.YtpojhplnhppcpaaGreatDoor
open Go.RowKit Go.Maps
end Go.Proofs.YtpojhplnhppcpaaGreatDoor
