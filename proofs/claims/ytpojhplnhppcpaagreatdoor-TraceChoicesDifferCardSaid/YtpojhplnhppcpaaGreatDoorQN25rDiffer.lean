/-
  What alumref04's Right answers.
-/
import Derived.Test.YtpojhplnhppcpaaGreatDoorQN25z
namespace Go.Proofs.YtpojhplnhppcpaaGreatDoor
open Go.RowKit Go.Maps
end Go.Proofs.YtpojhplnhppcpaaGreatDoor
