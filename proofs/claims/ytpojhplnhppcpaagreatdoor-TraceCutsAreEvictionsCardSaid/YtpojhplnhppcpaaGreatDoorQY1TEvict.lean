/-
  What alumref05's apply does. What the reference's Copy does. What the reference's Copy does: the walk. What alumref04's Right answers. What the reference's From does. What alumref05's behind does. What alumref05's Check and At do. What alumref05's Product and Cuts do. The laws on Check and Replay: TraceCheckMatchesSpec, TraceReplayRefuses: the walks.
-/
import Derived.Test.YtpojhplnhppcpaaGreatDoorQZ13
import Derived.Test.YtpojhplnhppcpaaGreatDoorQN25z
import Derived.Test.YtpojhplnhppcpaaGreatDoorQN17
import Derived.Test.YtpojhplnhppcpaaGreatDoorQV1
import Derived.Test.YtpojhplnhppcpaaGreatDoorQS2
namespace Go.Proofs.YtpojhplnhppcpaaGreatDoor
open Go.RowKit Go.Maps
end Go.Proofs.YtpojhplnhppcpaaGreatDoor
namespace Go.Proofs.YtpojhplnhppcpaaGreatDoor
open Go.RowKit Go.Maps
section
variable {w0 w w2 w3 : World} {r k : Nat} {m : PM} {evv u : Value} {X : List (PL × Value)}
end
end Go.Proofs.YtpojhplnhppcpaaGreatDoor
namespace Go.Proofs.YtpojhplnhppcpaaGreatDoor
open Go.RowKit Go.Maps
end Go.Proofs.YtpojhplnhppcpaaGreatDoor
namespace Go.Proofs.YtpojhplnhppcpaaGreatDoor
open Go.RowKit Go.Maps
end Go.Proofs.YtpojhplnhppcpaaGreatDoor
namespace Go.Proofs.YtpojhplnhppcpaaGreatDoor
open Go.RowKit Go.Maps
end Go.Proofs.YtpojhplnhppcpaaGreatDoor
namespace Go.Proofs.YtpojhplnhppcpaaGreatDoor
open Go.RowKit Go.Maps
end Go.Proofs.YtpojhplnhppcpaaGreatDoor
namespace Go.Proofs.YtpojhplnhppcpaaGreatDoor
open Go.RowKit Go.Maps
end Go.Proofs.YtpojhplnhppcpaaGreatDoor
namespace Go.Proofs.YtpojhplnhppcpaaGreatDoor
open Go.RowKit Go.Maps
end Go.Proofs.YtpojhplnhppcpaaGreatDoor
namespace Go.Proofs.YtpojhplnhppcpaaGreatDoor
open Go.RowKit Go.Maps
end Go.Proofs.YtpojhplnhppcpaaGreatDoor
