/-
  What alumref05's behind does.
-/
import Derived.Test.YtpojhplnhppcpaaGreatDoorQY1TApart
import Derived.Test.YtpojhplnhppcpaaGreatDoorQY3TApart
import Derived.Test.YtpojhplnhppcpaaGreatDoorQY4TApart
namespace Go.Proofs.YtpojhplnhppcpaaGreatDoor
open Go.RowKit Go.Maps
end Go.Proofs.YtpojhplnhppcpaaGreatDoor
