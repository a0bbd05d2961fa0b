/-
  What the reference's Copy does.
-/
import Derived.Test.YtpojhplnhppcpaaGreatDoorQZ13
namespace Go.Proofs.YtpojhplnhppcpaaGreatDoor
open Go.RowKit Go.Maps
section
variable {w0 w w2 w3 : World} {r k : Nat} {m : PM} {evv u : Value} {X : List (PL × Value)}
end
end Go.Proofs.YtpojhplnhppcpaaGreatDoor
