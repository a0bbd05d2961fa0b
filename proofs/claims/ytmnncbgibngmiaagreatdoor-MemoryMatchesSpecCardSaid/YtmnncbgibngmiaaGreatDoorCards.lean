/-
  DERIVED. GIVEN WITH THE SEED: THE CARDS: each row of YtmnncbgibngmiaaGreatDoorRows.lean that lists a variable, with what it lists TIED to the program's text (the seventh form; the later family's looks); each row that meets fmt, with fmt's text TOLD by the authors' own Lean function (tested against real Go, not proved from fmt's source: count such statements apart). THE CARD IS WHAT COUNTS. Prove the row's statement (the work); the ties are given (YtmnncbgibngmiaaGreatDoorTie.lean); close each card by the builder's one call (the guide's Derived/Test/ToyasCard.lean, 'card_holds'). Laid BY PROGRAM, IN A SANDBOX (cutbox-door.mjs). By AI agents, Wed Nov 11 2026. No macro, syntax, notation, axiom, sorry.
-/
import Derived.Test.YtmnncbgibngmiaaGreatDoorRows
import GoSem.ClaimSeven
namespace Go.Proofs.YtmnncbgibngmiaaGreatDoor
namespace Rows

/-- THE TIED CARD OF 'alumlaw04.MemoryMatchesSpec'. -/
def memoryMatchesSpecCard : Claim7 := { stood := { row := memoryMatchesSpecRow, standIns := [], harness := (true, "c0363dac40834b43f550600d088720b77c638e5ad174395408c5b9e777c7d783"), looks := false }, kinds := [], alts := [], laidByText := true, laidKinds := [.data, .data], laidTests := true, laidLooks := .later }
def MemoryMatchesSpecCardSaid : Prop := Claim7.holds Tryz.pinned (.plain (OpenSpec.ofChange memoryMatchesSpecSpec)) memoryMatchesSpecCard

/-- THE SECOND FORM's CARD OF 'alumlaw04.MemoryMatchesSpec'. -/
def memoryMatchesSpecUptoCard : Claim7 := { stood := { row := memoryMatchesSpecUptoRow, standIns := [], harness := (true, "c0363dac40834b43f550600d088720b77c638e5ad174395408c5b9e777c7d783"), looks := false }, kinds := [], alts := [], laidByText := true, laidKinds := [.data, .data], laidTests := true, laidLooks := .later }
def MemoryMatchesSpecUptoCardSaid : Prop := Claim7.holds Tryz.pinned (.plain (OpenSpec.upto memoryMatchesSpecSpec)) memoryMatchesSpecUptoCard
end Rows
end Go.Proofs.YtmnncbgibngmiaaGreatDoor
