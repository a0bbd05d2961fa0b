/-
  DERIVED. GIVEN WITH THE SEED: THE CARDS: each row of YtmnncbgibngmiaaDoorRows.lean that lists a variable, with what it lists TIED to the program's text (the seventh form; the later family's looks); each row that meets fmt, with fmt's text TOLD by the authors' own Lean function (tested against real Go, not proved from fmt's source: count such statements apart). THE CARD IS WHAT COUNTS. Prove the row's statement (the work); the ties are given (YtmnncbgibngmiaaDoorTie.lean); close each card by the builder's one call (the guide's Derived/Test/ToyasCard.lean, 'card_holds'). Laid BY PROGRAM, IN A SANDBOX (cutbox-door.mjs). By AI agents, Wed Nov 11 2026. No macro, syntax, notation, axiom, sorry.
-/
import Derived.Test.YtmnncbgibngmiaaDoorRows
import GoSem.ClaimSeven
namespace Go.Proofs.YtmnncbgibngmiaaDoor
namespace Rows

/-- THE TIED CARD OF 'alumlaw04.MemoryBegins'. -/
def memoryBeginsCard : Claim7 := { stood := { row := memoryBeginsRow, standIns := [], harness := (true, "679cc42048aa8685a9649c3ad6be18ec052872bf6cf5cd435a30a08f0b67a4ae"), looks := false }, kinds := [], alts := [], laidByText := true, laidKinds := [.data, .data], laidTests := true, laidLooks := .later }
def MemoryBeginsCardSaid : Prop := Claim7.holds Tryd.pinned (.plain (OpenSpec.ofChange memoryBeginsSpec)) memoryBeginsCard

/-- THE TIED CARD OF 'alumlaw04.MemoryFenceKeeps'. -/
def memoryFenceKeepsCard : Claim7 := { stood := { row := memoryFenceKeepsRow, standIns := [], harness := (true, "679cc42048aa8685a9649c3ad6be18ec052872bf6cf5cd435a30a08f0b67a4ae"), looks := false }, kinds := [], alts := [], laidByText := true, laidKinds := [.data, .data], laidTests := true, laidLooks := .later }
def MemoryFenceKeepsCardSaid : Prop := Claim7.holds Tryd.pinned (.plain (OpenSpec.ofChange memoryFenceKeepsSpec)) memoryFenceKeepsCard

/-- THE TIED CARD OF 'alumlaw04.MemoryKeepsPrefixes'. -/
def memoryKeepsPrefixesCard : Claim7 := { stood := { row := memoryKeepsPrefixesRow, standIns := [], harness := (true, "679cc42048aa8685a9649c3ad6be18ec052872bf6cf5cd435a30a08f0b67a4ae"), looks := false }, kinds := [], alts := [], laidByText := true, laidKinds := [.data, .data], laidTests := true, laidLooks := .later }
def MemoryKeepsPrefixesCardSaid : Prop := Claim7.holds Tryd.pinned (.plain (OpenSpec.ofChange memoryKeepsPrefixesSpec)) memoryKeepsPrefixesCard

/-- THE TIED CARD OF 'alumlaw04.MemoryEvictsLikeFences'. -/
def memoryEvictsLikeFencesCard : Claim7 := { stood := { row := memoryEvictsLikeFencesRow, standIns := [], harness := (true, "679cc42048aa8685a9649c3ad6be18ec052872bf6cf5cd435a30a08f0b67a4ae"), looks := false }, kinds := [], alts := [], laidByText := true, laidKinds := [.data, .data], laidTests := true, laidLooks := .later }
def MemoryEvictsLikeFencesCardSaid : Prop := Claim7.holds Tryd.pinned (.plain (OpenSpec.ofChange memoryEvictsLikeFencesSpec)) memoryEvictsLikeFencesCard

/-- THE TIED CARD OF 'alumlaw04.MemoryLinesAreApart'. -/
def memoryLinesAreApartCard : Claim7 := { stood := { row := memoryLinesAreApartRow, standIns := [], harness := (true, "679cc42048aa8685a9649c3ad6be18ec052872bf6cf5cd435a30a08f0b67a4ae"), looks := false }, kinds := [], alts := [], laidByText := true, laidKinds := [.data, .data], laidTests := true, laidLooks := .later }
def MemoryLinesAreApartCardSaid : Prop := Claim7.holds Tryd.pinned (.plain (OpenSpec.ofChange memoryLinesAreApartSpec)) memoryLinesAreApartCard

/-- THE TIED CARD OF 'alumlaw04.MemoryCodes'. -/
def memoryCodesCard : Claim7 := { stood := { row := memoryCodesRow, standIns := [], harness := (true, "679cc42048aa8685a9649c3ad6be18ec052872bf6cf5cd435a30a08f0b67a4ae"), looks := false }, kinds := [], alts := [], laidByText := true, laidKinds := [.data, .data], laidTests := true, laidLooks := .later }
def MemoryCodesCardSaid : Prop := Claim7.holds Tryd.pinned (.plain (OpenSpec.ofChange memoryCodesSpec)) memoryCodesCard

/-- THE SECOND FORM's CARD OF 'alumlaw04.MemoryBegins'. -/
def memoryBeginsUptoCard : Claim7 := { stood := { row := memoryBeginsUptoRow, standIns := [], harness := (true, "679cc42048aa8685a9649c3ad6be18ec052872bf6cf5cd435a30a08f0b67a4ae"), looks := false }, kinds := [], alts := [], laidByText := true, laidKinds := [.data, .data], laidTests := true, laidLooks := .later }
def MemoryBeginsUptoCardSaid : Prop := Claim7.holds Tryd.pinned (.plain (OpenSpec.upto memoryBeginsSpec)) memoryBeginsUptoCard

/-- THE SECOND FORM's CARD OF 'alumlaw04.MemoryFenceKeeps'. -/
def memoryFenceKeepsUptoCard : Claim7 := { stood := { row := memoryFenceKeepsUptoRow, standIns := [], harness := (true, "679cc42048aa8685a9649c3ad6be18ec052872bf6cf5cd435a30a08f0b67a4ae"), looks := false }, kinds := [], alts := [], laidByText := true, laidKinds := [.data, .data], laidTests := true, laidLooks := .later }
def MemoryFenceKeepsUptoCardSaid : Prop := Claim7.holds Tryd.pinned (.plain (OpenSpec.upto memoryFenceKeepsSpec)) memoryFenceKeepsUptoCard

/-- THE SECOND FORM's CARD OF 'alumlaw04.MemoryKeepsPrefixes'. -/
def memoryKeepsPrefixesUptoCard : Claim7 := { stood := { row := memoryKeepsPrefixesUptoRow, standIns := [], harness := (true, "679cc42048aa8685a9649c3ad6be18ec052872bf6cf5cd435a30a08f0b67a4ae"), looks := false }, kinds := [], alts := [], laidByText := true, laidKinds := [.data, .data], laidTests := true, laidLooks := .later }
def MemoryKeepsPrefixesUptoCardSaid : Prop := Claim7.holds Tryd.pinned (.plain (OpenSpec.upto memoryKeepsPrefixesSpec)) memoryKeepsPrefixesUptoCard

/-- THE SECOND FORM's CARD OF 'alumlaw04.MemoryEvictsLikeFences'. -/
def memoryEvictsLikeFencesUptoCard : Claim7 := { stood := { row := memoryEvictsLikeFencesUptoRow, standIns := [], harness := (true, "679cc42048aa8685a9649c3ad6be18ec052872bf6cf5cd435a30a08f0b67a4ae"), looks := false }, kinds := [], alts := [], laidByText := true, laidKinds := [.data, .data], laidTests := true, laidLooks := .later }
def MemoryEvictsLikeFencesUptoCardSaid : Prop := Claim7.holds Tryd.pinned (.plain (OpenSpec.upto memoryEvictsLikeFencesSpec)) memoryEvictsLikeFencesUptoCard

/-- THE SECOND FORM's CARD OF 'alumlaw04.MemoryLinesAreApart'. -/
def memoryLinesAreApartUptoCard : Claim7 := { stood := { row := memoryLinesAreApartUptoRow, standIns := [], harness := (true, "679cc42048aa8685a9649c3ad6be18ec052872bf6cf5cd435a30a08f0b67a4ae"), looks := false }, kinds := [], alts := [], laidByText := true, laidKinds := [.data, .data], laidTests := true, laidLooks := .later }
def MemoryLinesAreApartUptoCardSaid : Prop := Claim7.holds Tryd.pinned (.plain (OpenSpec.upto memoryLinesAreApartSpec)) memoryLinesAreApartUptoCard

/-- THE SECOND FORM's CARD OF 'alumlaw04.MemoryCodes'. -/
def memoryCodesUptoCard : Claim7 := { stood := { row := memoryCodesUptoRow, standIns := [], harness := (true, "679cc42048aa8685a9649c3ad6be18ec052872bf6cf5cd435a30a08f0b67a4ae"), looks := false }, kinds := [], alts := [], laidByText := true, laidKinds := [.data, .data], laidTests := true, laidLooks := .later }
def MemoryCodesUptoCardSaid : Prop := Claim7.holds Tryd.pinned (.plain (OpenSpec.upto memoryCodesSpec)) memoryCodesUptoCard
end Rows
end Go.Proofs.YtmnncbgibngmiaaDoor
