/-
  DERIVED. GIVEN WITH THE SEED: THE CARDS: each row of YtpojhplnhppcpaaGreatDoorRows.lean that lists a variable, with what it lists TIED to the program's text (the seventh form; the later family's looks); each row that meets fmt, with fmt's text TOLD by the authors' own Lean function (tested against real Go, not proved from fmt's source: count such statements apart). THE CARD IS WHAT COUNTS. Prove the row's statement (the work); the ties are given (YtpojhplnhppcpaaGreatDoorTie.lean); close each card by the builder's one call (the guide's Derived/Test/ToyasCard.lean, 'card_holds'). Laid BY PROGRAM, IN A SANDBOX (cutbox-door.mjs). By AI agents, Wed Nov 11 2026. No macro, syntax, notation, axiom, sorry.
-/
import Derived.Test.YtpojhplnhppcpaaGreatDoorRows
import GoSem.ClaimSeven
namespace Go.Proofs.YtpojhplnhppcpaaGreatDoor
namespace Rows

/-- THE TIED CARD OF 'alumlaw05.TraceCheckMatchesSpec'. -/
def traceCheckMatchesSpecCard : Claim7 := { stood := { row := traceCheckMatchesSpecRow, standIns := [], harness := (true, "d7335eabf4212a2fd222c8425468b763ceacfd015fd55c826ff44fc9dc81394a"), looks := true }, kinds := [], alts := [], laidByText := true, laidKinds := [.data, .data, .data, .sentinel, .sentinel, .data], laidTests := true, laidLooks := .later }
def TraceCheckMatchesSpecCardSaid : Prop := Claim7.holds Tryz.pinned (.plain (OpenSpec.ofChange traceCheckMatchesSpecSpec)) traceCheckMatchesSpecCard

/-- THE TIED CARD OF 'alumlaw05.TraceReplays'. -/
def traceReplaysCard : Claim7 := { stood := { row := traceReplaysRow, standIns := [], harness := (true, "d7335eabf4212a2fd222c8425468b763ceacfd015fd55c826ff44fc9dc81394a"), looks := true }, kinds := [], alts := [], laidByText := true, laidKinds := [.data, .data, .data, .sentinel, .sentinel, .data], laidTests := true, laidLooks := .later }
def TraceReplaysCardSaid : Prop := Claim7.holds Tryz.pinned (.plain (OpenSpec.ofChange traceReplaysSpec)) traceReplaysCard

/-- THE TIED CARD OF 'alumlaw05.TraceReplayRefuses'. -/
def traceReplayRefusesCard : Claim7 := { stood := { row := traceReplayRefusesRow, standIns := [], harness := (true, "d7335eabf4212a2fd222c8425468b763ceacfd015fd55c826ff44fc9dc81394a"), looks := true }, kinds := [], alts := [], laidByText := true, laidKinds := [.data, .data, .data, .sentinel, .sentinel, .data], laidTests := true, laidLooks := .later }
def TraceReplayRefusesCardSaid : Prop := Claim7.holds Tryz.pinned (.plain (OpenSpec.ofChange traceReplayRefusesSpec)) traceReplayRefusesCard

/-- THE TIED CARD OF 'alumlaw05.TraceCutsMatchSpec'. -/
def traceCutsMatchSpecCard : Claim7 := { stood := { row := traceCutsMatchSpecRow, standIns := [], harness := (true, "d7335eabf4212a2fd222c8425468b763ceacfd015fd55c826ff44fc9dc81394a"), looks := true }, kinds := [], alts := [], laidByText := true, laidKinds := [.data, .data, .data, .sentinel, .sentinel, .data], laidTests := true, laidLooks := .later }
def TraceCutsMatchSpecCardSaid : Prop := Claim7.holds Tryz.pinned (.plain (OpenSpec.ofChange traceCutsMatchSpecSpec)) traceCutsMatchSpecCard

/-- THE TIED CARD OF 'alumlaw05.TraceImageMatchesSpec'. -/
def traceImageMatchesSpecCard : Claim7 := { stood := { row := traceImageMatchesSpecRow, standIns := [], harness := (true, "d7335eabf4212a2fd222c8425468b763ceacfd015fd55c826ff44fc9dc81394a"), looks := true }, kinds := [], alts := [], laidByText := true, laidKinds := [.data, .data, .data, .sentinel, .sentinel, .data], laidTests := true, laidLooks := .later }
def TraceImageMatchesSpecCardSaid : Prop := Claim7.holds Tryz.pinned (.plain (OpenSpec.ofChange traceImageMatchesSpecSpec)) traceImageMatchesSpecCard

/-- THE TIED CARD OF 'alumlaw05.TraceFatesMatchSpec'. -/
def traceFatesMatchSpecCard : Claim7 := { stood := { row := traceFatesMatchSpecRow, standIns := [], harness := (true, "d7335eabf4212a2fd222c8425468b763ceacfd015fd55c826ff44fc9dc81394a"), looks := true }, kinds := [], alts := [], laidByText := true, laidKinds := [.data, .data, .data, .sentinel, .sentinel, .data], laidTests := true, laidLooks := .later }
def TraceFatesMatchSpecCardSaid : Prop := Claim7.holds Tryz.pinned (.plain (OpenSpec.ofChange traceFatesMatchSpecSpec)) traceFatesMatchSpecCard

/-- THE TIED CARD OF 'alumlaw05.TracePrintMatchesSpec'. -/
def tracePrintMatchesSpecCard : Claim7 := { stood := { row := tracePrintMatchesSpecRow, standIns := [], harness := (true, "d7335eabf4212a2fd222c8425468b763ceacfd015fd55c826ff44fc9dc81394a"), looks := true }, kinds := [], alts := [], laidByText := true, laidKinds := [.data, .data, .data, .sentinel, .sentinel, .data], laidTests := true, laidLooks := .later }
def TracePrintMatchesSpecCardSaid : Prop := Claim7.holds Tryz.pinned (.plain (OpenSpec.ofChange tracePrintMatchesSpecSpec)) tracePrintMatchesSpecCard

/-- THE TIED CARD OF 'alumlaw05.TraceParseMatchesSpec'. -/
def traceParseMatchesSpecCard : Claim7 := { stood := { row := traceParseMatchesSpecRow, standIns := [], harness := (true, "d7335eabf4212a2fd222c8425468b763ceacfd015fd55c826ff44fc9dc81394a"), looks := true }, kinds := [], alts := [], laidByText := true, laidKinds := [.data, .data, .data, .sentinel, .sentinel, .data], laidTests := true, laidLooks := .later }
def TraceParseMatchesSpecCardSaid : Prop := Claim7.holds Tryz.pinned (.plain (OpenSpec.ofChange traceParseMatchesSpecSpec)) traceParseMatchesSpecCard

/-- THE TIED CARD OF 'alumlaw05.TraceChoicesDiffer'. -/
def traceChoicesDifferCard : Claim7 := { stood := { row := traceChoicesDifferRow, standIns := [], harness := (true, "d7335eabf4212a2fd222c8425468b763ceacfd015fd55c826ff44fc9dc81394a"), looks := true }, kinds := [], alts := [], laidByText := true, laidKinds := [.data, .data, .data, .sentinel, .sentinel, .data], laidTests := true, laidLooks := .later }
def TraceChoicesDifferCardSaid : Prop := Claim7.holds Tryz.pinned (.plain (OpenSpec.ofChange traceChoicesDifferSpec)) traceChoicesDifferCard

/-- THE TIED CARD OF 'alumlaw05.TraceLinesAreApart'. -/
def traceLinesAreApartCard : Claim7 := { stood := { row := traceLinesAreApartRow, standIns := [], harness := (true, "d7335eabf4212a2fd222c8425468b763ceacfd015fd55c826ff44fc9dc81394a"), looks := true }, kinds := [], alts := [], laidByText := true, laidKinds := [.data, .data, .data, .sentinel, .sentinel, .data], laidTests := true, laidLooks := .later }
def TraceLinesAreApartCardSaid : Prop := Claim7.holds Tryz.pinned (.plain (OpenSpec.ofChange traceLinesAreApartSpec)) traceLinesAreApartCard

/-- THE TIED CARD OF 'alumlaw05.TraceCutsAreEvictions'. -/
def traceCutsAreEvictionsCard : Claim7 := { stood := { row := traceCutsAreEvictionsRow, standIns := [], harness := (true, "d7335eabf4212a2fd222c8425468b763ceacfd015fd55c826ff44fc9dc81394a"), looks := true }, kinds := [], alts := [], laidByText := true, laidKinds := [.data, .data, .data, .sentinel, .sentinel, .data], laidTests := true, laidLooks := .later }
def TraceCutsAreEvictionsCardSaid : Prop := Claim7.holds Tryz.pinned (.plain (OpenSpec.ofChange traceCutsAreEvictionsSpec)) traceCutsAreEvictionsCard

/-- THE TIED CARD OF 'alumlaw05.TraceFatesAreOrdered'. -/
def traceFatesAreOrderedCard : Claim7 := { stood := { row := traceFatesAreOrderedRow, standIns := [], harness := (true, "d7335eabf4212a2fd222c8425468b763ceacfd015fd55c826ff44fc9dc81394a"), looks := true }, kinds := [], alts := [], laidByText := true, laidKinds := [.data, .data, .data, .sentinel, .sentinel, .data], laidTests := true, laidLooks := .later }
def TraceFatesAreOrderedCardSaid : Prop := Claim7.holds Tryz.pinned (.plain (OpenSpec.ofChange traceFatesAreOrderedSpec)) traceFatesAreOrderedCard

/-- THE SECOND FORM's CARD OF 'alumlaw05.TraceCheckMatchesSpec'. -/
def traceCheckMatchesSpecUptoCard : Claim7 := { stood := { row := traceCheckMatchesSpecUptoRow, standIns := [], harness := (true, "d7335eabf4212a2fd222c8425468b763ceacfd015fd55c826ff44fc9dc81394a"), looks := true }, kinds := [], alts := [], laidByText := true, laidKinds := [.data, .data, .data, .sentinel, .sentinel, .data], laidTests := true, laidLooks := .later }
def TraceCheckMatchesSpecUptoCardSaid : Prop := Claim7.holds Tryz.pinned (.plain (OpenSpec.upto traceCheckMatchesSpecSpec)) traceCheckMatchesSpecUptoCard

/-- THE SECOND FORM's CARD OF 'alumlaw05.TraceReplays'. -/
def traceReplaysUptoCard : Claim7 := { stood := { row := traceReplaysUptoRow, standIns := [], harness := (true, "d7335eabf4212a2fd222c8425468b763ceacfd015fd55c826ff44fc9dc81394a"), looks := true }, kinds := [], alts := [], laidByText := true, laidKinds := [.data, .data, .data, .sentinel, .sentinel, .data], laidTests := true, laidLooks := .later }
def TraceReplaysUptoCardSaid : Prop := Claim7.holds Tryz.pinned (.plain (OpenSpec.upto traceReplaysSpec)) traceReplaysUptoCard

/-- THE SECOND FORM's CARD OF 'alumlaw05.TraceReplayRefuses'. -/
def traceReplayRefusesUptoCard : Claim7 := { stood := { row := traceReplayRefusesUptoRow, standIns := [], harness := (true, "d7335eabf4212a2fd222c8425468b763ceacfd015fd55c826ff44fc9dc81394a"), looks := true }, kinds := [], alts := [], laidByText := true, laidKinds := [.data, .data, .data, .sentinel, .sentinel, .data], laidTests := true, laidLooks := .later }
def TraceReplayRefusesUptoCardSaid : Prop := Claim7.holds Tryz.pinned (.plain (OpenSpec.upto traceReplayRefusesSpec)) traceReplayRefusesUptoCard

/-- THE SECOND FORM's CARD OF 'alumlaw05.TraceCutsMatchSpec'. -/
def traceCutsMatchSpecUptoCard : Claim7 := { stood := { row := traceCutsMatchSpecUptoRow, standIns := [], harness := (true, "d7335eabf4212a2fd222c8425468b763ceacfd015fd55c826ff44fc9dc81394a"), looks := true }, kinds := [], alts := [], laidByText := true, laidKinds := [.data, .data, .data, .sentinel, .sentinel, .data], laidTests := true, laidLooks := .later }
def TraceCutsMatchSpecUptoCardSaid : Prop := Claim7.holds Tryz.pinned (.plain (OpenSpec.upto traceCutsMatchSpecSpec)) traceCutsMatchSpecUptoCard

/-- THE SECOND FORM's CARD OF 'alumlaw05.TraceImageMatchesSpec'. -/
def traceImageMatchesSpecUptoCard : Claim7 := { stood := { row := traceImageMatchesSpecUptoRow, standIns := [], harness := (true, "d7335eabf4212a2fd222c8425468b763ceacfd015fd55c826ff44fc9dc81394a"), looks := true }, kinds := [], alts := [], laidByText := true, laidKinds := [.data, .data, .data, .sentinel, .sentinel, .data], laidTests := true, laidLooks := .later }
def TraceImageMatchesSpecUptoCardSaid : Prop := Claim7.holds Tryz.pinned (.plain (OpenSpec.upto traceImageMatchesSpecSpec)) traceImageMatchesSpecUptoCard

/-- THE SECOND FORM's CARD OF 'alumlaw05.TraceFatesMatchSpec'. -/
def traceFatesMatchSpecUptoCard : Claim7 := { stood := { row := traceFatesMatchSpecUptoRow, standIns := [], harness := (true, "d7335eabf4212a2fd222c8425468b763ceacfd015fd55c826ff44fc9dc81394a"), looks := true }, kinds := [], alts := [], laidByText := true, laidKinds := [.data, .data, .data, .sentinel, .sentinel, .data], laidTests := true, laidLooks := .later }
def TraceFatesMatchSpecUptoCardSaid : Prop := Claim7.holds Tryz.pinned (.plain (OpenSpec.upto traceFatesMatchSpecSpec)) traceFatesMatchSpecUptoCard

/-- THE SECOND FORM's CARD OF 'alumlaw05.TracePrintMatchesSpec'. -/
def tracePrintMatchesSpecUptoCard : Claim7 := { stood := { row := tracePrintMatchesSpecUptoRow, standIns := [], harness := (true, "d7335eabf4212a2fd222c8425468b763ceacfd015fd55c826ff44fc9dc81394a"), looks := true }, kinds := [], alts := [], laidByText := true, laidKinds := [.data, .data, .data, .sentinel, .sentinel, .data], laidTests := true, laidLooks := .later }
def TracePrintMatchesSpecUptoCardSaid : Prop := Claim7.holds Tryz.pinned (.plain (OpenSpec.upto tracePrintMatchesSpecSpec)) tracePrintMatchesSpecUptoCard

/-- THE SECOND FORM's CARD OF 'alumlaw05.TraceParseMatchesSpec'. -/
def traceParseMatchesSpecUptoCard : Claim7 := { stood := { row := traceParseMatchesSpecUptoRow, standIns := [], harness := (true, "d7335eabf4212a2fd222c8425468b763ceacfd015fd55c826ff44fc9dc81394a"), looks := true }, kinds := [], alts := [], laidByText := true, laidKinds := [.data, .data, .data, .sentinel, .sentinel, .data], laidTests := true, laidLooks := .later }
def TraceParseMatchesSpecUptoCardSaid : Prop := Claim7.holds Tryz.pinned (.plain (OpenSpec.upto traceParseMatchesSpecSpec)) traceParseMatchesSpecUptoCard

/-- THE SECOND FORM's CARD OF 'alumlaw05.TraceChoicesDiffer'. -/
def traceChoicesDifferUptoCard : Claim7 := { stood := { row := traceChoicesDifferUptoRow, standIns := [], harness := (true, "d7335eabf4212a2fd222c8425468b763ceacfd015fd55c826ff44fc9dc81394a"), looks := true }, kinds := [], alts := [], laidByText := true, laidKinds := [.data, .data, .data, .sentinel, .sentinel, .data], laidTests := true, laidLooks := .later }
def TraceChoicesDifferUptoCardSaid : Prop := Claim7.holds Tryz.pinned (.plain (OpenSpec.upto traceChoicesDifferSpec)) traceChoicesDifferUptoCard

/-- THE SECOND FORM's CARD OF 'alumlaw05.TraceLinesAreApart'. -/
def traceLinesAreApartUptoCard : Claim7 := { stood := { row := traceLinesAreApartUptoRow, standIns := [], harness := (true, "d7335eabf4212a2fd222c8425468b763ceacfd015fd55c826ff44fc9dc81394a"), looks := true }, kinds := [], alts := [], laidByText := true, laidKinds := [.data, .data, .data, .sentinel, .sentinel, .data], laidTests := true, laidLooks := .later }
def TraceLinesAreApartUptoCardSaid : Prop := Claim7.holds Tryz.pinned (.plain (OpenSpec.upto traceLinesAreApartSpec)) traceLinesAreApartUptoCard

/-- THE SECOND FORM's CARD OF 'alumlaw05.TraceCutsAreEvictions'. -/
def traceCutsAreEvictionsUptoCard : Claim7 := { stood := { row := traceCutsAreEvictionsUptoRow, standIns := [], harness := (true, "d7335eabf4212a2fd222c8425468b763ceacfd015fd55c826ff44fc9dc81394a"), looks := true }, kinds := [], alts := [], laidByText := true, laidKinds := [.data, .data, .data, .sentinel, .sentinel, .data], laidTests := true, laidLooks := .later }
def TraceCutsAreEvictionsUptoCardSaid : Prop := Claim7.holds Tryz.pinned (.plain (OpenSpec.upto traceCutsAreEvictionsSpec)) traceCutsAreEvictionsUptoCard

/-- THE SECOND FORM's CARD OF 'alumlaw05.TraceFatesAreOrdered'. -/
def traceFatesAreOrderedUptoCard : Claim7 := { stood := { row := traceFatesAreOrderedUptoRow, standIns := [], harness := (true, "d7335eabf4212a2fd222c8425468b763ceacfd015fd55c826ff44fc9dc81394a"), looks := true }, kinds := [], alts := [], laidByText := true, laidKinds := [.data, .data, .data, .sentinel, .sentinel, .data], laidTests := true, laidLooks := .later }
def TraceFatesAreOrderedUptoCardSaid : Prop := Claim7.holds Tryz.pinned (.plain (OpenSpec.upto traceFatesAreOrderedSpec)) traceFatesAreOrderedUptoCard
end Rows
end Go.Proofs.YtpojhplnhppcpaaGreatDoor
