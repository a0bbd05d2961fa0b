/-
  DERIVED. GIVEN WITH THE SEED: THE CARDS: each row of YthidababplamgaaDoorRows.lean that lists a variable, with what it lists TIED to the program's text (the seventh form; the later family's looks); each row that meets fmt, with fmt's text TOLD by the authors' own Lean function (tested against real Go, not proved from fmt's source: count such statements apart). THE CARD IS WHAT COUNTS. Prove the row's statement (the work); the ties are given (YthidababplamgaaDoorTie.lean); close each card by the builder's one call (the guide's Derived/Test/ToyasCard.lean, 'card_holds'). Laid BY PROGRAM, IN A SANDBOX (cutbox-door.mjs). By AI agents, Wed Nov 11 2026. No macro, syntax, notation, axiom, sorry.
-/
import Derived.Test.YthidababplamgaaDoorRows
import GoSem.ClaimSeven
namespace Go.Proofs.YthidababplamgaaDoor
namespace Rows

/-- THE TIED CARD OF 'alumlaw03.CodeMatchesSpec'. -/
def codeMatchesSpecCard : Claim7 := { stood := { row := codeMatchesSpecRow, standIns := [], harness := (true, "b42017d39152bdf71537c8ee4f078e74f2ce7f5693bfad7a6f0780a435c32fdd"), looks := false }, kinds := [], alts := [], laidByText := true, laidKinds := [.data, .data], laidTests := true, laidLooks := .later }
def CodeMatchesSpecCardSaid : Prop := Claim7.holds Tryd.pinned (.plain (OpenSpec.ofChange codeMatchesSpecSpec)) codeMatchesSpecCard

/-- THE TIED CARD OF 'alumlaw03.CodeIsClean'. -/
def codeIsCleanCard : Claim7 := { stood := { row := codeIsCleanRow, standIns := [], harness := (true, "b42017d39152bdf71537c8ee4f078e74f2ce7f5693bfad7a6f0780a435c32fdd"), looks := false }, kinds := [], alts := [], laidByText := true, laidKinds := [.data, .data], laidTests := true, laidLooks := .later }
def CodeIsCleanCardSaid : Prop := Claim7.holds Tryd.pinned (.plain (OpenSpec.ofChange codeIsCleanSpec)) codeIsCleanCard

/-- THE TIED CARD OF 'alumlaw03.CodeCorrectsOne'. -/
def codeCorrectsOneCard : Claim7 := { stood := { row := codeCorrectsOneRow, standIns := [], harness := (true, "b42017d39152bdf71537c8ee4f078e74f2ce7f5693bfad7a6f0780a435c32fdd"), looks := false }, kinds := [], alts := [], laidByText := true, laidKinds := [.data, .data], laidTests := true, laidLooks := .later }
def CodeCorrectsOneCardSaid : Prop := Claim7.holds Tryd.pinned (.plain (OpenSpec.ofChange codeCorrectsOneSpec)) codeCorrectsOneCard

/-- THE TIED CARD OF 'alumlaw03.CodeFindsTwo'. -/
def codeFindsTwoCard : Claim7 := { stood := { row := codeFindsTwoRow, standIns := [], harness := (true, "b42017d39152bdf71537c8ee4f078e74f2ce7f5693bfad7a6f0780a435c32fdd"), looks := false }, kinds := [], alts := [], laidByText := true, laidKinds := [.data, .data], laidTests := true, laidLooks := .later }
def CodeFindsTwoCardSaid : Prop := Claim7.holds Tryd.pinned (.plain (OpenSpec.ofChange codeFindsTwoSpec)) codeFindsTwoCard

/-- THE TIED CARD OF 'alumlaw03.CodeDistance'. -/
def codeDistanceCard : Claim7 := { stood := { row := codeDistanceRow, standIns := [], harness := (true, "b42017d39152bdf71537c8ee4f078e74f2ce7f5693bfad7a6f0780a435c32fdd"), looks := false }, kinds := [], alts := [], laidByText := true, laidKinds := [.data, .data], laidTests := true, laidLooks := .later }
def CodeDistanceCardSaid : Prop := Claim7.holds Tryd.pinned (.plain (OpenSpec.ofChange codeDistanceSpec)) codeDistanceCard

/-- THE TIED CARD OF 'alumlaw03.CodeFixIsNearest'. -/
def codeFixIsNearestCard : Claim7 := { stood := { row := codeFixIsNearestRow, standIns := [], harness := (true, "b42017d39152bdf71537c8ee4f078e74f2ce7f5693bfad7a6f0780a435c32fdd"), looks := false }, kinds := [], alts := [], laidByText := true, laidKinds := [.data, .data], laidTests := true, laidLooks := .later }
def CodeFixIsNearestCardSaid : Prop := Claim7.holds Tryd.pinned (.plain (OpenSpec.ofChange codeFixIsNearestSpec)) codeFixIsNearestCard

/-- THE TIED CARD OF 'alumlaw03.CodePositions'. -/
def codePositionsCard : Claim7 := { stood := { row := codePositionsRow, standIns := [], harness := (true, "b42017d39152bdf71537c8ee4f078e74f2ce7f5693bfad7a6f0780a435c32fdd"), looks := false }, kinds := [], alts := [], laidByText := true, laidKinds := [.data, .data], laidTests := true, laidLooks := .later }
def CodePositionsCardSaid : Prop := Claim7.holds Tryd.pinned (.plain (OpenSpec.ofChange codePositionsSpec)) codePositionsCard

/-- THE SECOND FORM's CARD OF 'alumlaw03.CodeMatchesSpec'. -/
def codeMatchesSpecUptoCard : Claim7 := { stood := { row := codeMatchesSpecUptoRow, standIns := [], harness := (true, "b42017d39152bdf71537c8ee4f078e74f2ce7f5693bfad7a6f0780a435c32fdd"), looks := false }, kinds := [], alts := [], laidByText := true, laidKinds := [.data, .data], laidTests := true, laidLooks := .later }
def CodeMatchesSpecUptoCardSaid : Prop := Claim7.holds Tryd.pinned (.plain (OpenSpec.upto codeMatchesSpecSpec)) codeMatchesSpecUptoCard

/-- THE SECOND FORM's CARD OF 'alumlaw03.CodeIsClean'. -/
def codeIsCleanUptoCard : Claim7 := { stood := { row := codeIsCleanUptoRow, standIns := [], harness := (true, "b42017d39152bdf71537c8ee4f078e74f2ce7f5693bfad7a6f0780a435c32fdd"), looks := false }, kinds := [], alts := [], laidByText := true, laidKinds := [.data, .data], laidTests := true, laidLooks := .later }
def CodeIsCleanUptoCardSaid : Prop := Claim7.holds Tryd.pinned (.plain (OpenSpec.upto codeIsCleanSpec)) codeIsCleanUptoCard

/-- THE SECOND FORM's CARD OF 'alumlaw03.CodeCorrectsOne'. -/
def codeCorrectsOneUptoCard : Claim7 := { stood := { row := codeCorrectsOneUptoRow, standIns := [], harness := (true, "b42017d39152bdf71537c8ee4f078e74f2ce7f5693bfad7a6f0780a435c32fdd"), looks := false }, kinds := [], alts := [], laidByText := true, laidKinds := [.data, .data], laidTests := true, laidLooks := .later }
def CodeCorrectsOneUptoCardSaid : Prop := Claim7.holds Tryd.pinned (.plain (OpenSpec.upto codeCorrectsOneSpec)) codeCorrectsOneUptoCard

/-- THE SECOND FORM's CARD OF 'alumlaw03.CodeFindsTwo'. -/
def codeFindsTwoUptoCard : Claim7 := { stood := { row := codeFindsTwoUptoRow, standIns := [], harness := (true, "b42017d39152bdf71537c8ee4f078e74f2ce7f5693bfad7a6f0780a435c32fdd"), looks := false }, kinds := [], alts := [], laidByText := true, laidKinds := [.data, .data], laidTests := true, laidLooks := .later }
def CodeFindsTwoUptoCardSaid : Prop := Claim7.holds Tryd.pinned (.plain (OpenSpec.upto codeFindsTwoSpec)) codeFindsTwoUptoCard

/-- THE SECOND FORM's CARD OF 'alumlaw03.CodeDistance'. -/
def codeDistanceUptoCard : Claim7 := { stood := { row := codeDistanceUptoRow, standIns := [], harness := (true, "b42017d39152bdf71537c8ee4f078e74f2ce7f5693bfad7a6f0780a435c32fdd"), looks := false }, kinds := [], alts := [], laidByText := true, laidKinds := [.data, .data], laidTests := true, laidLooks := .later }
def CodeDistanceUptoCardSaid : Prop := Claim7.holds Tryd.pinned (.plain (OpenSpec.upto codeDistanceSpec)) codeDistanceUptoCard

/-- THE SECOND FORM's CARD OF 'alumlaw03.CodeFixIsNearest'. -/
def codeFixIsNearestUptoCard : Claim7 := { stood := { row := codeFixIsNearestUptoRow, standIns := [], harness := (true, "b42017d39152bdf71537c8ee4f078e74f2ce7f5693bfad7a6f0780a435c32fdd"), looks := false }, kinds := [], alts := [], laidByText := true, laidKinds := [.data, .data], laidTests := true, laidLooks := .later }
def CodeFixIsNearestUptoCardSaid : Prop := Claim7.holds Tryd.pinned (.plain (OpenSpec.upto codeFixIsNearestSpec)) codeFixIsNearestUptoCard

/-- THE SECOND FORM's CARD OF 'alumlaw03.CodePositions'. -/
def codePositionsUptoCard : Claim7 := { stood := { row := codePositionsUptoRow, standIns := [], harness := (true, "b42017d39152bdf71537c8ee4f078e74f2ce7f5693bfad7a6f0780a435c32fdd"), looks := false }, kinds := [], alts := [], laidByText := true, laidKinds := [.data, .data], laidTests := true, laidLooks := .later }
def CodePositionsUptoCardSaid : Prop := Claim7.holds Tryd.pinned (.plain (OpenSpec.upto codePositionsSpec)) codePositionsUptoCard
end Rows
end Go.Proofs.YthidababplamgaaDoor
