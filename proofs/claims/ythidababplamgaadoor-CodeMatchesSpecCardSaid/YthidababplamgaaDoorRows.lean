/-
  NARROWER THAN 'FOR EVERY INPUT', by the rows' own cells (each row's printed sentence says how): CodeMatchesSpec: laid · CodeIsClean: laid · CodeCorrectsOne: laid · CodeFindsTwo: laid · CodeDistance: laid · CodeFixIsNearest: laid · CodePositions: laid.
  DERIVED. THE GIVEN ROWS OF THIS SEAT. 7 by the template 'for every input the law returns true; each argument reads behind the call as it read before'; 0 by the template 'total and deterministic' (their statements: YthidababplamgaaDoorTotals.lean).
  GIVEN WITH THE SEED: the statements are not yours to turn. If you find one false, say at which input.
  Laid BY PROGRAM, IN A SANDBOX (cutbox-rows.mjs): the forced cells as the released guide's own fill.sh prints them over the translation e82fee39aa80fb89… (all of the seat's roots in one cut). By AI agents, Wed Nov 11 2026. No macro, syntax, notation, axiom, sorry.
-/
import Derived.Test.YthidababplamgaaDoorChecked
import GoSem.Claim
import GoSem.ClaimJoined
import GoSem.ClaimMapViews
import Derived.JoinedTies
import Derived.KernelRfl
namespace Go.Proofs.YthidababplamgaaDoor
/- THE CELL 'sum', in the pinned program and in every row, IS THE sha256 OF THE DUMP (.gsa) THAT YthidababplamgaaDoorProg.lean LOADS. Nothing in Lean hashes anything: it is a label: what it is worth is what the hold of that sum in a sandbox is worth. -/
noncomputable def Tryd.pinned : Pinned := { name := "ythidababplamgaadoor", sum := "e82fee39aa80fb89861cb3bb5c6e2397be95ae67ec1739a7256a780d58f7ec09", checked := Tryd.checked }
namespace Rows
def none {H : Type} : Left H := { results := [], args := [] }

/- WHAT THE LISTED PACKAGE-LEVEL VARIABLES READ AS WHEN THE CALL BEGINS. Each datum BY PROGRAM (the guide's laid-datum.mjs) off the statement by which the dump's own 'gosem.cut.vars' lays the variable. In a bare row this is a premise. The card (YthidababplamgaaDoorCards.lean) ties it to the program's text. -/
def laid_math_bits_deBruijn32tab {H : Type} : DataW H := .agg [.lit (.int .u8 0), .lit (.int .u8 1), .lit (.int .u8 28), .lit (.int .u8 2), .lit (.int .u8 29), .lit (.int .u8 14), .lit (.int .u8 24), .lit (.int .u8 3), .lit (.int .u8 30), .lit (.int .u8 22), .lit (.int .u8 20), .lit (.int .u8 15), .lit (.int .u8 25), .lit (.int .u8 17), .lit (.int .u8 4), .lit (.int .u8 8), .lit (.int .u8 31), .lit (.int .u8 27), .lit (.int .u8 13), .lit (.int .u8 23), .lit (.int .u8 21), .lit (.int .u8 19), .lit (.int .u8 16), .lit (.int .u8 7), .lit (.int .u8 26), .lit (.int .u8 12), .lit (.int .u8 18), .lit (.int .u8 6), .lit (.int .u8 11), .lit (.int .u8 5), .lit (.int .u8 10), .lit (.int .u8 9)]
def laid_math_bits_deBruijn64tab {H : Type} : DataW H := .agg [.lit (.int .u8 0), .lit (.int .u8 1), .lit (.int .u8 56), .lit (.int .u8 2), .lit (.int .u8 57), .lit (.int .u8 49), .lit (.int .u8 28), .lit (.int .u8 3), .lit (.int .u8 61), .lit (.int .u8 58), .lit (.int .u8 42), .lit (.int .u8 50), .lit (.int .u8 38), .lit (.int .u8 29), .lit (.int .u8 17), .lit (.int .u8 4), .lit (.int .u8 62), .lit (.int .u8 47), .lit (.int .u8 59), .lit (.int .u8 36), .lit (.int .u8 45), .lit (.int .u8 43), .lit (.int .u8 51), .lit (.int .u8 22), .lit (.int .u8 53), .lit (.int .u8 39), .lit (.int .u8 33), .lit (.int .u8 30), .lit (.int .u8 24), .lit (.int .u8 18), .lit (.int .u8 12), .lit (.int .u8 5), .lit (.int .u8 63), .lit (.int .u8 55), .lit (.int .u8 48), .lit (.int .u8 27), .lit (.int .u8 60), .lit (.int .u8 41), .lit (.int .u8 37), .lit (.int .u8 16), .lit (.int .u8 46), .lit (.int .u8 35), .lit (.int .u8 44), .lit (.int .u8 21), .lit (.int .u8 52), .lit (.int .u8 32), .lit (.int .u8 23), .lit (.int .u8 11), .lit (.int .u8 54), .lit (.int .u8 26), .lit (.int .u8 40), .lit (.int .u8 15), .lit (.int .u8 34), .lit (.int .u8 20), .lit (.int .u8 31), .lit (.int .u8 10), .lit (.int .u8 25), .lit (.int .u8 14), .lit (.int .u8 19), .lit (.int .u8 9), .lit (.int .u8 13), .lit (.int .u8 8), .lit (.int .u8 7), .lit (.int .u8 6)]

/-- 'alumlaw03.CodeMatchesSpec': WHATEVER THE INPUT: true; the input reads as it did. -/
def codeMatchesSpecSpec : ChangeSpec := { name := "codeMatchesSpec", fn := fun _ => fun
  | [d1, d2, d3, d4, d5, d6] => { results := [.lit (.bool true)], args := [d1, d2, d3, d4, d5, d6] }
  | _ => none }
def codeMatchesSpecRow : OpenClaim := { program := "ythidababplamgaadoor", sum := "e82fee39aa80fb89861cb3bb5c6e2397be95ae67ec1739a7256a780d58f7ec09", func := "alum/alumlaw03.CodeMatchesSpec", spec := "codeMatchesSpec", unfollowed := true, recurses := true, named := ["math/bits.deBruijn32tab", "math/bits.deBruijn64tab"], apart := false, laid := [("math/bits.deBruijn32tab", laid_math_bits_deBruijn32tab), ("math/bits.deBruijn64tab", laid_math_bits_deBruijn64tab)] }
def CodeMatchesSpecSaid : Prop := codeMatchesSpecRow.holds Tryd.pinned (OpenSpec.ofChange codeMatchesSpecSpec)

/-- ITS FALSE NEIGHBOUR: 'it returns false'. Refute it at one input. -/
def codeMatchesSpecWrong : ChangeSpec := { name := "codeMatchesSpec", fn := fun _ => fun
  | [d1, d2, d3, d4, d5, d6] => { results := [.lit (.bool false)], args := [d1, d2, d3, d4, d5, d6] }
  | _ => none }
def CodeMatchesSpecWrongFalsely : Prop := codeMatchesSpecRow.holds Tryd.pinned (OpenSpec.ofChange codeMatchesSpecWrong)

/-- 'alumlaw03.CodeIsClean': WHATEVER THE INPUT: true; the input reads as it did. -/
def codeIsCleanSpec : ChangeSpec := { name := "codeIsClean", fn := fun _ => fun
  | [d1, d2] => { results := [.lit (.bool true)], args := [d1, d2] }
  | _ => none }
def codeIsCleanRow : OpenClaim := { program := "ythidababplamgaadoor", sum := "e82fee39aa80fb89861cb3bb5c6e2397be95ae67ec1739a7256a780d58f7ec09", func := "alum/alumlaw03.CodeIsClean", spec := "codeIsClean", unfollowed := true, recurses := true, named := ["math/bits.deBruijn32tab", "math/bits.deBruijn64tab"], apart := false, laid := [("math/bits.deBruijn32tab", laid_math_bits_deBruijn32tab), ("math/bits.deBruijn64tab", laid_math_bits_deBruijn64tab)] }
def CodeIsCleanSaid : Prop := codeIsCleanRow.holds Tryd.pinned (OpenSpec.ofChange codeIsCleanSpec)

/-- ITS FALSE NEIGHBOUR: 'it returns false'. Refute it at one input. -/
def codeIsCleanWrong : ChangeSpec := { name := "codeIsClean", fn := fun _ => fun
  | [d1, d2] => { results := [.lit (.bool false)], args := [d1, d2] }
  | _ => none }
def CodeIsCleanWrongFalsely : Prop := codeIsCleanRow.holds Tryd.pinned (OpenSpec.ofChange codeIsCleanWrong)

/-- 'alumlaw03.CodeCorrectsOne': WHATEVER THE INPUT: true; the input reads as it did. -/
def codeCorrectsOneSpec : ChangeSpec := { name := "codeCorrectsOne", fn := fun _ => fun
  | [d1, d2] => { results := [.lit (.bool true)], args := [d1, d2] }
  | _ => none }
def codeCorrectsOneRow : OpenClaim := { program := "ythidababplamgaadoor", sum := "e82fee39aa80fb89861cb3bb5c6e2397be95ae67ec1739a7256a780d58f7ec09", func := "alum/alumlaw03.CodeCorrectsOne", spec := "codeCorrectsOne", unfollowed := true, recurses := true, named := ["math/bits.deBruijn32tab", "math/bits.deBruijn64tab"], apart := false, laid := [("math/bits.deBruijn32tab", laid_math_bits_deBruijn32tab), ("math/bits.deBruijn64tab", laid_math_bits_deBruijn64tab)] }
def CodeCorrectsOneSaid : Prop := codeCorrectsOneRow.holds Tryd.pinned (OpenSpec.ofChange codeCorrectsOneSpec)

/-- ITS FALSE NEIGHBOUR: 'it returns false'. Refute it at one input. -/
def codeCorrectsOneWrong : ChangeSpec := { name := "codeCorrectsOne", fn := fun _ => fun
  | [d1, d2] => { results := [.lit (.bool false)], args := [d1, d2] }
  | _ => none }
def CodeCorrectsOneWrongFalsely : Prop := codeCorrectsOneRow.holds Tryd.pinned (OpenSpec.ofChange codeCorrectsOneWrong)

/-- 'alumlaw03.CodeFindsTwo': WHATEVER THE INPUT: true; the input reads as it did. -/
def codeFindsTwoSpec : ChangeSpec := { name := "codeFindsTwo", fn := fun _ => fun
  | [d1, d2, d3] => { results := [.lit (.bool true)], args := [d1, d2, d3] }
  | _ => none }
def codeFindsTwoRow : OpenClaim := { program := "ythidababplamgaadoor", sum := "e82fee39aa80fb89861cb3bb5c6e2397be95ae67ec1739a7256a780d58f7ec09", func := "alum/alumlaw03.CodeFindsTwo", spec := "codeFindsTwo", unfollowed := true, recurses := true, named := ["math/bits.deBruijn32tab", "math/bits.deBruijn64tab"], apart := false, laid := [("math/bits.deBruijn32tab", laid_math_bits_deBruijn32tab), ("math/bits.deBruijn64tab", laid_math_bits_deBruijn64tab)] }
def CodeFindsTwoSaid : Prop := codeFindsTwoRow.holds Tryd.pinned (OpenSpec.ofChange codeFindsTwoSpec)

/-- ITS FALSE NEIGHBOUR: 'it returns false'. Refute it at one input. -/
def codeFindsTwoWrong : ChangeSpec := { name := "codeFindsTwo", fn := fun _ => fun
  | [d1, d2, d3] => { results := [.lit (.bool false)], args := [d1, d2, d3] }
  | _ => none }
def CodeFindsTwoWrongFalsely : Prop := codeFindsTwoRow.holds Tryd.pinned (OpenSpec.ofChange codeFindsTwoWrong)

/-- 'alumlaw03.CodeDistance': WHATEVER THE INPUT: true; the input reads as it did. -/
def codeDistanceSpec : ChangeSpec := { name := "codeDistance", fn := fun _ => fun
  | [d1, d2] => { results := [.lit (.bool true)], args := [d1, d2] }
  | _ => none }
def codeDistanceRow : OpenClaim := { program := "ythidababplamgaadoor", sum := "e82fee39aa80fb89861cb3bb5c6e2397be95ae67ec1739a7256a780d58f7ec09", func := "alum/alumlaw03.CodeDistance", spec := "codeDistance", unfollowed := true, recurses := true, named := ["math/bits.deBruijn32tab", "math/bits.deBruijn64tab"], apart := false, laid := [("math/bits.deBruijn32tab", laid_math_bits_deBruijn32tab), ("math/bits.deBruijn64tab", laid_math_bits_deBruijn64tab)] }
def CodeDistanceSaid : Prop := codeDistanceRow.holds Tryd.pinned (OpenSpec.ofChange codeDistanceSpec)

/-- ITS FALSE NEIGHBOUR: 'it returns false'. Refute it at one input. -/
def codeDistanceWrong : ChangeSpec := { name := "codeDistance", fn := fun _ => fun
  | [d1, d2] => { results := [.lit (.bool false)], args := [d1, d2] }
  | _ => none }
def CodeDistanceWrongFalsely : Prop := codeDistanceRow.holds Tryd.pinned (OpenSpec.ofChange codeDistanceWrong)

/-- 'alumlaw03.CodeFixIsNearest': WHATEVER THE INPUT: true; the input reads as it did. -/
def codeFixIsNearestSpec : ChangeSpec := { name := "codeFixIsNearest", fn := fun _ => fun
  | [d1, d2] => { results := [.lit (.bool true)], args := [d1, d2] }
  | _ => none }
def codeFixIsNearestRow : OpenClaim := { program := "ythidababplamgaadoor", sum := "e82fee39aa80fb89861cb3bb5c6e2397be95ae67ec1739a7256a780d58f7ec09", func := "alum/alumlaw03.CodeFixIsNearest", spec := "codeFixIsNearest", unfollowed := true, recurses := true, named := ["math/bits.deBruijn32tab", "math/bits.deBruijn64tab"], apart := false, laid := [("math/bits.deBruijn32tab", laid_math_bits_deBruijn32tab), ("math/bits.deBruijn64tab", laid_math_bits_deBruijn64tab)] }
def CodeFixIsNearestSaid : Prop := codeFixIsNearestRow.holds Tryd.pinned (OpenSpec.ofChange codeFixIsNearestSpec)

/-- ITS FALSE NEIGHBOUR: 'it returns false'. Refute it at one input. -/
def codeFixIsNearestWrong : ChangeSpec := { name := "codeFixIsNearest", fn := fun _ => fun
  | [d1, d2] => { results := [.lit (.bool false)], args := [d1, d2] }
  | _ => none }
def CodeFixIsNearestWrongFalsely : Prop := codeFixIsNearestRow.holds Tryd.pinned (OpenSpec.ofChange codeFixIsNearestWrong)

/-- 'alumlaw03.CodePositions': WHATEVER THE INPUT: true; the input reads as it did. -/
def codePositionsSpec : ChangeSpec := { name := "codePositions", fn := fun _ => fun
  | [d1, d2] => { results := [.lit (.bool true)], args := [d1, d2] }
  | _ => none }
def codePositionsRow : OpenClaim := { program := "ythidababplamgaadoor", sum := "e82fee39aa80fb89861cb3bb5c6e2397be95ae67ec1739a7256a780d58f7ec09", func := "alum/alumlaw03.CodePositions", spec := "codePositions", unfollowed := true, recurses := true, named := ["math/bits.deBruijn32tab", "math/bits.deBruijn64tab"], apart := false, laid := [("math/bits.deBruijn32tab", laid_math_bits_deBruijn32tab), ("math/bits.deBruijn64tab", laid_math_bits_deBruijn64tab)] }
def CodePositionsSaid : Prop := codePositionsRow.holds Tryd.pinned (OpenSpec.ofChange codePositionsSpec)

/-- ITS FALSE NEIGHBOUR: 'it returns false'. Refute it at one input. -/
def codePositionsWrong : ChangeSpec := { name := "codePositions", fn := fun _ => fun
  | [d1, d2] => { results := [.lit (.bool false)], args := [d1, d2] }
  | _ => none }
def CodePositionsWrongFalsely : Prop := codePositionsRow.holds Tryd.pinned (OpenSpec.ofChange codePositionsWrong)

/- THE SECOND FORM. 'bulk': how many values and letters a reading holds, each counted each time it is reached (what is shared counts as often as it is met; a slice's spare places count too). A statement '..UptoSaid' is the law's where the arguments, and the package variables that the reading takes, are together of bulk at most 1048576: NARROWER than '..Said'. Prove '..Said' where nothing that the law and all that it calls make is longer than what came in: it says more and counts as full. Else prove '..UptoSaid'. A law counts once. -/
mutual
def uptoBulk {H : Type} : DataW H → Nat
  | .lit (.string bytes) => bytes.length + 1
  | .lit _ => 1
  | .nil => 1
  | .ptr d => uptoBulk d + 1
  | .slice elems spare => uptoBulkAll elems + uptoBulkAll spare + 1
  | .agg parts => uptoBulkAll parts + 1
  | .iface _ d => uptoBulk d + 1
  | .map entries => uptoBulkEntries entries + 1
  | .held _ => 1
def uptoBulkAll {H : Type} : List (DataW H) → Nat
  | [] => 0
  | d :: r => uptoBulk d + uptoBulkAll r
def uptoBulkEntries {H : Type} : List (Lit × DataW H) → Nat
  | [] => 0
  | x :: r => uptoBulkEntry x + uptoBulkEntries r
def uptoBulkEntry {H : Type} : Lit × DataW H → Nat
  | (.string bytes, d) => bytes.length + uptoBulk d + 1
  | (_, d) => uptoBulk d + 1
 end
def uptoSmall : (H : Type) → List (DataW H) → Bool := fun _ ds => decide (uptoBulkAll ds ≤ 1048576)
def OpenSpec.upto (s : _root_.Go.ChangeSpec) : _root_.Go.OpenSpec := { _root_.Go.OpenSpec.ofChange s with cond := some uptoSmall }

/-- 'alumlaw03.CodeMatchesSpec', WHERE WHAT IT READS IS OF BULK AT MOST 1048576: true; the input reads as it did. -/
def codeMatchesSpecUptoRow : OpenClaim := { program := "ythidababplamgaadoor", sum := "e82fee39aa80fb89861cb3bb5c6e2397be95ae67ec1739a7256a780d58f7ec09", func := "alum/alumlaw03.CodeMatchesSpec", spec := "codeMatchesSpec", unfollowed := true, recurses := true, named := ["math/bits.deBruijn32tab", "math/bits.deBruijn64tab"], apart := false, laid := [("math/bits.deBruijn32tab", laid_math_bits_deBruijn32tab), ("math/bits.deBruijn64tab", laid_math_bits_deBruijn64tab)], narrowed := true }
def CodeMatchesSpecUptoSaid : Prop := codeMatchesSpecUptoRow.holds Tryd.pinned (OpenSpec.upto codeMatchesSpecSpec)

/-- 'alumlaw03.CodeIsClean', WHERE WHAT IT READS IS OF BULK AT MOST 1048576: true; the input reads as it did. -/
def codeIsCleanUptoRow : OpenClaim := { program := "ythidababplamgaadoor", sum := "e82fee39aa80fb89861cb3bb5c6e2397be95ae67ec1739a7256a780d58f7ec09", func := "alum/alumlaw03.CodeIsClean", spec := "codeIsClean", unfollowed := true, recurses := true, named := ["math/bits.deBruijn32tab", "math/bits.deBruijn64tab"], apart := false, laid := [("math/bits.deBruijn32tab", laid_math_bits_deBruijn32tab), ("math/bits.deBruijn64tab", laid_math_bits_deBruijn64tab)], narrowed := true }
def CodeIsCleanUptoSaid : Prop := codeIsCleanUptoRow.holds Tryd.pinned (OpenSpec.upto codeIsCleanSpec)

/-- 'alumlaw03.CodeCorrectsOne', WHERE WHAT IT READS IS OF BULK AT MOST 1048576: true; the input reads as it did. -/
def codeCorrectsOneUptoRow : OpenClaim := { program := "ythidababplamgaadoor", sum := "e82fee39aa80fb89861cb3bb5c6e2397be95ae67ec1739a7256a780d58f7ec09", func := "alum/alumlaw03.CodeCorrectsOne", spec := "codeCorrectsOne", unfollowed := true, recurses := true, named := ["math/bits.deBruijn32tab", "math/bits.deBruijn64tab"], apart := false, laid := [("math/bits.deBruijn32tab", laid_math_bits_deBruijn32tab), ("math/bits.deBruijn64tab", laid_math_bits_deBruijn64tab)], narrowed := true }
def CodeCorrectsOneUptoSaid : Prop := codeCorrectsOneUptoRow.holds Tryd.pinned (OpenSpec.upto codeCorrectsOneSpec)

/-- 'alumlaw03.CodeFindsTwo', WHERE WHAT IT READS IS OF BULK AT MOST 1048576: true; the input reads as it did. -/
def codeFindsTwoUptoRow : OpenClaim := { program := "ythidababplamgaadoor", sum := "e82fee39aa80fb89861cb3bb5c6e2397be95ae67ec1739a7256a780d58f7ec09", func := "alum/alumlaw03.CodeFindsTwo", spec := "codeFindsTwo", unfollowed := true, recurses := true, named := ["math/bits.deBruijn32tab", "math/bits.deBruijn64tab"], apart := false, laid := [("math/bits.deBruijn32tab", laid_math_bits_deBruijn32tab), ("math/bits.deBruijn64tab", laid_math_bits_deBruijn64tab)], narrowed := true }
def CodeFindsTwoUptoSaid : Prop := codeFindsTwoUptoRow.holds Tryd.pinned (OpenSpec.upto codeFindsTwoSpec)

/-- 'alumlaw03.CodeDistance', WHERE WHAT IT READS IS OF BULK AT MOST 1048576: true; the input reads as it did. -/
def codeDistanceUptoRow : OpenClaim := { program := "ythidababplamgaadoor", sum := "e82fee39aa80fb89861cb3bb5c6e2397be95ae67ec1739a7256a780d58f7ec09", func := "alum/alumlaw03.CodeDistance", spec := "codeDistance", unfollowed := true, recurses := true, named := ["math/bits.deBruijn32tab", "math/bits.deBruijn64tab"], apart := false, laid := [("math/bits.deBruijn32tab", laid_math_bits_deBruijn32tab), ("math/bits.deBruijn64tab", laid_math_bits_deBruijn64tab)], narrowed := true }
def CodeDistanceUptoSaid : Prop := codeDistanceUptoRow.holds Tryd.pinned (OpenSpec.upto codeDistanceSpec)

/-- 'alumlaw03.CodeFixIsNearest', WHERE WHAT IT READS IS OF BULK AT MOST 1048576: true; the input reads as it did. -/
def codeFixIsNearestUptoRow : OpenClaim := { program := "ythidababplamgaadoor", sum := "e82fee39aa80fb89861cb3bb5c6e2397be95ae67ec1739a7256a780d58f7ec09", func := "alum/alumlaw03.CodeFixIsNearest", spec := "codeFixIsNearest", unfollowed := true, recurses := true, named := ["math/bits.deBruijn32tab", "math/bits.deBruijn64tab"], apart := false, laid := [("math/bits.deBruijn32tab", laid_math_bits_deBruijn32tab), ("math/bits.deBruijn64tab", laid_math_bits_deBruijn64tab)], narrowed := true }
def CodeFixIsNearestUptoSaid : Prop := codeFixIsNearestUptoRow.holds Tryd.pinned (OpenSpec.upto codeFixIsNearestSpec)

/-- 'alumlaw03.CodePositions', WHERE WHAT IT READS IS OF BULK AT MOST 1048576: true; the input reads as it did. -/
def codePositionsUptoRow : OpenClaim := { program := "ythidababplamgaadoor", sum := "e82fee39aa80fb89861cb3bb5c6e2397be95ae67ec1739a7256a780d58f7ec09", func := "alum/alumlaw03.CodePositions", spec := "codePositions", unfollowed := true, recurses := true, named := ["math/bits.deBruijn32tab", "math/bits.deBruijn64tab"], apart := false, laid := [("math/bits.deBruijn32tab", laid_math_bits_deBruijn32tab), ("math/bits.deBruijn64tab", laid_math_bits_deBruijn64tab)], narrowed := true }
def CodePositionsUptoSaid : Prop := codePositionsUptoRow.holds Tryd.pinned (OpenSpec.upto codePositionsSpec)

end Rows
end Go.Proofs.YthidababplamgaaDoor
