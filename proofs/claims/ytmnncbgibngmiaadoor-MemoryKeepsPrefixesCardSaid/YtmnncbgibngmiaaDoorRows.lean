/-
  NARROWER THAN 'FOR EVERY INPUT', by the rows' own cells (each row's printed sentence says how): MemoryBegins: laid · MemoryFenceKeeps: laid · MemoryKeepsPrefixes: laid · MemoryEvictsLikeFences: laid · MemoryLinesAreApart: laid · MemoryCodes: laid.
  DERIVED. THE GIVEN ROWS OF THIS SEAT. 6 by the template 'for every input the law returns true; each argument reads behind the call as it read before'; 0 by the template 'total and deterministic' (their statements: YtmnncbgibngmiaaDoorTotals.lean).
  GIVEN WITH THE SEED: the statements are not yours to turn. If you find one false, say at which input.
  Laid BY PROGRAM, IN A SANDBOX (cutbox-rows.mjs): the forced cells as the released guide's own fill.sh prints them over the translation 6f17d005ce90c085… (all of the seat's roots in one cut). By AI agents, Wed Nov 11 2026. No macro, syntax, notation, axiom, sorry.
-/
import Derived.Test.YtmnncbgibngmiaaDoorChecked
import GoSem.Claim
import GoSem.ClaimJoined
import GoSem.ClaimMapViews
import Derived.JoinedTies
import Derived.KernelRfl
namespace Go.Proofs.YtmnncbgibngmiaaDoor
/- THE CELL 'sum', in the pinned program and in every row, IS THE sha256 OF THE DUMP (.gsa) THAT YtmnncbgibngmiaaDoorProg.lean LOADS. Nothing in Lean hashes anything: it is a label: what it is worth is what the hold of that sum in a sandbox is worth. -/
noncomputable def Tryd.pinned : Pinned := { name := "ytmnncbgibngmiaadoor", sum := "6f17d005ce90c085c86c3e37971400e913616c09bdeeb21d837a5da7f1cd076a", checked := Tryd.checked }
namespace Rows
def none {H : Type} : Left H := { results := [], args := [] }

/- WHAT THE LISTED PACKAGE-LEVEL VARIABLES READ AS WHEN THE CALL BEGINS. Each datum BY PROGRAM (the guide's laid-datum.mjs) off the statement by which the dump's own 'gosem.cut.vars' lays the variable. In a bare row this is a premise. The card (YtmnncbgibngmiaaDoorCards.lean) ties it to the program's text. -/
def laid_math_bits_deBruijn32tab {H : Type} : DataW H := .agg [.lit (.int .u8 0), .lit (.int .u8 1), .lit (.int .u8 28), .lit (.int .u8 2), .lit (.int .u8 29), .lit (.int .u8 14), .lit (.int .u8 24), .lit (.int .u8 3), .lit (.int .u8 30), .lit (.int .u8 22), .lit (.int .u8 20), .lit (.int .u8 15), .lit (.int .u8 25), .lit (.int .u8 17), .lit (.int .u8 4), .lit (.int .u8 8), .lit (.int .u8 31), .lit (.int .u8 27), .lit (.int .u8 13), .lit (.int .u8 23), .lit (.int .u8 21), .lit (.int .u8 19), .lit (.int .u8 16), .lit (.int .u8 7), .lit (.int .u8 26), .lit (.int .u8 12), .lit (.int .u8 18), .lit (.int .u8 6), .lit (.int .u8 11), .lit (.int .u8 5), .lit (.int .u8 10), .lit (.int .u8 9)]
def laid_math_bits_deBruijn64tab {H : Type} : DataW H := .agg [.lit (.int .u8 0), .lit (.int .u8 1), .lit (.int .u8 56), .lit (.int .u8 2), .lit (.int .u8 57), .lit (.int .u8 49), .lit (.int .u8 28), .lit (.int .u8 3), .lit (.int .u8 61), .lit (.int .u8 58), .lit (.int .u8 42), .lit (.int .u8 50), .lit (.int .u8 38), .lit (.int .u8 29), .lit (.int .u8 17), .lit (.int .u8 4), .lit (.int .u8 62), .lit (.int .u8 47), .lit (.int .u8 59), .lit (.int .u8 36), .lit (.int .u8 45), .lit (.int .u8 43), .lit (.int .u8 51), .lit (.int .u8 22), .lit (.int .u8 53), .lit (.int .u8 39), .lit (.int .u8 33), .lit (.int .u8 30), .lit (.int .u8 24), .lit (.int .u8 18), .lit (.int .u8 12), .lit (.int .u8 5), .lit (.int .u8 63), .lit (.int .u8 55), .lit (.int .u8 48), .lit (.int .u8 27), .lit (.int .u8 60), .lit (.int .u8 41), .lit (.int .u8 37), .lit (.int .u8 16), .lit (.int .u8 46), .lit (.int .u8 35), .lit (.int .u8 44), .lit (.int .u8 21), .lit (.int .u8 52), .lit (.int .u8 32), .lit (.int .u8 23), .lit (.int .u8 11), .lit (.int .u8 54), .lit (.int .u8 26), .lit (.int .u8 40), .lit (.int .u8 15), .lit (.int .u8 34), .lit (.int .u8 20), .lit (.int .u8 31), .lit (.int .u8 10), .lit (.int .u8 25), .lit (.int .u8 14), .lit (.int .u8 19), .lit (.int .u8 9), .lit (.int .u8 13), .lit (.int .u8 8), .lit (.int .u8 7), .lit (.int .u8 6)]

/-- 'alumlaw04.MemoryBegins': WHATEVER THE INPUT: true; the input reads as it did. -/
def memoryBeginsSpec : ChangeSpec := { name := "memoryBegins", fn := fun _ => fun
  | [d1, d2] => { results := [.lit (.bool true)], args := [d1, d2] }
  | _ => none }
def memoryBeginsRow : OpenClaim := { program := "ytmnncbgibngmiaadoor", sum := "6f17d005ce90c085c86c3e37971400e913616c09bdeeb21d837a5da7f1cd076a", func := "alum/alumlaw04.MemoryBegins", spec := "memoryBegins", unfollowed := true, recurses := true, named := ["math/bits.deBruijn32tab", "math/bits.deBruijn64tab"], apart := false, laid := [("math/bits.deBruijn32tab", laid_math_bits_deBruijn32tab), ("math/bits.deBruijn64tab", laid_math_bits_deBruijn64tab)] }
def MemoryBeginsSaid : Prop := memoryBeginsRow.holds Tryd.pinned (OpenSpec.ofChange memoryBeginsSpec)

/-- ITS FALSE NEIGHBOUR: 'it returns false'. Refute it at one input. -/
def memoryBeginsWrong : ChangeSpec := { name := "memoryBegins", fn := fun _ => fun
  | [d1, d2] => { results := [.lit (.bool false)], args := [d1, d2] }
  | _ => none }
def MemoryBeginsWrongFalsely : Prop := memoryBeginsRow.holds Tryd.pinned (OpenSpec.ofChange memoryBeginsWrong)

/-- 'alumlaw04.MemoryFenceKeeps': WHATEVER THE INPUT: true; the input reads as it did. -/
def memoryFenceKeepsSpec : ChangeSpec := { name := "memoryFenceKeeps", fn := fun _ => fun
  | [d1, d2, d3, d4] => { results := [.lit (.bool true)], args := [d1, d2, d3, d4] }
  | _ => none }
def memoryFenceKeepsRow : OpenClaim := { program := "ytmnncbgibngmiaadoor", sum := "6f17d005ce90c085c86c3e37971400e913616c09bdeeb21d837a5da7f1cd076a", func := "alum/alumlaw04.MemoryFenceKeeps", spec := "memoryFenceKeeps", unfollowed := true, recurses := true, named := ["math/bits.deBruijn32tab", "math/bits.deBruijn64tab"], apart := false, laid := [("math/bits.deBruijn32tab", laid_math_bits_deBruijn32tab), ("math/bits.deBruijn64tab", laid_math_bits_deBruijn64tab)] }
def MemoryFenceKeepsSaid : Prop := memoryFenceKeepsRow.holds Tryd.pinned (OpenSpec.ofChange memoryFenceKeepsSpec)

/-- ITS FALSE NEIGHBOUR: 'it returns false'. Refute it at one input. -/
def memoryFenceKeepsWrong : ChangeSpec := { name := "memoryFenceKeeps", fn := fun _ => fun
  | [d1, d2, d3, d4] => { results := [.lit (.bool false)], args := [d1, d2, d3, d4] }
  | _ => none }
def MemoryFenceKeepsWrongFalsely : Prop := memoryFenceKeepsRow.holds Tryd.pinned (OpenSpec.ofChange memoryFenceKeepsWrong)

/-- 'alumlaw04.MemoryKeepsPrefixes': WHATEVER THE INPUT: true; the input reads as it did. -/
def memoryKeepsPrefixesSpec : ChangeSpec := { name := "memoryKeepsPrefixes", fn := fun _ => fun
  | [d1, d2, d3] => { results := [.lit (.bool true)], args := [d1, d2, d3] }
  | _ => none }
def memoryKeepsPrefixesRow : OpenClaim := { program := "ytmnncbgibngmiaadoor", sum := "6f17d005ce90c085c86c3e37971400e913616c09bdeeb21d837a5da7f1cd076a", func := "alum/alumlaw04.MemoryKeepsPrefixes", spec := "memoryKeepsPrefixes", unfollowed := true, recurses := true, named := ["math/bits.deBruijn32tab", "math/bits.deBruijn64tab"], apart := false, laid := [("math/bits.deBruijn32tab", laid_math_bits_deBruijn32tab), ("math/bits.deBruijn64tab", laid_math_bits_deBruijn64tab)] }
def MemoryKeepsPrefixesSaid : Prop := memoryKeepsPrefixesRow.holds Tryd.pinned (OpenSpec.ofChange memoryKeepsPrefixesSpec)

/-- ITS FALSE NEIGHBOUR: 'it returns false'. Refute it at one input. -/
def memoryKeepsPrefixesWrong : ChangeSpec := { name := "memoryKeepsPrefixes", fn := fun _ => fun
  | [d1, d2, d3] => { results := [.lit (.bool false)], args := [d1, d2, d3] }
  | _ => none }
def MemoryKeepsPrefixesWrongFalsely : Prop := memoryKeepsPrefixesRow.holds Tryd.pinned (OpenSpec.ofChange memoryKeepsPrefixesWrong)

/-- 'alumlaw04.MemoryEvictsLikeFences': WHATEVER THE INPUT: true; the input reads as it did. -/
def memoryEvictsLikeFencesSpec : ChangeSpec := { name := "memoryEvictsLikeFences", fn := fun _ => fun
  | [d1, d2, d3] => { results := [.lit (.bool true)], args := [d1, d2, d3] }
  | _ => none }
def memoryEvictsLikeFencesRow : OpenClaim := { program := "ytmnncbgibngmiaadoor", sum := "6f17d005ce90c085c86c3e37971400e913616c09bdeeb21d837a5da7f1cd076a", func := "alum/alumlaw04.MemoryEvictsLikeFences", spec := "memoryEvictsLikeFences", unfollowed := true, recurses := true, named := ["math/bits.deBruijn32tab", "math/bits.deBruijn64tab"], apart := false, laid := [("math/bits.deBruijn32tab", laid_math_bits_deBruijn32tab), ("math/bits.deBruijn64tab", laid_math_bits_deBruijn64tab)] }
def MemoryEvictsLikeFencesSaid : Prop := memoryEvictsLikeFencesRow.holds Tryd.pinned (OpenSpec.ofChange memoryEvictsLikeFencesSpec)

/-- ITS FALSE NEIGHBOUR: 'it returns false'. Refute it at one input. -/
def memoryEvictsLikeFencesWrong : ChangeSpec := { name := "memoryEvictsLikeFences", fn := fun _ => fun
  | [d1, d2, d3] => { results := [.lit (.bool false)], args := [d1, d2, d3] }
  | _ => none }
def MemoryEvictsLikeFencesWrongFalsely : Prop := memoryEvictsLikeFencesRow.holds Tryd.pinned (OpenSpec.ofChange memoryEvictsLikeFencesWrong)

/-- 'alumlaw04.MemoryLinesAreApart': WHATEVER THE INPUT: true; the input reads as it did. -/
def memoryLinesAreApartSpec : ChangeSpec := { name := "memoryLinesAreApart", fn := fun _ => fun
  | [d1, d2, d3, d4] => { results := [.lit (.bool true)], args := [d1, d2, d3, d4] }
  | _ => none }
def memoryLinesAreApartRow : OpenClaim := { program := "ytmnncbgibngmiaadoor", sum := "6f17d005ce90c085c86c3e37971400e913616c09bdeeb21d837a5da7f1cd076a", func := "alum/alumlaw04.MemoryLinesAreApart", spec := "memoryLinesAreApart", unfollowed := true, recurses := true, named := ["math/bits.deBruijn32tab", "math/bits.deBruijn64tab"], apart := false, laid := [("math/bits.deBruijn32tab", laid_math_bits_deBruijn32tab), ("math/bits.deBruijn64tab", laid_math_bits_deBruijn64tab)] }
def MemoryLinesAreApartSaid : Prop := memoryLinesAreApartRow.holds Tryd.pinned (OpenSpec.ofChange memoryLinesAreApartSpec)

/-- ITS FALSE NEIGHBOUR: 'it returns false'. Refute it at one input. -/
def memoryLinesAreApartWrong : ChangeSpec := { name := "memoryLinesAreApart", fn := fun _ => fun
  | [d1, d2, d3, d4] => { results := [.lit (.bool false)], args := [d1, d2, d3, d4] }
  | _ => none }
def MemoryLinesAreApartWrongFalsely : Prop := memoryLinesAreApartRow.holds Tryd.pinned (OpenSpec.ofChange memoryLinesAreApartWrong)

/-- 'alumlaw04.MemoryCodes': WHATEVER THE INPUT: true; the input reads as it did. -/
def memoryCodesSpec : ChangeSpec := { name := "memoryCodes", fn := fun _ => fun
  | [d1, d2] => { results := [.lit (.bool true)], args := [d1, d2] }
  | _ => none }
def memoryCodesRow : OpenClaim := { program := "ytmnncbgibngmiaadoor", sum := "6f17d005ce90c085c86c3e37971400e913616c09bdeeb21d837a5da7f1cd076a", func := "alum/alumlaw04.MemoryCodes", spec := "memoryCodes", unfollowed := true, recurses := true, named := ["math/bits.deBruijn32tab", "math/bits.deBruijn64tab"], apart := false, laid := [("math/bits.deBruijn32tab", laid_math_bits_deBruijn32tab), ("math/bits.deBruijn64tab", laid_math_bits_deBruijn64tab)] }
def MemoryCodesSaid : Prop := memoryCodesRow.holds Tryd.pinned (OpenSpec.ofChange memoryCodesSpec)

/-- ITS FALSE NEIGHBOUR: 'it returns false'. Refute it at one input. -/
def memoryCodesWrong : ChangeSpec := { name := "memoryCodes", fn := fun _ => fun
  | [d1, d2] => { results := [.lit (.bool false)], args := [d1, d2] }
  | _ => none }
def MemoryCodesWrongFalsely : Prop := memoryCodesRow.holds Tryd.pinned (OpenSpec.ofChange memoryCodesWrong)

/- THE SECOND FORM. 'bulk': how many values and letters a reading holds, each counted each time it is reached (what is shared counts as often as it is met; a slice's spare places count too). A statement '..UptoSaid' is the law's where the arguments, and the package variables that the reading takes, are together of bulk at most 1048576: NARROWER than '..Said'. Prove '..Said' where nothing that the law and all that it calls make is longer than what came in: it says more and counts as full. Else prove '..UptoSaid'. A law counts once. -/
mutual
def uptoBulk {H : Type} : DataW H → Nat
  | .lit (.string bytes) => bytes.length + 1
  | .lit _ => 1
  | .nil => 1
  | .ptr d => uptoBulk d + 1
  | .slice elems spare => uptoBulkAll elems + uptoBulkAll spare + 1
  | .agg parts => uptoBulkAll parts + 1
  | .iface _ d => uptoBulk d + 1
  | .map entries => uptoBulkEntries entries + 1
  | .held _ => 1
def uptoBulkAll {H : Type} : List (DataW H) → Nat
  | [] => 0
  | d :: r => uptoBulk d + uptoBulkAll r
def uptoBulkEntries {H : Type} : List (Lit × DataW H) → Nat
  | [] => 0
  | x :: r => uptoBulkEntry x + uptoBulkEntries r
def uptoBulkEntry {H : Type} : Lit × DataW H → Nat
  | (.string bytes, d) => bytes.length + uptoBulk d + 1
  | (_, d) => uptoBulk d + 1
 end
def uptoSmall : (H : Type) → List (DataW H) → Bool := fun _ ds => decide (uptoBulkAll ds ≤ 1048576)
def OpenSpec.upto (s : _root_.Go.ChangeSpec) : _root_.Go.OpenSpec := { _root_.Go.OpenSpec.ofChange s with cond := some uptoSmall }

/-- 'alumlaw04.MemoryBegins', WHERE WHAT IT READS IS OF BULK AT MOST 1048576: true; the input reads as it did. -/
def memoryBeginsUptoRow : OpenClaim := { program := "ytmnncbgibngmiaadoor", sum := "6f17d005ce90c085c86c3e37971400e913616c09bdeeb21d837a5da7f1cd076a", func := "alum/alumlaw04.MemoryBegins", spec := "memoryBegins", unfollowed := true, recurses := true, named := ["math/bits.deBruijn32tab", "math/bits.deBruijn64tab"], apart := false, laid := [("math/bits.deBruijn32tab", laid_math_bits_deBruijn32tab), ("math/bits.deBruijn64tab", laid_math_bits_deBruijn64tab)], narrowed := true }
def MemoryBeginsUptoSaid : Prop := memoryBeginsUptoRow.holds Tryd.pinned (OpenSpec.upto memoryBeginsSpec)

/-- 'alumlaw04.MemoryFenceKeeps', WHERE WHAT IT READS IS OF BULK AT MOST 1048576: true; the input reads as it did. -/
def memoryFenceKeepsUptoRow : OpenClaim := { program := "ytmnncbgibngmiaadoor", sum := "6f17d005ce90c085c86c3e37971400e913616c09bdeeb21d837a5da7f1cd076a", func := "alum/alumlaw04.MemoryFenceKeeps", spec := "memoryFenceKeeps", unfollowed := true, recurses := true, named := ["math/bits.deBruijn32tab", "math/bits.deBruijn64tab"], apart := false, laid := [("math/bits.deBruijn32tab", laid_math_bits_deBruijn32tab), ("math/bits.deBruijn64tab", laid_math_bits_deBruijn64tab)], narrowed := true }
def MemoryFenceKeepsUptoSaid : Prop := memoryFenceKeepsUptoRow.holds Tryd.pinned (OpenSpec.upto memoryFenceKeepsSpec)

/-- 'alumlaw04.MemoryKeepsPrefixes', WHERE WHAT IT READS IS OF BULK AT MOST 1048576: true; the input reads as it did. -/
def memoryKeepsPrefixesUptoRow : OpenClaim := { program := "ytmnncbgibngmiaadoor", sum := "6f17d005ce90c085c86c3e37971400e913616c09bdeeb21d837a5da7f1cd076a", func := "alum/alumlaw04.MemoryKeepsPrefixes", spec := "memoryKeepsPrefixes", unfollowed := true, recurses := true, named := ["math/bits.deBruijn32tab", "math/bits.deBruijn64tab"], apart := false, laid := [("math/bits.deBruijn32tab", laid_math_bits_deBruijn32tab), ("math/bits.deBruijn64tab", laid_math_bits_deBruijn64tab)], narrowed := true }
def MemoryKeepsPrefixesUptoSaid : Prop := memoryKeepsPrefixesUptoRow.holds Tryd.pinned (OpenSpec.upto memoryKeepsPrefixesSpec)

/-- 'alumlaw04.MemoryEvictsLikeFences', WHERE WHAT IT READS IS OF BULK AT MOST 1048576: true; the input reads as it did. -/
def memoryEvictsLikeFencesUptoRow : OpenClaim := { program := "ytmnncbgibngmiaadoor", sum := "6f17d005ce90c085c86c3e37971400e913616c09bdeeb21d837a5da7f1cd076a", func := "alum/alumlaw04.MemoryEvictsLikeFences", spec := "memoryEvictsLikeFences", unfollowed := true, recurses := true, named := ["math/bits.deBruijn32tab", "math/bits.deBruijn64tab"], apart := false, laid := [("math/bits.deBruijn32tab", laid_math_bits_deBruijn32tab), ("math/bits.deBruijn64tab", laid_math_bits_deBruijn64tab)], narrowed := true }
def MemoryEvictsLikeFencesUptoSaid : Prop := memoryEvictsLikeFencesUptoRow.holds Tryd.pinned (OpenSpec.upto memoryEvictsLikeFencesSpec)

/-- 'alumlaw04.MemoryLinesAreApart', WHERE WHAT IT READS IS OF BULK AT MOST 1048576: true; the input reads as it did. -/
def memoryLinesAreApartUptoRow : OpenClaim := { program := "ytmnncbgibngmiaadoor", sum := "6f17d005ce90c085c86c3e37971400e913616c09bdeeb21d837a5da7f1cd076a", func := "alum/alumlaw04.MemoryLinesAreApart", spec := "memoryLinesAreApart", unfollowed := true, recurses := true, named := ["math/bits.deBruijn32tab", "math/bits.deBruijn64tab"], apart := false, laid := [("math/bits.deBruijn32tab", laid_math_bits_deBruijn32tab), ("math/bits.deBruijn64tab", laid_math_bits_deBruijn64tab)], narrowed := true }
def MemoryLinesAreApartUptoSaid : Prop := memoryLinesAreApartUptoRow.holds Tryd.pinned (OpenSpec.upto memoryLinesAreApartSpec)

/-- 'alumlaw04.MemoryCodes', WHERE WHAT IT READS IS OF BULK AT MOST 1048576: true; the input reads as it did. -/
def memoryCodesUptoRow : OpenClaim := { program := "ytmnncbgibngmiaadoor", sum := "6f17d005ce90c085c86c3e37971400e913616c09bdeeb21d837a5da7f1cd076a", func := "alum/alumlaw04.MemoryCodes", spec := "memoryCodes", unfollowed := true, recurses := true, named := ["math/bits.deBruijn32tab", "math/bits.deBruijn64tab"], apart := false, laid := [("math/bits.deBruijn32tab", laid_math_bits_deBruijn32tab), ("math/bits.deBruijn64tab", laid_math_bits_deBruijn64tab)], narrowed := true }
def MemoryCodesUptoSaid : Prop := memoryCodesUptoRow.holds Tryd.pinned (OpenSpec.upto memoryCodesSpec)

end Rows
end Go.Proofs.YtmnncbgibngmiaaDoor
