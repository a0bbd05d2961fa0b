/-
  NARROWER THAN 'FOR EVERY INPUT', by the rows' own cells (each row's printed sentence says how): TraceCheckMatchesSpec: laid · TraceReplays: laid · TraceReplayRefuses: laid · TraceCutsMatchSpec: laid · TraceImageMatchesSpec: laid · TraceFatesMatchSpec: laid · TracePrintMatchesSpec: laid · TraceParseMatchesSpec: laid · TraceChoicesDiffer: laid · TraceLinesAreApart: laid · TraceCutsAreEvictions: laid · TraceFatesAreOrdered: laid.
  DERIVED. THE GIVEN ROWS OF THIS SEAT. 12 by the template 'for every input the law returns true; each argument reads behind the call as it read before'; 0 by the template 'total and deterministic' (their statements: YtpojhplnhppcpaaGreatDoorTotals.lean).
  GIVEN WITH THE SEED: the statements are not yours to turn. If you find one false, say at which input.
  Laid BY PROGRAM, IN A SANDBOX (cutbox-rows.mjs): the forced cells as the released guide's own fill.sh prints them over the translation 1bc75f33e2cd20f8… (all of the seat's roots in one cut). By AI agents, Wed Nov 11 2026. No macro, syntax, notation, axiom, sorry.
-/
import Derived.Test.YtpojhplnhppcpaaGreatDoorChecked
import GoSem.Claim
import GoSem.ClaimJoined
import GoSem.ClaimMapViews
import Derived.JoinedTies
import Derived.KernelRfl
namespace Go.Proofs.YtpojhplnhppcpaaGreatDoor
/- THE CELL 'sum', in the pinned program and in every row, IS THE sha256 OF THE DUMP (.gsa) THAT YtpojhplnhppcpaaGreatDoorProg.lean LOADS. Nothing in Lean hashes anything: it is a label: what it is worth is what the hold of that sum in a sandbox is worth. -/
noncomputable def Tryz.pinned : Pinned := { name := "ytpojhplnhppcpaagreatdoor", sum := "1bc75f33e2cd20f87832ddd65eaf41c113cfd4137a758a52aa202e180310cc95", checked := Tryz.checked }
namespace Rows
def none {H : Type} : Left H := { results := [], args := [] }

/- WHAT THE LISTED PACKAGE-LEVEL VARIABLES READ AS WHEN THE CALL BEGINS. Each datum BY PROGRAM (the guide's laid-datum.mjs) off the statement by which the dump's own 'gosem.cut.vars' lays the variable. In a bare row this is a premise. The card (YtpojhplnhppcpaaGreatDoorCards.lean) ties it to the program's text. -/
def laid_math_bits_deBruijn32tab {H : Type} : DataW H := .agg [.lit (.int .u8 0), .lit (.int .u8 1), .lit (.int .u8 28), .lit (.int .u8 2), .lit (.int .u8 29), .lit (.int .u8 14), .lit (.int .u8 24), .lit (.int .u8 3), .lit (.int .u8 30), .lit (.int .u8 22), .lit (.int .u8 20), .lit (.int .u8 15), .lit (.int .u8 25), .lit (.int .u8 17), .lit (.int .u8 4), .lit (.int .u8 8), .lit (.int .u8 31), .lit (.int .u8 27), .lit (.int .u8 13), .lit (.int .u8 23), .lit (.int .u8 21), .lit (.int .u8 19), .lit (.int .u8 16), .lit (.int .u8 7), .lit (.int .u8 26), .lit (.int .u8 12), .lit (.int .u8 18), .lit (.int .u8 6), .lit (.int .u8 11), .lit (.int .u8 5), .lit (.int .u8 10), .lit (.int .u8 9)]
def laid_math_bits_deBruijn64tab {H : Type} : DataW H := .agg [.lit (.int .u8 0), .lit (.int .u8 1), .lit (.int .u8 56), .lit (.int .u8 2), .lit (.int .u8 57), .lit (.int .u8 49), .lit (.int .u8 28), .lit (.int .u8 3), .lit (.int .u8 61), .lit (.int .u8 58), .lit (.int .u8 42), .lit (.int .u8 50), .lit (.int .u8 38), .lit (.int .u8 29), .lit (.int .u8 17), .lit (.int .u8 4), .lit (.int .u8 62), .lit (.int .u8 47), .lit (.int .u8 59), .lit (.int .u8 36), .lit (.int .u8 45), .lit (.int .u8 43), .lit (.int .u8 51), .lit (.int .u8 22), .lit (.int .u8 53), .lit (.int .u8 39), .lit (.int .u8 33), .lit (.int .u8 30), .lit (.int .u8 24), .lit (.int .u8 18), .lit (.int .u8 12), .lit (.int .u8 5), .lit (.int .u8 63), .lit (.int .u8 55), .lit (.int .u8 48), .lit (.int .u8 27), .lit (.int .u8 60), .lit (.int .u8 41), .lit (.int .u8 37), .lit (.int .u8 16), .lit (.int .u8 46), .lit (.int .u8 35), .lit (.int .u8 44), .lit (.int .u8 21), .lit (.int .u8 52), .lit (.int .u8 32), .lit (.int .u8 23), .lit (.int .u8 11), .lit (.int .u8 54), .lit (.int .u8 26), .lit (.int .u8 40), .lit (.int .u8 15), .lit (.int .u8 34), .lit (.int .u8 20), .lit (.int .u8 31), .lit (.int .u8 10), .lit (.int .u8 25), .lit (.int .u8 14), .lit (.int .u8 19), .lit (.int .u8 9), .lit (.int .u8 13), .lit (.int .u8 8), .lit (.int .u8 7), .lit (.int .u8 6)]
def laid_internal_strconv_uint64pow10 {H : Type} : DataW H := .agg [.lit (.int .u64 1), .lit (.int .u64 10), .lit (.int .u64 100), .lit (.int .u64 1000), .lit (.int .u64 10000), .lit (.int .u64 100000), .lit (.int .u64 1000000), .lit (.int .u64 10000000), .lit (.int .u64 100000000), .lit (.int .u64 1000000000), .lit (.int .u64 10000000000), .lit (.int .u64 100000000000), .lit (.int .u64 1000000000000), .lit (.int .u64 10000000000000), .lit (.int .u64 100000000000000), .lit (.int .u64 1000000000000000), .lit (.int .u64 10000000000000000), .lit (.int .u64 100000000000000000), .lit (.int .u64 1000000000000000000), .lit (.int .u64 10000000000000000000)]
def laid_strconv_ErrRange {H : Type} : DataW H := .iface "*errors.errorString" (.ptr (.agg [.lit (.string [118, 97, 108, 117, 101, 32, 111, 117, 116, 32, 111, 102, 32, 114, 97, 110, 103, 101])]))
def laid_strconv_ErrSyntax {H : Type} : DataW H := .iface "*errors.errorString" (.ptr (.agg [.lit (.string [105, 110, 118, 97, 108, 105, 100, 32, 115, 121, 110, 116, 97, 120])]))
def laid_alum_trace_words {H : Type} : DataW H := .agg [.lit (.string [101, 118, 101, 110, 116]), .lit (.string [115, 116, 111, 114, 101]), .lit (.string [112, 117, 98, 108, 105, 115, 104]), .lit (.string [102, 108, 117, 115, 104]), .lit (.string [102, 101, 110, 99, 101]), .lit (.string [101, 118, 105, 99, 116]), .lit (.string [104, 101, 97, 108]), .lit (.string [114, 111, 116])]

/-- 'alumlaw05.TraceCheckMatchesSpec': WHATEVER THE INPUT: true; the input reads as it did. -/
def traceCheckMatchesSpecSpec : ChangeSpec := { name := "traceCheckMatchesSpec", fn := fun _ => fun
  | [d1, d2] => { results := [.lit (.bool true)], args := [d1, d2] }
  | _ => none }
def traceCheckMatchesSpecRow : OpenClaim := { program := "ytpojhplnhppcpaagreatdoor", sum := "1bc75f33e2cd20f87832ddd65eaf41c113cfd4137a758a52aa202e180310cc95", func := "alum/alumlaw05.TraceCheckMatchesSpec", spec := "traceCheckMatchesSpec", inPlace := ["internal/bytealg.IndexByteString", "internal/bytealg.IndexString"], unfollowed := true, recurses := true, named := ["math/bits.deBruijn32tab", "math/bits.deBruijn64tab", "alum/trace.words", "internal/strconv.uint64pow10", "internal/bytealg.MaxLen", "strconv.ErrSyntax", "strconv.ErrRange"], apart := false, laid := [("math/bits.deBruijn32tab", laid_math_bits_deBruijn32tab), ("math/bits.deBruijn64tab", laid_math_bits_deBruijn64tab), ("internal/strconv.uint64pow10", laid_internal_strconv_uint64pow10), ("strconv.ErrRange", laid_strconv_ErrRange), ("strconv.ErrSyntax", laid_strconv_ErrSyntax), ("alum/trace.words", laid_alum_trace_words)] }
def TraceCheckMatchesSpecSaid : Prop := traceCheckMatchesSpecRow.holds Tryz.pinned (OpenSpec.ofChange traceCheckMatchesSpecSpec)

/-- ITS FALSE NEIGHBOUR: 'it returns false'. Refute it at one input. -/
def traceCheckMatchesSpecWrong : ChangeSpec := { name := "traceCheckMatchesSpec", fn := fun _ => fun
  | [d1, d2] => { results := [.lit (.bool false)], args := [d1, d2] }
  | _ => none }
def TraceCheckMatchesSpecWrongFalsely : Prop := traceCheckMatchesSpecRow.holds Tryz.pinned (OpenSpec.ofChange traceCheckMatchesSpecWrong)

/-- 'alumlaw05.TraceReplays': WHATEVER THE INPUT: true; the input reads as it did. -/
def traceReplaysSpec : ChangeSpec := { name := "traceReplays", fn := fun _ => fun
  | [d1, d2, d3] => { results := [.lit (.bool true)], args := [d1, d2, d3] }
  | _ => none }
def traceReplaysRow : OpenClaim := { program := "ytpojhplnhppcpaagreatdoor", sum := "1bc75f33e2cd20f87832ddd65eaf41c113cfd4137a758a52aa202e180310cc95", func := "alum/alumlaw05.TraceReplays", spec := "traceReplays", inPlace := ["internal/bytealg.IndexByteString", "internal/bytealg.IndexString"], unfollowed := true, recurses := true, named := ["math/bits.deBruijn32tab", "math/bits.deBruijn64tab", "alum/trace.words", "internal/strconv.uint64pow10", "internal/bytealg.MaxLen", "strconv.ErrSyntax", "strconv.ErrRange"], apart := false, laid := [("math/bits.deBruijn32tab", laid_math_bits_deBruijn32tab), ("math/bits.deBruijn64tab", laid_math_bits_deBruijn64tab), ("internal/strconv.uint64pow10", laid_internal_strconv_uint64pow10), ("strconv.ErrRange", laid_strconv_ErrRange), ("strconv.ErrSyntax", laid_strconv_ErrSyntax), ("alum/trace.words", laid_alum_trace_words)] }
def TraceReplaysSaid : Prop := traceReplaysRow.holds Tryz.pinned (OpenSpec.ofChange traceReplaysSpec)

/-- ITS FALSE NEIGHBOUR: 'it returns false'. Refute it at one input. -/
def traceReplaysWrong : ChangeSpec := { name := "traceReplays", fn := fun _ => fun
  | [d1, d2, d3] => { results := [.lit (.bool false)], args := [d1, d2, d3] }
  | _ => none }
def TraceReplaysWrongFalsely : Prop := traceReplaysRow.holds Tryz.pinned (OpenSpec.ofChange traceReplaysWrong)

/-- 'alumlaw05.TraceReplayRefuses': WHATEVER THE INPUT: true; the input reads as it did. -/
def traceReplayRefusesSpec : ChangeSpec := { name := "traceReplayRefuses", fn := fun _ => fun
  | [d1, d2] => { results := [.lit (.bool true)], args := [d1, d2] }
  | _ => none }
def traceReplayRefusesRow : OpenClaim := { program := "ytpojhplnhppcpaagreatdoor", sum := "1bc75f33e2cd20f87832ddd65eaf41c113cfd4137a758a52aa202e180310cc95", func := "alum/alumlaw05.TraceReplayRefuses", spec := "traceReplayRefuses", inPlace := ["internal/bytealg.IndexByteString", "internal/bytealg.IndexString"], unfollowed := true, recurses := true, named := ["math/bits.deBruijn32tab", "math/bits.deBruijn64tab", "alum/trace.words", "internal/strconv.uint64pow10", "internal/bytealg.MaxLen", "strconv.ErrSyntax", "strconv.ErrRange"], apart := false, laid := [("math/bits.deBruijn32tab", laid_math_bits_deBruijn32tab), ("math/bits.deBruijn64tab", laid_math_bits_deBruijn64tab), ("internal/strconv.uint64pow10", laid_internal_strconv_uint64pow10), ("strconv.ErrRange", laid_strconv_ErrRange), ("strconv.ErrSyntax", laid_strconv_ErrSyntax), ("alum/trace.words", laid_alum_trace_words)] }
def TraceReplayRefusesSaid : Prop := traceReplayRefusesRow.holds Tryz.pinned (OpenSpec.ofChange traceReplayRefusesSpec)

/-- ITS FALSE NEIGHBOUR: 'it returns false'. Refute it at one input. -/
def traceReplayRefusesWrong : ChangeSpec := { name := "traceReplayRefuses", fn := fun _ => fun
  | [d1, d2] => { results := [.lit (.bool false)], args := [d1, d2] }
  | _ => none }
def TraceReplayRefusesWrongFalsely : Prop := traceReplayRefusesRow.holds Tryz.pinned (OpenSpec.ofChange traceReplayRefusesWrong)

/-- 'alumlaw05.TraceCutsMatchSpec': WHATEVER THE INPUT: true; the input reads as it did. -/
def traceCutsMatchSpecSpec : ChangeSpec := { name := "traceCutsMatchSpec", fn := fun _ => fun
  | [d1, d2, d3, d4] => { results := [.lit (.bool true)], args := [d1, d2, d3, d4] }
  | _ => none }
def traceCutsMatchSpecRow : OpenClaim := { program := "ytpojhplnhppcpaagreatdoor", sum := "1bc75f33e2cd20f87832ddd65eaf41c113cfd4137a758a52aa202e180310cc95", func := "alum/alumlaw05.TraceCutsMatchSpec", spec := "traceCutsMatchSpec", inPlace := ["internal/bytealg.IndexByteString", "internal/bytealg.IndexString"], unfollowed := true, recurses := true, named := ["math/bits.deBruijn32tab", "math/bits.deBruijn64tab", "alum/trace.words", "internal/strconv.uint64pow10", "internal/bytealg.MaxLen", "strconv.ErrSyntax", "strconv.ErrRange"], apart := false, laid := [("math/bits.deBruijn32tab", laid_math_bits_deBruijn32tab), ("math/bits.deBruijn64tab", laid_math_bits_deBruijn64tab), ("internal/strconv.uint64pow10", laid_internal_strconv_uint64pow10), ("strconv.ErrRange", laid_strconv_ErrRange), ("strconv.ErrSyntax", laid_strconv_ErrSyntax), ("alum/trace.words", laid_alum_trace_words)] }
def TraceCutsMatchSpecSaid : Prop := traceCutsMatchSpecRow.holds Tryz.pinned (OpenSpec.ofChange traceCutsMatchSpecSpec)

/-- ITS FALSE NEIGHBOUR: 'it returns false'. Refute it at one input. -/
def traceCutsMatchSpecWrong : ChangeSpec := { name := "traceCutsMatchSpec", fn := fun _ => fun
  | [d1, d2, d3, d4] => { results := [.lit (.bool false)], args := [d1, d2, d3, d4] }
  | _ => none }
def TraceCutsMatchSpecWrongFalsely : Prop := traceCutsMatchSpecRow.holds Tryz.pinned (OpenSpec.ofChange traceCutsMatchSpecWrong)

/-- 'alumlaw05.TraceImageMatchesSpec': WHATEVER THE INPUT: true; the input reads as it did. -/
def traceImageMatchesSpecSpec : ChangeSpec := { name := "traceImageMatchesSpec", fn := fun _ => fun
  | [d1, d2, d3, d4] => { results := [.lit (.bool true)], args := [d1, d2, d3, d4] }
  | _ => none }
def traceImageMatchesSpecRow : OpenClaim := { program := "ytpojhplnhppcpaagreatdoor", sum := "1bc75f33e2cd20f87832ddd65eaf41c113cfd4137a758a52aa202e180310cc95", func := "alum/alumlaw05.TraceImageMatchesSpec", spec := "traceImageMatchesSpec", inPlace := ["internal/bytealg.IndexByteString", "internal/bytealg.IndexString"], unfollowed := true, recurses := true, named := ["math/bits.deBruijn32tab", "math/bits.deBruijn64tab", "alum/trace.words", "internal/strconv.uint64pow10", "internal/bytealg.MaxLen", "strconv.ErrSyntax", "strconv.ErrRange"], apart := false, laid := [("math/bits.deBruijn32tab", laid_math_bits_deBruijn32tab), ("math/bits.deBruijn64tab", laid_math_bits_deBruijn64tab), ("internal/strconv.uint64pow10", laid_internal_strconv_uint64pow10), ("strconv.ErrRange", laid_strconv_ErrRange), ("strconv.ErrSyntax", laid_strconv_ErrSyntax), ("alum/trace.words", laid_alum_trace_words)] }
def TraceImageMatchesSpecSaid : Prop := traceImageMatchesSpecRow.holds Tryz.pinned (OpenSpec.ofChange traceImageMatchesSpecSpec)

/-- ITS FALSE NEIGHBOUR: 'it returns false'. Refute it at one input. -/
def traceImageMatchesSpecWrong : ChangeSpec := { name := "traceImageMatchesSpec", fn := fun _ => fun
  | [d1, d2, d3, d4] => { results := [.lit (.bool false)], args := [d1, d2, d3, d4] }
  | _ => none }
def TraceImageMatchesSpecWrongFalsely : Prop := traceImageMatchesSpecRow.holds Tryz.pinned (OpenSpec.ofChange traceImageMatchesSpecWrong)

/-- 'alumlaw05.TraceFatesMatchSpec': WHATEVER THE INPUT: true; the input reads as it did. -/
def traceFatesMatchSpecSpec : ChangeSpec := { name := "traceFatesMatchSpec", fn := fun _ => fun
  | [d1, d2, d3] => { results := [.lit (.bool true)], args := [d1, d2, d3] }
  | _ => none }
def traceFatesMatchSpecRow : OpenClaim := { program := "ytpojhplnhppcpaagreatdoor", sum := "1bc75f33e2cd20f87832ddd65eaf41c113cfd4137a758a52aa202e180310cc95", func := "alum/alumlaw05.TraceFatesMatchSpec", spec := "traceFatesMatchSpec", inPlace := ["internal/bytealg.IndexByteString", "internal/bytealg.IndexString"], unfollowed := true, recurses := true, named := ["math/bits.deBruijn32tab", "math/bits.deBruijn64tab", "alum/trace.words", "internal/strconv.uint64pow10", "internal/bytealg.MaxLen", "strconv.ErrSyntax", "strconv.ErrRange"], apart := false, laid := [("math/bits.deBruijn32tab", laid_math_bits_deBruijn32tab), ("math/bits.deBruijn64tab", laid_math_bits_deBruijn64tab), ("internal/strconv.uint64pow10", laid_internal_strconv_uint64pow10), ("strconv.ErrRange", laid_strconv_ErrRange), ("strconv.ErrSyntax", laid_strconv_ErrSyntax), ("alum/trace.words", laid_alum_trace_words)] }
def TraceFatesMatchSpecSaid : Prop := traceFatesMatchSpecRow.holds Tryz.pinned (OpenSpec.ofChange traceFatesMatchSpecSpec)

/-- ITS FALSE NEIGHBOUR: 'it returns false'. Refute it at one input. -/
def traceFatesMatchSpecWrong : ChangeSpec := { name := "traceFatesMatchSpec", fn := fun _ => fun
  | [d1, d2, d3] => { results := [.lit (.bool false)], args := [d1, d2, d3] }
  | _ => none }
def TraceFatesMatchSpecWrongFalsely : Prop := traceFatesMatchSpecRow.holds Tryz.pinned (OpenSpec.ofChange traceFatesMatchSpecWrong)

/-- 'alumlaw05.TracePrintMatchesSpec': WHATEVER THE INPUT: true; the input reads as it did. -/
def tracePrintMatchesSpecSpec : ChangeSpec := { name := "tracePrintMatchesSpec", fn := fun _ => fun
  | [d] => { results := [.lit (.bool true)], args := [d] }
  | _ => none }
def tracePrintMatchesSpecRow : OpenClaim := { program := "ytpojhplnhppcpaagreatdoor", sum := "1bc75f33e2cd20f87832ddd65eaf41c113cfd4137a758a52aa202e180310cc95", func := "alum/alumlaw05.TracePrintMatchesSpec", spec := "tracePrintMatchesSpec", inPlace := ["internal/bytealg.IndexByteString", "internal/bytealg.IndexString"], unfollowed := true, recurses := true, named := ["math/bits.deBruijn32tab", "math/bits.deBruijn64tab", "alum/trace.words", "internal/strconv.uint64pow10", "internal/bytealg.MaxLen", "strconv.ErrSyntax", "strconv.ErrRange"], apart := false, laid := [("math/bits.deBruijn32tab", laid_math_bits_deBruijn32tab), ("math/bits.deBruijn64tab", laid_math_bits_deBruijn64tab), ("internal/strconv.uint64pow10", laid_internal_strconv_uint64pow10), ("strconv.ErrRange", laid_strconv_ErrRange), ("strconv.ErrSyntax", laid_strconv_ErrSyntax), ("alum/trace.words", laid_alum_trace_words)] }
def TracePrintMatchesSpecSaid : Prop := tracePrintMatchesSpecRow.holds Tryz.pinned (OpenSpec.ofChange tracePrintMatchesSpecSpec)

/-- ITS FALSE NEIGHBOUR: 'it returns false'. Refute it at one input. -/
def tracePrintMatchesSpecWrong : ChangeSpec := { name := "tracePrintMatchesSpec", fn := fun _ => fun
  | [d] => { results := [.lit (.bool false)], args := [d] }
  | _ => none }
def TracePrintMatchesSpecWrongFalsely : Prop := tracePrintMatchesSpecRow.holds Tryz.pinned (OpenSpec.ofChange tracePrintMatchesSpecWrong)

/-- 'alumlaw05.TraceParseMatchesSpec': WHATEVER THE INPUT: true; the input reads as it did. -/
def traceParseMatchesSpecSpec : ChangeSpec := { name := "traceParseMatchesSpec", fn := fun _ => fun
  | [d] => { results := [.lit (.bool true)], args := [d] }
  | _ => none }
def traceParseMatchesSpecRow : OpenClaim := { program := "ytpojhplnhppcpaagreatdoor", sum := "1bc75f33e2cd20f87832ddd65eaf41c113cfd4137a758a52aa202e180310cc95", func := "alum/alumlaw05.TraceParseMatchesSpec", spec := "traceParseMatchesSpec", inPlace := ["internal/bytealg.IndexByteString", "internal/bytealg.IndexString"], unfollowed := true, recurses := true, named := ["math/bits.deBruijn32tab", "math/bits.deBruijn64tab", "alum/trace.words", "internal/strconv.uint64pow10", "internal/bytealg.MaxLen", "strconv.ErrSyntax", "strconv.ErrRange"], apart := false, laid := [("math/bits.deBruijn32tab", laid_math_bits_deBruijn32tab), ("math/bits.deBruijn64tab", laid_math_bits_deBruijn64tab), ("internal/strconv.uint64pow10", laid_internal_strconv_uint64pow10), ("strconv.ErrRange", laid_strconv_ErrRange), ("strconv.ErrSyntax", laid_strconv_ErrSyntax), ("alum/trace.words", laid_alum_trace_words)] }
def TraceParseMatchesSpecSaid : Prop := traceParseMatchesSpecRow.holds Tryz.pinned (OpenSpec.ofChange traceParseMatchesSpecSpec)

/-- ITS FALSE NEIGHBOUR: 'it returns false'. Refute it at one input. -/
def traceParseMatchesSpecWrong : ChangeSpec := { name := "traceParseMatchesSpec", fn := fun _ => fun
  | [d] => { results := [.lit (.bool false)], args := [d] }
  | _ => none }
def TraceParseMatchesSpecWrongFalsely : Prop := traceParseMatchesSpecRow.holds Tryz.pinned (OpenSpec.ofChange traceParseMatchesSpecWrong)

/-- 'alumlaw05.TraceChoicesDiffer': WHATEVER THE INPUT: true; the input reads as it did. -/
def traceChoicesDifferSpec : ChangeSpec := { name := "traceChoicesDiffer", fn := fun _ => fun
  | [d1, d2, d3, d4] => { results := [.lit (.bool true)], args := [d1, d2, d3, d4] }
  | _ => none }
def traceChoicesDifferRow : OpenClaim := { program := "ytpojhplnhppcpaagreatdoor", sum := "1bc75f33e2cd20f87832ddd65eaf41c113cfd4137a758a52aa202e180310cc95", func := "alum/alumlaw05.TraceChoicesDiffer", spec := "traceChoicesDiffer", inPlace := ["internal/bytealg.IndexByteString", "internal/bytealg.IndexString"], unfollowed := true, recurses := true, named := ["math/bits.deBruijn32tab", "math/bits.deBruijn64tab", "alum/trace.words", "internal/strconv.uint64pow10", "internal/bytealg.MaxLen", "strconv.ErrSyntax", "strconv.ErrRange"], apart := false, laid := [("math/bits.deBruijn32tab", laid_math_bits_deBruijn32tab), ("math/bits.deBruijn64tab", laid_math_bits_deBruijn64tab), ("internal/strconv.uint64pow10", laid_internal_strconv_uint64pow10), ("strconv.ErrRange", laid_strconv_ErrRange), ("strconv.ErrSyntax", laid_strconv_ErrSyntax), ("alum/trace.words", laid_alum_trace_words)] }
def TraceChoicesDifferSaid : Prop := traceChoicesDifferRow.holds Tryz.pinned (OpenSpec.ofChange traceChoicesDifferSpec)

/-- ITS FALSE NEIGHBOUR: 'it returns false'. Refute it at one input. -/
def traceChoicesDifferWrong : ChangeSpec := { name := "traceChoicesDiffer", fn := fun _ => fun
  | [d1, d2, d3, d4] => { results := [.lit (.bool false)], args := [d1, d2, d3, d4] }
  | _ => none }
def TraceChoicesDifferWrongFalsely : Prop := traceChoicesDifferRow.holds Tryz.pinned (OpenSpec.ofChange traceChoicesDifferWrong)

/-- 'alumlaw05.TraceLinesAreApart': WHATEVER THE INPUT: true; the input reads as it did. -/
def traceLinesAreApartSpec : ChangeSpec := { name := "traceLinesAreApart", fn := fun _ => fun
  | [d1, d2, d3, d4, d5] => { results := [.lit (.bool true)], args := [d1, d2, d3, d4, d5] }
  | _ => none }
def traceLinesAreApartRow : OpenClaim := { program := "ytpojhplnhppcpaagreatdoor", sum := "1bc75f33e2cd20f87832ddd65eaf41c113cfd4137a758a52aa202e180310cc95", func := "alum/alumlaw05.TraceLinesAreApart", spec := "traceLinesAreApart", inPlace := ["internal/bytealg.IndexByteString", "internal/bytealg.IndexString"], unfollowed := true, recurses := true, named := ["math/bits.deBruijn32tab", "math/bits.deBruijn64tab", "alum/trace.words", "internal/strconv.uint64pow10", "internal/bytealg.MaxLen", "strconv.ErrSyntax", "strconv.ErrRange"], apart := false, laid := [("math/bits.deBruijn32tab", laid_math_bits_deBruijn32tab), ("math/bits.deBruijn64tab", laid_math_bits_deBruijn64tab), ("internal/strconv.uint64pow10", laid_internal_strconv_uint64pow10), ("strconv.ErrRange", laid_strconv_ErrRange), ("strconv.ErrSyntax", laid_strconv_ErrSyntax), ("alum/trace.words", laid_alum_trace_words)] }
def TraceLinesAreApartSaid : Prop := traceLinesAreApartRow.holds Tryz.pinned (OpenSpec.ofChange traceLinesAreApartSpec)

/-- ITS FALSE NEIGHBOUR: 'it returns false'. Refute it at one input. -/
def traceLinesAreApartWrong : ChangeSpec := { name := "traceLinesAreApart", fn := fun _ => fun
  | [d1, d2, d3, d4, d5] => { results := [.lit (.bool false)], args := [d1, d2, d3, d4, d5] }
  | _ => none }
def TraceLinesAreApartWrongFalsely : Prop := traceLinesAreApartRow.holds Tryz.pinned (OpenSpec.ofChange traceLinesAreApartWrong)

/-- 'alumlaw05.TraceCutsAreEvictions': WHATEVER THE INPUT: true; the input reads as it did. -/
def traceCutsAreEvictionsSpec : ChangeSpec := { name := "traceCutsAreEvictions", fn := fun _ => fun
  | [d1, d2, d3, d4] => { results := [.lit (.bool true)], args := [d1, d2, d3, d4] }
  | _ => none }
def traceCutsAreEvictionsRow : OpenClaim := { program := "ytpojhplnhppcpaagreatdoor", sum := "1bc75f33e2cd20f87832ddd65eaf41c113cfd4137a758a52aa202e180310cc95", func := "alum/alumlaw05.TraceCutsAreEvictions", spec := "traceCutsAreEvictions", inPlace := ["internal/bytealg.IndexByteString", "internal/bytealg.IndexString"], unfollowed := true, recurses := true, named := ["math/bits.deBruijn32tab", "math/bits.deBruijn64tab", "alum/trace.words", "internal/strconv.uint64pow10", "internal/bytealg.MaxLen", "strconv.ErrSyntax", "strconv.ErrRange"], apart := false, laid := [("math/bits.deBruijn32tab", laid_math_bits_deBruijn32tab), ("math/bits.deBruijn64tab", laid_math_bits_deBruijn64tab), ("internal/strconv.uint64pow10", laid_internal_strconv_uint64pow10), ("strconv.ErrRange", laid_strconv_ErrRange), ("strconv.ErrSyntax", laid_strconv_ErrSyntax), ("alum/trace.words", laid_alum_trace_words)] }
def TraceCutsAreEvictionsSaid : Prop := traceCutsAreEvictionsRow.holds Tryz.pinned (OpenSpec.ofChange traceCutsAreEvictionsSpec)

/-- ITS FALSE NEIGHBOUR: 'it returns false'. Refute it at one input. -/
def traceCutsAreEvictionsWrong : ChangeSpec := { name := "traceCutsAreEvictions", fn := fun _ => fun
  | [d1, d2, d3, d4] => { results := [.lit (.bool false)], args := [d1, d2, d3, d4] }
  | _ => none }
def TraceCutsAreEvictionsWrongFalsely : Prop := traceCutsAreEvictionsRow.holds Tryz.pinned (OpenSpec.ofChange traceCutsAreEvictionsWrong)

/-- 'alumlaw05.TraceFatesAreOrdered': WHATEVER THE INPUT: true; the input reads as it did. -/
def traceFatesAreOrderedSpec : ChangeSpec := { name := "traceFatesAreOrdered", fn := fun _ => fun
  | [d1, d2, d3, d4] => { results := [.lit (.bool true)], args := [d1, d2, d3, d4] }
  | _ => none }
def traceFatesAreOrderedRow : OpenClaim := { program := "ytpojhplnhppcpaagreatdoor", sum := "1bc75f33e2cd20f87832ddd65eaf41c113cfd4137a758a52aa202e180310cc95", func := "alum/alumlaw05.TraceFatesAreOrdered", spec := "traceFatesAreOrdered", inPlace := ["internal/bytealg.IndexByteString", "internal/bytealg.IndexString"], unfollowed := true, recurses := true, named := ["math/bits.deBruijn32tab", "math/bits.deBruijn64tab", "alum/trace.words", "internal/strconv.uint64pow10", "internal/bytealg.MaxLen", "strconv.ErrSyntax", "strconv.ErrRange"], apart := false, laid := [("math/bits.deBruijn32tab", laid_math_bits_deBruijn32tab), ("math/bits.deBruijn64tab", laid_math_bits_deBruijn64tab), ("internal/strconv.uint64pow10", laid_internal_strconv_uint64pow10), ("strconv.ErrRange", laid_strconv_ErrRange), ("strconv.ErrSyntax", laid_strconv_ErrSyntax), ("alum/trace.words", laid_alum_trace_words)] }
def TraceFatesAreOrderedSaid : Prop := traceFatesAreOrderedRow.holds Tryz.pinned (OpenSpec.ofChange traceFatesAreOrderedSpec)

/-- ITS FALSE NEIGHBOUR: 'it returns false'. Refute it at one input. -/
def traceFatesAreOrderedWrong : ChangeSpec := { name := "traceFatesAreOrdered", fn := fun _ => fun
  | [d1, d2, d3, d4] => { results := [.lit (.bool false)], args := [d1, d2, d3, d4] }
  | _ => none }
def TraceFatesAreOrderedWrongFalsely : Prop := traceFatesAreOrderedRow.holds Tryz.pinned (OpenSpec.ofChange traceFatesAreOrderedWrong)

/- THE SECOND FORM. 'bulk': how many values and letters a reading holds, each counted each time it is reached (what is shared counts as often as it is met; a slice's spare places count too). A statement '..UptoSaid' is the law's where the arguments, and the package variables that the reading takes, are together of bulk at most 1048576: NARROWER than '..Said'. Prove '..Said' where nothing that the law and all that it calls make is longer than what came in: it says more and counts as full. Else prove '..UptoSaid'. A law counts once. -/
mutual
def uptoBulk {H : Type} : DataW H → Nat
  | .lit (.string bytes) => bytes.length + 1
  | .lit _ => 1
  | .nil => 1
  | .ptr d => uptoBulk d + 1
  | .slice elems spare => uptoBulkAll elems + uptoBulkAll spare + 1
  | .agg parts => uptoBulkAll parts + 1
  | .iface _ d => uptoBulk d + 1
  | .map entries => uptoBulkEntries entries + 1
  | .held _ => 1
def uptoBulkAll {H : Type} : List (DataW H) → Nat
  | [] => 0
  | d :: r => uptoBulk d + uptoBulkAll r
def uptoBulkEntries {H : Type} : List (Lit × DataW H) → Nat
  | [] => 0
  | x :: r => uptoBulkEntry x + uptoBulkEntries r
def uptoBulkEntry {H : Type} : Lit × DataW H → Nat
  | (.string bytes, d) => bytes.length + uptoBulk d + 1
  | (_, d) => uptoBulk d + 1
 end
def uptoSmall : (H : Type) → List (DataW H) → Bool := fun _ ds => decide (uptoBulkAll ds ≤ 1048576)
def OpenSpec.upto (s : _root_.Go.ChangeSpec) : _root_.Go.OpenSpec := { _root_.Go.OpenSpec.ofChange s with cond := some uptoSmall }

/-- 'alumlaw05.TraceCheckMatchesSpec', WHERE WHAT IT READS IS OF BULK AT MOST 1048576: true; the input reads as it did. -/
def traceCheckMatchesSpecUptoRow : OpenClaim := { program := "ytpojhplnhppcpaagreatdoor", sum := "1bc75f33e2cd20f87832ddd65eaf41c113cfd4137a758a52aa202e180310cc95", func := "alum/alumlaw05.TraceCheckMatchesSpec", spec := "traceCheckMatchesSpec", inPlace := ["internal/bytealg.IndexByteString", "internal/bytealg.IndexString"], unfollowed := true, recurses := true, named := ["math/bits.deBruijn32tab", "math/bits.deBruijn64tab", "alum/trace.words", "internal/strconv.uint64pow10", "internal/bytealg.MaxLen", "strconv.ErrSyntax", "strconv.ErrRange"], apart := false, laid := [("math/bits.deBruijn32tab", laid_math_bits_deBruijn32tab), ("math/bits.deBruijn64tab", laid_math_bits_deBruijn64tab), ("internal/strconv.uint64pow10", laid_internal_strconv_uint64pow10), ("strconv.ErrRange", laid_strconv_ErrRange), ("strconv.ErrSyntax", laid_strconv_ErrSyntax), ("alum/trace.words", laid_alum_trace_words)], narrowed := true }
def TraceCheckMatchesSpecUptoSaid : Prop := traceCheckMatchesSpecUptoRow.holds Tryz.pinned (OpenSpec.upto traceCheckMatchesSpecSpec)

/-- 'alumlaw05.TraceReplays', WHERE WHAT IT READS IS OF BULK AT MOST 1048576: true; the input reads as it did. -/
def traceReplaysUptoRow : OpenClaim := { program := "ytpojhplnhppcpaagreatdoor", sum := "1bc75f33e2cd20f87832ddd65eaf41c113cfd4137a758a52aa202e180310cc95", func := "alum/alumlaw05.TraceReplays", spec := "traceReplays", inPlace := ["internal/bytealg.IndexByteString", "internal/bytealg.IndexString"], unfollowed := true, recurses := true, named := ["math/bits.deBruijn32tab", "math/bits.deBruijn64tab", "alum/trace.words", "internal/strconv.uint64pow10", "internal/bytealg.MaxLen", "strconv.ErrSyntax", "strconv.ErrRange"], apart := false, laid := [("math/bits.deBruijn32tab", laid_math_bits_deBruijn32tab), ("math/bits.deBruijn64tab", laid_math_bits_deBruijn64tab), ("internal/strconv.uint64pow10", laid_internal_strconv_uint64pow10), ("strconv.ErrRange", laid_strconv_ErrRange), ("strconv.ErrSyntax", laid_strconv_ErrSyntax), ("alum/trace.words", laid_alum_trace_words)], narrowed := true }
def TraceReplaysUptoSaid : Prop := traceReplaysUptoRow.holds Tryz.pinned (OpenSpec.upto traceReplaysSpec)

/-- 'alumlaw05.TraceReplayRefuses', WHERE WHAT IT READS IS OF BULK AT MOST 1048576: true; the input reads as it did. -/
def traceReplayRefusesUptoRow : OpenClaim := { program := "ytpojhplnhppcpaagreatdoor", sum := "1bc75f33e2cd20f87832ddd65eaf41c113cfd4137a758a52aa202e180310cc95", func := "alum/alumlaw05.TraceReplayRefuses", spec := "traceReplayRefuses", inPlace := ["internal/bytealg.IndexByteString", "internal/bytealg.IndexString"], unfollowed := true, recurses := true, named := ["math/bits.deBruijn32tab", "math/bits.deBruijn64tab", "alum/trace.words", "internal/strconv.uint64pow10", "internal/bytealg.MaxLen", "strconv.ErrSyntax", "strconv.ErrRange"], apart := false, laid := [("math/bits.deBruijn32tab", laid_math_bits_deBruijn32tab), ("math/bits.deBruijn64tab", laid_math_bits_deBruijn64tab), ("internal/strconv.uint64pow10", laid_internal_strconv_uint64pow10), ("strconv.ErrRange", laid_strconv_ErrRange), ("strconv.ErrSyntax", laid_strconv_ErrSyntax), ("alum/trace.words", laid_alum_trace_words)], narrowed := true }
def TraceReplayRefusesUptoSaid : Prop := traceReplayRefusesUptoRow.holds Tryz.pinned (OpenSpec.upto traceReplayRefusesSpec)

/-- 'alumlaw05.TraceCutsMatchSpec', WHERE WHAT IT READS IS OF BULK AT MOST 1048576: true; the input reads as it did. -/
def traceCutsMatchSpecUptoRow : OpenClaim := { program := "ytpojhplnhppcpaagreatdoor", sum := "1bc75f33e2cd20f87832ddd65eaf41c113cfd4137a758a52aa202e180310cc95", func := "alum/alumlaw05.TraceCutsMatchSpec", spec := "traceCutsMatchSpec", inPlace := ["internal/bytealg.IndexByteString", "internal/bytealg.IndexString"], unfollowed := true, recurses := true, named := ["math/bits.deBruijn32tab", "math/bits.deBruijn64tab", "alum/trace.words", "internal/strconv.uint64pow10", "internal/bytealg.MaxLen", "strconv.ErrSyntax", "strconv.ErrRange"], apart := false, laid := [("math/bits.deBruijn32tab", laid_math_bits_deBruijn32tab), ("math/bits.deBruijn64tab", laid_math_bits_deBruijn64tab), ("internal/strconv.uint64pow10", laid_internal_strconv_uint64pow10), ("strconv.ErrRange", laid_strconv_ErrRange), ("strconv.ErrSyntax", laid_strconv_ErrSyntax), ("alum/trace.words", laid_alum_trace_words)], narrowed := true }
def TraceCutsMatchSpecUptoSaid : Prop := traceCutsMatchSpecUptoRow.holds Tryz.pinned (OpenSpec.upto traceCutsMatchSpecSpec)

/-- 'alumlaw05.TraceImageMatchesSpec', WHERE WHAT IT READS IS OF BULK AT MOST 1048576: true; the input reads as it did. -/
def traceImageMatchesSpecUptoRow : OpenClaim := { program := "ytpojhplnhppcpaagreatdoor", sum := "1bc75f33e2cd20f87832ddd65eaf41c113cfd4137a758a52aa202e180310cc95", func := "alum/alumlaw05.TraceImageMatchesSpec", spec := "traceImageMatchesSpec", inPlace := ["internal/bytealg.IndexByteString", "internal/bytealg.IndexString"], unfollowed := true, recurses := true, named := ["math/bits.deBruijn32tab", "math/bits.deBruijn64tab", "alum/trace.words", "internal/strconv.uint64pow10", "internal/bytealg.MaxLen", "strconv.ErrSyntax", "strconv.ErrRange"], apart := false, laid := [("math/bits.deBruijn32tab", laid_math_bits_deBruijn32tab), ("math/bits.deBruijn64tab", laid_math_bits_deBruijn64tab), ("internal/strconv.uint64pow10", laid_internal_strconv_uint64pow10), ("strconv.ErrRange", laid_strconv_ErrRange), ("strconv.ErrSyntax", laid_strconv_ErrSyntax), ("alum/trace.words", laid_alum_trace_words)], narrowed := true }
def TraceImageMatchesSpecUptoSaid : Prop := traceImageMatchesSpecUptoRow.holds Tryz.pinned (OpenSpec.upto traceImageMatchesSpecSpec)

/-- 'alumlaw05.TraceFatesMatchSpec', WHERE WHAT IT READS IS OF BULK AT MOST 1048576: true; the input reads as it did. -/
def traceFatesMatchSpecUptoRow : OpenClaim := { program := "ytpojhplnhppcpaagreatdoor", sum := "1bc75f33e2cd20f87832ddd65eaf41c113cfd4137a758a52aa202e180310cc95", func := "alum/alumlaw05.TraceFatesMatchSpec", spec := "traceFatesMatchSpec", inPlace := ["internal/bytealg.IndexByteString", "internal/bytealg.IndexString"], unfollowed := true, recurses := true, named := ["math/bits.deBruijn32tab", "math/bits.deBruijn64tab", "alum/trace.words", "internal/strconv.uint64pow10", "internal/bytealg.MaxLen", "strconv.ErrSyntax", "strconv.ErrRange"], apart := false, laid := [("math/bits.deBruijn32tab", laid_math_bits_deBruijn32tab), ("math/bits.deBruijn64tab", laid_math_bits_deBruijn64tab), ("internal/strconv.uint64pow10", laid_internal_strconv_uint64pow10), ("strconv.ErrRange", laid_strconv_ErrRange), ("strconv.ErrSyntax", laid_strconv_ErrSyntax), ("alum/trace.words", laid_alum_trace_words)], narrowed := true }
def TraceFatesMatchSpecUptoSaid : Prop := traceFatesMatchSpecUptoRow.holds Tryz.pinned (OpenSpec.upto traceFatesMatchSpecSpec)

/-- 'alumlaw05.TracePrintMatchesSpec', WHERE WHAT IT READS IS OF BULK AT MOST 1048576: true; the input reads as it did. -/
def tracePrintMatchesSpecUptoRow : OpenClaim := { program := "ytpojhplnhppcpaagreatdoor", sum := "1bc75f33e2cd20f87832ddd65eaf41c113cfd4137a758a52aa202e180310cc95", func := "alum/alumlaw05.TracePrintMatchesSpec", spec := "tracePrintMatchesSpec", inPlace := ["internal/bytealg.IndexByteString", "internal/bytealg.IndexString"], unfollowed := true, recurses := true, named := ["math/bits.deBruijn32tab", "math/bits.deBruijn64tab", "alum/trace.words", "internal/strconv.uint64pow10", "internal/bytealg.MaxLen", "strconv.ErrSyntax", "strconv.ErrRange"], apart := false, laid := [("math/bits.deBruijn32tab", laid_math_bits_deBruijn32tab), ("math/bits.deBruijn64tab", laid_math_bits_deBruijn64tab), ("internal/strconv.uint64pow10", laid_internal_strconv_uint64pow10), ("strconv.ErrRange", laid_strconv_ErrRange), ("strconv.ErrSyntax", laid_strconv_ErrSyntax), ("alum/trace.words", laid_alum_trace_words)], narrowed := true }
def TracePrintMatchesSpecUptoSaid : Prop := tracePrintMatchesSpecUptoRow.holds Tryz.pinned (OpenSpec.upto tracePrintMatchesSpecSpec)

/-- 'alumlaw05.TraceParseMatchesSpec', WHERE WHAT IT READS IS OF BULK AT MOST 1048576: true; the input reads as it did. -/
def traceParseMatchesSpecUptoRow : OpenClaim := { program := "ytpojhplnhppcpaagreatdoor", sum := "1bc75f33e2cd20f87832ddd65eaf41c113cfd4137a758a52aa202e180310cc95", func := "alum/alumlaw05.TraceParseMatchesSpec", spec := "traceParseMatchesSpec", inPlace := ["internal/bytealg.IndexByteString", "internal/bytealg.IndexString"], unfollowed := true, recurses := true, named := ["math/bits.deBruijn32tab", "math/bits.deBruijn64tab", "alum/trace.words", "internal/strconv.uint64pow10", "internal/bytealg.MaxLen", "strconv.ErrSyntax", "strconv.ErrRange"], apart := false, laid := [("math/bits.deBruijn32tab", laid_math_bits_deBruijn32tab), ("math/bits.deBruijn64tab", laid_math_bits_deBruijn64tab), ("internal/strconv.uint64pow10", laid_internal_strconv_uint64pow10), ("strconv.ErrRange", laid_strconv_ErrRange), ("strconv.ErrSyntax", laid_strconv_ErrSyntax), ("alum/trace.words", laid_alum_trace_words)], narrowed := true }
def TraceParseMatchesSpecUptoSaid : Prop := traceParseMatchesSpecUptoRow.holds Tryz.pinned (OpenSpec.upto traceParseMatchesSpecSpec)

/-- 'alumlaw05.TraceChoicesDiffer', WHERE WHAT IT READS IS OF BULK AT MOST 1048576: true; the input reads as it did. -/
def traceChoicesDifferUptoRow : OpenClaim := { program := "ytpojhplnhppcpaagreatdoor", sum := "1bc75f33e2cd20f87832ddd65eaf41c113cfd4137a758a52aa202e180310cc95", func := "alum/alumlaw05.TraceChoicesDiffer", spec := "traceChoicesDiffer", inPlace := ["internal/bytealg.IndexByteString", "internal/bytealg.IndexString"], unfollowed := true, recurses := true, named := ["math/bits.deBruijn32tab", "math/bits.deBruijn64tab", "alum/trace.words", "internal/strconv.uint64pow10", "internal/bytealg.MaxLen", "strconv.ErrSyntax", "strconv.ErrRange"], apart := false, laid := [("math/bits.deBruijn32tab", laid_math_bits_deBruijn32tab), ("math/bits.deBruijn64tab", laid_math_bits_deBruijn64tab), ("internal/strconv.uint64pow10", laid_internal_strconv_uint64pow10), ("strconv.ErrRange", laid_strconv_ErrRange), ("strconv.ErrSyntax", laid_strconv_ErrSyntax), ("alum/trace.words", laid_alum_trace_words)], narrowed := true }
def TraceChoicesDifferUptoSaid : Prop := traceChoicesDifferUptoRow.holds Tryz.pinned (OpenSpec.upto traceChoicesDifferSpec)

/-- 'alumlaw05.TraceLinesAreApart', WHERE WHAT IT READS IS OF BULK AT MOST 1048576: true; the input reads as it did. -/
def traceLinesAreApartUptoRow : OpenClaim := { program := "ytpojhplnhppcpaagreatdoor", sum := "1bc75f33e2cd20f87832ddd65eaf41c113cfd4137a758a52aa202e180310cc95", func := "alum/alumlaw05.TraceLinesAreApart", spec := "traceLinesAreApart", inPlace := ["internal/bytealg.IndexByteString", "internal/bytealg.IndexString"], unfollowed := true, recurses := true, named := ["math/bits.deBruijn32tab", "math/bits.deBruijn64tab", "alum/trace.words", "internal/strconv.uint64pow10", "internal/bytealg.MaxLen", "strconv.ErrSyntax", "strconv.ErrRange"], apart := false, laid := [("math/bits.deBruijn32tab", laid_math_bits_deBruijn32tab), ("math/bits.deBruijn64tab", laid_math_bits_deBruijn64tab), ("internal/strconv.uint64pow10", laid_internal_strconv_uint64pow10), ("strconv.ErrRange", laid_strconv_ErrRange), ("strconv.ErrSyntax", laid_strconv_ErrSyntax), ("alum/trace.words", laid_alum_trace_words)], narrowed := true }
def TraceLinesAreApartUptoSaid : Prop := traceLinesAreApartUptoRow.holds Tryz.pinned (OpenSpec.upto traceLinesAreApartSpec)

/-- 'alumlaw05.TraceCutsAreEvictions', WHERE WHAT IT READS IS OF BULK AT MOST 1048576: true; the input reads as it did. -/
def traceCutsAreEvictionsUptoRow : OpenClaim := { program := "ytpojhplnhppcpaagreatdoor", sum := "1bc75f33e2cd20f87832ddd65eaf41c113cfd4137a758a52aa202e180310cc95", func := "alum/alumlaw05.TraceCutsAreEvictions", spec := "traceCutsAreEvictions", inPlace := ["internal/bytealg.IndexByteString", "internal/bytealg.IndexString"], unfollowed := true, recurses := true, named := ["math/bits.deBruijn32tab", "math/bits.deBruijn64tab", "alum/trace.words", "internal/strconv.uint64pow10", "internal/bytealg.MaxLen", "strconv.ErrSyntax", "strconv.ErrRange"], apart := false, laid := [("math/bits.deBruijn32tab", laid_math_bits_deBruijn32tab), ("math/bits.deBruijn64tab", laid_math_bits_deBruijn64tab), ("internal/strconv.uint64pow10", laid_internal_strconv_uint64pow10), ("strconv.ErrRange", laid_strconv_ErrRange), ("strconv.ErrSyntax", laid_strconv_ErrSyntax), ("alum/trace.words", laid_alum_trace_words)], narrowed := true }
def TraceCutsAreEvictionsUptoSaid : Prop := traceCutsAreEvictionsUptoRow.holds Tryz.pinned (OpenSpec.upto traceCutsAreEvictionsSpec)

/-- 'alumlaw05.TraceFatesAreOrdered', WHERE WHAT IT READS IS OF BULK AT MOST 1048576: true; the input reads as it did. -/
def traceFatesAreOrderedUptoRow : OpenClaim := { program := "ytpojhplnhppcpaagreatdoor", sum := "1bc75f33e2cd20f87832ddd65eaf41c113cfd4137a758a52aa202e180310cc95", func := "alum/alumlaw05.TraceFatesAreOrdered", spec := "traceFatesAreOrdered", inPlace := ["internal/bytealg.IndexByteString", "internal/bytealg.IndexString"], unfollowed := true, recurses := true, named := ["math/bits.deBruijn32tab", "math/bits.deBruijn64tab", "alum/trace.words", "internal/strconv.uint64pow10", "internal/bytealg.MaxLen", "strconv.ErrSyntax", "strconv.ErrRange"], apart := false, laid := [("math/bits.deBruijn32tab", laid_math_bits_deBruijn32tab), ("math/bits.deBruijn64tab", laid_math_bits_deBruijn64tab), ("internal/strconv.uint64pow10", laid_internal_strconv_uint64pow10), ("strconv.ErrRange", laid_strconv_ErrRange), ("strconv.ErrSyntax", laid_strconv_ErrSyntax), ("alum/trace.words", laid_alum_trace_words)], narrowed := true }
def TraceFatesAreOrderedUptoSaid : Prop := traceFatesAreOrderedUptoRow.holds Tryz.pinned (OpenSpec.upto traceFatesAreOrderedSpec)

end Rows
end Go.Proofs.YtpojhplnhppcpaaGreatDoor
