/-
  What comes in as one call.
-/
import Derived.Test.YtmnncbgibngmiaaDoorQArg
namespace Go.Proofs.YtmnncbgibngmiaaDoor
open Go.ChangeShapes Go.WideShapes Go.ChangeAt Go.RowKit Go.Maps
section
variable {H : Type} {enc : TypeId × Value → H} {W : World} {base : Nat} {sp : Nat → Bool} {held : Bool}
theorem open_one {v : Value} {d : DataW H} {p : List MemPlace} (h : DataW.Trod enc Tryd.prog W base sp held 61 v d p) :
    ∃ y : POp × Value, v = .agg (opV y.1 y.2).toArray ∧ y.1.Ok ∧ Rd W y.2 y.1.cs.length (iv (flatS y.1.cs)) := by
  obtain ⟨fuel, hf⟩ := h
  obtain ⟨y, hy, ho, hr⟩ := open_op hf
  have hl := opV_len ho y.2
  rw [← hy] at hl
  cases v with
  | agg cs =>
    refine ⟨y, ?_, ho, hr⟩
    rw [← hy]
    simp [Value.cells]
  | _ => simp [Value.cells] at hl
end
end Go.Proofs.YtmnncbgibngmiaaDoor
