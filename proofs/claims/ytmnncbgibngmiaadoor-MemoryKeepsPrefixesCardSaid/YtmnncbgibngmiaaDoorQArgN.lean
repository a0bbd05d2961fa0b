/-
  What comes in as a list of numbers, and as one call.
-/
import Derived.Test.YtmnncbgibngmiaaDoorQArgM
namespace Go.Proofs.YtmnncbgibngmiaaDoor
open Go.ChangeShapes Go.WideShapes Go.ChangeAt Go.RowKit Go.Maps
section
variable {H : Type} {enc : TypeId × Value → H} {W : World} {base : Nat} {sp : Nat → Bool} {held : Bool}
theorem open_one_int {fuel : Nat} {cs : List Value} {x : DataW H × List MemPlace} (h : DataW.trod enc Tryd.prog W base sp held fuel 3 cs = some x) : ∃ y : Int, cs = iv [y] ∧ I64 y := by
  obtain ⟨k, e, _, hw⟩ := DataW.trod_int Tryd.underlying3 h
  exact ⟨k, e, wf_i64 hw⟩
theorem flat_ints (xs : List Int) : (xs.map fun y => iv [y]).flatten = iv xs := by
  induction xs with
  | nil => rfl
  | cons y r ih =>
    show iv [y] ++ (r.map fun y => iv [y]).flatten = _
    rw [ih]
    rfl
theorem open_ints {v : Value} {d : DataW H} {p : List MemPlace} (hv : ∃ a len cap, v = .slice a len cap) (h : DataW.Trod enc Tryd.prog W base sp held 36 v d p) : ∃ xs : List Int, (∀ z ∈ xs, I64 z) ∧ Rd W v xs.length (iv xs) := by
  obtain ⟨a, len, cap, rfl⟩ := hv
  obtain ⟨fuel, hf⟩ := h
  obtain ⟨v', ys, hcs, hr, hy⟩ := open_rows Tryd.underlying36 c3 (by decide) (fun y : Int => iv [y]) (fun y => I64 y) open_one_int hf
  have hv' : v' = .slice a len cap := by
    simp [Value.cells] at hcs
    exact hcs.symm
  subst hv'
  rw [flat_ints] at hr
  exact ⟨ys, hy, hr⟩
end
end Go.Proofs.YtmnncbgibngmiaaDoor
