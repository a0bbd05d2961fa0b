/-
  What comes in at stage 5: two numbers in an array.
-/
import Derived.Test.YtpojhplnhppcpaaGreatDoorQArgATApart
namespace Go.Proofs.YtpojhplnhppcpaaGreatDoor
open Go.ChangeShapes Go.WideShapes Go.ChangeAt Go.RowKit Go.Maps
section
variable {H : Type} {enc : TypeId × Value → H} {W : World} {base : Nat} {sp : Nat → Bool} {held : Bool}
theorem wf_u32 {z : Int} (h : (Lit.int .u32 z).wf = true) : 0 ≤ z ∧ z < 4294967296 := by
  simp only [Lit.wf, IntKind.min, IntKind.max, IntKind.bits, IntKind.signed] at h
  simp at h
  omega
theorem wf_u8 {z : Int} (h : (Lit.int .u8 z).wf = true) : 0 ≤ z ∧ z < 256 := by
  simp only [Lit.wf, IntKind.min, IntKind.max, IntKind.bits, IntKind.signed] at h
  simp at h
  omega
theorem open_k2 {v : Value} {d : DataW H} {p : List MemPlace} (h : DataW.Trod enc Tryz.prog W base sp held 73 v d p) : ∃ x y : Int, v = .agg #[.int .u32 x, .int .u32 y] ∧ (0 ≤ x ∧ x < 4294967296) ∧ (0 ≤ y ∧ y < 4294967296) := by
  obtain ⟨fuel, hf⟩ := h
  obtain ⟨xs, q, _, _, hlen, hxs, hel⟩ := DataW.trod_array Tryz.underlying73 hf
  have c1 : Tryz.prog.cellsOf 72 = 1 := by kernel_rfl
  have c2 : Tryz.prog.cellsOf 73 = 2 := by kernel_rfl
  rw [c2] at hlen
  rw [c1] at hel
  have hk : ∀ j, j < 2 → ∃ k : Int, v.cells.toList[j]? = some (.int .u32 k) ∧ 0 ≤ k ∧ k < 4294967296 := by
    intro j hj
    have h0 := hel j hj
    rw [List.getElem?_eq_getElem (by omega), Nat.mul_one] at h0
    obtain ⟨k, e, _, hw⟩ := DataW.trod_int Tryz.underlying72 h0
    exact ⟨k, one_at e, wf_u32 hw⟩
  obtain ⟨x, e0, hx⟩ := hk 0 (by omega)
  obtain ⟨y, e1, hy⟩ := hk 1 (by omega)
  refine ⟨x, y, ?_, hx, hy⟩
  cases v with
  | agg cs =>
    simp only [Value.cells] at hlen e0 e1
    obtain ⟨l⟩ := cs
    simp only at hlen e0 e1
    match l, hlen with
    | [a, b], _ =>
      have h0 : a = .int .u32 x := Option.some.inj e0
      have h1 : b = .int .u32 y := Option.some.inj e1
      rw [h0, h1]
  | _ => simp [Value.cells] at hlen
end
end Go.Proofs.YtpojhplnhppcpaaGreatDoor
