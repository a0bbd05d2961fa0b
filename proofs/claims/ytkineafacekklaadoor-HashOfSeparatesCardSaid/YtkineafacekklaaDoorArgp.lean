/- A pair of bytes that came in. -/
import Derived.Test.YtkineafacekklaaDoorArgt
namespace Go.Proofs.YtkineafacekklaaDoor
open Go.RowKit Go.ChangeShapes Go.WideShapes
section
variable {H : Type} {enc : TypeId × Value → H} {W : World} {base : Nat} {sp : Nat → Bool} {held : Bool}
theorem open_pair {v : Value} {d : DataW H} {p : List MemPlace} (h : DataW.Trod enc Tryd.prog W base sp held 62 v d p) :
    ∃ x y : UInt8, v = .agg #[.int .u8 (x.toNat : Int), .int .u8 (y.toNat : Int)] := by
  obtain ⟨fuel, hf⟩ := h
  obtain ⟨xs, q, _, _, hlen, hxs, hel⟩ := DataW.trod_array Tryd.underlying62 hf
  have c5 : Tryd.prog.cellsOf 5 = 1 := by kernel_rfl
  have c62 : Tryd.prog.cellsOf 62 = 2 := by kernel_rfl
  rw [c62] at hlen
  rw [c5] at hel
  have h0 := hel 0 (by decide)
  have h1 := hel 1 (by decide)
  rw [List.getElem?_eq_getElem (by omega)] at h0 h1
  obtain ⟨k0, e0, _, w0⟩ := DataW.trod_int Tryd.underlying5 h0
  obtain ⟨k1, e1, _, w1⟩ := DataW.trod_int Tryd.underlying5 h1
  have hw0 := wf_u8 w0
  have hw1 := wf_u8 w1
  refine ⟨UInt8.ofNat k0.toNat, UInt8.ofNat k1.toNat, ?_⟩
  have z0 : ((UInt8.ofNat k0.toNat).toNat : Int) = k0 := by simp; omega
  have z1 : ((UInt8.ofNat k1.toNat).toNat : Int) = k1 := by simp; omega
  rw [z0, z1]
  cases v with
  | agg cs =>
    simp only [Value.cells] at hlen e0 e1
    obtain ⟨l⟩ := cs
    match l, hlen with
    | [a, b], _ =>
      simp at e0 e1
      rw [e0, e1]
  | _ => simp [Value.cells] at hlen
end
end Go.Proofs.YtkineafacekklaaDoor
