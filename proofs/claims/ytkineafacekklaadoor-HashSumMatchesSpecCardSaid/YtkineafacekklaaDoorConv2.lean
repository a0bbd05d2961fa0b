/- A string turned into a new row of bytes. -/
import Derived.Test.YtkineafacekklaaDoorSumF
import Derived.Lib.ConvBytes
namespace Go.Proofs.YtkineafacekklaaDoor
open Go.RowKit Go.Lib
theorem bel_bytes (w : World) (s : ByteArray) : Below w.heap.size w (bytesWorld w 5 s) := by
  refine ⟨?_, ?_, ?_, by rw [bytesWorld_size]; omega, fun k hk => bytesWorld_at_old w 5 s k hk⟩ <;>
    simp [bytesWorld, World.freeze, World.alloc, World.drew, -World.alloc_eq, -World.drew_eq]
theorem rv_bytes (w : World) (s : ByteArray) : RV (bytesWorld w 5 s) (some ⟨w.heap.size, 0, none⟩) (bv s.data.toList) := fun _ =>
  ⟨_, _, rfl, fun j u hu => by
    have hj : j < s.size := by
      have h1 := (List.getElem?_eq_some_iff.1 hu).1
      rw [bv_len, Array.length_toList] at h1
      exact h1
    rw [Nat.zero_add, bytesWorld_cell w 5 s j hj, ← hu]
    have hj2 : j < s.data.size := hj
    simp [bv, Array.getElem?_eq_getElem hj2]⟩
theorem run_bytes (w : World) (s : ByteArray) : (convert 9 22 (.string s)).run Tryd.prog w = .ok (.slice (some ⟨w.heap.size, 0, none⟩) s.size (grownCap w s.size 0 5)) (bytesWorld w 5 s) :=
  Go.Lib.run_convert_string_bytes w 9 22 5 s Tryd.underlying9 Tryd.underlying22 Tryd.underlying5
end Go.Proofs.YtkineafacekklaaDoor
