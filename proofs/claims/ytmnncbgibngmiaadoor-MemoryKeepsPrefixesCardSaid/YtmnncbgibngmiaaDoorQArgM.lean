/-
  What comes in as an image.
-/
import Derived.Test.YtmnncbgibngmiaaDoorQArg
import Derived.Test.YtmnncbgibngmiaaDoorQN25
namespace Go.Proofs.YtmnncbgibngmiaaDoor
open Go.ChangeShapes Go.WideShapes Go.ChangeAt Go.RowKit Go.Maps
section
variable {H : Type} {enc : TypeId × Value → H} {W : World} {base : Nat} {sp : Nat → Bool} {held : Bool}
instance : Inhabited (List Int × Int) := ⟨([], 0)⟩
theorem open_line9 {fuel : Nat} {cs : List Value} {x : DataW H × List MemPlace} (h : DataW.trod enc Tryd.prog W base sp held fuel 68 cs = some x) : ∃ y : List Int × Int, cs = iv (y.1 ++ [y.2]) ∧ (y.1.length = 8 ∧ (∀ z ∈ y.1, I64 z) ∧ I64 y.2) := by
  obtain ⟨xs, n, _, _, hlen, hxs, hel⟩ := DataW.trod_struct Tryd.underlying68 h
  rw [c68] at hlen
  have h0 : DataW.trod enc Tryd.prog W base sp held n 47 ((cs.drop 0).take (Tryd.prog.cellsOf 47)) = xs[0]? := hel 0 _ rfl
  have h1 : DataW.trod enc Tryd.prog W base sp held n 3 ((cs.drop 8).take (Tryd.prog.cellsOf 3)) = xs[1]? := hel 1 _ rfl
  rw [c47, List.drop_zero] at h0
  rw [c3] at h1
  rw [List.getElem?_eq_getElem (by rw [hxs]; decide)] at h0 h1
  obtain ⟨ws, e0, e0', i0⟩ := open_words h0
  obtain ⟨c, e1, i1⟩ := open_num h1
  refine ⟨(ws, c), (show cs = iv (ws ++ [c]) from ?_), e0, i0, i1⟩
  refine List.ext_getElem? fun j => ?_
  by_cases hj : j < 8
  · have h5 : cs[j]? = (cs.take 8)[j]? := by rw [List.getElem?_take, if_pos hj]
    rw [h5, e0']
    unfold iv
    rw [List.map_append, List.getElem?_append_left (by rw [List.length_map]; omega)]
  · by_cases hj8 : j = 8
    · subst hj8
      rw [e1]
      unfold iv
      rw [List.map_append, List.getElem?_append_right (by rw [List.length_map]; omega), List.length_map, e0]
      rfl
    · rw [List.getElem?_eq_none (by omega), List.getElem?_eq_none (by rw [iv_len, List.length_append, e0]; simp; omega)]
theorem flat_img (img : List (List Int × Int)) : (img.map fun y => iv (y.1 ++ [y.2])).flatten = iv (flatI img) := by
  induction img with
  | nil => rfl
  | cons y r ih =>
    show iv (y.1 ++ [y.2]) ++ (r.map fun y => iv (y.1 ++ [y.2])).flatten = _
    rw [ih]
    unfold iv flatI
    simp
theorem open_image {v : Value} {d : DataW H} {p : List MemPlace} (hv : ∃ a len cap, v = .slice a len cap) (h : DataW.Trod enc Tryd.prog W base sp held 23 v d p) : ∃ img : List (List Int × Int), ImgI img ∧ Rd W v img.length (iv (flatI img)) := by
  obtain ⟨a, len, cap, rfl⟩ := hv
  obtain ⟨fuel, hf⟩ := h
  obtain ⟨v', ys, hcs, hr, hy⟩ := open_rows Tryd.underlying23 c68 (by decide) (fun y : List Int × Int => iv (y.1 ++ [y.2])) (fun y => y.1.length = 8 ∧ (∀ z ∈ y.1, I64 z) ∧ I64 y.2) open_line9 hf
  have hv' : v' = .slice a len cap := by
    simp [Value.cells] at hcs
    exact hcs.symm
  subst hv'
  rw [flat_img] at hr
  exact ⟨ys, hy, hr⟩
end
end Go.Proofs.YtmnncbgibngmiaaDoor
