/-
  What comes in at stage 5: scripts, images, lists of events, of cuts, of numbers.
-/
import Derived.Test.YtpojhplnhppcpaaGreatDoorQN22z
import Derived.Test.YtpojhplnhppcpaaGreatDoorQN17
import Derived.Test.YtpojhplnhppcpaaGreatDoorQN25z
import Derived.Test.YtpojhplnhppcpaaGreatDoorQLaidATEvict
import Derived.Deep.Slices
namespace Go.Proofs.YtpojhplnhppcpaaGreatDoor
open Go.ChangeShapes Go.WideShapes Go.ChangeAt Go.RowKit Go.Maps
def valI : Value → Int
  | .int _ z => z
  | _ => 0
theorem wf_i64 {z : Int} (h : (Lit.int .i64 z).wf = true) : I64 z := by
  simp only [Lit.wf, IntKind.min, IntKind.max, IntKind.bits, IntKind.signed] at h
  simp at h
  unfold I64
  omega
theorem one_at {cs : List Value} {j : Nat} {v : Value} (h : (cs.drop j).take 1 = [v]) : cs[j]? = some v := by
  have h2 : ((cs.drop j).take 1)[0]? = some v := by rw [h]; rfl
  simpa using h2
section
variable {H : Type} {enc : TypeId × Value → H} {W : World} {base : Nat} {sp : Nat → Bool} {held : Bool}
theorem c3 : Tryz.prog.cellsOf 3 = 1 := by kernel_rfl
theorem c47 : Tryz.prog.cellsOf 66 = 8 := by kernel_rfl
theorem c52 : Tryz.prog.cellsOf 48 = 2 := by kernel_rfl
theorem c61 : Tryz.prog.cellsOf 91 = 12 := by kernel_rfl
theorem c45 : Tryz.prog.cellsOf 46 = 1 := by kernel_rfl
theorem c68 : Tryz.prog.cellsOf 77 = 9 := by kernel_rfl
/-- Eight numbers. -/
theorem open_words {fuel : Nat} {cs : List Value} {x : DataW H × List MemPlace} (h : DataW.trod enc Tryz.prog W base sp held fuel 66 cs = some x) : ∃ L : List Int, L.length = 8 ∧ cs = iv L ∧ ∀ z ∈ L, I64 z := by
  obtain ⟨xs, q, _, _, hlen, hxs, hel⟩ := DataW.trod_array Tryz.underlying66 h
  rw [c47] at hlen
  rw [c3] at hel
  have hk : ∀ j, j < 8 → ∃ k : Int, cs[j]? = some (.int .i64 k) ∧ I64 k := by
    intro j hj
    have h0 := hel j hj
    rw [List.getElem?_eq_getElem (by omega), Nat.mul_one] at h0
    obtain ⟨k, e, _, hw⟩ := DataW.trod_int Tryz.underlying3 h0
    exact ⟨k, one_at e, wf_i64 hw⟩
  refine ⟨cs.map valI, by simp [hlen], ?_, fun z hz => ?_⟩
  · refine List.ext_getElem (by simp [iv]) fun j h1 h2 => ?_
    obtain ⟨k, e, _⟩ := hk j (by omega)
    rw [List.getElem?_eq_getElem h1] at e
    simp only [Option.some.injEq] at e
    simp [iv, e, valI]
  · obtain ⟨u, hu, rfl⟩ := List.mem_map.1 hz
    obtain ⟨j, hj, rfl⟩ := List.mem_iff_getElem.1 hu
    obtain ⟨k, e, hi⟩ := hk j (by omega)
    rw [List.getElem?_eq_getElem hj] at e
    simp only [Option.some.injEq] at e
    rw [e]
    exact hi
/-- A field that is a number. -/
theorem open_num {fuel : Nat} {cs : List Value} {x : DataW H × List MemPlace} {j : Nat} (h : DataW.trod enc Tryz.prog W base sp held fuel 3 ((cs.drop j).take 1) = some x) : ∃ k : Int, cs[j]? = some (.int .i64 k) ∧ I64 k := by
  obtain ⟨k, e, _, hw⟩ := DataW.trod_int Tryz.underlying3 h
  exact ⟨k, one_at e, wf_i64 hw⟩
/-- A slice of rows of n cells. -/
theorem open_rows {α : Type} [Inhabited α] {t e : TypeId} {sz : Nat} (ht : Tryz.prog.underlying t = some (.slice e)) (hsz : Tryz.prog.cellsOf e = sz) (hpos : 0 < sz) (enc' : α → List Value) (P : α → Prop)
    (hrow : ∀ {fuel : Nat} {cs : List Value} {x : DataW H × List MemPlace}, DataW.trod enc Tryz.prog W base sp held fuel e cs = some x → ∃ a, cs = enc' a ∧ P a)
    {fuel : Nat} {cs : List Value} {x : DataW H × List MemPlace} (h : DataW.trod enc Tryz.prog W base sp held fuel t cs = some x) :
    ∃ (v : Value) (ys : List α), cs = [v] ∧ Rd W v ys.length (ys.map enc').flatten ∧ ∀ a ∈ ys, P a := by
  rcases Go.Deep.open_slice ht h with ⟨hcs, _⟩ | ⟨a, l, c, m, n, D, Pl, hcs, _, hl, hm, hmm, _, hx⟩
  · exact ⟨_, [], hcs, ⟨none, 0, rfl, Nat.le_refl _, Nat.zero_le _, fun h0 => by simp at h0⟩, fun a ha => by simp at ha⟩
  · have hlm : l ≤ m := by rw [hmm]; split <;> omega
    obtain ⟨f, hf⟩ := Go.Deep.choose_lt (α := α) (n := l) (p := fun i y => W.cells? base (a.add (i * sz)) sz = some (enc' y) ∧ P y) (fun i hi => by
      obtain ⟨cs', h1, h2⟩ := hx i (by omega)
      rw [hsz] at h1
      obtain ⟨y, rfl, hy⟩ := hrow h2
      exact ⟨y, h1, hy⟩)
    refine ⟨_, (List.range l).map f, hcs, ⟨some a, c, by rw [List.length_map, List.length_range], by rw [List.length_map, List.length_range]; exact hl, hm, fun h0 => ?_⟩, fun y hy => ?_⟩
    · rw [List.length_map, List.length_range] at h0
      have hrl : ∀ y ∈ ((List.range l).map f).map enc', y.length = sz := fun y hy => by
        obtain ⟨z, hz, rfl⟩ := List.mem_map.1 hy
        obtain ⟨i, hi, rfl⟩ := List.mem_map.1 hz
        obtain ⟨_, h2, _⟩ := World.cells?_some (hf i (List.mem_range.1 hi)).1
        exact h2
      have hc0 : ∃ u, W.cell? a = some u := by
        obtain ⟨_, h2, h3⟩ := World.cells?_some (hf 0 h0).1
        have := h3 0 hpos
        have e0 : (a.add (0 * sz)).add 0 = a := by simp [Addr.add]
        rw [e0, List.getElem?_eq_getElem (by omega)] at this
        exact ⟨_, this⟩
      obtain ⟨u0, hu0⟩ := hc0
      have hsp := World.cell?_spot hu0
      obtain ⟨b, o, s⟩ := a
      simp only at hsp
      subst hsp
      refine ⟨b, o, rfl, block_lt_of_cell hu0, fun j u hj => ?_⟩
      have hjl := (List.getElem?_eq_some_iff.1 hj).1
      have hfl : (((List.range l).map f).map enc').flatten.length = l * sz := by
        have := flatMap_len (fun x : List Value => x.map fun _ => (0 : Int)) sz (((List.range l).map f).map enc') (fun x hx => by rw [List.length_map]; exact hrl x hx)
        rw [List.length_map, List.length_map, List.length_range] at this
        rw [← this, List.length_flatMap, List.length_flatten]
        simp
      rw [hfl] at hjl
      have hq : j / sz < l := Nat.div_lt_of_lt_mul (by rw [Nat.mul_comm]; exact hjl)
      have hr : j % sz < sz := Nat.mod_lt _ hpos
      have hjd : j = j / sz * sz + j % sz := by rw [Nat.mul_comm]; exact (Nat.div_add_mod j sz).symm
      have h4 := flat_get hrl (k := j / sz) (j := j % sz) (by rw [List.length_map, List.length_map, List.length_range]; exact hq) hr
      rw [← hjd, hj] at h4
      obtain ⟨_, h6, h7⟩ := World.cells?_some (hf (j / sz) hq).1
      have h8 := h7 (j % sz) hr
      rw [Addr.add_lit, Addr.add_lit, Nat.add_assoc, ← hjd] at h8
      rw [h8]
      simp only [List.getElem_map, List.getElem_range] at h4
      exact h4.symm
    · obtain ⟨i, hi, rfl⟩ := List.mem_map.1 hy
      exact (hf i (List.mem_range.1 hi)).2
theorem open_cut {fuel : Nat} {cs : List Value} {x : DataW H × List MemPlace} (h : DataW.trod enc Tryz.prog W base sp held fuel 48 cs = some x) : ∃ c : Int × Int, cs = iv [c.1, c.2] ∧ (I64 c.1 ∧ I64 c.2) := by
  obtain ⟨xs, n, _, _, hlen, hxs, hel⟩ := DataW.trod_struct Tryz.underlying48 h
  rw [c52] at hlen
  have h0 : DataW.trod enc Tryz.prog W base sp held n 3 ((cs.drop 0).take (Tryz.prog.cellsOf 3)) = xs[0]? := hel 0 _ rfl
  have h1 : DataW.trod enc Tryz.prog W base sp held n 3 ((cs.drop 1).take (Tryz.prog.cellsOf 3)) = xs[1]? := hel 1 _ rfl
  rw [c3] at h0 h1
  rw [List.getElem?_eq_getElem (by rw [hxs]; decide)] at h0 h1
  obtain ⟨a, e0, i0⟩ := open_num h0
  obtain ⟨b, e1, i1⟩ := open_num h1
  refine ⟨(a, b), ?_, i0, i1⟩
  refine List.ext_getElem? fun j => ?_
  match j with
  | 0 => exact e0
  | 1 => exact e1
  | j + 2 => rw [List.getElem?_eq_none (by omega)]; rfl
theorem flat_map_flatS (cs : List (Int × Int)) : (cs.map fun c => iv [c.1, c.2]).flatten = iv (flatS cs) := by
  induction cs with
  | nil => rfl
  | cons c r ih =>
    show iv [c.1, c.2] ++ (r.map fun c => iv [c.1, c.2]).flatten = _
    rw [ih]
    rfl
instance : Inhabited (POp × Value) := ⟨(⟨0, 0, 0, [], []⟩, .int .i64 0)⟩
theorem open_op {fuel : Nat} {cs : List Value} {x : DataW H × List MemPlace} (h : DataW.trod enc Tryz.prog W base sp held fuel 91 cs = some x) : ∃ y : POp × Value, cs = opV y.1 y.2 ∧ (y.1.Ok ∧ Rd W y.2 y.1.cs.length (iv (flatS y.1.cs))) := by
  obtain ⟨xs, n, _, _, hlen, hxs, hel⟩ := DataW.trod_struct Tryz.underlying91 h
  rw [c61] at hlen
  have h0 : DataW.trod enc Tryz.prog W base sp held n 3 ((cs.drop 0).take (Tryz.prog.cellsOf 3)) = xs[0]? := hel 0 _ rfl
  have h1 : DataW.trod enc Tryz.prog W base sp held n 3 ((cs.drop 1).take (Tryz.prog.cellsOf 3)) = xs[1]? := hel 1 _ rfl
  have h2 : DataW.trod enc Tryz.prog W base sp held n 3 ((cs.drop 2).take (Tryz.prog.cellsOf 3)) = xs[2]? := hel 2 _ rfl
  have h3 : DataW.trod enc Tryz.prog W base sp held n 66 ((cs.drop 3).take (Tryz.prog.cellsOf 66)) = xs[3]? := hel 3 _ rfl
  have h4 : DataW.trod enc Tryz.prog W base sp held n 46 ((cs.drop 11).take (Tryz.prog.cellsOf 46)) = xs[4]? := hel 4 _ rfl
  rw [c3] at h0 h1 h2
  rw [c47] at h3
  rw [c45] at h4
  rw [List.getElem?_eq_getElem (by rw [hxs]; decide)] at h0 h1 h2 h3 h4
  obtain ⟨k, e0, i0⟩ := open_num h0
  obtain ⟨a, e1, i1⟩ := open_num h1
  obtain ⟨b, e2, i2⟩ := open_num h2
  obtain ⟨ws, e3, e3', i3⟩ := open_words h3
  obtain ⟨cv, cuts, e4, hr, hi⟩ := open_rows Tryz.underlying46 c52 (by decide) (fun c : Int × Int => iv [c.1, c.2]) (fun c => I64 c.1 ∧ I64 c.2) open_cut h4
  rw [flat_map_flatS] at hr
  refine ⟨(⟨k, a, b, ws, cuts⟩, cv), ?_, ⟨i0, i1, i2, e3, i3, hi⟩, hr⟩
  refine List.ext_getElem? fun j => ?_
  have hopl : (opV ⟨k, a, b, ws, cuts⟩ cv).length = 12 := opV_len ⟨i0, i1, i2, e3, i3, hi⟩ cv
  match j with
  | 0 => exact e0
  | 1 => exact e1
  | 2 => exact e2
  | j + 3 =>
    by_cases hj : j < 8
    · have h5 : cs[j + 3]? = ((cs.drop 3).take 8)[j]? := by
        rw [List.getElem?_take, if_pos hj, List.getElem?_drop, Nat.add_comm]
      rw [h5, e3']
      unfold opV
      rw [List.getElem?_append_left (by rw [iv_len, List.length_append, e3]; simp; omega)]
      unfold iv
      rw [List.map_append, List.getElem?_append_right (by simp)]
      simp
    · by_cases hj8 : j = 8
      · subst hj8
        rw [one_at e4]
        unfold opV
        rw [List.getElem?_append_right (by rw [iv_len, List.length_append, e3]; simp), iv_len, List.length_append, e3]
        rfl
      · rw [List.getElem?_eq_none (by omega), List.getElem?_eq_none (by rw [hopl]; omega)]
theorem zip_map (ys : List (POp × Value)) : List.zipWith opV (ys.map (·.1)) (ys.map (·.2)) = ys.map fun y => opV y.1 y.2 := by
  induction ys with
  | nil => rfl
  | cons y r ih => simp [ih]
/-- What comes in as a script. -/
theorem open_script {v : Value} {d : DataW H} {p : List MemPlace} (hv : ∃ a len cap, v = .slice a len cap) (h : DataW.Trod enc Tryz.prog W base sp held 30 v d p) : ∃ xs : List POp, Script W v xs := by
  obtain ⟨a, len, cap, rfl⟩ := hv
  obtain ⟨fuel, hf⟩ := h
  obtain ⟨v', ys, hcs, hr, hy⟩ := open_rows Tryz.underlying30 c61 (by decide) (fun y : POp × Value => opV y.1 y.2) (fun y => y.1.Ok ∧ Rd W y.2 y.1.cs.length (iv (flatS y.1.cs))) open_op hf
  have hv' : v' = .slice a len cap := by
    simp [Value.cells] at hcs
    exact hcs.symm
  subst hv'
  refine ⟨ys.map (·.1), ys.map (·.2), by simp, ?_, fun x hx => ?_, fun j x c hx hc => ?_⟩
  · rw [zip_map, List.length_map]
    exact hr
  · obtain ⟨y, hy1, rfl⟩ := List.mem_map.1 hx
    exact (hy y hy1).1
  · rw [List.getElem?_map] at hx hc
    cases hq : ys[j]? with
    | none => rw [hq] at hx; cases hx
    | some y =>
      rw [hq] at hx hc
      simp only [Option.map_some, Option.some.injEq] at hx hc
      subst hx hc
      exact (hy y (List.mem_of_getElem? hq)).2
instance : Inhabited (List Int × Int) := ⟨([], 0)⟩
theorem open_line9 {fuel : Nat} {cs : List Value} {x : DataW H × List MemPlace} (h : DataW.trod enc Tryz.prog W base sp held fuel 77 cs = some x) : ∃ y : List Int × Int, cs = iv (y.1 ++ [y.2]) ∧ (y.1.length = 8 ∧ (∀ z ∈ y.1, I64 z) ∧ I64 y.2) := by
  obtain ⟨xs, n, _, _, hlen, hxs, hel⟩ := DataW.trod_struct Tryz.underlying77 h
  rw [c68] at hlen
  have h0 : DataW.trod enc Tryz.prog W base sp held n 66 ((cs.drop 0).take (Tryz.prog.cellsOf 66)) = xs[0]? := hel 0 _ rfl
  have h1 : DataW.trod enc Tryz.prog W base sp held n 3 ((cs.drop 8).take (Tryz.prog.cellsOf 3)) = xs[1]? := hel 1 _ rfl
  rw [c47, List.drop_zero] at h0
  rw [c3] at h1
  rw [List.getElem?_eq_getElem (by rw [hxs]; decide)] at h0 h1
  obtain ⟨ws, e0, e0', i0⟩ := open_words h0
  obtain ⟨c, e1, i1⟩ := open_num h1
  refine ⟨(ws, c), (show cs = iv (ws ++ [c]) from ?_), e0, i0, i1⟩
  refine List.ext_getElem? fun j => ?_
  by_cases hj : j < 8
  · have h5 : cs[j]? = (cs.take 8)[j]? := by rw [List.getElem?_take, if_pos hj]
    rw [h5, e0']
    unfold iv
    rw [List.map_append, List.getElem?_append_left (by rw [List.length_map]; omega)]
  · by_cases hj8 : j = 8
    · subst hj8
      rw [e1]
      unfold iv
      rw [List.map_append, List.getElem?_append_right (by rw [List.length_map]; omega), List.length_map, e0]
      rfl
    · rw [List.getElem?_eq_none (by omega), List.getElem?_eq_none (by rw [iv_len, List.length_append, e0]; simp; omega)]
theorem flat_img (img : List (List Int × Int)) : (img.map fun y => iv (y.1 ++ [y.2])).flatten = iv (flatI img) := by
  induction img with
  | nil => rfl
  | cons y r ih =>
    show iv (y.1 ++ [y.2]) ++ (r.map fun y => iv (y.1 ++ [y.2])).flatten = _
    rw [ih]
    unfold iv flatI
    simp
theorem open_image {v : Value} {d : DataW H} {p : List MemPlace} (hv : ∃ a len cap, v = .slice a len cap) (h : DataW.Trod enc Tryz.prog W base sp held 23 v d p) : ∃ img : List (List Int × Int), ImgI img ∧ Rd W v img.length (iv (flatI img)) := by
  obtain ⟨a, len, cap, rfl⟩ := hv
  obtain ⟨fuel, hf⟩ := h
  obtain ⟨v', ys, hcs, hr, hy⟩ := open_rows Tryz.underlying23 c68 (by decide) (fun y : List Int × Int => iv (y.1 ++ [y.2])) (fun y => y.1.length = 8 ∧ (∀ z ∈ y.1, I64 z) ∧ I64 y.2) open_line9 hf
  have hv' : v' = .slice a len cap := by
    simp [Value.cells] at hcs
    exact hcs.symm
  subst hv'
  rw [flat_img] at hr
  exact ⟨ys, hy, hr⟩
end
end Go.Proofs.YtpojhplnhppcpaaGreatDoor
