/-
  What comes in at stage 5: scripts, images, lists of events, of cuts, of numbers.
-/
import Derived.Test.YtpojhplnhppcpaaGreatDoorQN22z
import Derived.Test.YtpojhplnhppcpaaGreatDoorQN17
import Derived.Test.YtpojhplnhppcpaaGreatDoorQN25z
import Derived.Test.YtpojhplnhppcpaaGreatDoorQLaidAPrint
import Derived.Deep.Slices
namespace Go.Proofs.YtpojhplnhppcpaaGreatDoor
open Go.ChangeShapes Go.WideShapes Go.ChangeAt Go.RowKit Go.Maps
def valI : Value → Int
  | .int _ z => z
  | _ => 0
theorem wf_i64 {z : Int} (h : (Lit.int .i64 z).wf = true) : I64 z := by
  simp only [Lit.wf, IntKind.min, IntKind.max, IntKind.bits, IntKind.signed] at h
  simp at h
  unfold I64
  omega
theorem one_at {cs : List Value} {j : Nat} {v : Value} (h : (cs.drop j).take 1 = [v]) : cs[j]? = some v := by
  have h2 : ((cs.drop j).take 1)[0]? = some v := by rw [h]; rfl
  simpa using h2
section
variable {H : Type} {enc : TypeId × Value → H} {W : World} {base : Nat} {sp : Nat → Bool} {held : Bool}
theorem c3 : Tryz.prog.cellsOf 3 = 1 := by kernel_rfl
theorem c47 : Tryz.prog.cellsOf 66 = 8 := by kernel_rfl
theorem cEv : Tryz.prog.cellsOf 68 = 12 := by kernel_rfl
/-- Eight numbers. -/
theorem open_words {fuel : Nat} {cs : List Value} {x : DataW H × List MemPlace} (h : DataW.trod enc Tryz.prog W base sp held fuel 66 cs = some x) : ∃ L : List Int, L.length = 8 ∧ cs = iv L ∧ ∀ z ∈ L, I64 z := by
  obtain ⟨xs, q, _, _, hlen, hxs, hel⟩ := DataW.trod_array Tryz.underlying66 h
  rw [c47] at hlen
  rw [c3] at hel
  have hk : ∀ j, j < 8 → ∃ k : Int, cs[j]? = some (.int .i64 k) ∧ I64 k := by
    intro j hj
    have h0 := hel j hj
    rw [List.getElem?_eq_getElem (by omega), Nat.mul_one] at h0
    obtain ⟨k, e, _, hw⟩ := DataW.trod_int Tryz.underlying3 h0
    exact ⟨k, one_at e, wf_i64 hw⟩
  refine ⟨cs.map valI, by simp [hlen], ?_, fun z hz => ?_⟩
  · refine List.ext_getElem (by simp [iv]) fun j h1 h2 => ?_
    obtain ⟨k, e, _⟩ := hk j (by omega)
    rw [List.getElem?_eq_getElem h1] at e
    simp only [Option.some.injEq] at e
    simp [iv, e, valI]
  · obtain ⟨u, hu, rfl⟩ := List.mem_map.1 hz
    obtain ⟨j, hj, rfl⟩ := List.mem_iff_getElem.1 hu
    obtain ⟨k, e, hi⟩ := hk j (by omega)
    rw [List.getElem?_eq_getElem hj] at e
    simp only [Option.some.injEq] at e
    rw [e]
    exact hi
/-- A field that is a number. -/
theorem open_num {fuel : Nat} {cs : List Value} {x : DataW H × List MemPlace} {j : Nat} (h : DataW.trod enc Tryz.prog W base sp held fuel 3 ((cs.drop j).take 1) = some x) : ∃ k : Int, cs[j]? = some (.int .i64 k) ∧ I64 k := by
  obtain ⟨k, e, _, hw⟩ := DataW.trod_int Tryz.underlying3 h
  exact ⟨k, one_at e, wf_i64 hw⟩
/-- A slice of rows of n cells. -/
theorem open_rows {α : Type} [Inhabited α] {t e : TypeId} {sz : Nat} (ht : Tryz.prog.underlying t = some (.slice e)) (hsz : Tryz.prog.cellsOf e = sz) (hpos : 0 < sz) (enc' : α → List Value) (P : α → Prop)
    (hrow : ∀ {fuel : Nat} {cs : List Value} {x : DataW H × List MemPlace}, DataW.trod enc Tryz.prog W base sp held fuel e cs = some x → ∃ a, cs = enc' a ∧ P a)
    {fuel : Nat} {cs : List Value} {x : DataW H × List MemPlace} (h : DataW.trod enc Tryz.prog W base sp held fuel t cs = some x) :
    ∃ (v : Value) (ys : List α), cs = [v] ∧ Rd W v ys.length (ys.map enc').flatten ∧ ∀ a ∈ ys, P a := by
  rcases Go.Deep.open_slice ht h with ⟨hcs, _⟩ | ⟨a, l, c, m, n, D, Pl, hcs, _, hl, hm, hmm, _, hx⟩
  · exact ⟨_, [], hcs, ⟨none, 0, rfl, Nat.le_refl _, Nat.zero_le _, fun h0 => by simp at h0⟩, fun a ha => by simp at ha⟩
  · have hlm : l ≤ m := by rw [hmm]; split <;> omega
    obtain ⟨f, hf⟩ := Go.Deep.choose_lt (α := α) (n := l) (p := fun i y => W.cells? base (a.add (i * sz)) sz = some (enc' y) ∧ P y) (fun i hi => by
      obtain ⟨cs', h1, h2⟩ := hx i (by omega)
      rw [hsz] at h1
      obtain ⟨y, rfl, hy⟩ := hrow h2
      exact ⟨y, h1, hy⟩)
    refine ⟨_, (List.range l).map f, hcs, ⟨some a, c, by rw [List.length_map, List.length_range], by rw [List.length_map, List.length_range]; exact hl, hm, fun h0 => ?_⟩, fun y hy => ?_⟩
    · rw [List.length_map, List.length_range] at h0
      have hrl : ∀ y ∈ ((List.range l).map f).map enc', y.length = sz := fun y hy => by
        obtain ⟨z, hz, rfl⟩ := List.mem_map.1 hy
        obtain ⟨i, hi, rfl⟩ := List.mem_map.1 hz
        obtain ⟨_, h2, _⟩ := World.cells?_some (hf i (List.mem_range.1 hi)).1
        exact h2
      have hc0 : ∃ u, W.cell? a = some u := by
        obtain ⟨_, h2, h3⟩ := World.cells?_some (hf 0 h0).1
        have := h3 0 hpos
        have e0 : (a.add (0 * sz)).add 0 = a := by simp [Addr.add]
        rw [e0, List.getElem?_eq_getElem (by omega)] at this
        exact ⟨_, this⟩
      obtain ⟨u0, hu0⟩ := hc0
      have hsp := World.cell?_spot hu0
      obtain ⟨b, o, s⟩ := a
      simp only at hsp
      subst hsp
      refine ⟨b, o, rfl, block_lt_of_cell hu0, fun j u hj => ?_⟩
      have hjl := (List.getElem?_eq_some_iff.1 hj).1
      have hfl : (((List.range l).map f).map enc').flatten.length = l * sz := by
        have := flatMap_len (fun x : List Value => x.map fun _ => (0 : Int)) sz (((List.range l).map f).map enc') (fun x hx => by rw [List.length_map]; exact hrl x hx)
        rw [List.length_map, List.length_map, List.length_range] at this
        rw [← this, List.length_flatMap, List.length_flatten]
        simp
      rw [hfl] at hjl
      have hq : j / sz < l := Nat.div_lt_of_lt_mul (by rw [Nat.mul_comm]; exact hjl)
      have hr : j % sz < sz := Nat.mod_lt _ hpos
      have hjd : j = j / sz * sz + j % sz := by rw [Nat.mul_comm]; exact (Nat.div_add_mod j sz).symm
      have h4 := flat_get hrl (k := j / sz) (j := j % sz) (by rw [List.length_map, List.length_map, List.length_range]; exact hq) hr
      rw [← hjd, hj] at h4
      obtain ⟨_, h6, h7⟩ := World.cells?_some (hf (j / sz) hq).1
      have h8 := h7 (j % sz) hr
      rw [Addr.add_lit, Addr.add_lit, Nat.add_assoc, ← hjd] at h8
      rw [h8]
      simp only [List.getElem_map, List.getElem_range] at h4
      exact h4.symm
    · obtain ⟨i, hi, rfl⟩ := List.mem_map.1 hy
      exact (hf i (List.mem_range.1 hi)).2
instance : Inhabited (POp × Value) := ⟨(⟨0, 0, 0, [], []⟩, .int .i64 0)⟩
instance : Inhabited (List Int × Int) := ⟨([], 0)⟩
/-- One event. -/
theorem open_event {fuel : Nat} {cs : List Value} {x : DataW H × List MemPlace} (h : DataW.trod enc Tryz.prog W base sp held fuel 68 cs = some x) : ∃ y : List Int, cs = iv y ∧ (y.length = 12 ∧ ∀ z ∈ y, I64 z) := by
  obtain ⟨xs, n, _, _, hlen, hxs, hel⟩ := DataW.trod_struct Tryz.underlying68 h
  rw [cEv] at hlen
  have h0 : DataW.trod enc Tryz.prog W base sp held n 3 ((cs.drop 0).take (Tryz.prog.cellsOf 3)) = xs[0]? := hel 0 _ rfl
  have h1 : DataW.trod enc Tryz.prog W base sp held n 3 ((cs.drop 1).take (Tryz.prog.cellsOf 3)) = xs[1]? := hel 1 _ rfl
  have h2 : DataW.trod enc Tryz.prog W base sp held n 3 ((cs.drop 2).take (Tryz.prog.cellsOf 3)) = xs[2]? := hel 2 _ rfl
  have h3 : DataW.trod enc Tryz.prog W base sp held n 3 ((cs.drop 3).take (Tryz.prog.cellsOf 3)) = xs[3]? := hel 3 _ rfl
  have h4 : DataW.trod enc Tryz.prog W base sp held n 66 ((cs.drop 4).take (Tryz.prog.cellsOf 66)) = xs[4]? := hel 4 _ rfl
  rw [c3] at h0 h1 h2 h3
  rw [c47] at h4
  rw [List.getElem?_eq_getElem (by rw [hxs]; decide)] at h0 h1 h2 h3 h4
  obtain ⟨k, e0, i0⟩ := open_num h0
  obtain ⟨a, e1, i1⟩ := open_num h1
  obtain ⟨b, e2, i2⟩ := open_num h2
  obtain ⟨c, e3, i3⟩ := open_num h3
  obtain ⟨ws, e4, e4', i4⟩ := open_words h4
  refine ⟨[k, a, b, c] ++ ws, ?_, by simp [e4], fun z hz => ?_⟩
  · refine List.ext_getElem? fun j => ?_
    match j with
    | 0 => exact e0
    | 1 => exact e1
    | 2 => exact e2
    | 3 => exact e3
    | j + 4 =>
      have h5 : cs[j + 4]? = (cs.drop 4)[j]? := by rw [List.getElem?_drop, Nat.add_comm]
      have h6 : (cs.drop 4).take 8 = cs.drop 4 := List.take_of_length_le (by simp [hlen])
      rw [h6] at e4'
      rw [h5, e4']
      unfold iv
      rw [List.map_append, List.getElem?_append_right (by simp)]
      simp
  · simp only [List.mem_append, List.mem_cons, List.not_mem_nil, or_false] at hz
    rcases hz with (rfl | rfl | rfl | rfl) | h
    · exact i0
    · exact i1
    · exact i2
    · exact i3
    · exact i4 z h
theorem flat_rows (l : List (List Int)) : (l.map fun y => iv y).flatten = iv l.flatten := by
  induction l with
  | nil => rfl
  | cons y r ih =>
    show iv y ++ (r.map fun y => iv y).flatten = _
    rw [ih]
    unfold iv
    simp
theorem open_events {v : Value} {d : DataW H} {p : List MemPlace} (hv : ∃ a len cap, v = .slice a len cap) (h : DataW.Trod enc Tryz.prog W base sp held 24 v d p) : ∃ l : List (List Int), EvI l ∧ Rd W v l.length (iv l.flatten) := by
  obtain ⟨a, len, cap, rfl⟩ := hv
  obtain ⟨fuel, hf⟩ := h
  obtain ⟨v', ys, hcs, hr, hy⟩ := open_rows Tryz.underlying24 cEv (by decide) (fun y : List Int => iv y) (fun y => y.length = 12 ∧ ∀ z ∈ y, I64 z) open_event hf
  have hv' : v' = .slice a len cap := by
    simp [Value.cells] at hcs
    exact hcs.symm
  subst hv'
  rw [flat_rows] at hr
  exact ⟨ys, hy, hr⟩
end
end Go.Proofs.YtpojhplnhppcpaaGreatDoor
