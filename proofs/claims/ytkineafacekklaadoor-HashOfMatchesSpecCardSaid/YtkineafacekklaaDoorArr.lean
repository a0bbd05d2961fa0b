/- Arrays: blocks of many cells, read and written by one and whole. -/
import Derived.Test.YtkineafacekklaaDoorRot
import Derived.Test.YtkineafacekklaaDoorSha2
import Derived.StillTailTactics
namespace Go.Proofs.YtkineafacekklaaDoor
open Go.RowKit
/-- The cells of 32-bit words. -/
def uv (l : List Nat) : List Value := l.map fun x : Nat => Value.int .u32 (x : Int)
theorem uv_len (l : List Nat) : (uv l).length = l.length := by simp [uv]
theorem uv_one (l : List Nat) : ∀ u ∈ uv l, u.oneCell' = true := by
  intro u hu
  obtain ⟨_, _, rfl⟩ := List.mem_map.1 hu
  rfl
/-- Block b holds the cells. -/
def Arr (w : World) (b : Nat) (t : TypeId) (cs : List Value) : Prop := w.heap[b]? = some (.cells cs.toArray t (0, 0))
theorem Arr.cell {w : World} {b : Nat} {t : TypeId} {cs : List Value} (h : Arr w b t cs) {j : Nat} {u : Value} (hj : cs[j]? = some u) : w.cell? ⟨b, j, none⟩ = some u := by
  rw [cell_of_row w b j _ t (0, 0) h]
  simpa using hj
theorem Arr.free {w : World} {b : Nat} {t : TypeId} {cs : List Value} (h : Arr w b t cs) (j : Nat) : w.frozen? ⟨b, j, none⟩ = false := frozen_of_row w b j _ t h
theorem Arr.keep {w w2 : World} {b : Nat} {t : TypeId} {cs : List Value} (h : Arr w b t cs) (hb : Below w.heap.size w w2) : Arr w2 b t cs := blk_keep h hb
theorem Arr.set {w : World} {b : Nat} {t : TypeId} {cs : List Value} (h : Arr w b t cs) (j : Nat) (u : Value) : Arr (w.setCell ⟨b, j, none⟩ u) b t (cs.set j u) := by
  unfold Arr
  rw [heap_setCell_same w b j _ t u h]
  simp
theorem Arr.other {w : World} {b : Nat} {t : TypeId} {cs : List Value} (h : Arr w b t cs) {a : Addr} (hne : b ≠ a.block) (u : Value) : Arr (w.setCell a u) b t cs := (heap_setCell_other w a b u hne).trans h
theorem Arr.row {w : World} {b : Nat} {t : TypeId} {cs : List Value} (h : Arr w b t cs) (ds : List Value) : Arr (w.setRow b ds.toArray) b t ds := setRow_heap w b _ _ t _ h
theorem Arr.row_other {w : World} {b g : Nat} {t : TypeId} {cs : List Value} (h : Arr w b t cs) (hne : b ≠ g) (ds : Array Value) : Arr (w.setRow g ds) b t cs := (setRow_other w g b ds hne).trans h
theorem Arr.new (w : World) (cs : List Value) (t : TypeId) : Arr (w.alloc (.cells cs.toArray t)) w.heap.size t cs := heap_alloc_last w _
theorem Arr.lt {w : World} {b : Nat} {t : TypeId} {cs : List Value} (h : Arr w b t cs) : b < w.heap.size := lt_of_block h
theorem bel_row {B : Nat} {a w : World} (h : Below B a w) {g : Nat} (hg : B ≤ g) (cs : Array Value) : Below B a (w.setRow g cs) :=
  h.trans ⟨rfl, rfl, rfl, by simp, fun k hk => setRow_other w g k cs (by omega)⟩
theorem uv_at {l : List Nat} {k : Nat} (h : k < l.length) : (uv l)[k]? = some (.int .u32 (l.getD k 0 : Nat)) := by simp [uv, h]
theorem uv_set (l : List Nat) (k x : Nat) : (uv l).set k (.int .u32 (x : Int)) = uv (l.set k x) := by simp [uv, List.map_set]
theorem bv_set (l : List UInt8) (k : Nat) (x : UInt8) : (bv l).set k (.int .u8 (x.toNat : Int)) = bv (l.set k x) := by simp [bv, List.map_set]
theorem size51 : (Tryd.prog.info? 51).map (·.size) = some 64 := by kernel_rfl
theorem size73 : (Tryd.prog.info? 73).map (·.size) = some 64 := by kernel_rfl
theorem size50 : (Tryd.prog.info? 50).map (·.size) = some 8 := by kernel_rfl
theorem size53 : (Tryd.prog.info? 53).map (·.size) = some 73 := by kernel_rfl
theorem size47 : (Tryd.prog.info? 47).map (·.size) = some 32 := by kernel_rfl
theorem size58 : (Tryd.prog.info? 58).map (·.size) = some 16 := by kernel_rfl
theorem size49 : (Tryd.prog.info? 49).map (·.size) = some 1 := by kernel_rfl
theorem size5 : (Tryd.prog.info? 5).map (·.size) = some 1 := by kernel_rfl
theorem index51 (l : List UInt8) (k : Nat) (h : k < 64) (hl : l.length = 64) (w : World) : (Instr.index 51 (.agg (bv l).toArray) (.int .i64 (k : Int))).run Tryd.prog w = .ok (.int .u8 ((l.getD k 0).toNat : Int)) w := by
  obtain ⟨i5, hi5, hs5⟩ := Option.map_eq_some_iff.1 size5
  simp [Instr.index, asIntOf, run_underlying Tryd.underlying51, sizeOf, typeInfo, hi5, hs5, h]
  simp [part, isAgg, underlying, Tryd.underlying5, bv, hl, h]
theorem index50 (l : List Nat) (k : Nat) (h : k < 8) (hl : l.length = 8) (w : World) : (Instr.index 50 (.agg (uv l).toArray) (.int .i64 (k : Int))).run Tryd.prog w = .ok (.int .u32 (l.getD k 0 : Nat)) w := by
  obtain ⟨i5, hi5, hs5⟩ := Option.map_eq_some_iff.1 size49
  simp [Instr.index, asIntOf, run_underlying Tryd.underlying50, sizeOf, typeInfo, hi5, hs5, h]
  simp [part, isAgg, underlying, Tryd.underlying49, uv, hl, h]
theorem hp_old {w : World} (o : Obj) {i : Nat} (h : i < w.heap.size) : (w.alloc o).heap[i]? = w.heap[i]? := by
  show (w.heap.push o)[i]? = w.heap[i]?
  rw [Array.getElem?_push, if_neg (Nat.ne_of_lt h)]
theorem a3_0 (w : World) (A B C : Obj) : (((w.alloc A).alloc B).alloc C).heap[w.heap.size]? = some A := by
  rw [hp_old C (by simp; omega)]; exact heap_alloc2_old w A B
theorem a3_1 (w : World) (A B C : Obj) : (((w.alloc A).alloc B).alloc C).heap[w.heap.size + 1]? = some B := by
  rw [hp_old C (by simp)]; exact heap_alloc2_new w A B
theorem a3_2 (w : World) (A B C : Obj) : (((w.alloc A).alloc B).alloc C).heap[w.heap.size + 2]? = some C := by
  have h := heap_alloc_last ((w.alloc A).alloc B) C
  simpa using h
theorem a2_0 (w : World) (A B : Obj) : ((w.alloc A).alloc B).heap[w.heap.size]? = some A := heap_alloc2_old w A B
theorem a2_1 (w : World) (A B : Obj) : ((w.alloc A).alloc B).heap[w.heap.size + 1]? = some B := heap_alloc2_new w A B
theorem Arr3_0 (w : World) (cs : List Value) (t : TypeId) (B C : Obj) : Arr (((w.alloc (.cells cs.toArray t)).alloc B).alloc C) w.heap.size t cs := a3_0 w _ B C
theorem Arr3_1 (w : World) (A : Obj) (cs : List Value) (t : TypeId) (C : Obj) : Arr (((w.alloc A).alloc (.cells cs.toArray t)).alloc C) (w.heap.size + 1) t cs := a3_1 w A _ C
theorem Arr2_0 (w : World) (cs : List Value) (t : TypeId) (B : Obj) : Arr ((w.alloc (.cells cs.toArray t)).alloc B) w.heap.size t cs := a2_0 w _ B
theorem bel2 (w : World) (A B : Obj) : Below w.heap.size w ((w.alloc A).alloc B) := (bel_new w A).alloc (by simp) _
theorem bel3 (w : World) (A B C : Obj) : Below w.heap.size w (((w.alloc A).alloc B).alloc C) := (bel2 w A B).alloc (by simp; omega) _
theorem Arr.range {w : World} {b : Nat} {t : TypeId} {cs : List Value} (h : Arr w b t cs) : w.rangeAt b 0 cs := fun j v hv => by
  rw [Nat.zero_add]; exact h.cell hv
section
variable {ops : Array Oper} {rest : List Oper} {o : Oper} {a : Act} {Q : Exit → Act → World → Prop} {w : World}
/-- A whole block is read. -/
theorem arm_row (ty g t : Nat) (cs : List Value) (hA : Arr w g t cs) (d : TypeDesc) (hu : Tryd.prog.underlying ty = some d) (hd : d.isRow = true) (hi : (Tryd.prog.info? ty).map (·.size) = some cs.length)
    (hgd : o.guard = none) (x : Operand) (ho : o.op = .load ty x) (hx : a.eval x = .pointer (some ⟨g, 0, none⟩))
    (h : wpList Tryd.prog ops Q rest (a.put o.dst (.agg cs.toArray)) w) : wpList Tryd.prog ops Q (o :: rest) a w :=
  wpList_load_mid hgd ty x ho g 0 hx cs d hA.range hu hd hi h
/-- A part of a block is read. -/
theorem arm_mid (ty g f : Nat) (cs : List Value) (hA : w.rangeAt g f cs) (d : TypeDesc) (hu : Tryd.prog.underlying ty = some d) (hd : d.isRow = true) (hi : (Tryd.prog.info? ty).map (·.size) = some cs.length)
    (hgd : o.guard = none) (x : Operand) (ho : o.op = .load ty x) (hx : a.eval x = .pointer (some ⟨g, f, none⟩))
    (h : wpList Tryd.prog ops Q rest (a.put o.dst (.agg cs.toArray)) w) : wpList Tryd.prog ops Q (o :: rest) a w :=
  wpList_load_mid hgd ty x ho g f hx cs d hA hu hd hi h
/-- A whole block is written. -/
theorem arm_put (ty g t : Nat) (cs ds : List Value) (hA : Arr w g t cs) (hi : (Tryd.prog.info? ty).map (·.size) = some ds.length) (hl : cs.length = ds.length) (h1 : ∀ v ∈ ds, v.oneCell' = true)
    (hgd : o.guard = none) (x y : Operand) (ho : o.op = .store ty x y) (hx : a.eval x = .pointer (some ⟨g, 0, none⟩)) (hy : a.eval y = .agg ds.toArray)
    (h : wpList Tryd.prog ops Q rest (a.put o.dst undef) (w.setRow g ds.toArray)) : wpList Tryd.prog ops Q (o :: rest) a w :=
  wpList_store_row hgd ty x y ho g ds.toArray hx hy t cs.toArray hA (by simpa using hi) (by simpa using hl) (all_oneCell_toArray h1) h
/-- A whole block that has just been made is written. -/
theorem arm_new (ty : Nat) (ds : List Value) (n : Nat) (hn : ds.length = n) (hi : (Tryd.prog.info? ty).map (·.size) = some n) (h1 : ∀ v ∈ ds, v.oneCell' = true) (c : Array Value) (hc : c.size = n)
    (hgd : o.guard = none) (x y : Operand) (ho : o.op = .store ty x y) (hx : a.eval x = .pointer (some ⟨w.heap.size, 0, none⟩)) (hy : a.eval y = .agg ds.toArray)
    (h : wpList Tryd.prog ops Q rest (a.put o.dst undef) (w.alloc (.cells ds.toArray ty))) : wpList Tryd.prog ops Q (o :: rest) a (w.alloc (.cells c ty)) := by
  refine wpList_plain hgd fun K hK => ?_
  have hrun := run_storeAt_new (P := Tryd.prog) w ty c ds.toArray (by rw [hi, ← hn]; simp) (by rw [hc, ← hn]; simp) (all_oneCell_toArray h1)
  unfold Oper.wp execOp
  simp only [ho, hx, hy, hrun, Sem.run_bind, Sem.run_pure, Result.andThen_ok]
  exact hK _ _ h
end
/-- A whole block is handed back. -/
theorem ret_row {fn : Func} {p : Tmp} {ty : TypeId} (h : fn.results = #[.cell p ty]) (tmps : Array Value) (w : World) (g t : Nat) (cs : List Value) (hA : Arr w g t cs) (hp : tmps.getD p undef = .pointer (some ⟨g, 0, none⟩))
    (d : TypeDesc) (hu : Tryd.prog.underlying ty = some d) (hd : d.isRow = true) (hi : (Tryd.prog.info? ty).map (·.size) = some cs.length) :
    (results fn tmps).run Tryd.prog w = .ok (.agg cs.toArray) w := by
  have hp' : tmps[p]?.getD undef = .pointer (some ⟨g, 0, none⟩) := by simpa using hp
  simp [results, h, hp', asAddr, run_loadVar_mid w g 0 ty cs d hA.range hu hd hi]
end Go.Proofs.YtkineafacekklaaDoor
