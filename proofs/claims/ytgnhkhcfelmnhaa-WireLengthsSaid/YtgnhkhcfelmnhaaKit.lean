/- Words for byte sequences in memory, and the appends that the wire functions make, over the translated program. -/
import Derived.Test.YtgnhkhcfelmnhaaProg
import Derived.Test.YtgnhkhcfelmnhaaBits
import Derived.WalkKit
import Derived.WalkSpells
import Derived.Deep.AppendLies
import Derived.Deep.AppendSrc
import Derived.Lib.AppendStr
import Derived.Lib.Hide
import Derived.Laws.BytesString
import Derived.Laws.BytesArg
import Derived.Deep.MidRow
import Derived.Deep.WholeRow
namespace Go.Proofs.Ytgnhkhcfelmnhaa
open Go.RowKit
theorem info5 : (Try.prog.info? 5).map (fun i => (i.zero, i.size, i.bytes)) = some (some (.int .u8 0), 1, 1) := by kernel_rfl
/-- Fits 64 bits. -/
def U64 (k : Nat) : Prop := k < 18446744073709551616
/-- The cells of a byte sequence. -/
def bv (l : List UInt8) : List Value := l.map fun b => Value.int .u8 (b.toNat : Int)
theorem bv_len (l : List UInt8) : (bv l).length = l.length := by simp [bv]
theorem bv_append (a b : List UInt8) : bv (a ++ b) = bv a ++ bv b := by simp [bv]
theorem bv_one (l : List UInt8) : ∀ u ∈ bv l, u.oneCell' = true := by
  intro u hu
  obtain ⟨_, _, rfl⟩ := List.mem_map.1 hu
  rfl
/-- The cells from an address on (if there are any). -/
def RV (w : World) (A : Option Addr) (xs : List Value) : Prop := xs ≠ [] → ∃ b o, A = some ⟨b, o, none⟩ ∧ ∀ j u, xs[j]? = some u → w.cell? ⟨b, o + j, none⟩ = some u
theorem add_lit' (b o n : Nat) : (⟨b, o, none⟩ : Addr).add n = ⟨b, o + n, none⟩ := by unfold Addr.add; split <;> simp_all
theorem spot_none {w : World} {a : Addr} {u : Value} (h : w.cell? a = some u) : a.spot = none := by
  unfold World.cell? at h
  split at h
  · split at h
    · cases h
    · rename_i hs
      cases h0 : a.spot <;> simp_all
  · cases h
theorem RV.of_add {w : World} {A : Option Addr} {xs : List Value} (h : xs ≠ [] → ∃ ad, A = some ad ∧ ∀ j u, xs[j]? = some u → w.cell? (ad.add j) = some u) : RV w A xs := by
  intro hx
  obtain ⟨ad, rfl, hc⟩ := h hx
  have h0 : w.cell? (ad.add 0) = some (xs[0]'(List.length_pos_iff.2 hx)) := hc 0 _ (List.getElem?_eq_getElem _)
  have hs : ad.spot = none := spot_none (by simpa [Addr.add] using h0)
  obtain ⟨b, o, sp⟩ := ad
  cases hs
  exact ⟨b, o, rfl, fun j u hu => by rw [← add_lit']; exact hc j u hu⟩
theorem RV.nil (w : World) (A : Option Addr) : RV w A [] := fun h => absurd rfl h
theorem RV.none_ {w : World} {xs : List Value} (h : RV w none xs) : xs = [] := by
  rcases xs with _ | ⟨x, r⟩
  · rfl
  · obtain ⟨_, _, h0, _⟩ := h (by simp)
    cases h0
theorem RV.below {w w' : World} {A : Option Addr} {xs : List Value} (h : RV w A xs) (hb : Below w.heap.size w w') : RV w' A xs := by
  intro hx
  obtain ⟨b, o, hA, hc⟩ := h hx
  refine ⟨b, o, hA, fun j u hu => ?_⟩
  have h1 := hc j u hu
  rw [hb.cell (p := ⟨b, o + j, none⟩) (block_lt_of_cell h1)]
  exact h1
theorem RV.cut {w : World} {A : Option Addr} {xs : List Value} (h : RV w A xs) {k cap : Nat} (hk : k ≤ xs.length) (hc : xs.length ≤ cap) : RV w (if cap = k then A else A.map (·.add k)) (xs.drop k) := by
  intro hx
  have hlt : k < xs.length := by
    rcases Nat.lt_or_ge k xs.length with h1 | h1
    · exact h1
    · exact absurd (List.drop_eq_nil_of_le h1) hx
  obtain ⟨b, o, rfl, hcell⟩ := h (by intro h0; subst h0; simp at hlt)
  rw [if_neg (by omega)]
  refine ⟨b, o + k, by simp [add_lit'], fun j u hu => ?_⟩
  rw [Nat.add_assoc]
  exact hcell _ u (by rw [← hu, List.getElem?_drop])
theorem RV.take {w : World} {A : Option Addr} {xs : List Value} (h : RV w A xs) (k : Nat) : RV w A (xs.take k) := by
  intro hx
  obtain ⟨b, o, hA, hc⟩ := h (by intro h0; subst h0; simp at hx)
  refine ⟨b, o, hA, fun j u hu => hc j u ?_⟩
  rw [List.getElem?_take] at hu
  split at hu
  · exact hu
  · cases hu
/-- A byte sequence of the call's own. -/
def Own (w : World) (B : Nat) (v : Value) (l : List UInt8) : Prop := w.ownsRow B 5 1 v l.length (bv l)
theorem Own.nil (w : World) (B : Nat) : Own w B (.slice none 0 0) [] := World.ownsRow_nil w B 5 1
theorem Own.form {w : World} {B : Nat} {v : Value} {l : List UInt8} (h : Own w B v l) : ∃ A cap, v = .slice A l.length cap ∧ l.length ≤ cap ∧ cap ≤ maxLen ∧ RV w A (bv l) := by
  rcases h.2 with ⟨rfl, h0⟩ | ⟨g, cap, cur, rfl, hb, hg, hc, hm, hs, ht⟩
  · have : l = [] := List.eq_nil_of_length_eq_zero h0
    subst this
    exact ⟨none, 0, rfl, by simp, by simp [maxLen], RV.nil _ _⟩
  · refine ⟨_, cap, rfl, hc, hm, RV.of_add fun _ => ⟨_, rfl, ?_⟩⟩
    exact h.cells (g := g) rfl
theorem Own.below {w w' : World} {B : Nat} {v : Value} {l : List UInt8} (h : Own w B v l) (hb : Below w.heap.size w w') : Own w' B v l :=
  World.ownsRow.kept (row := none) h ⟨hb.os, hb.tape, hb.output, hb.size, fun k hk _ => hb.block k hk⟩ (by cases h0 : v.ownBlock <;> simp)
theorem Own.blk {w : World} {B : Nat} {v : Value} {l : List UInt8} (h : Own w B v l) : ∀ k, v.ownBlock = some k → B ≤ k := fun k hk => (World.ownsRow.lt h k hk).1
theorem Own.mono {w : World} {B B' : Nat} {v : Value} {l : List UInt8} (h : Own w B v l) (hB : B' ≤ B) : Own w B' v l := by
  refine ⟨h.1, ?_⟩
  rcases h.2 with h0 | ⟨g, cap, cur, hv, hb, r⟩
  · exact .inl h0
  · exact .inr ⟨g, cap, cur, hv, by omega, r⟩
/-- The end of a function that appends l' to what it got. -/
def Ext (B : Nat) (w : World) (l : List UInt8) (e : Ending) (w' : World) : Prop := ∃ v', e = .returned v' ∧ Own w' B v' l ∧ Below B w w'

section
variable {ops : Array Oper} {rest : List Oper} {o : Oper} {a : Act} {Q : Exit → Act → World → Prop} {w : World}
/-- append(s, b), behind the box of b. -/
theorem arm_one (b : UInt8) {n : Int} (hb : n = (b.toNat : Int)) (hgd : o.guard = none) (s x : Operand) (ho : o.op = .call { callee := .builtin .append, args := #[s, x], argTypes := #[28, 28] })
    (B : Nat) (v : Value) (l : List UInt8) (hs : a.eval s = v) (hown : Own w B v l) (hx : a.eval x = .slice (some ⟨w.heap.size, 0, none⟩) 1 1)
    (hlen : l.length + 1 ≤ 140737488355328) (hB : B ≤ w.heap.size)
    (h : ∀ v' w', Own w' B v' (l ++ [b]) → Below B w w' → wpList Try.prog ops Q rest (a.put o.dst v') w') : wpList Try.prog ops Q (o :: rest) a (w.alloc (.cells #[.int .u8 n] 5)) := by
  subst hb
  obtain ⟨i0, hi, hz0, hz1, hz2⟩ := info_parts info5
  refine wpList_append_own _ hgd s x 28 ho B 5 i0 (.int .u8 0) 1 1 Try.underlying28 hi hz0 hz1 hz2 rfl (by decide) v l.length (bv l) hs (World.ownsRow.alloc hown _) ⟨w.heap.size, 0, none⟩ 1 1 [.int .u8 (b.toNat : Int)] hx rfl (cell_one_new _ _ _) (fun x hx => by simp at hx; subst hx; rfl) (by unfold maxLen; omega) (by omega) (by simp; omega) ?_
  intro v' w' ho' hg _
  refine h v' w' ?_ (((Below.refl B w).alloc hB _).grown hg (by simp; omega) hown.blk)
  unfold Own
  rw [bv_append, List.length_append]
  exact ho'
theorem arm_str (hgd : o.guard = none) (s x : Operand) (ho : o.op = .call { callee := .builtin .append, args := #[s, x], argTypes := #[28, 9] })
    (B : Nat) (v : Value) (l : List UInt8) (hs : a.eval s = v) (hown : Own w B v l) (t : ByteArray) (hx : a.eval x = .string t)
    (hlen : l.length + t.size ≤ 140737488355328) (hB : B ≤ w.heap.size)
    (h : ∀ v' w', Own w' B v' (l ++ t.data.toList) → Below B w w' → wpList Try.prog ops Q rest (a.put o.dst v') w') : wpList Try.prog ops Q (o :: rest) a w := by
  obtain ⟨i0, hi, hz0, hz1, hz2⟩ := info_parts info5
  refine Go.Lib.wpList_append_own_string w hgd s x 28 9 ho B 5 i0 Try.underlying28 Try.underlying9 hi hz0 hz1 hz2 v l.length (bv l) hs hown t hx (by unfold maxLen; omega) hlen hB ?_
  intro v' w' ho' hg _
  refine h v' w' ?_ ((Below.refl B w).grown hg hB hown.blk)
  unfold Own
  rw [bv_append, List.length_append]
  have e1 : (t.data.toList).length = t.size := by rw [Array.length_toList]; rfl
  rw [e1]
  exact ho'
/-- append(s, x...) where x is whatever slice of bytes. -/
theorem arm_bytes (hgd : o.guard = none) (s x : Operand) (ho : o.op = .call { callee := .builtin .append, args := #[s, x], argTypes := #[28, 28] })
    (B : Nat) (v : Value) (l : List UInt8) (hs : a.eval s = v) (hown : Own w B v l) (A : Option Addr) (cap : Nat) (r : List UInt8) (hx : a.eval x = .slice A r.length cap) (hr : RV w A (bv r))
    (hlen : l.length + r.length ≤ 140737488355328) (hB : B ≤ w.heap.size)
    (h : ∀ v' w', Own w' B v' (l ++ r) → Below B w w' → wpList Try.prog ops Q rest (a.put o.dst v') w') : wpList Try.prog ops Q (o :: rest) a w := by
  obtain ⟨i0, hi, hz0, hz1, hz2⟩ := info_parts info5
  rcases A with _ | ad
  · have hr0 : r = [] := by simpa [bv] using hr.none_
    subst hr0
    have hrun : ∀ c, (Builtin.append_ #[28, 28] o.type #[v, .slice none 0 c]).run Try.prog w = .ok v w := by
      intro c
      rcases hown.2 with ⟨rfl, h0⟩ | ⟨g, cap', cur, rfl, _, _, hnc, _⟩
      · simp [Builtin.append_, run_underlying Try.underlying28, sizeOf, typeInfo, hi, Builtin.lenOf, Builtin.firstCells]
      · simp [Builtin.append_, run_underlying Try.underlying28, sizeOf, typeInfo, hi, Builtin.lenOf, Builtin.firstCells, hnc, storeCells]
    refine wpList_plain hgd fun K hK => ?_
    unfold Oper.wp
    simp only [List.length_nil] at hx
    simp [execOp, ho, resolve, invoke, builtin, hs, hx, hrun, Result.andThen]
    exact hK _ _ (h v w (by simpa using hown) (Below.refl _ _))
  · refine wpList_append_own w hgd s x 28 ho B 5 i0 (.int .u8 0) 1 1 Try.underlying28 hi hz0 hz1 hz2 rfl (by decide) v l.length (bv l) hs hown ad r.length cap (bv r) hx (by simp [bv]) ?_ (bv_one r) (by unfold maxLen; omega) (by omega) hB ?_
    · intro j u hu
      obtain ⟨b', o', he, hc⟩ := hr (by intro h0; rw [h0] at hu; simp at hu)
      cases he
      rw [add_lit']
      exact hc j u hu
    · intro v' w' ho' hg _
      refine h v' w' ?_ ((Below.refl B w).grown hg hB hown.blk)
      unfold Own
      rw [bv_append, List.length_append]
      exact ho'
end
/-- The cells of integers, of strings, of digests. -/
def iv (l : List Int) : List Value := l.map fun z => Value.int .i64 z
def sv (l : List ByteArray) : List Value := l.map fun s => Value.string s
theorem iv_len (l : List Int) : (iv l).length = l.length := by simp [iv]
theorem sv_len (l : List ByteArray) : (sv l).length = l.length := by simp [sv]
theorem RV.at_ {w w' : World} {A : Option Addr} {xs : List Value} (h : RV w A xs) (hb : Below w.heap.size w w') {k : Nat} {u : Value} (hk : xs[k]? = some u) : ∃ b o, A = some ⟨b, o, none⟩ ∧ w'.cell? ⟨b, o + k, none⟩ = some u := by
  obtain ⟨b, o, hA, hc⟩ := h.below hb (by intro h0; subst h0; simp at hk)
  exact ⟨b, o, hA, hc k u hk⟩
theorem iv_at {l : List Int} {k : Nat} (h : k < l.length) : (iv l)[k]? = some (.int .i64 l[k]) := by simp [iv, h]
theorem sv_at {l : List ByteArray} {k : Nat} (h : k < l.length) : (sv l)[k]? = some (.string l[k]) := by simp [sv, h]
theorem bv_at {l : List UInt8} {k : Nat} (h : k < l.length) : (bv l)[k]? = some (.int .u8 (l[k].toNat : Int)) := by simp [bv, h]
theorem Own.alloc {w : World} {B : Nat} {v : Value} {l : List UInt8} (h : Own w B v l) (ob : Obj) : Own (w.alloc ob) B v l := World.ownsRow.alloc h ob
theorem RV.new (w : World) (cs : List Value) (t : TypeId) : RV (w.alloc (.cells cs.toArray t)) (some ⟨w.heap.size, 0, none⟩) cs := by
  intro _
  refine ⟨_, _, rfl, fun j u hu => ?_⟩
  have h1 := cell_of_row (w.alloc (.cells cs.toArray t)) w.heap.size (0 + j) cs.toArray t (0, 0) (heap_alloc_new w _)
  rw [h1]
  simpa using hu
/-- The cells of digests. -/
def dv (l : List (List UInt8)) : List Value := l.flatMap bv
theorem dv_len {l : List (List UInt8)} (h : ∀ d ∈ l, d.length = 16) : (dv l).length = l.length * 16 := by
  induction l with
  | nil => rfl
  | cons d r ih =>
    have h1 := h d (by simp)
    have h2 := ih fun x hx => h x (by simp [hx])
    simp only [dv, List.flatMap_cons, List.length_append, bv_len, List.length_cons] at h2 ⊢
    omega
theorem dv_at {l : List (List UInt8)} (h : ∀ d ∈ l, d.length = 16) {k j : Nat} (hk : k < l.length) (hj : j < 16) : (dv l)[k * 16 + j]? = (bv l[k])[j]? := by
  induction l generalizing k with
  | nil => simp at hk
  | cons d r ih =>
    have h1 := h d (by simp)
    cases k with
    | zero =>
      show ((bv d ++ dv r)[0 * 16 + j]?) = (bv d)[j]?
      rw [Nat.zero_mul, Nat.zero_add, List.getElem?_append_left (by rw [bv_len]; omega)]
    | succ k =>
      show ((bv d ++ dv r)[(k + 1) * 16 + j]?) = (bv (r[k]'(by simpa using hk)))[j]?
      rw [List.getElem?_append_right (by rw [bv_len]; omega), bv_len, h1, show (k + 1) * 16 + j - 16 = k * 16 + j from by omega]
      exact ih (fun x hx => h x (by simp [hx])) (by simpa using hk)
theorem RV.digest {w w' : World} {A : Option Addr} {l : List (List UInt8)} (h : RV w A (dv l)) (hd : ∀ d ∈ l, d.length = 16) (hb : Below w.heap.size w w') {k : Nat} (hk : k < l.length) :
    ∃ b o, A = some ⟨b, o, none⟩ ∧ w'.rangeAt b (o + k * 16) (bv l[k]) := by
  have hne : dv l ≠ [] := by
    intro h0
    have := dv_len hd
    rw [h0] at this
    simp at this
    omega
  obtain ⟨b, o, hA, hc⟩ := h.below hb hne
  refine ⟨b, o, hA, fun j v hv => ?_⟩
  have hj : j < 16 := by
    have h1 := (List.getElem?_eq_some_iff.1 hv).1
    rw [bv_len, hd _ (List.getElem_mem hk)] at h1
    exact h1
  rw [Nat.add_assoc]
  exact hc _ v (by rw [dv_at hd hk hj]; exact hv)
theorem size57 : (Try.prog.info? 57).map (·.size) = some 16 := by kernel_rfl
theorem range_new (w : World) (cs : List Value) (t : TypeId) : (w.alloc (.cells cs.toArray t)).rangeAt w.heap.size 0 cs := by
  intro j u hu
  have h1 := cell_of_row (w.alloc (.cells cs.toArray t)) w.heap.size (0 + j) cs.toArray t (0, 0) (heap_alloc_new w _)
  rw [h1]
  simpa using hu
section
variable {ops : Array Oper} {rest : List Oper} {o : Oper} {a : Act} {Q : Exit → Act → World → Prop} {w : World}
/-- A digest is read. -/
theorem arm_load57 (d : List UInt8) (hd : d.length = 16) (b f : Nat) (hc : w.rangeAt b f (bv d)) (hgd : o.guard = none) (x : Operand) (ho : o.op = .load 57 x) (hx : a.eval x = .pointer (some ⟨b, f, none⟩))
    (h : wpList Try.prog ops Q rest (a.put o.dst (.agg (bv d).toArray)) w) : wpList Try.prog ops Q (o :: rest) a w :=
  wpList_load_mid hgd 57 x ho b f hx (bv d) _ hc Try.underlying57 rfl (by rw [size57, bv_len, hd]) h
/-- A digest is written into a new block. -/
theorem arm_store57 (d : List UInt8) (hd : d.length = 16) (c : Array Value) (hs : c.size = 16) (hgd : o.guard = none) (x y : Operand) (ho : o.op = .store 57 x y)
    (hx : a.eval x = .pointer (some ⟨w.heap.size, 0, none⟩)) (hy : a.eval y = .agg (bv d).toArray)
    (h : wpList Try.prog ops Q rest (a.put o.dst undef) (w.alloc (.cells (bv d).toArray 57))) : wpList Try.prog ops Q (o :: rest) a (w.alloc (.cells c 57)) := by
  refine wpList_plain hgd fun K hK => ?_
  have hrun := run_storeAt_new (P := Try.prog) w 57 c (bv d).toArray (by rw [size57]; simp [bv_len, hd]) (by rw [hs]; simp [bv_len, hd]) (all_oneCell_toArray (bv_one d))
  unfold Oper.wp execOp
  simp only [ho, hx, hy, hrun, Sem.run_bind, Sem.run_pure, Result.andThen_ok]
  exact hK _ _ h
end
/-- The same two as the walk's own steps leave them. -/
theorem store16 (w : World) (d : List UInt8) (hd : d.length = 16) (c : Array Value) (hs : c.size = 16) :
    (storeCells ⟨w.heap.size, 0, none⟩ (bv d) 0).run Try.prog (w.alloc (.cells c 57)) = .ok () (w.alloc (.cells (bv d).toArray 57)) := by
  simpa using run_storeCells_new (P := Try.prog) w 57 c (bv d).toArray (by rw [size57]; simp [bv_len, hd]) (by rw [hs]; simp [bv_len, hd]) (all_oneCell_toArray (bv_one d))
theorem load16 (w : World) (d : List UInt8) (hd : d.length = 16) :
    (loadCellsFrom ⟨w.heap.size, 0, none⟩ 0 16 #[]).run Try.prog (w.alloc (.cells (bv d).toArray 57)) = .ok (bv d).toArray (w.alloc (.cells (bv d).toArray 57)) :=
  run_loadCellsFrom_new (P := Try.prog) w 57 (bv d).toArray 16 (by simp [bv_len, hd])
theorem arr16 (l : List Value) (h : l.length = 16) : (#[l[0]'(by omega), l[1]'(by omega), l[2]'(by omega), l[3]'(by omega), l[4]'(by omega), l[5]'(by omega), l[6]'(by omega), l[7]'(by omega), l[8]'(by omega), l[9]'(by omega), l[10]'(by omega), l[11]'(by omega), l[12]'(by omega), l[13]'(by omega), l[14]'(by omega), l[15]'(by omega)] : Array Value) = l.toArray := by
  apply Array.ext'
  apply List.ext_getElem
  · simp [h]
  · intro i h1 h2
    simp at h1
    match i, h1 with
    | 0, _ | 1, _ | 2, _ | 3, _ | 4, _ | 5, _ | 6, _ | 7, _ | 8, _ | 9, _ | 10, _ | 11, _ | 12, _ | 13, _ | 14, _ | 15, _ => rfl
    | n + 16, h => omega
theorem zag_bits (m : Nat) (hm : m < 18446744073709551616) : bits BinOp.xor IntKind.i64 (wrap64 ((m : Int) / 2)) (wrap64 (-wrap64 (bits BinOp.and IntKind.u64 (m : Int) 1))) = zag m := by
  rw [and1 m hm]
  have e1 : wrap64 ((m : Int) / 2) = ((m / 2 : Nat) : Int) := by unfold wrap64; omega
  rw [e1]
  unfold zag
  split
  · rename_i h
    have e2 : wrap64 (-wrap64 ((m % 2 : Nat) : Int)) = -1 := by rw [h]; unfold wrap64; omega
    rw [e2, xor_neg_i64 _ (by omega)]
  · rename_i h
    have h0 : m % 2 = 0 := by omega
    have e2 : wrap64 (-wrap64 ((m % 2 : Nat) : Int)) = 0 := by rw [h0]; unfold wrap64; omega
    rw [e2, xor_zero_i64 _ (by omega)]
/-- The results of a decoder of integers. -/
def tri (r : Int × Nat × Nat) : Value := .tuple #[.int .i64 r.1, .int .i64 (r.2.1 : Int), .int .i64 (r.2.2 : Int)]
theorem conv_str {w : World} {A : Option Addr} {r : List UInt8} (hr : RV w A (bv r)) (c : Nat) : (convert 28 9 (.slice A r.length c)).run Try.prog w = .ok (.string ⟨r.toArray⟩) w := by
  rcases A with _ | ad
  · have hr0 : r = [] := by simpa [bv] using hr.none_
    subst hr0
    exact run_convert_bytes_nil w 28 5 Try.underlying28 Try.underlying5 0 c 9 Try.underlying9
  · have hl : (loadCells ad r.length).run Try.prog w = .ok ((r.map fun b => (b.toNat : Int)).map (Value.int .u8)).toArray w := by
      have h := run_loadCells_list (P := Try.prog) w ad (bv r) (fun j v hv => by
        obtain ⟨b, o, he, hc⟩ := hr (by intro h0; rw [h0] at hv; simp at hv)
        cases he
        rw [add_lit']
        exact hc j v hv)
      rw [bv_len] at h
      rw [h]
      simp [bv]
    rw [run_convert_bytes_string w 28 9 5 _ r.length c Try.underlying28 Try.underlying5 Try.underlying9, run_bytesToString w ad _ c _ hl, foldl_push_bytes]
    simp [ByteArray.empty, ByteArray.emptyWithCapacity]
    show [] ++ List.map ((fun n : Int => UInt8.ofNat n.toNat) ∘ fun b : UInt8 => (b.toNat : Int)) r = r
    rw [List.nil_append, List.map_congr_left (g := id) (fun b _ => by simp), List.map_id]
end Go.Proofs.Ytgnhkhcfelmnhaa
