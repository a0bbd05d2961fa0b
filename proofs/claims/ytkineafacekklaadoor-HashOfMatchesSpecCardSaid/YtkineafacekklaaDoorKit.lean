/- Words for byte sequences in memory, and the appends that the wire functions make, over the translated program. -/
import Derived.Test.YtkineafacekklaaDoorProg
import Derived.Test.YtkineafacekklaaDoorBits
import Derived.WalkKit
import Derived.WalkSpells
import Derived.Deep.AppendLies
import Derived.Deep.AppendSrc
import Derived.Lib.AppendStr
import Derived.Lib.Hide
import Derived.Laws.BytesString
import Derived.Laws.BytesArg
import Derived.Deep.MidRow
import Derived.Deep.WholeRow
namespace Go.Proofs.YtkineafacekklaaDoor
open Go.RowKit
theorem info5 : (Tryd.prog.info? 5).map (fun i => (i.zero, i.size, i.bytes)) = some (some (.int .u8 0), 1, 1) := by kernel_rfl
/-- Fits 64 bits. -/
def U64 (k : Nat) : Prop := k < 18446744073709551616
/-- The cells of a byte sequence. -/
def bv (l : List UInt8) : List Value := l.map fun b => Value.int .u8 (b.toNat : Int)
theorem bv_len (l : List UInt8) : (bv l).length = l.length := by simp [bv]
theorem bv_append (a b : List UInt8) : bv (a ++ b) = bv a ++ bv b := by simp [bv]
theorem bv_one (l : List UInt8) : ∀ u ∈ bv l, u.oneCell' = true := by
  intro u hu
  obtain ⟨_, _, rfl⟩ := List.mem_map.1 hu
  rfl
/-- The cells from an address on (if there are any). -/
def RV (w : World) (A : Option Addr) (xs : List Value) : Prop := xs ≠ [] → ∃ b o, A = some ⟨b, o, none⟩ ∧ ∀ j u, xs[j]? = some u → w.cell? ⟨b, o + j, none⟩ = some u
theorem add_lit' (b o n : Nat) : (⟨b, o, none⟩ : Addr).add n = ⟨b, o + n, none⟩ := by unfold Addr.add; split <;> simp_all
theorem spot_none {w : World} {a : Addr} {u : Value} (h : w.cell? a = some u) : a.spot = none := by
  unfold World.cell? at h
  split at h
  · split at h
    · cases h
    · rename_i hs
      cases h0 : a.spot <;> simp_all
  · cases h
theorem RV.of_add {w : World} {A : Option Addr} {xs : List Value} (h : xs ≠ [] → ∃ ad, A = some ad ∧ ∀ j u, xs[j]? = some u → w.cell? (ad.add j) = some u) : RV w A xs := by
  intro hx
  obtain ⟨ad, rfl, hc⟩ := h hx
  have h0 : w.cell? (ad.add 0) = some (xs[0]'(List.length_pos_iff.2 hx)) := hc 0 _ (List.getElem?_eq_getElem _)
  have hs : ad.spot = none := spot_none (by simpa [Addr.add] using h0)
  obtain ⟨b, o, sp⟩ := ad
  cases hs
  exact ⟨b, o, rfl, fun j u hu => by rw [← add_lit']; exact hc j u hu⟩
theorem RV.nil (w : World) (A : Option Addr) : RV w A [] := fun h => absurd rfl h
theorem RV.none_ {w : World} {xs : List Value} (h : RV w none xs) : xs = [] := by
  rcases xs with _ | ⟨x, r⟩
  · rfl
  · obtain ⟨_, _, h0, _⟩ := h (by simp)
    cases h0
theorem RV.below {w w' : World} {A : Option Addr} {xs : List Value} (h : RV w A xs) (hb : Below w.heap.size w w') : RV w' A xs := by
  intro hx
  obtain ⟨b, o, hA, hc⟩ := h hx
  refine ⟨b, o, hA, fun j u hu => ?_⟩
  have h1 := hc j u hu
  rw [hb.cell (p := ⟨b, o + j, none⟩) (block_lt_of_cell h1)]
  exact h1
theorem RV.cut {w : World} {A : Option Addr} {xs : List Value} (h : RV w A xs) {k cap : Nat} (hk : k ≤ xs.length) (hc : xs.length ≤ cap) : RV w (if cap = k then A else A.map (·.add k)) (xs.drop k) := by
  intro hx
  have hlt : k < xs.length := by
    rcases Nat.lt_or_ge k xs.length with h1 | h1
    · exact h1
    · exact absurd (List.drop_eq_nil_of_le h1) hx
  obtain ⟨b, o, rfl, hcell⟩ := h (by intro h0; subst h0; simp at hlt)
  rw [if_neg (by omega)]
  refine ⟨b, o + k, by simp [add_lit'], fun j u hu => ?_⟩
  rw [Nat.add_assoc]
  exact hcell _ u (by rw [← hu, List.getElem?_drop])
theorem RV.take {w : World} {A : Option Addr} {xs : List Value} (h : RV w A xs) (k : Nat) : RV w A (xs.take k) := by
  intro hx
  obtain ⟨b, o, hA, hc⟩ := h (by intro h0; subst h0; simp at hx)
  refine ⟨b, o, hA, fun j u hu => hc j u ?_⟩
  rw [List.getElem?_take] at hu
  split at hu
  · exact hu
  · cases hu
/-- A byte sequence of the call's own. -/
def Own (w : World) (B : Nat) (v : Value) (l : List UInt8) : Prop := w.ownsRow B 5 1 v l.length (bv l)
theorem Own.nil (w : World) (B : Nat) : Own w B (.slice none 0 0) [] := World.ownsRow_nil w B 5 1
theorem Own.form {w : World} {B : Nat} {v : Value} {l : List UInt8} (h : Own w B v l) : ∃ A cap, v = .slice A l.length cap ∧ l.length ≤ cap ∧ cap ≤ maxLen ∧ RV w A (bv l) := by
  rcases h.2 with ⟨rfl, h0⟩ | ⟨g, cap, cur, rfl, hb, hg, hc, hm, hs, ht⟩
  · have : l = [] := List.eq_nil_of_length_eq_zero h0
    subst this
    exact ⟨none, 0, rfl, by simp, by simp [maxLen], RV.nil _ _⟩
  · refine ⟨_, cap, rfl, hc, hm, RV.of_add fun _ => ⟨_, rfl, ?_⟩⟩
    exact h.cells (g := g) rfl
theorem Own.below {w w' : World} {B : Nat} {v : Value} {l : List UInt8} (h : Own w B v l) (hb : Below w.heap.size w w') : Own w' B v l :=
  World.ownsRow.kept (row := none) h ⟨hb.os, hb.tape, hb.output, hb.size, fun k hk _ => hb.block k hk⟩ (by cases h0 : v.ownBlock <;> simp)
theorem Own.blk {w : World} {B : Nat} {v : Value} {l : List UInt8} (h : Own w B v l) : ∀ k, v.ownBlock = some k → B ≤ k := fun k hk => (World.ownsRow.lt h k hk).1
theorem Own.mono {w : World} {B B' : Nat} {v : Value} {l : List UInt8} (h : Own w B v l) (hB : B' ≤ B) : Own w B' v l := by
  refine ⟨h.1, ?_⟩
  rcases h.2 with h0 | ⟨g, cap, cur, hv, hb, r⟩
  · exact .inl h0
  · exact .inr ⟨g, cap, cur, hv, by omega, r⟩
/-- The end of a function that appends l' to what it got. -/
def Ext (B : Nat) (w : World) (l : List UInt8) (e : Ending) (w' : World) : Prop := ∃ v', e = .returned v' ∧ Own w' B v' l ∧ Below B w w'

section
variable {ops : Array Oper} {rest : List Oper} {o : Oper} {a : Act} {Q : Exit → Act → World → Prop} {w : World}
/-- append(s, b), behind the box of b. -/
theorem arm_one (b : UInt8) {n : Int} (hb : n = (b.toNat : Int)) (hgd : o.guard = none) (s x : Operand) (ho : o.op = .call { callee := .builtin .append, args := #[s, x], argTypes := #[22, 22] })
    (B : Nat) (v : Value) (l : List UInt8) (hs : a.eval s = v) (hown : Own w B v l) (hx : a.eval x = .slice (some ⟨w.heap.size, 0, none⟩) 1 1)
    (hlen : l.length + 1 ≤ 140737488355328) (hB : B ≤ w.heap.size)
    (h : ∀ v' w', Own w' B v' (l ++ [b]) → Below B w w' → wpList Tryd.prog ops Q rest (a.put o.dst v') w') : wpList Tryd.prog ops Q (o :: rest) a (w.alloc (.cells #[.int .u8 n] 5)) := by
  subst hb
  obtain ⟨i0, hi, hz0, hz1, hz2⟩ := info_parts info5
  refine wpList_append_own _ hgd s x 22 ho B 5 i0 (.int .u8 0) 1 1 Tryd.underlying22 hi hz0 hz1 hz2 rfl (by decide) v l.length (bv l) hs (World.ownsRow.alloc hown _) ⟨w.heap.size, 0, none⟩ 1 1 [.int .u8 (b.toNat : Int)] hx rfl (cell_one_new _ _ _) (fun x hx => by simp at hx; subst hx; rfl) (by unfold maxLen; omega) (by omega) (by simp; omega) ?_
  intro v' w' ho' hg _
  refine h v' w' ?_ (((Below.refl B w).alloc hB _).grown hg (by simp; omega) hown.blk)
  unfold Own
  rw [bv_append, List.length_append]
  exact ho'
theorem arm_str (hgd : o.guard = none) (s x : Operand) (ho : o.op = .call { callee := .builtin .append, args := #[s, x], argTypes := #[22, 9] })
    (B : Nat) (v : Value) (l : List UInt8) (hs : a.eval s = v) (hown : Own w B v l) (t : ByteArray) (hx : a.eval x = .string t)
    (hlen : l.length + t.size ≤ 140737488355328) (hB : B ≤ w.heap.size)
    (h : ∀ v' w', Own w' B v' (l ++ t.data.toList) → Below B w w' → wpList Tryd.prog ops Q rest (a.put o.dst v') w') : wpList Tryd.prog ops Q (o :: rest) a w := by
  obtain ⟨i0, hi, hz0, hz1, hz2⟩ := info_parts info5
  refine Go.Lib.wpList_append_own_string w hgd s x 22 9 ho B 5 i0 Tryd.underlying22 Tryd.underlying9 hi hz0 hz1 hz2 v l.length (bv l) hs hown t hx (by unfold maxLen; omega) hlen hB ?_
  intro v' w' ho' hg _
  refine h v' w' ?_ ((Below.refl B w).grown hg hB hown.blk)
  unfold Own
  rw [bv_append, List.length_append]
  have e1 : (t.data.toList).length = t.size := by rw [Array.length_toList]; rfl
  rw [e1]
  exact ho'
/-- append(s, x...) where x is whatever slice of bytes. -/
theorem arm_bytes (hgd : o.guard = none) (s x : Operand) (ho : o.op = .call { callee := .builtin .append, args := #[s, x], argTypes := #[22, 22] })
    (B : Nat) (v : Value) (l : List UInt8) (hs : a.eval s = v) (hown : Own w B v l) (A : Option Addr) (cap : Nat) (r : List UInt8) (hx : a.eval x = .slice A r.length cap) (hr : RV w A (bv r))
    (hlen : l.length + r.length ≤ 140737488355328) (hB : B ≤ w.heap.size)
    (h : ∀ v' w', Own w' B v' (l ++ r) → Below B w w' → wpList Tryd.prog ops Q rest (a.put o.dst v') w') : wpList Tryd.prog ops Q (o :: rest) a w := by
  obtain ⟨i0, hi, hz0, hz1, hz2⟩ := info_parts info5
  rcases A with _ | ad
  · have hr0 : r = [] := by simpa [bv] using hr.none_
    subst hr0
    have hrun : ∀ c, (Builtin.append_ #[22, 22] o.type #[v, .slice none 0 c]).run Tryd.prog w = .ok v w := by
      intro c
      rcases hown.2 with ⟨rfl, h0⟩ | ⟨g, cap', cur, rfl, _, _, hnc, _⟩
      · simp [Builtin.append_, run_underlying Tryd.underlying22, sizeOf, typeInfo, hi, Builtin.lenOf, Builtin.firstCells]
      · simp [Builtin.append_, run_underlying Tryd.underlying22, sizeOf, typeInfo, hi, Builtin.lenOf, Builtin.firstCells, hnc, storeCells]
    refine wpList_plain hgd fun K hK => ?_
    unfold Oper.wp
    simp only [List.length_nil] at hx
    simp [execOp, ho, resolve, invoke, builtin, hs, hx, hrun, Result.andThen]
    exact hK _ _ (h v w (by simpa using hown) (Below.refl _ _))
  · refine wpList_append_own w hgd s x 22 ho B 5 i0 (.int .u8 0) 1 1 Tryd.underlying22 hi hz0 hz1 hz2 rfl (by decide) v l.length (bv l) hs hown ad r.length cap (bv r) hx (by simp [bv]) ?_ (bv_one r) (by unfold maxLen; omega) (by omega) hB ?_
    · intro j u hu
      obtain ⟨b', o', he, hc⟩ := hr (by intro h0; rw [h0] at hu; simp at hu)
      cases he
      rw [add_lit']
      exact hc j u hu
    · intro v' w' ho' hg _
      refine h v' w' ?_ ((Below.refl B w).grown hg hB hown.blk)
      unfold Own
      rw [bv_append, List.length_append]
      exact ho'
end
/-- The cells of integers, of strings, of digests. -/
def iv (l : List Int) : List Value := l.map fun z => Value.int .i64 z
def sv (l : List ByteArray) : List Value := l.map fun s => Value.string s
theorem iv_len (l : List Int) : (iv l).length = l.length := by simp [iv]
theorem sv_len (l : List ByteArray) : (sv l).length = l.length := by simp [sv]
theorem RV.at_ {w w' : World} {A : Option Addr} {xs : List Value} (h : RV w A xs) (hb : Below w.heap.size w w') {k : Nat} {u : Value} (hk : xs[k]? = some u) : ∃ b o, A = some ⟨b, o, none⟩ ∧ w'.cell? ⟨b, o + k, none⟩ = some u := by
  obtain ⟨b, o, hA, hc⟩ := h.below hb (by intro h0; subst h0; simp at hk)
  exact ⟨b, o, hA, hc k u hk⟩
theorem iv_at {l : List Int} {k : Nat} (h : k < l.length) : (iv l)[k]? = some (.int .i64 l[k]) := by simp [iv, h]
theorem sv_at {l : List ByteArray} {k : Nat} (h : k < l.length) : (sv l)[k]? = some (.string l[k]) := by simp [sv, h]
theorem bv_at {l : List UInt8} {k : Nat} (h : k < l.length) : (bv l)[k]? = some (.int .u8 (l[k].toNat : Int)) := by simp [bv, h]
theorem Own.alloc {w : World} {B : Nat} {v : Value} {l : List UInt8} (h : Own w B v l) (ob : Obj) : Own (w.alloc ob) B v l := World.ownsRow.alloc h ob
theorem RV.new (w : World) (cs : List Value) (t : TypeId) : RV (w.alloc (.cells cs.toArray t)) (some ⟨w.heap.size, 0, none⟩) cs := by
  intro _
  refine ⟨_, _, rfl, fun j u hu => ?_⟩
  have h1 := cell_of_row (w.alloc (.cells cs.toArray t)) w.heap.size (0 + j) cs.toArray t (0, 0) (heap_alloc_new w _)
  rw [h1]
  simpa using hu
theorem range_new (w : World) (cs : List Value) (t : TypeId) : (w.alloc (.cells cs.toArray t)).rangeAt w.heap.size 0 cs := by
  intro j u hu
  have h1 := cell_of_row (w.alloc (.cells cs.toArray t)) w.heap.size (0 + j) cs.toArray t (0, 0) (heap_alloc_new w _)
  rw [h1]
  simpa using hu
theorem conv_str {w : World} {A : Option Addr} {r : List UInt8} (hr : RV w A (bv r)) (c : Nat) : (convert 22 9 (.slice A r.length c)).run Tryd.prog w = .ok (.string ⟨r.toArray⟩) w := by
  rcases A with _ | ad
  · have hr0 : r = [] := by simpa [bv] using hr.none_
    subst hr0
    exact run_convert_bytes_nil w 22 5 Tryd.underlying22 Tryd.underlying5 0 c 9 Tryd.underlying9
  · have hl : (loadCells ad r.length).run Tryd.prog w = .ok ((r.map fun b => (b.toNat : Int)).map (Value.int .u8)).toArray w := by
      have h := run_loadCells_list (P := Tryd.prog) w ad (bv r) (fun j v hv => by
        obtain ⟨b, o, he, hc⟩ := hr (by intro h0; rw [h0] at hv; simp at hv)
        cases he
        rw [add_lit']
        exact hc j v hv)
      rw [bv_len] at h
      rw [h]
      simp [bv]
    rw [run_convert_bytes_string w 22 9 5 _ r.length c Tryd.underlying22 Tryd.underlying5 Tryd.underlying9, run_bytesToString w ad _ c _ hl, foldl_push_bytes]
    simp [ByteArray.empty, ByteArray.emptyWithCapacity]
    show [] ++ List.map ((fun n : Int => UInt8.ofNat n.toNat) ∘ fun b : UInt8 => (b.toNat : Int)) r = r
    rw [List.nil_append, List.map_congr_left (g := id) (fun b _ => by simp), List.map_id]
end Go.Proofs.YtkineafacekklaaDoor
