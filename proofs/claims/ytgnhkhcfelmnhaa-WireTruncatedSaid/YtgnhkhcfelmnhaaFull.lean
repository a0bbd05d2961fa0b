/- append onto a slice that has no room: b[:len(b):len(b)]. -/
import Derived.Test.YtgnhkhcfelmnhaaKit
import Derived.Deep.Upon
namespace Go.Proofs.Ytgnhkhcfelmnhaa
open Go.RowKit
theorem RV.src {w : World} {A : Option Addr} {r : List UInt8} (h : RV w A (bv r)) (c : Nat) : Src Try.prog 1 28 (.slice A r.length c) r.length (bv r) w := by
  rcases A with _ | ad
  · have hr0 : r = [] := by simpa [bv] using h.none_
    subst hr0
    exact Src.ofNil w Try.underlying28 c
  · refine Src.ofSlice w Try.underlying28 ad r.length c (bv r) (by rw [bv_len, Nat.mul_one]) (fun j u hu => ?_) (bv_one r)
    obtain ⟨b, o, he, hc⟩ := h (by intro h0; rw [h0] at hu; simp at hu)
    cases he
    rw [add_lit']
    exact hc j u hu
theorem RV.firsts {w : World} {A : Option Addr} {r : List UInt8} (h : RV w A (bv r)) (c : Nat) : (Builtin.firstCells 1 r.length (.slice A r.length c)).run Try.prog w = .ok (bv r).toArray w := (h.src c).cells
theorem run_full (w : World) (A B : Option Addr) (l r : List UInt8) (c ty : Nat) (hl : RV w A (bv l)) (hr : RV w B (bv r)) (hlen : l.length + r.length ≤ 140737488355328) :
    ∃ A' c' w', (Builtin.append_ #[28, 28] ty #[.slice A l.length l.length, .slice B r.length c]).run Try.prog w = .ok (.slice A' (l.length + r.length) c') w' ∧ l.length + r.length ≤ c' ∧ RV w' A' (bv (l ++ r)) ∧ Below w.heap.size w w' := by
  obtain ⟨i0, hi, hz0, hz1, hz2⟩ := info_parts info5
  have hs := hr.src c
  rcases Nat.eq_zero_or_pos r.length with h0 | h0
  · have hr0 : r = [] := List.eq_nil_of_length_eq_zero h0
    subst hr0
    refine ⟨A, l.length, w, ?_, by simp, by simpa using hl, Below.refl _ _⟩
    exact run_append_nothing w 28 28 ty 5 i0 Try.underlying28 hi A l.length l.length (Nat.le_refl _) _ (by rw [hz1]; exact hs)
  · have hgr := run_append_grow_src (P := Try.prog) w 28 28 ty 5 i0 (.int .u8 0) Try.underlying28 hi hz0 A l.length l.length (bv l) (by rw [hz1]; exact RV.firsts (w := w.drew) hl l.length) (.slice B r.length c) r.length (bv r) (by rw [hz1]; exact hs) (by omega) (by omega) (growslice_fits (by omega) (by rw [hz2]; omega))
    refine ⟨_, _, _, hgr, grownCap_ge w _ _ _, ?_, ((Below.refl _ _).drew).alloc (Nat.le_refl _) _⟩
    intro _
    refine ⟨_, _, rfl, fun j u hu => ?_⟩
    have h1 := cell_of_row (w.drew.alloc (.cells ((bv l ++ bv r).toArray ++ Builtin.zeroCells (Value.int .u8 0).cells (grownCap w (l.length + r.length) l.length 5 - (l.length + r.length))) 5)) w.heap.size (0 + j) _ 5 (0, 0) (heap_alloc_new w.drew _)
    rw [h1, Nat.zero_add]
    rw [bv_append] at hu
    have hj : j < (bv l ++ bv r).length := (List.getElem?_eq_some_iff.1 hu).1
    rw [Array.getElem?_append_left (by simpa using hj)]
    simpa using hu
section
variable {ops : Array Oper} {rest : List Oper} {o : Oper} {a : Act} {Q : Exit → Act → World → Prop} {w : World}
theorem arm_full (hgd : o.guard = none) (s x : Operand) (ho : o.op = .call { callee := .builtin .append, args := #[s, x], argTypes := #[28, 28] })
    (A : Option Addr) (n : Nat) (l : List UInt8) (hn : l.length = n) (hs : a.eval s = .slice A n n) (hl : RV w A (bv l)) (B : Option Addr) (m c : Nat) (r : List UInt8) (hm : r.length = m) (hx : a.eval x = .slice B m c) (hr : RV w B (bv r))
    (hlen : n + m ≤ 140737488355328)
    (h : ∀ A' c' w', n + m ≤ c' → RV w' A' (bv (l ++ r)) → Below w.heap.size w w' → wpList Try.prog ops Q rest (a.put o.dst (.slice A' (n + m) c')) w') : wpList Try.prog ops Q (o :: rest) a w := by
  subst hn hm
  refine wpList_plain hgd fun K hK => ?_
  obtain ⟨A', c', w', hrun, hc, hR, hb⟩ := run_full w A B l r c o.type hl hr hlen
  unfold Oper.wp
  simp [execOp, ho, resolve, invoke, builtin, hs, hx, hrun, Result.andThen]
  exact hK _ _ (h A' c' w' hc hR hb)
end
end Go.Proofs.Ytgnhkhcfelmnhaa
