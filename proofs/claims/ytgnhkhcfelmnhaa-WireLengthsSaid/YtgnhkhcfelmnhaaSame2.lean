/- What the comparison of lists of digests does. -/
import Derived.Test.YtgnhkhcfelmnhaaSame
import Derived.Test.YtgnhkhcfelmnhaaLst3
import Derived.Stop.BytesEq
namespace Go.Proofs.Ytgnhkhcfelmnhaa
open Go.RowKit
theorem quiet_load57 {ops : Array Oper} {rest : List Oper} {o : Oper} {a : Act} {C : World → Prop} {Q : Act → Prop} (d : List UInt8) (hd : d.length = 16) (hgd : o.guard = none) (x : Operand) (ho : o.op = .load 57 x) (b f : Nat) (hx : a.eval x = .pointer (some ⟨b, f, none⟩))
    (hc : ∀ w, C w → w.rangeAt b f (bv d)) (h : wpQuiet Try.prog ops C Q rest (a.put o.dst (.agg (bv d).toArray))) : wpQuiet Try.prog ops C Q (o :: rest) a := by
  refine wpQuiet_step fun K hK => ?_
  have hw : Region.wanted o (yielded ops a.tmps) = true := by simp [Region.wanted, hgd]
  rw [if_pos hw]
  refine ⟨.agg (bv d).toArray, fun w hC => ?_, hK _ h⟩
  have hrun := run_loadAt_mid (P := Try.prog) w b f 57 (bv d) _ (hc w hC) Try.underlying57 rfl (by rw [size57, bv_len, hd])
  unfold Oper.quietAt execOp
  simp only [ho, hx, hrun, Sem.run_bind, Sem.run_pure, Result.andThen_ok]
  exact ⟨rfl, rfl⟩
theorem run_neq57 (d e : List UInt8) (hd : d.length = 16) (he : e.length = 16) (w : World) : (binOp .neq 57 (.agg (bv d).toArray) (.agg (bv e).toArray)).run Try.prog w = .ok (.bool (!(d == e))) w := by
  rw [run_neq_struct]
  have h := run_equalIn_bytes (P := Try.prog) w 9998 57 5 16 Try.underlying57 Try.underlying5 (fun w => by kernel_rfl) d e hd he
  rw [show (bv d).toArray = (d.map Extern.Stop.cell).toArray from rfl, show (bv e).toArray = (e.map Extern.Stop.cell).toArray from rfl, h]
  rfl
theorem quiet_neq57 {ops : Array Oper} {rest : List Oper} {o : Oper} {a : Act} {C : World → Prop} {Q : Act → Prop} (d e : List UInt8) (hd : d.length = 16) (he : e.length = 16) (hgd : o.guard = none) (x y : Operand) (ot : TypeId) (ho : o.op = .binOp .neq 57 x y ot)
    (hx : a.eval x = .agg (bv d).toArray) (hy : a.eval y = .agg (bv e).toArray) (h : wpQuiet Try.prog ops C Q rest (a.put o.dst (.bool (!(d == e))))) : wpQuiet Try.prog ops C Q (o :: rest) a := by
  refine wpQuiet_step fun K hK => ?_
  have hw : Region.wanted o (yielded ops a.tmps) = true := by simp [Region.wanted, hgd]
  rw [if_pos hw]
  refine ⟨.bool (!(d == e)), fun w hC => ?_, hK _ h⟩
  have hrun := run_neq57 d e hd he w
  have hg := run_eqGuard_agg (P := Try.prog) w .neq 57 x y (bv d).toArray (bv e).toArray (by kernel_rfl)
  unfold Oper.quietAt execOp
  simp only [ho, hx, hy, hrun, hg, Sem.run_bind, Sem.run_pure, Result.andThen_ok]
  exact ⟨rfl, rfl⟩
set_option maxHeartbeats 400000 in
theorem sameDigests_any (A B : Option Addr) (n m c d : Nat) (a b : List (List UInt8)) (w : World) (hn : a.length = n) (hm : b.length = m) (ha : RV w A (dv a)) (hb : RV w B (dv b)) (hda : ∀ d ∈ a, d.length = 16) (hdb : ∀ d ∈ b, d.length = 16) (hl : n ≤ 140737488355328) (hl2 : m ≤ 140737488355328) :
    Calls Try.prog 36 #[.slice A n c, .slice B m d] w fun e w' => e = .returned (.bool (decide (a = b))) ∧ Below w.heap.size w w' := by
  by_cases hlen : n = m
  · subst hlen
    have HN := Lib.hid hn
    have HM := Lib.hid hm
    clear hn hm
    go_enter Try.func36, Try.ntmps36
    go_wp2
    go_loopw [5] (fun t wr => ∃ k : Nat, t = .int .i64 k ∧ k ≤ n ∧ Hid (a.take k = b.take k) ∧ ∃ q, wr = w.drewN q) (fun t _ => n - (intOf t).toNat)
    case atStart => exact ⟨0, rfl, by omega, Lib.hid rfl, 0, rfl⟩
    case round =>
      obtain ⟨k, rfl, hk, HE, q, rfl⟩ := hrel
      by_cases hlt : k < n
      · have hka : k < a.length := by rw [HN.out]; exact hlt
        have hkb : k < b.length := by rw [HM.out]; exact hlt
        obtain ⟨b1, o1, rfl, hc1⟩ := ha.digest hda (w' := w) (Below.refl _ _) (k := k) hka
        obtain ⟨b2, o2, rfl, hc2⟩ := hb.digest hdb (w' := w) (Below.refl _ _) (k := k) hkb
        have hx := hda _ (List.getElem_mem hka)
        have hy := hdb _ (List.getElem_mem hkb)
        have HT : Hid (a[k] = b[k] → a.take (k + 1) = b.take (k + 1)) := Lib.hid fun h => by
          rw [List.take_succ_eq_append_getElem hka, List.take_succ_eq_append_getElem hkb, HE.out, h]
        have HU : Hid (a[k] ≠ b[k] → a ≠ b) := Lib.hid fun h h2 => by subst h2; exact h rfl
        clear ha hb hda hdb
        generalize a[k] = x at *
        generalize b[k] = y at *
        have HC1 := Lib.hid hc1
        have HC2 := Lib.hid hc2
        have HX := Lib.hid hx
        have HY := Lib.hid hy
        clear hc1 hc2 hx hy
        by_cases hxy : x = y
        · subst hxy
          obtain ⟨c0, c1, c2, c3, c4, c5, c6, c7, c8, c9, c10, c11, c12, c13, c14, c15, rfl⟩ := list16 x HX.out
          go_wp2_with fail
          refine wp_region_quiet_lit (by kernel_rfl) (by kernel_rfl) ?_
          repeat (first | go_big_quiet_step (fail) | quiet_step (fail))
          refine quiet_load57 [c0, c1, c2, c3, c4, c5, c6, c7, c8, c9, c10, c11, c12, c13, c14, c15] rfl rfl _ rfl b1 (o1 + k * 16) rfl (fun w' hw => by obtain ⟨q', rfl⟩ := hw; exact HC1.out) ?_
          simp only [bv, List.map_cons, List.map_nil]
          repeat (first | go_big_quiet_step (fail) | quiet_step (fail))
          refine quiet_load57 [c0, c1, c2, c3, c4, c5, c6, c7, c8, c9, c10, c11, c12, c13, c14, c15] rfl rfl _ rfl b2 (o2 + k * 16) rfl (fun w' hw => by obtain ⟨q', rfl⟩ := hw; exact HC2.out) ?_
          simp only [bv, List.map_cons, List.map_nil]
          refine quiet_neq57 [c0, c1, c2, c3, c4, c5, c6, c7, c8, c9, c10, c11, c12, c13, c14, c15] [c0, c1, c2, c3, c4, c5, c6, c7, c8, c9, c10, c11, c12, c13, c14, c15] rfl rfl rfl _ _ _ rfl rfl rfl ?_
          refine wpQuiet_nil ?_
          intro _ hw'
          obtain ⟨nq, hw''⟩ := hw'
          subst hw''
          have heq : ([c0, c1, c2, c3, c4, c5, c6, c7, c8, c9, c10, c11, c12, c13, c14, c15] == [c0, c1, c2, c3, c4, c5, c6, c7, c8, c9, c10, c11, c12, c13, c14, c15]) = true := by rw [beq_iff_eq]
          rw [heq]
          go_wp2
          go_roundw
          case rel => exact ⟨k + 1, by go_num, by omega, Lib.hid (HT.out trivial), _, rfl⟩
          case measure => simp [intOf]; omega
        · obtain ⟨c0, c1, c2, c3, c4, c5, c6, c7, c8, c9, c10, c11, c12, c13, c14, c15, rfl⟩ := list16 x HX.out
          obtain ⟨e0, e1, e2, e3, e4, e5, e6, e7, e8, e9, e10, e11, e12, e13, e14, e15, rfl⟩ := list16 y HY.out
          go_wp2_with fail
          refine wp_region_quiet_lit (by kernel_rfl) (by kernel_rfl) ?_
          repeat (first | go_big_quiet_step (fail) | quiet_step (fail))
          refine quiet_load57 [c0, c1, c2, c3, c4, c5, c6, c7, c8, c9, c10, c11, c12, c13, c14, c15] rfl rfl _ rfl b1 (o1 + k * 16) rfl (fun w' hw => by obtain ⟨q', rfl⟩ := hw; exact HC1.out) ?_
          simp only [bv, List.map_cons, List.map_nil]
          repeat (first | go_big_quiet_step (fail) | quiet_step (fail))
          refine quiet_load57 [e0, e1, e2, e3, e4, e5, e6, e7, e8, e9, e10, e11, e12, e13, e14, e15] rfl rfl _ rfl b2 (o2 + k * 16) rfl (fun w' hw => by obtain ⟨q', rfl⟩ := hw; exact HC2.out) ?_
          simp only [bv, List.map_cons, List.map_nil]
          refine quiet_neq57 [c0, c1, c2, c3, c4, c5, c6, c7, c8, c9, c10, c11, c12, c13, c14, c15] [e0, e1, e2, e3, e4, e5, e6, e7, e8, e9, e10, e11, e12, e13, e14, e15] rfl rfl rfl _ _ _ rfl rfl rfl ?_
          refine wpQuiet_nil ?_
          intro _ hw'
          obtain ⟨nq, hw''⟩ := hw'
          subst hw''
          have hne : ([c0, c1, c2, c3, c4, c5, c6, c7, c8, c9, c10, c11, c12, c13, c14, c15] == [e0, e1, e2, e3, e4, e5, e6, e7, e8, e9, e10, e11, e12, e13, e14, e15]) = false := by
            rw [beq_eq_false_iff_ne]; exact hxy
          rw [hne]
          go_wp2
          go_ret
          exact ⟨ret_bool (by simp [HU.out hxy]), ⟨rfl, rfl, rfl, Nat.le_refl _, fun _ _ => rfl⟩⟩
      · obtain rfl : k = n := by omega
        clear ha hb
        go_wp2
        go_ret
        refine ⟨ret_bool ?_, below_drewN _ _⟩
        have h1 := HE.out
        rw [List.take_of_length_le (by rw [HN.out]; exact Nat.le_refl _), List.take_of_length_le (by rw [HM.out]; exact Nat.le_refl _)] at h1
        simp [h1]
  · have hne : ((n : Int) != (m : Int)) = true := by simp; omega
    have HU : Hid (a ≠ b) := Lib.hid fun h => by subst h; exact hlen (hn.symm.trans hm)
    clear ha hb hn hm hlen
    go_enter Try.func36, Try.ntmps36
    go_wp2
    go_ret
    exact ⟨ret_bool (by simp [HU.out]), Below.refl _ _⟩
end Go.Proofs.Ytgnhkhcfelmnhaa
