/-
  What memory's Store, Publish, Flush, Evict, Heal and Rot do. What memory's Crash does. slices.Sorted(maps.Keys(..)) of the map of busy lines: the contracts at this program.
-/
import Derived.Test.YtpojhplnhppcpaaGreatDoorQN11
import Derived.Shelf.SlIterI.Nil
import Derived.Shelf.SortM.Plain
import Derived.Shelf.SortM.SortNone
import Derived.Ground.GgzProg
import Derived.Ground.SlgmProg
import Derived.Test.YtpojhplnhppcpaaGreatDoorProg
namespace Go.Proofs.YtpojhplnhppcpaaGreatDoor
open Go.RowKit Go.Maps
theorem putP_ev (m : PM) (a v : Int) : (putP m a v).2.ev = m.ev := by
  unfold putP
  repeat' split
  all_goals rfl
theorem flushP_ev (m : PM) (a : Int) : (flushP m a).2.ev = m.ev := by
  unfold flushP
  repeat' split
  all_goals rfl
theorem evictP_ev (m : PM) (a v : Int) : (evictP m a v).2.ev = m.ev := by
  unfold evictP
  repeat' split
  all_goals rfl
theorem healP_ev (m : PM) (a : Int) (ws : List Int) : (healP m a ws).2.ev = m.ev := by
  unfold healP
  repeat' split
  all_goals rfl
theorem rotP_ev (m : PM) (a : Int) (ws : List Int) (c : Int) : (rotP m a ws c).2.ev = m.ev := by
  unfold rotP
  repeat' split
  all_goals rfl
theorem evt_len (k a v s : Int) {ws : List Int} (h : ws.length = 8) : (evt k a v s ws).length = 12 := by
  unfold evt
  rw [List.length_append, h]
  rfl
theorem evt_drop (k a v s : Int) (ws : List Int) : (evt k a v s ws).drop 4 = ws := rfl
theorem built_event4 (k a v s : Int) (w : World) : (Instr.build 68 #[(0, .int .i64 k), (1, .int .i64 a), (2, .int .i64 v), (3, .int .i64 s)]).run Tryz.prog w = .ok (.agg (iv (evt k a v s Z8)).toArray) w := by kernel_rfl
set_option maxRecDepth 100000 in
set_option maxHeartbeats 4000000 in
theorem store_any (p : Nat) (a v : Int) (m : PM) (F : Nat → Prop) (w : World) (hm : m.Ok) (hs : m.Small 1000000) (h : Rep w p m F) (hT : Tab w) (ha : I64 a) :
    Calls Tryz.prog 52 #[.pointer (some ⟨p, 0, none⟩), .int .i64 a, .int .i64 v] w fun e w' => e = .returned (.int .i64 (rec_ (putP m a v) (evt 1 a v m.span Z8)).1) ∧ Step F w p (rec_ (putP m a v) (evt 1 a v m.span Z8)).2 w' := by
  have hR := record_put p (evt 1 a v m.span Z8) (evt_len _ _ _ _ rfl) (putP m a v) F w (by rw [putP_ev]; exact hs.ev) h.lt (fun w1 hb => put_any p a v _ (evt_len _ _ _ _ rfl) rfl rfl m F w1 ha hm hs.pend (h.below hb) (hT.keep hb))
  obtain ⟨R, hR2⟩ : ∃ R, rec_ (putP m a v) (evt 1 a v m.span Z8) = R := ⟨_, rfl⟩
  rw [hR2] at hR ⊢
  have HR := Lib.hid hR
  obtain ⟨dv, b, ev, D, G, h⟩ := h
  have c2 := h.c2
  clear hR h
  go_enter Tryz.func52, Tryz.ntmps52
  go_wp2_with fail
  refine HR.out.mono ?_
  rintro e w1 ⟨rfl, hst⟩
  have HST := Lib.hid hst
  clear hst HR
  go_wp2_with fail
  go_ret
  exact ⟨rfl, HST.out⟩
set_option maxRecDepth 100000 in
set_option maxHeartbeats 4000000 in
theorem publish_any (p : Nat) (a v : Int) (m : PM) (F : Nat → Prop) (w : World) (hm : m.Ok) (hs : m.Small 1000000) (h : Rep w p m F) (hT : Tab w) (ha : I64 a) :
    Calls Tryz.prog 53 #[.pointer (some ⟨p, 0, none⟩), .int .i64 a, .int .i64 v] w fun e w' => e = .returned (.int .i64 (rec_ (putP m a v) (evt 2 a v m.span Z8)).1) ∧ Step F w p (rec_ (putP m a v) (evt 2 a v m.span Z8)).2 w' := by
  have hR := record_put p (evt 2 a v m.span Z8) (evt_len _ _ _ _ rfl) (putP m a v) F w (by rw [putP_ev]; exact hs.ev) h.lt (fun w1 hb => put_any p a v _ (evt_len _ _ _ _ rfl) rfl rfl m F w1 ha hm hs.pend (h.below hb) (hT.keep hb))
  obtain ⟨R, hR2⟩ : ∃ R, rec_ (putP m a v) (evt 2 a v m.span Z8) = R := ⟨_, rfl⟩
  rw [hR2] at hR ⊢
  have HR := Lib.hid hR
  obtain ⟨dv, b, ev, D, G, h⟩ := h
  have c2 := h.c2
  clear hR h
  go_enter Tryz.func53, Tryz.ntmps53
  go_wp2_with fail
  refine HR.out.mono ?_
  rintro e w1 ⟨rfl, hst⟩
  have HST := Lib.hid hst
  clear hst HR
  go_wp2_with fail
  go_ret
  exact ⟨rfl, HST.out⟩
set_option maxRecDepth 100000 in
set_option maxHeartbeats 4000000 in
theorem flushC_any (p : Nat) (a : Int) (m : PM) (F : Nat → Prop) (w : World) (hm : m.Ok) (hs : m.Small 1000000) (h : Rep w p m F) :
    Calls Tryz.prog 55 #[.pointer (some ⟨p, 0, none⟩), .int .i64 a] w fun e w' => e = .returned (.int .i64 (rec_ (flushP m a) (evt 3 a 0 0 Z8)).1) ∧ Step F w p (rec_ (flushP m a) (evt 3 a 0 0 Z8)).2 w' := by
  have hR := record_flush p (evt 3 a 0 0 Z8) (evt_len _ _ _ _ rfl) (flushP m a) F w (by rw [flushP_ev]; exact hs.ev) h.lt (fun w1 hb => flush_any p a _ (evt_len _ _ _ _ rfl) rfl m F w1 hm (h.below hb))
  obtain ⟨R, hR2⟩ : ∃ R, rec_ (flushP m a) (evt 3 a 0 0 Z8) = R := ⟨_, rfl⟩
  rw [hR2] at hR ⊢
  have HR := Lib.hid hR
  obtain ⟨dv, b, ev, D, G, h⟩ := h
  have c2 := h.c2
  clear hR h
  go_enter Tryz.func55, Tryz.ntmps55
  go_wp2_with fail
  refine HR.out.mono ?_
  rintro e w1 ⟨rfl, hst⟩
  have HST := Lib.hid hst
  clear hst HR
  go_wp2_with fail
  go_ret
  exact ⟨rfl, HST.out⟩
set_option maxRecDepth 100000 in
set_option maxHeartbeats 4000000 in
theorem evictC_any (p : Nat) (a v : Int) (m : PM) (F : Nat → Prop) (w : World) (hm : m.Ok) (hs : m.Small 1000000) (h : Rep w p m F) (hT : Tab w) (ha : I64 a) (hv : I64 v) :
    Calls Tryz.prog 56 #[.pointer (some ⟨p, 0, none⟩), .int .i64 a, .int .i64 v] w fun e w' => e = .returned (.int .i64 (rec_ (evictP m a v) (evt 5 a v 0 Z8)).1) ∧ Step F w p (rec_ (evictP m a v) (evt 5 a v 0 Z8)).2 w' := by
  have hR := record_evict p (evt 5 a v 0 Z8) (evt_len _ _ _ _ rfl) (evictP m a v) F w (by rw [evictP_ev]; exact hs.ev) h.lt (fun w1 hb => evict_any p a v _ (evt_len _ _ _ _ rfl) rfl rfl m F w1 ha hv hm (h.below hb) (hT.keep hb))
  obtain ⟨R, hR2⟩ : ∃ R, rec_ (evictP m a v) (evt 5 a v 0 Z8) = R := ⟨_, rfl⟩
  rw [hR2] at hR ⊢
  have HR := Lib.hid hR
  obtain ⟨dv, b, ev, D, G, h⟩ := h
  have c2 := h.c2
  clear hR h
  go_enter Tryz.func56, Tryz.ntmps56
  go_wp2_with fail
  refine HR.out.mono ?_
  rintro e w1 ⟨rfl, hst⟩
  have HST := Lib.hid hst
  clear hst HR
  go_wp2_with fail
  go_ret
  exact ⟨rfl, HST.out⟩
theorem arm_build {ops : Array Oper} {rest : List Oper} {o : Oper} {a : Act} {Q : Exit → Act → World → Prop} {w : World} (t : TypeId) (parts : Array (Nat × Operand)) (v : Value) (hgd : o.guard = none) (ho : o.op = .build t parts)
    (hb : ∀ w, (Instr.build t (parts.map fun (i, x) => (i, a.eval x))).run Tryz.prog w = .ok v w)
    (h : wpList Tryz.prog ops Q rest (a.put o.dst v) w) : wpList Tryz.prog ops Q (o :: rest) a w := by
  refine wpList_plain hgd fun K hK => ?_
  unfold Oper.wp execOp
  simp only [ho, Sem.run_bind, hb w, Result.andThen_ok, Sem.run_pure]
  exact hK _ _ h
theorem built_heal {L : List Int} (h8 : L.length = 8) (a : Int) (w : World) : (Instr.build 68 #[(0, .int .i64 6), (1, .int .i64 a), (4, .agg (iv L).toArray)]).run Tryz.prog w = .ok (.agg (iv (evt 6 a 0 0 L)).toArray) w := by
  obtain ⟨a0, a1, a2, a3, a4, a5, a6, a7, rfl⟩ := line8 h8
  kernel_rfl
theorem built_rot {L : List Int} (h8 : L.length = 8) (a c : Int) (w : World) : (Instr.build 68 #[(0, .int .i64 7), (1, .int .i64 a), (2, .int .i64 c), (4, .agg (iv L).toArray)]).run Tryz.prog w = .ok (.agg (iv (evt 7 a c 0 L)).toArray) w := by
  obtain ⟨a0, a1, a2, a3, a4, a5, a6, a7, rfl⟩ := line8 h8
  kernel_rfl
set_option maxRecDepth 100000 in
set_option maxHeartbeats 4000000 in
theorem healC_any (p : Nat) (a : Int) (ws : List Int) (m : PM) (F : Nat → Prop) (w : World) (hm : m.Ok) (hs : m.Small 1000000) (h : Rep w p m F) (h8 : ws.length = 8) (hT : Tab w) (hF : ¬ F 6) :
    Calls Tryz.prog 57 #[.pointer (some ⟨p, 0, none⟩), .int .i64 a, .agg (iv ws).toArray] w fun e w' => e = .returned (.int .i64 (rec_ (healP m a ws) (evt 6 a 0 0 ws)).1) ∧ Step F w p (rec_ (healP m a ws) (evt 6 a 0 0 ws)).2 w' := by
  have hb0 := bel_new w (.cells (iv ws).toArray 66)
  have hR := record_heal p (evt 6 a 0 0 ws) (evt_len _ _ _ _ h8) (healP m a ws) F (w.alloc (.cells (iv ws).toArray 66)) (by rw [healP_ev]; exact hs.ev) (h.below hb0).lt (fun w1 hb => heal_any p a ws _ (evt_len _ _ _ _ h8) rfl rfl m F w1 hm ((h.below hb0).below hb) ((hT.keep hb0).keep hb) hF)
  obtain ⟨R, hR2⟩ : ∃ R, rec_ (healP m a ws) (evt 6 a 0 0 ws) = R := ⟨_, rfl⟩
  rw [hR2] at hR ⊢
  have HR := Lib.hid hR
  have HB := Lib.hid hb0
  have hi := size22' h8
  have hu22 := Tryz.underlying66
  have hA := Arr.new w (iv ws) 66
  have r0 := hA.range
  have HBU := Lib.hid (built_heal h8 a)
  clear hR h hA
  go_enter Tryz.func57, Tryz.ntmps57
  go_wp2_with (first | ((with_reducible refine arm_range 66 w.heap.size 0 (iv ws) r0 _ hu22 rfl hi rfl _ rfl ?_ ?_); focus rfl) | ((with_reducible refine arm_build 68 _ (.agg (iv (evt 6 a 0 0 ws)).toArray) rfl rfl ?_ ?_); (focus (intro w0; simpa [Act.eval, Act.put] using HBU.out w0))))
  refine HR.out.mono ?_
  rintro e w1 ⟨rfl, hst⟩
  have HST := Lib.hid (Step.after (Kept.of_below HB.out) hst)
  clear hst HR
  go_wp2_with fail
  go_ret
  exact ⟨rfl, HST.out⟩
set_option maxRecDepth 100000 in
set_option maxHeartbeats 4000000 in
theorem rotC_any (p : Nat) (a : Int) (ws : List Int) (c : Int) (m : PM) (F : Nat → Prop) (w : World) (hm : m.Ok) (hs : m.Small 1000000) (h : Rep w p m F) (h8 : ws.length = 8) :
    Calls Tryz.prog 58 #[.pointer (some ⟨p, 0, none⟩), .int .i64 a, .agg (iv ws).toArray, .int .i64 c] w fun e w' => e = .returned (.int .i64 (rec_ (rotP m a ws c) (evt 7 a c 0 ws)).1) ∧ Step F w p (rec_ (rotP m a ws c) (evt 7 a c 0 ws)).2 w' := by
  have hb0 := bel_new w (.cells (iv ws).toArray 66)
  have hR := record_rot p (evt 7 a c 0 ws) (evt_len _ _ _ _ h8) (rotP m a ws c) F (w.alloc (.cells (iv ws).toArray 66)) (by rw [rotP_ev]; exact hs.ev) (h.below hb0).lt (fun w1 hb => rot_any p a c ws _ (evt_len _ _ _ _ h8) rfl rfl rfl m F w1 hm ((h.below hb0).below hb))
  obtain ⟨R, hR2⟩ : ∃ R, rec_ (rotP m a ws c) (evt 7 a c 0 ws) = R := ⟨_, rfl⟩
  rw [hR2] at hR ⊢
  have HR := Lib.hid hR
  have HB := Lib.hid hb0
  have hi := size22' h8
  have hu22 := Tryz.underlying66
  have hA := Arr.new w (iv ws) 66
  have r0 := hA.range
  have HBU := Lib.hid (built_rot h8 a c)
  clear hR h hA
  go_enter Tryz.func58, Tryz.ntmps58
  go_wp2_with (first | ((with_reducible refine arm_range 66 w.heap.size 0 (iv ws) r0 _ hu22 rfl hi rfl _ rfl ?_ ?_); focus rfl) | ((with_reducible refine arm_build 68 _ (.agg (iv (evt 7 a c 0 ws)).toArray) rfl rfl ?_ ?_); (focus (intro w0; simpa [Act.eval, Act.put] using HBU.out w0))))
  refine HR.out.mono ?_
  rintro e w1 ⟨rfl, hst⟩
  have HST := Lib.hid (Step.after (Kept.of_below HB.out) hst)
  clear hst HR
  go_wp2_with fail
  go_ret
  exact ⟨rfl, HST.out⟩
end Go.Proofs.YtpojhplnhppcpaaGreatDoor
namespace Go.Proofs.YtpojhplnhppcpaaGreatDoor
open Go.RowKit Go.Maps
theorem clear_run {w : World} {b n : Nat} {D : DataW Value} (h : w.ownsMap Tryz.prog 3 heldR b n D) (ty : TypeId) :
    ∃ w', (Builtin.clear_ #[98] ty #[.map (some b)]).run Tryz.prog w = .ok (.tuple #[]) w' ∧ w'.ownsMap Tryz.prog 3 heldR b 0 (.map []) ∧ w.mapTurned w' b := by
  obtain ⟨es, clock, hb, _, _, _⟩ := h
  refine ⟨{ w with heap := w.heap.setIfInBounds b (.map #[] clock) }, ?_, ⟨#[], clock, (MapKept.heap_set hb).1, ⟨by simp, MapKept.stamped_empty _, by simp⟩, by simp, rfl⟩, ⟨es, clock, #[], clock, hb, rfl⟩⟩
  simp [Builtin.clear_, run_underlying Tryz.underlying98, MapKept.run_getObj_map hb, MapKept.run_setObj_map _ hb, Result.andThen]
theorem arm_clear {w : World} {ops : Array Oper} {rest : List Oper} {o : Oper} {a : Act} {Q : Exit → Act → World → Prop} {b n : Nat} {D : DataW Value} (hown : w.ownsMap Tryz.prog 3 heldR b n D) (hg : o.guard = none) (m : Operand) (hop : o.op = Op.call { callee := Callee.builtin Builtin.clear, args := #[m], argTypes := #[98] })
    (hm : a.eval m = .map (some b)) (hK : ∀ w', w'.ownsMap Tryz.prog 3 heldR b 0 (.map []) → w.mapTurned w' b → wpList Tryz.prog ops Q rest (a.put o.dst (.tuple #[])) w') :
    wpList Tryz.prog ops Q (o :: rest) a w := by
  refine wpList_plain hg fun K' hK' => ?_
  obtain ⟨w', hrun, r1, r2⟩ := clear_run hown o.type
  unfold Oper.wp
  simp [execOp, hop, resolve, invoke, builtin, hm, hrun, Result.andThen]
  exact hK' _ _ (hK w' r1 r2)
/-! ### cuts -/
theorem has_upd (m : PM) (i : Nat) (f : PL → PL) (z : Int) : (m.upd i f).has z = m.has z := by unfold PM.has; rw [PM.upd_len]
theorem cutsOk_upd {m : PM} {i : Nat} {f : PL → PL} (hi : i < m.L.length) : ∀ (cs : List (Int × Int)) (last : Int), (i : Int) ≤ last → cutsOk (m.upd i f) last cs = cutsOk m last cs := by
  intro cs
  induction cs with
  | nil => intro _ _; rfl
  | cons c r ih =>
    intro last hl
    unfold cutsOk
    rw [has_upd]
    by_cases h1 : c.1 ≤ last
    · simp [h1]
    · have : c.1.toNat ≠ i := by omega
      rw [PM.upd_line f hi, if_neg this, ih c.1 (by omega)]
theorem cutsOk_cons {m : PM} {last : Int} {c : Int × Int} {r : List (Int × Int)} (h : cutsOk m last (c :: r) = true) : last < c.1 ∧ m.has c.1 = true ∧ 0 ≤ c.2 ∧ c.2 ≤ ((m.line c.1.toNat).pend.length : Int) ∧ cutsOk m c.1 r = true := by
  unfold cutsOk at h
  simp only [Bool.and_eq_true, Bool.not_eq_true', Bool.or_eq_false_iff, decide_eq_false_iff_not, Bool.not_eq_false'] at h
  obtain ⟨⟨⟨⟨h1, h2⟩, h3⟩, h4⟩, h5⟩ := h
  exact ⟨by omega, h2, by omega, by omega, h5⟩
theorem cutsOk_bad {m : PM} {last : Int} {c : Int × Int} {r : List (Int × Int)} (h : c.1 ≤ last ∨ m.has c.1 = false ∨ c.2 < 0 ∨ ((m.line c.1.toNat).pend.length : Int) < c.2) : cutsOk m last (c :: r) = false := by
  unfold cutsOk
  rcases h with h | h | h | h <;> simp [h]
theorem cutsOk_good {m : PM} {last : Int} {c : Int × Int} {r : List (Int × Int)} (h1 : ¬ c.1 ≤ last) (h2 : m.has c.1 = true) (h3 : ¬ c.2 < 0) (h4 : ¬ ((m.line c.1.toNat).pend.length : Int) < c.2) : cutsOk m last (c :: r) = cutsOk m c.1 r := by
  conv => lhs; unfold cutsOk
  simp [h1, h2, h3, h4]
theorem settle_ok {m : PM} (h : m.Ok) {i n : Nat} (hi : i < m.L.length) : (m.upd i (·.settle n)).Ok := h.upd ((h.line hi).settle n)
theorem drop_cons {α : Type} {l : List α} {j : Nat} (h : j < l.length) : l.drop j = l[j] :: l.drop (j + 1) := List.drop_eq_getElem_cons h
theorem flatS_get {ss : List (Int × Int)} {j : Nat} (h : j < ss.length) {w : World} {e b o cap : Nat} (hs : Sl w e 2 (.slice (some ⟨b, o, none⟩) ss.length cap) ss.length (iv (flatS ss))) :
    w.cell? ⟨b, o + j * 2, none⟩ = some (.int .i64 ss[j].1) ∧ w.cell? ⟨b, o + j * 2 + 1, none⟩ = some (.int .i64 ss[j].2) := by
  obtain ⟨h0, h1⟩ := flatS_at h
  refine ⟨hs.cells rfl _ _ h0, ?_⟩
  rw [Nat.add_assoc]
  exact hs.cells rfl _ _ h1
/-- A slice that can be read, wherever it lies. -/
def Rd (w : World) (v : Value) (n : Nat) (xs : List Value) : Prop :=
  ∃ A cap, v = .slice A n cap ∧ n ≤ cap ∧ cap ≤ maxLen ∧ (0 < n → ∃ b o, A = some ⟨b, o, none⟩ ∧ b < w.heap.size ∧ ∀ j u, xs[j]? = some u → w.cell? ⟨b, o + j, none⟩ = some u)
theorem Rd.of_sl {w : World} {e sz n : Nat} {v : Value} {xs : List Value} (h : Sl w e sz v n xs) : Rd w v n xs := by
  obtain ⟨A, cap, rfl, h1, h2, _⟩ := h.shape
  refine ⟨A, cap, rfl, h1, h2, fun hn => ?_⟩
  rcases h.2 with ⟨_, h0⟩ | ⟨g, o, cap', cur, hv, _⟩
  · omega
  · simp only [Value.slice.injEq] at hv
    obtain ⟨rfl, _, rfl⟩ := hv
    exact ⟨g, o, rfl, h.lt (by simp [Value.ownBlock]), h.cells rfl⟩
theorem Rd.lt {w : World} {n q : Nat} {v : Value} {xs : List Value} (h : Rd w v n xs) (hn : 0 < n) (hq : v.ownBlock = some q) : q < w.heap.size := by
  obtain ⟨A, cap, rfl, _, _, h⟩ := h
  obtain ⟨b, o, rfl, hb, _⟩ := h hn
  simp [Value.ownBlock] at hq
  omega
theorem cell_of_block {w w' : World} {a : Addr} (h : w'.heap[a.block]? = w.heap[a.block]?) : w'.cell? a = w.cell? a := by
  unfold World.cell?
  rw [h]
theorem Rd.keep {w w' : World} {n : Nat} {v : Value} {xs : List Value} (h : Rd w v n xs) (hs : w.heap.size ≤ w'.heap.size) (hk : ∀ q, 0 < n → v.ownBlock = some q → w'.heap[q]? = w.heap[q]?) : Rd w' v n xs := by
  obtain ⟨A, cap, rfl, h1, h2, h⟩ := h
  refine ⟨A, cap, rfl, h1, h2, fun hn => ?_⟩
  obtain ⟨b, o, rfl, hb, hc⟩ := h hn
  exact ⟨b, o, rfl, by omega, fun j u hj => (cell_of_block (hk b hn (by simp [Value.ownBlock]))).trans (hc j u hj)⟩
theorem Rd.below {w w' : World} {n : Nat} {v : Value} {xs : List Value} (h : Rd w v n xs) (hb : Below w.heap.size w w') : Rd w' v n xs := h.keep hb.size fun q hn hq => hb.block q (h.lt hn hq)
theorem rd_get {ss : List (Int × Int)} {j : Nat} (h : j < ss.length) {w : World} {b o : Nat} (hc : ∀ j u, (iv (flatS ss))[j]? = some u → w.cell? ⟨b, o + j, none⟩ = some u) :
    w.cell? ⟨b, o + j * 2, none⟩ = some (.int .i64 ss[j].1) ∧ w.cell? ⟨b, o + j * 2 + 1, none⟩ = some (.int .i64 ss[j].2) := by
  obtain ⟨h0, h1⟩ := flatS_at h
  refine ⟨hc _ _ h0, ?_⟩
  rw [Nat.add_assoc]
  exact hc _ _ h1
section
variable {w : World} {p b : Nat} {m : PM} {F : Nat → Prop} {dv ev : Value} {D : DataW Value} {G : Nat → Value}
theorem RepAt.lookAnyPend (h : RepAt w p m F dv b ev D G) {z : Int} (hz : I64 z) (hf : m.L.length ≤ 4096) (hh : m.has z = true) : ∃ A cap mk, (m.line z.toNat).pend.length ≤ cap ∧ cap ≤ maxLen ∧
    ∀ w', w'.heap[b]? = w.heap[b]? → (Instr.lookup 98 (.map (some b)) (.int .i64 z) false).run Tryz.prog w' = .ok (.agg #[.slice A (m.line z.toNat).pend.length cap, .int .i64 mk]) w' := by
  obtain ⟨A, cap, mk, h1, h2, _, h3⟩ := h.lookAny hz hf
  have e : pendP m z = (m.line z.toNat).pend := by unfold pendP; rw [hh]; rfl
  rw [e] at h1 h3
  exact ⟨A, cap, mk, h1, h2, h3⟩
end
set_option maxRecDepth 100000 in
set_option maxHeartbeats 4000000 in
set_option linter.unusedSimpArgs false in
theorem crash_any (p : Nat) (cs : List (Int × Int)) (v : Value) (m : PM) (F : Nat → Prop) (w : World) (hm : m.Ok) (h : Rep w p m F) (hT : Tab w) (hF : ¬ F 6)
    (hsl : Rd w v cs.length (iv (flatS cs))) (hv : ∀ q, 0 < cs.length → v.ownBlock = some q → ¬ F q) (hI : ∀ c ∈ cs, I64 c.1 ∧ I64 c.2) :
    Calls Tryz.prog 30 #[.pointer (some ⟨p, 0, none⟩), v] w fun e w' => e = .returned (.int .i64 (crashP m cs).1) ∧ Step F w p (crashP m cs).2 w' := by
  obtain ⟨R, hR⟩ : ∃ R, crashP m cs = R := ⟨_, rfl⟩
  rw [hR]
  unfold crashP at hR
  have hsl0 := hsl
  obtain ⟨A, cap, rfl, hcc, hcm, _⟩ := hsl
  have hcl : cs.length ≤ 9223372036854775807 := by unfold maxLen at hcm; omega
  have hf := hm.few
  have HM := Lib.hid hm
  have HT := Lib.hid hT
  have HF := Lib.hid hF
  have HI := Lib.hid hI
  have HR0 := Lib.hid h
  have HSL := Lib.hid hsl0
  have HV := Lib.hid hv
  have HR := Lib.hid hR
  have HST := Lib.hid (fun W (hW : Below w.heap.size w W) => Step.below h hW)
  clear hm hT hF hI h hsl0 hv hR
  obtain ⟨n, hn⟩ : ∃ n, cs.length = n := ⟨_, rfl⟩
  have HN := Lib.hid hn
  rw [hn] at hcc hcl ⊢
  clear hn
  have HB0 : Hid (Below w.heap.size w w) := Lib.hid (Below.refl _ _)
  have HC0 : Hid (cutsOk m (-1) cs = cutsOk m (-1) (cs.drop 0)) := Lib.hid rfl
  have hl0 : I64 (-1) := by unfold I64; omega
  go_enter Tryz.func30, Tryz.ntmps30
  go_wp2_with fail
  go_loopw [5, 12] (fun l i wr => ∃ (last : Int) (k : Nat), l = .int .i64 last ∧ i = .int .i64 (k : Int) ∧ k ≤ n ∧ I64 last ∧ Hid (cutsOk m (-1) cs = cutsOk m last (cs.drop k)) ∧ Hid (Below w.heap.size w wr)) (fun l i _ => n - (intOf i).toNat)
  case atStart => exact ⟨-1, 0, rfl, rfl, by omega, hl0, HC0, HB0⟩
  case round =>
    clear HC0 HB0 hl0
    obtain ⟨last, k, rfl, rfl, hk, hla, HC, HB⟩ := hrel
    by_cases hlt : k < n
    · have hkc : k < cs.length := by rw [HN.out]; exact hlt
      obtain ⟨_, _, hv9, _, _, hrr⟩ := HSL.out.keep HB.out.size fun q hn hq => HB.out.block q (HSL.out.lt hn hq)
      simp only [Value.slice.injEq, true_and] at hv9
      obtain ⟨rfl, rfl⟩ := hv9
      obtain ⟨bb, oo, rfl, _, hsw⟩ := hrr (by omega)
      obtain ⟨cl0, cl1⟩ := rd_get hkc hsw
      have hd := drop_cons hkc
      have hIc := HI.out cs[k] (List.getElem_mem hkc)
      have HC' : Hid (cutsOk m (-1) cs = cutsOk m last (cs[k] :: cs.drop (k + 1))) := Lib.hid (by rw [HC.out, hd])
      generalize cs[k] = c at *
      obtain ⟨ln, kp⟩ := c
      obtain ⟨hl1, hl2⟩ := hIc
      simp only at hl1 hl2 cl0 cl1
      have hkI : (k : Int) < (n : Int) := by omega
      have HB1 := Lib.hid (bel_on HB.out (bel_new wr (.cells #[.int .i64 ln, .int .i64 kp] 48)))
      have hr1 := HR0.out.below HB1.out
      have HH := Lib.hid fun q => hasLine_any p ln m F ((wr.alloc (.cells #[.int .i64 ln, .int .i64 kp] 48)).drewN q) HM.out (hr1.below (below_drewN (Below.refl _ _) q))
      clear hd hsw HC
      by_cases b1 : ln ≤ last
      · have d1 := dec_t b1
        have hRR : (1, m) = R := by
          rw [← HR.out, HC'.out, cutsOk_bad (.inl b1), if_pos rfl]
        go_wp2_with fail
        go_quiet (fail)
        go_wp2_with fail
        go_ret
        exact ⟨by rw [← hRR]; rfl, by rw [← hRR]; exact HST.out _ (below_drewN HB1.out nq)⟩
      · have d1 := dec_f b1
        cases hh : m.has ln with
        | false =>
          have hRR : (1, m) = R := by
            rw [← HR.out, HC'.out, cutsOk_bad (.inr (.inl hh)), if_pos rfl]
          rw [hh] at HH
          go_wp2_with fail
          go_quiet ((go_at_call 65; exact Calls.quiet_of_same (HH.out _)))
          go_wp2_with fail
          go_ret
          exact ⟨by rw [← hRR]; rfl, by rw [← hRR]; exact HST.out _ (below_drewN HB1.out nq)⟩
        | true =>
          rw [hh] at HH
          by_cases b3 : kp < 0
          · have d3 := dec_t b3
            have hRR : (1, m) = R := by
              rw [← HR.out, HC'.out, cutsOk_bad (.inr (.inr (.inl b3))), if_pos rfl]
            go_wp2_with fail
            go_quiet ((go_at_call 65; exact Calls.quiet_of_same (HH.out _)))
            go_wp2_with fail
            go_ret
            exact ⟨by rw [← hRR]; rfl, by rw [← hRR]; exact HST.out _ (below_drewN HB1.out nq)⟩
          · have d3 := dec_f b3
            obtain ⟨dv, b, ev, D, G, hr2⟩ := hr1
            obtain ⟨A2, gcap, mk, hg1, hg2, hlk⟩ := hr2.lookAnyPend hl1 hf hh
            have hlN := fun q => hlk ((wr.alloc (.cells #[.int .i64 ln, .int .i64 kp] 48)).drewN q) rfl
            have c1 := hr2.c1
            have hfb := field_b0 (.slice A2 (m.line ln.toNat).pend.length gcap) mk
            have hlp : (m.line ln.toNat).pend.length ≤ 9223372036854775807 := by unfold maxLen at hg2; omega
            clear hlk hr2
            by_cases b4 : ((m.line ln.toNat).pend.length : Int) < kp
            · have hRR : (1, m) = R := by
                rw [← HR.out, HC'.out, cutsOk_bad (.inr (.inr (.inr b4))), if_pos rfl]
              generalize (m.line ln.toNat).pend.length = pl at *
              have d4 := dec_t b4
              go_wp2_with fail
              go_quiet ((go_at_call 65; exact Calls.quiet_of_same (HH.out _)))
              go_wp2_with fail
              go_ret
              exact ⟨by rw [← hRR]; rfl, by rw [← hRR]; exact HST.out _ (below_drewN HB1.out nq)⟩
            · have hCC : Hid (cutsOk m (-1) cs = cutsOk m ln (cs.drop (k + 1))) := Lib.hid (by rw [HC'.out, cutsOk_good b1 hh b3 b4])
              generalize (m.line ln.toNat).pend.length = pl at *
              have d4 := dec_f b4
              go_wp2_with fail
              go_quiet ((go_at_call 65; exact Calls.quiet_of_same (HH.out _)))
              have HB2 := Lib.hid (below_drewN HB1.out nq)
              go_wp2_with fail
              go_roundw
              case rel => exact ⟨ln, k + 1, rfl, by simp, by omega, hl1, hCC, HB2⟩
              case measure => simp [intOf]; omega
    · obtain rfl : k = n := by omega
      have hall : cutsOk m (-1) cs = true := by
        rw [HC.out, List.drop_of_length_le (by rw [HN.out]; exact Nat.le_refl _)]
        rfl
      have hRR : (0, (settles m cs).lost) = R := by
        rw [← HR.out, hall, if_neg (by simp)]
      have HALL : Hid (cutsOk m (-1) (cs.drop 0) = true) := Lib.hid hall
      have HSS : Hid (settles m cs = settles m (cs.drop 0)) := Lib.hid rfl
      have HS0 : Hid (Step F w p m wr) := Lib.hid (HST.out wr HB.out)
      clear HC HR HST HB hall hla
      go_wp2_with fail
      go_loopw [51] (fun i w2 => ∃ (j : Nat) (last : Int) (mj : PM), i = .int .i64 (j : Int) ∧ j ≤ k ∧ Hid mj.Ok ∧ Hid (mj.L.length = m.L.length) ∧ Hid (cutsOk mj last (cs.drop j) = true) ∧ Hid (settles m cs = settles mj (cs.drop j)) ∧ Hid (Step F w p mj w2)) (fun i _ => k - (intOf i).toNat)
      case atStart => exact ⟨0, -1, m, rfl, by omega, HM, Lib.hid rfl, HALL, HSS, HS0⟩
      case round =>
        clear HALL HSS HS0
        obtain ⟨j, last, mj, rfl, hj, HMJ, HLJ, HCJ, HSJ, HTJ⟩ := hrel
        by_cases hlt2 : j < k
        · have hkc : j < cs.length := by rw [HN.out]; exact hlt2
          obtain ⟨_, _, hv9, _, _, hrr⟩ := HSL.out.keep HTJ.out.2.size fun q hn hq => HTJ.out.2.block q (HSL.out.lt hn hq) (HV.out q hn hq)
          simp only [Value.slice.injEq, true_and] at hv9
          obtain ⟨rfl, rfl⟩ := hv9
          obtain ⟨bb, oo, rfl, _, hsw⟩ := hrr (by omega)
          obtain ⟨cl0, cl1⟩ := rd_get hkc hsw
          have hd := drop_cons hkc
          have hIc := HI.out cs[j] (List.getElem_mem hkc)
          have hcj := HCJ.out
          rw [hd] at hcj
          obtain ⟨q1, q2, q3, q4, q5⟩ := cutsOk_cons hcj
          have HSJ' : Hid (settles m cs = settles mj (cs[j] :: cs.drop (j + 1))) := Lib.hid (by rw [HSJ.out, hd])
          generalize cs[j] = c at *
          obtain ⟨ln, kp⟩ := c
          simp only at q1 q2 q3 q4 q5 hIc cl0 cl1
          have hr : 0 ≤ ln ∧ ln < mj.L.length := by unfold PM.has at q2; simpa using q2
          obtain ⟨i, rfl⟩ : ∃ i : Nat, ln = i := ⟨ln.toNat, by omega⟩
          obtain ⟨n, rfl⟩ : ∃ n : Nat, kp = n := ⟨kp.toNat, by omega⟩
          have hil : i < mj.L.length := by omega
          rw [Int.toNat_natCast] at q4
          have hjI : (j : Int) < (k : Int) := by omega
          have hB1 := bel_new wr (.cells #[.int .i64 (i : Int), .int .i64 (n : Int)] 48)
          have HSE := Lib.hid (settle_any p i n mj _ (wr.alloc (.cells #[.int .i64 (i : Int), .int .i64 (n : Int)] 48)) hil (by omega) HMJ.out (HTJ.out.1.below hB1) ((HT.out.kept HF.out HTJ.out.2).keep hB1))
          have HMJ2 : Hid (mj.upd i (·.settle n)).Ok := Lib.hid (settle_ok HMJ.out hil)
          have HLJ2 : Hid ((mj.upd i (·.settle n)).L.length = m.L.length) := Lib.hid (by rw [PM.upd_len]; exact HLJ.out)
          have HCJ2 : Hid (cutsOk (mj.upd i (·.settle n)) (i : Int) (cs.drop (j + 1)) = true) := Lib.hid (by rw [cutsOk_upd hil _ _ (Int.le_refl _)]; exact q5)
          have HSJ2 : Hid (settles m cs = settles (mj.upd i (·.settle n)) (cs.drop (j + 1))) := Lib.hid (by
            rw [HSJ'.out]
            show settles (mj.upd (i : Int).toNat (·.settle (n : Int).toNat)) _ = _
            rw [Int.toNat_natCast, Int.toNat_natCast])
          have HB1 := Lib.hid hB1
          clear hd hsw HSJ HSJ' HCJ hcj q1 q2 q3 q4 q5 hB1 HMJ HLJ
          go_wp2_with fail
          refine HSE.out.mono ?_
          rintro e w3 ⟨rfl, hs⟩
          have HT3 := Lib.hid (HTJ.out.trans (Step.after (Kept.of_below HB1.out) hs))
          clear hs HTJ HSE
          go_wp2_with fail
          go_roundw
          case rel => exact ⟨j + 1, (i : Int), mj.upd i (·.settle n), by simp, by omega, HMJ2, HLJ2, HCJ2, HSJ2, HT3⟩
          case measure => simp [intOf]; omega
        · obtain rfl : j = k := by omega
          have hmj : settles m cs = mj := by
            rw [HSJ.out, List.drop_of_length_le (by rw [HN.out]; exact Nat.le_refl _)]
            rfl
          have hRR2 : (0, mj.lost) = R := by rw [← hRR, hmj]
          have HRR := Lib.hid hRR2
          obtain ⟨hrj, hkj⟩ := HTJ.out
          obtain ⟨F3, hF3⟩ : ∃ F3, F3 = Ex F w wr := ⟨_, rfl⟩
          rw [← hF3] at hrj
          obtain ⟨dv, b, ev, D, G, hr3⟩ := hrj
          have c1 := hr3.c1
          have HOW := Lib.hid hr3.map
          have HR3 := Lib.hid hr3
          have HKJ := Lib.hid hkj
          have HF3 := Lib.hid hF3
          have HTK := Lib.hid HTJ.out
          clear hr3 hkj hF3 hRR2 hmj hRR HSJ HCJ HMJ HLJ HTJ HKJ
          go_wp2_with ((with_reducible refine arm_clear HOW.out rfl _ rfl ?_ ?_); focus rfl)
          intro w4 hown4 hturn4
          have hK4 : Kept (fun k => k = b) wr w4 := Kept.of_grown hturn4.grown (fun k hk => by simpa using hk.symm)
          have hr4 := HR3.out.clearBusy (fun k hk hne => hK4.block k (HR3.out.lt k hk) hne) hK4.size hown4
          have hs4 : Step F3 wr p { mj with L := mj.L.map PL.lost } w4 := ⟨⟨_, _, _, _, _, hr4⟩, hK4.mono (fun k _ e => by subst e; exact HR3.out.ownB)⟩
          have hs5 : Step (Ex F3 wr w4) w4 p { mj with L := mj.L.map PL.lost, span := 0 } (w4.setCell ⟨p, 2, none⟩ (.int .i64 0)) := ⟨⟨_, _, _, _, _, (hr4.setSpan 0).keep (fun _ _ => rfl) (fun k hk => .inl hk) fun k hk => by
            rcases hk with h1 | h1
            · simpa using hr4.lt k h1
            · exact h1.2⟩, Kept.setCell w4 _ hr4.ownP⟩
          have hs45 := hs4.trans hs5
          have HS45 := Lib.hid hs45
          have HFG := Lib.hid (forget_any p _ _ _ hs45.1)
          have c2 := hr4.c2
          have f2 := hr4.mem.free 2
          clear hK4 hr4 hs4 hs5 hs45 hown4 hturn4 c1 HOW HR3
          go_wp2_with fail
          refine HFG.out.mono ?_
          rintro e w6 ⟨rfl, hs6⟩
          have h9 := HS45.out.trans hs6
          rw [HF3.out] at h9
          have HFIN := Lib.hid (HTK.out.trans h9)
          clear hs6 h9
          go_wp2_with fail
          go_ret
          refine ⟨by rw [← HRR.out]; rfl, ?_⟩
          rw [← HRR.out]
          exact HFIN.out
end Go.Proofs.YtpojhplnhppcpaaGreatDoor
namespace Go.Proofs
open Go.Shelf
def Tryz.keysA_ren : Go.Shelf.Ren := ⟨fun | 7 => 101 | 10 => 131 | n => n, fun | 23 => 98 | 26 => 3 | 3 => 108 | 28 => 153 | 0 => 0 | 27 => 152 | 33 => 111 | 4 => 4 | n => n, fun | n => n⟩
theorem Tryz.keysA : Go.Proofs.SlLaysZI.n7 Tryz.prog Tryz.keysA_ren := {
  mixed := by kernel_rfl
  f7 := ⟨Tryz.f101.name, by decide, Tryz.func101.trans (congrArg some (by kernel_rfl))⟩
  f10 := ⟨Tryz.f131.name, by decide, Tryz.func131.trans (congrArg some (by kernel_rfl))⟩
  t0 := Tryz.underlying0
  a0 := Tryz.isAgg0
  z0 := Tryz.sizeOf0
  v0 := Tryz.zeroValue0
  t4 := Tryz.underlying4
  a4 := Tryz.isAgg4
  z4 := Tryz.sizeOf4
  v4 := Tryz.zeroValue4
  t23 := Tryz.underlying98
  a23 := Tryz.isAgg98
  z23 := Tryz.sizeOf98
  v23 := Tryz.zeroValue98
  t26 := Tryz.underlying3
  a26 := Tryz.isAgg3
  z26 := Tryz.sizeOf3
  v26 := Tryz.zeroValue3
  t27 := Tryz.underlying152
  a27 := Tryz.isAgg152
  z27 := Tryz.sizeOf152
  v27 := Tryz.zeroValue152
  t28 := Tryz.underlying153
  a28 := Tryz.isAgg153
  z28 := Tryz.sizeOf153
  v28 := Tryz.zeroValue153
  t33 := Tryz.underlying111
  a33 := Tryz.isAgg111
  z33 := Tryz.sizeOf111
  v33 := Tryz.zeroValue111 }
def Tryz.sortedA_ren : Go.Shelf.Ren := ⟨fun | 6 => 100 | 8 => 129 | 9 => 130 | 11 => 147 | 13 => 149 | 12 => 148 | 23 => 178 | 24 => 179 | 14 => 169 | 15 => 170 | 16 => 171 | 17 => 172 | 18 => 173 | 19 => 174 | 20 => 175 | 21 => 176 | 22 => 177 | 25 => 195 | 26 => 196 | 27 => 197 | 28 => 198 | 29 => 199 | 30 => 200 | 31 => 210 | n => n, fun | 26 => 3 | 28 => 153 | 24 => 59 | 0 => 0 | 3 => 3 | 37 => 192 | 48 => 72 | 50 => 183 | 4 => 4 | 40 => 211 | 39 => 210 | 45 => 166 | 5 => 5 | 9 => 9 | 51 => 231 | 55 => 138 | 57 => 240 | 58 => 164 | 33 => 111 | n => n, fun | n => n⟩
theorem Tryz.sortedA : Go.Proofs.SlLaysZI.n6 Tryz.prog Tryz.sortedA_ren := {
  mixed := by kernel_rfl
  f6 := ⟨Tryz.f100.name, by decide, Tryz.func100.trans (congrArg some (by kernel_rfl))⟩
  f8 := ⟨Tryz.f129.name, by decide, Tryz.func129.trans (congrArg some (by kernel_rfl))⟩
  f11 := ⟨Tryz.f147.name, by decide, Tryz.func147.trans (congrArg some (by kernel_rfl))⟩
  t0 := Tryz.underlying0
  a0 := Tryz.isAgg0
  z0 := Tryz.sizeOf0
  v0 := Tryz.zeroValue0
  t24 := Tryz.underlying59
  a24 := Tryz.isAgg59
  z24 := Tryz.sizeOf59
  v24 := Tryz.zeroValue59
  t26 := Tryz.underlying3
  a26 := Tryz.isAgg3
  z26 := Tryz.sizeOf3
  v26 := Tryz.zeroValue3
  t28 := Tryz.underlying153
  a28 := Tryz.isAgg153
  z28 := Tryz.sizeOf153
  v28 := Tryz.zeroValue153
  i26 := by kernel_rfl }
def Tryz.sortA_ren : Go.Shelf.Ren := ⟨fun | 5 => 130 | 8 => 149 | 7 => 148 | 19 => 178 | 20 => 179 | 10 => 169 | 11 => 170 | 12 => 171 | 13 => 172 | 14 => 173 | 15 => 174 | 16 => 175 | 17 => 176 | 18 => 177 | 30 => 195 | 31 => 196 | 32 => 197 | 33 => 198 | 34 => 199 | 35 => 200 | 40 => 210 | n => n, fun | 23 => 59 | 25 => 3 | 3 => 3 | 32 => 192 | 22 => 59 | 0 => 0 | 44 => 72 | 46 => 183 | 4 => 4 | 36 => 211 | 35 => 210 | 41 => 166 | 5 => 5 | 9 => 9 | 53 => 231 | 57 => 138 | 63 => 240 | 64 => 164 | n => n, fun | n => n⟩
theorem Tryz.sortA : Go.Proofs.SlLaysM.n5 Tryz.prog Tryz.sortA_ren := {
  mixed := by kernel_rfl
  f5 := ⟨Tryz.f130.name, by decide, Tryz.func130.trans (congrArg some (by kernel_rfl))⟩
  f7 := ⟨Tryz.f148.name, by decide, Tryz.func148.trans (congrArg some (by kernel_rfl))⟩
  f8 := Tryz.func149.trans (congrArg some (by kernel_rfl))
  f10 := ⟨Tryz.f169.name, by decide, Tryz.func169.trans (congrArg some (by kernel_rfl))⟩
  f11 := ⟨Tryz.f170.name, by decide, Tryz.func170.trans (congrArg some (by kernel_rfl))⟩
  f12 := ⟨Tryz.f171.name, by decide, Tryz.func171.trans (congrArg some (by kernel_rfl))⟩
  f13 := ⟨Tryz.f172.name, by decide, Tryz.func172.trans (congrArg some (by kernel_rfl))⟩
  f14 := ⟨Tryz.f173.name, by decide, Tryz.func173.trans (congrArg some (by kernel_rfl))⟩
  f15 := ⟨Tryz.f174.name, by decide, Tryz.func174.trans (congrArg some (by kernel_rfl))⟩
  f16 := ⟨Tryz.f175.name, by decide, Tryz.func175.trans (congrArg some (by kernel_rfl))⟩
  f17 := ⟨Tryz.f176.name, by decide, Tryz.func176.trans (congrArg some (by kernel_rfl))⟩
  f18 := ⟨Tryz.f177.name, by decide, Tryz.func177.trans (congrArg some (by kernel_rfl))⟩
  f19 := Tryz.func178.trans (congrArg some (by kernel_rfl))
  f20 := Tryz.func179.trans (congrArg some (by kernel_rfl))
  f30 := ⟨Tryz.f195.name, by decide, Tryz.func195.trans (congrArg some (by kernel_rfl))⟩
  f31 := Tryz.func196.trans (congrArg some (by kernel_rfl))
  f32 := Tryz.func197.trans (congrArg some (by kernel_rfl))
  f33 := ⟨Tryz.f198.name, by decide, Tryz.func198.trans (congrArg some (by kernel_rfl))⟩
  f34 := ⟨Tryz.f199.name, by decide, Tryz.func199.trans (congrArg some (by kernel_rfl))⟩
  f35 := ⟨Tryz.f200.name, by decide, Tryz.func200.trans (congrArg some (by kernel_rfl))⟩
  f40 := ⟨Tryz.f210.name, by decide, Tryz.func210.trans (congrArg some (by kernel_rfl))⟩
  t0 := Tryz.underlying0
  a0 := Tryz.isAgg0
  z0 := Tryz.sizeOf0
  v0 := Tryz.zeroValue0
  t3 := Tryz.underlying3
  a3 := Tryz.isAgg3
  z3 := Tryz.sizeOf3
  v3 := Tryz.zeroValue3
  t4 := Tryz.underlying4
  a4 := Tryz.isAgg4
  z4 := Tryz.sizeOf4
  v4 := Tryz.zeroValue4
  t5 := Tryz.underlying5
  a5 := Tryz.isAgg5
  z5 := Tryz.sizeOf5
  v5 := Tryz.zeroValue5
  t9 := Tryz.underlying9
  a9 := Tryz.isAgg9
  z9 := Tryz.sizeOf9
  v9 := Tryz.zeroValue9
  t22 := Tryz.underlying59
  a22 := Tryz.isAgg59
  z22 := Tryz.sizeOf59
  v22 := Tryz.zeroValue59
  t23 := Tryz.underlying59
  a23 := Tryz.isAgg59
  z23 := Tryz.sizeOf59
  v23 := Tryz.zeroValue59
  t25 := Tryz.underlying3
  a25 := Tryz.isAgg3
  z25 := Tryz.sizeOf3
  v25 := Tryz.zeroValue3
  t32 := Tryz.underlying192
  a32 := Tryz.isAgg192
  z32 := Tryz.sizeOf192
  v32 := Tryz.zeroValue192
  t35 := Tryz.underlying210
  a35 := Tryz.isAgg210
  z35 := Tryz.sizeOf210
  v35 := Tryz.zeroValue210
  t36 := Tryz.underlying211
  a36 := Tryz.isAgg211
  z36 := Tryz.sizeOf211
  v36 := Tryz.zeroValue211
  t41 := Tryz.underlying166
  a41 := Tryz.isAgg166
  z41 := Tryz.sizeOf166
  v41 := Tryz.zeroValue166
  t44 := Tryz.underlying72
  a44 := Tryz.isAgg72
  z44 := Tryz.sizeOf72
  v44 := Tryz.zeroValue72
  t46 := Tryz.underlying183
  a46 := Tryz.isAgg183
  z46 := Tryz.sizeOf183
  v46 := Tryz.zeroValue183
  t53 := Tryz.underlying231
  a53 := Tryz.isAgg231
  z53 := Tryz.sizeOf231
  v53 := Tryz.zeroValue231
  t57 := Tryz.underlying138
  a57 := Tryz.isAgg138
  z57 := Tryz.sizeOf138
  v57 := Tryz.zeroValue138
  t63 := Tryz.underlying240
  a63 := Tryz.isAgg240
  z63 := Tryz.sizeOf240
  v63 := Tryz.zeroValue240
  t64 := Tryz.underlying164
  a64 := Tryz.isAgg164
  z64 := Tryz.sizeOf164
  v64 := Tryz.zeroValue164 }
end Go.Proofs
