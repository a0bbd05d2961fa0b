/-
  What trace's call does. == and != of events. What trace's replay does.
-/
import Derived.Test.YtpojhplnhppcpaaGreatDoorQN17
import Derived.Test.YtpojhplnhppcpaaGreatDoorQC8
import Derived.Test.YtpojhplnhppcpaaGreatDoorQN11
import Derived.Deep.CutBlock
namespace Go.Proofs.YtpojhplnhppcpaaGreatDoor
open Go.RowKit Go.Maps
set_option maxRecDepth 100000 in
set_option maxHeartbeats 8000000 in
set_option linter.unusedSimpArgs false in
theorem tcall_any (p : Nat) (x : List Int) (m : PM) (F : Nat → Prop) (w : World) (hx : x.length = 12) (hxI : ∀ z ∈ x, I64 z) (hm : m.Ok) (hs : m.Small 900000) (h : Rep w p m F) (hT : Tab w) (hF : ¬ F 6) :
    Calls Tryz.prog 77 #[.pointer (some ⟨p, 0, none⟩), .agg (iv x).toArray] w fun e w' => e = .returned (.int .i64 (codeX m x)) ∧ Step F w p (applyP m x) w' := by
  obtain ⟨k, a, v, s, a0, a1, a2, a3, a4, a5, a6, a7, hxe⟩ := line12 hx
  have ha : I64 a := hxI a (by rw [hxe]; simp)
  have hv : I64 v := hxI v (by rw [hxe]; simp)
  have hsI : I64 s := hxI s (by rw [hxe]; simp)
  have hAP : applyP m x = callP m k a v s [a0, a1, a2, a3, a4, a5, a6, a7] := by rw [hxe]; rfl
  have hCP : codeX m x = codeP m k a v s [a0, a1, a2, a3, a4, a5, a6, a7] := by rw [hxe]; rfl
  have hb := bel_new w (.cells (iv x).toArray 68)
  have hA := Arr.new w (iv x) 68
  have e0 := hA.cell (j := 0) (u := .int .i64 k) (by rw [hxe]; rfl)
  have e1 := hA.cell (j := 1) (u := .int .i64 a) (by rw [hxe]; rfl)
  have e2 := hA.cell (j := 2) (u := .int .i64 v) (by rw [hxe]; rfl)
  have e3 := hA.cell (j := 3) (u := .int .i64 s) (by rw [hxe]; rfl)
  have r4 : (w.alloc (.cells (iv x).toArray 68)).rangeAt w.heap.size 4 (iv [a0, a1, a2, a3, a4, a5, a6, a7]) := fun j u hj => hA.cell (by
    rw [hxe, Nat.add_comm]
    exact hj)
  have hi8 : (Tryz.prog.info? 66).map (·.size) = some (iv [a0, a1, a2, a3, a4, a5, a6, a7]).length := size22' rfl
  have hu22 := Tryz.underlying66
  have hr := h.below hb
  have hT1 := hT.keep hb
  have HNF : Hid (¬ F w.heap.size) := Lib.hid fun hG => by have := h.lt _ hG; omega
  have HBL : Hid (w.heap.size < (w.alloc (.cells (iv x).toArray 68)).heap.size) := Lib.hid (by simp)
  have HST := Lib.hid fun (m' : PM) (w' : World) (s : Step F (w.alloc (.cells (iv x).toArray 68)) p m' w') => Step.after (Kept.of_below hb) s
  have hspo := (span_good hm hs s hsI).ok
  have hsps := ((span_good hm hs s hsI).small).mono (show 900000 + 1 ≤ 1000000 by omega)
  have hsm := hs.mono (show 900000 ≤ 1000000 by omega)
  obtain ⟨OV, hOV⟩ : ∃ OV, iv x = OV := ⟨_, rfl⟩
  rw [hOV] at e0 e1 e2 e3 r4 HBL HST hr hT1 ⊢
  rw [hAP, hCP]
  obtain ⟨W, hW⟩ : ∃ W, w.alloc (.cells OV.toArray 68) = W := ⟨_, rfl⟩
  obtain ⟨RA, hRA⟩ : ∃ RA, callP m k a v s [a0, a1, a2, a3, a4, a5, a6, a7] = RA := ⟨_, rfl⟩
  obtain ⟨RC, hRC⟩ : ∃ RC, codeP m k a v s [a0, a1, a2, a3, a4, a5, a6, a7] = RC := ⟨_, rfl⟩
  rw [hRA, hRC]
  have HRA := Lib.hid hRA
  have HRC := Lib.hid hRC
  clear hA hb h hT hx hxI hxe hAP hCP hOV hW hs hRA hRC W
  by_cases q1 : k = 1
  · subst q1
    have hra : (storeP (spanP m s) 1 a v).2 = RA := by rw [← HRA.out]; unfold callP; simp
    have hrc : (storeP (spanP m s) 1 a v).1 = RC := by rw [← HRC.out]; unfold codeP; simp
    have HC1 := Lib.hid (span_any p s m F _ hr)
    have HT1 := Lib.hid hT1
    have HRAA := Lib.hid hra
    have HRCC := Lib.hid hrc
    clear hr hT1 hra hrc hm hsm hsI hv
    go_enter Tryz.func77, Tryz.ntmps77
    go_wp2_with fail
    refine HC1.out.mono ?_
    rintro e w1 ⟨rfl, hst1⟩
    have b1 := hst1.2.block _ HBL.out HNF.out
    have f1 := (cell_of_block (w' := w1) (a := ⟨w.heap.size, 1, none⟩) b1).trans e1
    have f2 := (cell_of_block (w' := w1) (a := ⟨w.heap.size, 2, none⟩) b1).trans e2
    have HC2 := Lib.hid (store_any p a v (spanP m s) _ w1 hspo hsps hst1.1 (HT1.out.kept hF hst1.2) ha)
    have HS1 := Lib.hid hst1
    clear hst1 HC1 b1
    go_wp2_with fail
    refine HC2.out.mono ?_
    rintro e wA ⟨rfl, hst2⟩
    have HS3 := Lib.hid (HST.out _ _ (HS1.out.trans hst2))
    clear hst2 HC2 HS1
    go_wp2_with fail
    go_ret
    have h1 : (rec_ (putP (spanP m s) a v) (evt 1 a v (spanP m s).span Z8)).1 = RC := HRCC.out
    have h2 : (rec_ (putP (spanP m s) a v) (evt 1 a v (spanP m s).span Z8)).2 = RA := HRAA.out
    have h3 := HS3.out
    rw [h2] at h3
    exact ⟨by rw [h1]; rfl, h3⟩
  by_cases q2 : k = 2
  · subst q2
    have hra : (storeP (spanP m s) 2 a v).2 = RA := by rw [← HRA.out]; unfold callP; simp
    have hrc : (storeP (spanP m s) 2 a v).1 = RC := by rw [← HRC.out]; unfold codeP; simp
    have HC1 := Lib.hid (span_any p s m F _ hr)
    have HT1 := Lib.hid hT1
    have HRAA := Lib.hid hra
    have HRCC := Lib.hid hrc
    clear hr hT1 hra hrc hm hsm hsI hv
    go_enter Tryz.func77, Tryz.ntmps77
    go_wp2_with fail
    refine HC1.out.mono ?_
    rintro e w1 ⟨rfl, hst1⟩
    have b1 := hst1.2.block _ HBL.out HNF.out
    have f1 := (cell_of_block (w' := w1) (a := ⟨w.heap.size, 1, none⟩) b1).trans e1
    have f2 := (cell_of_block (w' := w1) (a := ⟨w.heap.size, 2, none⟩) b1).trans e2
    have HC2 := Lib.hid (publish_any p a v (spanP m s) _ w1 hspo hsps hst1.1 (HT1.out.kept hF hst1.2) ha)
    have HS1 := Lib.hid hst1
    clear hst1 HC1 b1
    go_wp2_with fail
    refine HC2.out.mono ?_
    rintro e wA ⟨rfl, hst2⟩
    have HS3 := Lib.hid (HST.out _ _ (HS1.out.trans hst2))
    clear hst2 HC2 HS1
    go_wp2_with fail
    go_ret
    have h1 : (rec_ (putP (spanP m s) a v) (evt 2 a v (spanP m s).span Z8)).1 = RC := HRCC.out
    have h2 : (rec_ (putP (spanP m s) a v) (evt 2 a v (spanP m s).span Z8)).2 = RA := HRAA.out
    have h3 := HS3.out
    rw [h2] at h3
    exact ⟨by rw [h1]; rfl, h3⟩
  by_cases q3 : k = 3
  · subst q3
    have hra : (rec_ (flushP m a) (evt 3 a 0 0 Z8)).2 = RA := by rw [← HRA.out]; unfold callP; simp
    have hrc : (rec_ (flushP m a) (evt 3 a 0 0 Z8)).1 = RC := by rw [← HRC.out]; unfold codeP; simp
    have HC1 := Lib.hid (flushC_any p a m F _ hm hsm hr)
    rw [hra, hrc] at HC1
    clear hr hT1 hra hrc hm hsm hsI hspo hsps hv
    go_enter Tryz.func77, Tryz.ntmps77
    go_wp2_with fail
    refine HC1.out.mono ?_
    rintro e w1 ⟨rfl, hst1⟩
    have HS1 := Lib.hid (HST.out _ _ hst1)
    clear hst1 HC1
    go_wp2_with fail
    go_ret
    exact ⟨rfl, HS1.out⟩
  by_cases q4 : k = 4
  · subst q4
    have hra : (fenceP m).add (evt 4 0 0 0 Z8) = RA := by rw [← HRA.out]; unfold callP; simp
    have hrc : (0 : Int) = RC := by rw [← HRC.out]; unfold codeP; simp
    have HC1 := Lib.hid (fenceC_any p m F _ hm hsm hr hT1 hF)
    rw [hra] at HC1
    obtain rfl := hrc
    clear hr hT1 hra hm hsm hsI hspo hsps hv
    go_enter Tryz.func77, Tryz.ntmps77
    go_wp2_with fail
    refine HC1.out.mono ?_
    rintro e w1 ⟨rfl, hst1⟩
    have HS1 := Lib.hid (HST.out _ _ hst1)
    clear hst1 HC1
    go_wp2_with fail
    go_ret
    exact ⟨rfl, HS1.out⟩
  by_cases q5 : k = 5
  · subst q5
    have hra : (rec_ (evictP m a v) (evt 5 a v 0 Z8)).2 = RA := by rw [← HRA.out]; unfold callP; simp
    have hrc : (rec_ (evictP m a v) (evt 5 a v 0 Z8)).1 = RC := by rw [← HRC.out]; unfold codeP; simp
    have HC1 := Lib.hid (evictC_any p a v m F _ hm hsm hr hT1 ha hv)
    rw [hra, hrc] at HC1
    clear hr hT1 hra hrc hm hsm hsI hspo hsps 
    go_enter Tryz.func77, Tryz.ntmps77
    go_wp2_with fail
    refine HC1.out.mono ?_
    rintro e w1 ⟨rfl, hst1⟩
    have HS1 := Lib.hid (HST.out _ _ hst1)
    clear hst1 HC1
    go_wp2_with fail
    go_ret
    exact ⟨rfl, HS1.out⟩
  by_cases q6 : k = 6
  · subst q6
    have hra : (rec_ (healP m a [a0, a1, a2, a3, a4, a5, a6, a7]) (evt 6 a 0 0 [a0, a1, a2, a3, a4, a5, a6, a7])).2 = RA := by rw [← HRA.out]; unfold callP; simp
    have hrc : (rec_ (healP m a [a0, a1, a2, a3, a4, a5, a6, a7]) (evt 6 a 0 0 [a0, a1, a2, a3, a4, a5, a6, a7])).1 = RC := by rw [← HRC.out]; unfold codeP; simp
    have HC1 := Lib.hid (healC_any p a [a0, a1, a2, a3, a4, a5, a6, a7] m F _ hm hsm hr rfl hT1 hF)
    rw [hra, hrc] at HC1
    clear hr hT1 hra hrc hm hsm hsI hspo hsps 
    go_enter Tryz.func77, Tryz.ntmps77
    go_wp2_with ((with_reducible refine arm_range 66 w.heap.size 4 (iv [a0, a1, a2, a3, a4, a5, a6, a7]) r4 _ hu22 rfl hi8 rfl _ rfl ?_ ?_); focus rfl)
    refine HC1.out.mono ?_
    rintro e w1 ⟨rfl, hst1⟩
    have HS1 := Lib.hid (HST.out _ _ hst1)
    clear hst1 HC1
    go_wp2_with fail
    go_ret
    exact ⟨rfl, HS1.out⟩
  by_cases q7 : k = 7
  · subst q7
    have hra : (rec_ (rotP m a [a0, a1, a2, a3, a4, a5, a6, a7] v) (evt 7 a v 0 [a0, a1, a2, a3, a4, a5, a6, a7])).2 = RA := by rw [← HRA.out]; unfold callP; simp
    have hrc : (rec_ (rotP m a [a0, a1, a2, a3, a4, a5, a6, a7] v) (evt 7 a v 0 [a0, a1, a2, a3, a4, a5, a6, a7])).1 = RC := by rw [← HRC.out]; unfold codeP; simp
    have HC1 := Lib.hid (rotC_any p a [a0, a1, a2, a3, a4, a5, a6, a7] v m F _ hm hsm hr rfl)
    rw [hra, hrc] at HC1
    clear hr hT1 hra hrc hm hsm hsI hspo hsps 
    go_enter Tryz.func77, Tryz.ntmps77
    go_wp2_with ((with_reducible refine arm_range 66 w.heap.size 4 (iv [a0, a1, a2, a3, a4, a5, a6, a7]) r4 _ hu22 rfl hi8 rfl _ rfl ?_ ?_); focus rfl)
    refine HC1.out.mono ?_
    rintro e w1 ⟨rfl, hst1⟩
    have HS1 := Lib.hid (HST.out _ _ hst1)
    clear hst1 HC1
    go_wp2_with fail
    go_ret
    exact ⟨rfl, HS1.out⟩
  · have hra : m = RA := by rw [← HRA.out]; unfold callP; simp [q1, q2, q3, q4, q5, q6, q7]
    have hrc : 3 = RC := by rw [← HRC.out]; unfold codeP; simp [q1, q2, q3, q4, q5, q6, q7]
    have HS1 := Lib.hid (HST.out _ _ (Step.refl hr))
    clear hr hT1 hm hsm hsI hspo hsps HST
    go_enter Tryz.func77, Tryz.ntmps77
    go_wp2_with fail
    go_ret
    rw [← hra, ← hrc]
    exact ⟨rfl, HS1.out⟩
end Go.Proofs.YtpojhplnhppcpaaGreatDoor
namespace Go.Proofs.YtpojhplnhppcpaaGreatDoor
open Go.RowKit Go.Maps
theorem lits_event (k a v s : Int) (L : List Int) (h8 : L.length = 8) (hz : ∀ z ∈ L, I64 z) (hk : I64 k) (ha : I64 a) (hv : I64 v) (hs : I64 s) : Tryz.prog.keyLits 3 68 (iv ([k, a, v, s] ++ L)) = some (litsOf ([k, a, v, s] ++ L)) := by
  have c12 : Tryz.prog.cellsOf 68 = 12 := by kernel_rfl
  have c8 : Tryz.prog.cellsOf 66 = 8 := by kernel_rfl
  have c1 : Tryz.prog.cellsOf 3 = 1 := by kernel_rfl
  have e0 : ((iv ([k, a, v, s] ++ L)).drop 0).take 1 = [.int .i64 k] := rfl
  have e1 : ((iv ([k, a, v, s] ++ L)).drop 1).take 1 = [.int .i64 a] := rfl
  have e2 : ((iv ([k, a, v, s] ++ L)).drop 2).take 1 = [.int .i64 v] := rfl
  have e3 : ((iv ([k, a, v, s] ++ L)).drop 3).take 1 = [.int .i64 s] := rfl
  have e4 : ((iv ([k, a, v, s] ++ L)).drop 4).take 8 = iv L := by
    show (iv L).take 8 = iv L
    rw [List.take_of_length_le (by rw [iv_len, h8]; exact Nat.le_refl _)]
  have k4 := lits_row 66 8 Tryz.underlying66 c8 L h8 hz
  have q0 := lits_one 1 k hk
  have q1 := lits_one 1 a ha
  have q2 := lits_one 1 v hv
  have q3 := lits_one 1 s hs
  unfold Program.keyLits
  rw [Tryz.underlying68]
  simp only
  rw [if_pos ⟨by rw [iv_len, List.length_append, h8, c12]; rfl, by kernel_rfl⟩]
  simp only [List.mapM_cons, List.mapM_nil, c8, c1, e0, e1, e2, e3, e4, q0, q1, q2, q3, k4, Option.bind_eq_bind, Option.bind_some, Option.pure_def, Option.map_some]
  unfold litsOf
  simp
theorem eq_event2 (E D : List Int) (hE : E.length = 12) (hD : D.length = 12) (zE : ∀ z ∈ E, I64 z) (zD : ∀ z ∈ D, I64 z) (w : World) :
    (Op.equalIn 10000 68 (.agg (iv E).toArray) (.agg (iv D).toArray)).run Tryz.prog w = .ok (decide (E = D)) w := by
  have c12 : Tryz.prog.cellsOf 68 = 12 := by kernel_rfl
  have hk : Tryz.prog.keyTypeAt 3 68 = true := by kernel_rfl
  have hl : ∀ E : List Int, E.length = 12 → (∀ z ∈ E, I64 z) → Tryz.prog.keyLits 3 68 (iv E) = some (litsOf E) := fun E h12 hz => by
    obtain ⟨a0, a1, a2, a3, a4, a5, a6, a7, a8, a9, b0, b1, rfl⟩ := line12 h12
    exact lits_event a0 a1 a2 a3 [a4, a5, a6, a7, a8, a9, b0, b1] rfl (fun z h => hz z (List.mem_append_right [a0, a1, a2, a3] h)) (hz _ (by simp)) (hz _ (by simp)) (hz _ (by simp)) (hz _ (by simp))
  have hf : ∀ q : List Int, q.length = 12 → (Value.agg (iv q).toArray).formed Tryz.prog 68 = true := by
    intro q hq
    unfold Value.formed
    rw [Tryz.underlying68]
    simp [iv_len, hq, c12]
  have hcells : ∀ q : List Int, (Value.agg (iv q).toArray).cells.toList = iv q := fun q => by simp [Value.cells]
  obtain ⟨r, hr, hiff⟩ := run_equalIn_deep (P := Tryz.prog) 9997 3 68 hk w 3 3 (.agg (iv E).toArray) (.agg (iv D).toArray) (litsOf E) (litsOf D) (hf E hE) (hf D hD) (by rw [hcells]; exact hl E hE zE) (by rw [hcells]; exact hl D hD zD)
  have e : r = decide (E = D) := by
    rw [Bool.eq_iff_iff, hiff, decide_eq_true_iff]
    exact ⟨litsOf_inj, fun h => by rw [h]⟩
  rw [← e]
  exact hr
/-- == of two structs, as an operation. -/
theorem exec_eql (r0 : Operand → Value) (o : Oper) (t y : TypeId) (a b : Operand) (xs ys : Array Value) (r : Bool) (w : World) (ho : o.op = .binOp .eql t a b y) (ha : r0 a = .agg xs) (hb : r0 b = .agg ys)
    (hm : Tryz.prog.eqGuardType Tryz.prog.depth t = false) (h : (Op.equalIn 10000 t (.agg xs) (.agg ys)).run Tryz.prog w = .ok r w) : (execOp r0 o).run Tryz.prog w = .ok (.value (.bool r)) w := by
  unfold execOp
  simp only [ho, ha, hb, Sem.run_bind, run_eqGuard_agg _ _ _ _ _ _ _ hm, run_eql_struct, h, Result.andThen_ok, Sem.run_pure]
theorem evLine {w : World} {d o : Nat} {S : List (List Int)} (h8 : ∀ x ∈ S, x.length = 12) (hs : ∀ j u, (iv S.flatten)[j]? = some u → w.cell? ⟨d, o + j, none⟩ = some u) {k : Nat} (hk : k < S.length) : w.rangeAt d (o + k * 12) (iv S[k]) := fun j v hv => by
  have hj : j < 12 := by
    have := (List.getElem?_eq_some_iff.1 hv).1
    rw [iv_len, h8 _ (List.getElem_mem hk)] at this
    exact this
  have hb := flat_block (fun x : List Int => x) 12 S k j hk h8 hj
  rw [List.flatMap_id'] at hb
  have := hs (k * 12 + j) v (by
    unfold iv at hv ⊢
    rw [List.getElem?_map] at hv ⊢
    rw [hb]
    exact hv)
  rw [← Nat.add_assoc] at this
  exact this
theorem size79 : (Tryz.prog.info? 68).map (·.size) = some 12 := by kernel_rfl
/-- != of two structs, as an operation. -/
theorem exec_neq (r0 : Operand → Value) (o : Oper) (t y : TypeId) (a b : Operand) (xs ys : Array Value) (r : Bool) (w : World) (ho : o.op = .binOp .neq t a b y) (ha : r0 a = .agg xs) (hb : r0 b = .agg ys)
    (hm : Tryz.prog.eqGuardType Tryz.prog.depth t = false) (h : (Op.equalIn 10000 t (.agg xs) (.agg ys)).run Tryz.prog w = .ok r w) : (execOp r0 o).run Tryz.prog w = .ok (.value (.bool (!r))) w := by
  unfold execOp
  simp only [ho, ha, hb, Sem.run_bind, run_eqGuard_agg _ _ _ _ _ _ _ hm, run_neq_struct, h, Result.andThen_ok, Sem.run_pure]
end Go.Proofs.YtpojhplnhppcpaaGreatDoor
namespace Go.Proofs.YtpojhplnhppcpaaGreatDoor
open Go.RowKit Go.Maps
/-- What replay answers. -/
def ReplayPost (img : List (List Int × Int)) (l : List (List Int)) (w : World) (e : Ending) (w' : World) : Prop :=
  (rightB img = false ∧ e = .returned (.tuple #[.pointer none, .int .i64 0, .int .i64 1])) ∨
  (rightB img = true ∧ fitsP (fromP img) l < l.length ∧ e = .returned (.tuple #[.pointer none, .int .i64 ((fitsP (fromP img) l : Nat) : Int), .int .i64 3])) ∨
  (rightB img = true ∧ fitsP (fromP img) l = l.length ∧ ∃ p, e = .returned (.tuple #[.pointer (some ⟨p, 0, none⟩), .int .i64 (l.length : Int), .int .i64 0]) ∧ Rep w' p (runP (fromP img) l) (New w w'))
/-- A row of an argument, or of a clone, stays. -/
theorem cells_at {w w1 : World} {bb oo : Nat} {l : List (List Int)} (h : ∀ j u, (iv l.flatten)[j]? = some u → w.cell? ⟨bb, oo + j, none⟩ = some u) (hb : Below w.heap.size w w1) (hbl : bb < w.heap.size) :
    ∀ j u, (iv l.flatten)[j]? = some u → w1.cell? ⟨bb, oo + j, none⟩ = some u := fun j u hj => (hb.cell (p := ⟨bb, oo + j, none⟩) hbl).trans (h j u hj)
set_option maxRecDepth 100000 in
set_option maxHeartbeats 8000000 in
set_option linter.unusedSimpArgs false in
theorem replay_any (img : List (List Int × Int)) (l : List (List Int)) (v lv : Value) (w : World) (h8 : ∀ x ∈ img, x.1.length = 8) (hn : img.length ≤ 5000) (hs : Rd w v img.length (iv (flatI img)))
    (hl : EvI l) (hll : l.length ≤ 400) (hlv : Rd w lv l.length (iv l.flatten)) (hT : Tab w) :
    Calls Tryz.prog 48 #[v, lv] w fun e w' => ReplayPost img l w e w' ∧ Below w.heap.size w w' := by
  have HFR := Lib.hid (from_any img v w h8 hn hs)
  have HPO : Hid (∀ e w', ReplayPost img l w e w' = ((rightB img = false ∧ e = .returned (.tuple #[.pointer none, .int .i64 0, .int .i64 1])) ∨
    (rightB img = true ∧ fitsP (fromP img) l < l.length ∧ e = .returned (.tuple #[.pointer none, .int .i64 ((fitsP (fromP img) l : Nat) : Int), .int .i64 3])) ∨
    (rightB img = true ∧ fitsP (fromP img) l = l.length ∧ ∃ p, e = .returned (.tuple #[.pointer (some ⟨p, 0, none⟩), .int .i64 (l.length : Int), .int .i64 0]) ∧ Rep w' p (runP (fromP img) l) (New w w')))) := Lib.hid fun _ _ => rfl
  have HOK := Lib.hid fun (hr : rightB img = true) => fromP_ok h8 hr
  obtain ⟨m0, hm0⟩ : ∃ m0, fromP img = m0 := ⟨_, rfl⟩
  have HE0 : Hid (m0.ev = []) := Lib.hid (by rw [← hm0]; rfl)
  change Hid (Calls _ _ _ _ fun e w' => FromPost w img e w' ∧ Below w.heap.size w w') at HFR
  unfold FromPost at HFR
  rw [hm0] at HFR HOK HPO
  obtain ⟨PO, hPO⟩ : ∃ PO, ReplayPost img l w = PO := ⟨_, rfl⟩
  rw [hPO] at HPO ⊢
  have HL := Lib.hid hl
  have HT := Lib.hid hT
  have HLR := Lib.hid hlv
  obtain ⟨N, hN⟩ : ∃ N, l.length = N := ⟨_, rfl⟩
  have HN := Lib.hid hN
  obtain ⟨A, cap, rfl, hcap, hcm, hrr⟩ := hlv
  have HRR := Lib.hid hrr
  rw [hN] at hcap hll HLR HPO ⊢
  have hcap2 : N ≤ cap := hcap
  have hu68 := Tryz.underlying68
  clear hrr hl hs h8 hn hN hm0 hT hPO hcap hcm
  go_enter Tryz.func48, Tryz.ntmps48
  go_wp2_with fail
  refine HFR.out.mono ?_
  rintro e w1 ⟨hpost, hb1⟩
  have HB1 := Lib.hid hb1
  clear HFR hb1
  rcases hpost with ⟨hrb, p, rfl, hp1⟩ | ⟨hrb, rfl⟩
  case inr =>
    go_wp2_with fail
    go_ret3
    exact ⟨by rw [HPO.out]; exact .inl ⟨hrb, rfl⟩, HB1.out⟩
  have HRB := Lib.hid hrb
  obtain ⟨fok, fsm, _⟩ := HOK.out hrb
  have HP1 : Hid (Rep w1 p m0 (New w w1)) := Lib.hid hp1
  have HFO := Lib.hid fok
  have HS1 : Hid (m0.Small (2 * 0)) := Lib.hid fsm
  have HG1 : Hid (goP m0 l = goP m0 (l.drop 0)) := Lib.hid rfl
  clear hp1 hrb fok fsm HOK
  go_upto_block 0 with fail
  go_cut [9] from 19 to 27 (fun s9 wx => ∃ mf : PM, Hid (goP m0 l = mf) ∧ Hid mf.Ok ∧ Hid (mf.Small 800) ∧ Hid (Rep wx p mf (New w wx)) ∧ Hid (Below w.heap.size w wx))
  case first =>
    go_wp2_with fail
    go_loopw [19] (fun i wr => ∃ (k : Nat) (mk : PM), i = .int .i64 (k : Int) ∧ k ≤ N ∧ Hid (goP m0 l = goP mk (l.drop k)) ∧ Hid mk.Ok ∧ Hid (mk.Small (2 * k)) ∧ Hid (Rep wr p mk (New w wr)) ∧ Hid (Below w.heap.size w wr)) (fun i _ => N - (intOf i).toNat)
    case atStart => exact ⟨0, m0, rfl, by omega, HG1, HFO, HS1, HP1, HB1⟩
    case round =>
      clear HG1 HFO HS1 HP1 HB1
      obtain ⟨k, mk, rfl, hk, HMK, HMO, HMS, HRF, HB⟩ := hrel
      by_cases hlt : k < N
      · have hkc : k < l.length := by rw [HN.out]; exact hlt
        have hkI : (k : Int) < (N : Int) := by omega
        obtain ⟨bb, oo, rfl, hbl, hcells⟩ := HRR.out (by omega)
        obtain ⟨hx12, hxI⟩ := HL.out _ (List.getElem_mem hkc)
        have rE : wr.rangeAt bb (oo + k * 12) (iv l[k]) := evLine (fun x hx => (HL.out x hx).1) (cells_at hcells HB.out hbl) hkc
        have HON := Lib.hid fun h : codeX mk l[k] = 0 => HMK.out.trans (go_on hkc h)
        have HOF := Lib.hid fun h : codeX mk l[k] ≠ 0 => HMK.out.trans (go_off hkc h)
        have HGD := Lib.hid (apply_good HMO.out HMS.out hx12 hxI)
        have hi12 : (Tryz.prog.info? 68).map (·.size) = some (iv l[k]).length := by rw [size79, iv_len, hx12]
        generalize l[k] = x at *
        have HB2 := Lib.hid (bel_on HB.out (bel_new wr (.cells (iv x).toArray 68)))
        have HAX := Lib.hid (Arr.new wr (iv x) 68)
        have hrp := HRF.out.below (bel_new wr (.cells (iv x).toArray 68))
        have HTC := Lib.hid (tcall_any p x mk (New w wr) _ hx12 hxI HMO.out (HMS.out.mono (by omega)) hrp (HT.out.keep HB2.out) (by
          rintro ⟨h1, _⟩
          have := HT.out.lt
          omega))
        have HO := Lib.hid (iv_one x)
        have HL12 := Lib.hid hx12
        have hAX := HAX.out
        obtain ⟨C, hC⟩ : ∃ C, codeX mk x = C := ⟨_, rfl⟩
        rw [hC] at HON HOF HTC
        have hsz0 := HB.out.size
        clear hcells hC hrp HAX
        go_wp2_with (first
          | ((with_reducible refine arm_range 68 bb (oo + k * 12) (iv x) rE _ hu68 rfl hi12 rfl _ rfl ?_ ?_); focus rfl)
          | ((with_reducible refine arm_new 68 (iv x) 12 ?_ size79 HO.out _ rfl rfl _ _ rfl ?_ ?_ ?_); (focus (rw [iv_len, HL12.out])); (focus rfl); (focus rfl))
          | ((with_reducible refine arm_row 68 wr.heap.size 68 (iv x) hAX _ hu68 rfl hi12 rfl _ rfl ?_ ?_); focus rfl))
        refine HTC.out.mono ?_
        rintro e w3 ⟨rfl, hst⟩
        have HST := Lib.hid hst
        have hsz3 := hst.2.size
        have hszA : (wr.alloc (.cells (iv x).toArray 68)).heap.size = wr.heap.size + 1 := by simp
        have HB3 : Hid (Below w.heap.size w w3) := Lib.hid (HB2.out.trans (hst.2.below (fun q _ hq => hq.1) (by omega)))
        have HRR2 : Hid (Rep w3 p (applyP mk x) (New w w3)) := Lib.hid (hst.1.wide (fun q h1 => by
          rcases h1 with h2 | h2
          · exact ⟨h2.1, by have := h2.2; omega⟩
          · exact ⟨by have := h2.1; omega, h2.2⟩) fun q h1 => h1.2)
        obtain ⟨g1, _, g3⟩ := HGD.out
        have G1 := Lib.hid g1
        have G3 : Hid ((applyP mk x).Small (2 * (k + 1))) := Lib.hid g3
        clear hst HTC rE hAX g1 g3
        by_cases hc0 : C = 0
        · have HNX := Lib.hid (HON.out hc0)
          subst hc0
          go_wp2_with fail
          go_roundw
          case rel => exact ⟨k + 1, _, by simp, by omega, HNX, G1, G3, HRR2, HB3⟩
          case measure => simp [intOf]; omega
        · have HNX := Lib.hid (HOF.out hc0)
          have hcb : (C == 0) = false := by rw [beq_eq_false_iff_ne]; exact hc0
          go_wp2_with fail
          go_meet
          case rel => exact ⟨_, HNX, G1, Lib.hid (G3.out.mono (by omega)), HRR2, HB3⟩
      · obtain rfl : k = N := by omega
        have hkI : ¬ (k : Int) < (k : Int) := by omega
        have HE : Hid (goP m0 l = mk) := Lib.hid (by
          have h1 := HMK.out
          rw [List.drop_of_length_le (by rw [HN.out]; exact Nat.le_refl _)] at h1
          exact h1)
        go_wp2_with fail
        go_meet
        case rel => exact ⟨_, HE, HMO, Lib.hid (HMS.out.mono (by omega)), HRF, HB⟩
  case rest =>
    obtain ⟨mf, HMF, HMO, HMS, HRF, HB⟩ := hcut
    have HEV := Lib.hid (events_any p mf (New w wc) wc (Nat.le_trans HMS.out.ev (by omega)) HRF.out)
    have HGF := Lib.hid (go_fits l m0)
    rw [HMF.out, HE0.out] at HGF
    obtain ⟨recs, r1, r2, r3, r4, r5, r6⟩ := HGF.out
    rw [List.nil_append] at r1
    have HEI : Hid (EvI recs) := Lib.hid (by rw [← r1]; exact HMO.out.evs)
    have HR4 := Lib.hid r4
    have HR5 := Lib.hid r5
    have HR6 := Lib.hid r6
    rw [HN.out] at r2
    obtain ⟨FT, hFT⟩ : ∃ FT, fitsP m0 l = FT := ⟨_, rfl⟩
    have HFL : Hid (FT ≤ l.length) := Lib.hid (by rw [← hFT]; exact fits_le m0 l)
    rw [hFT] at HR4 HR5 HR6 r3 HPO
    rw [HN.out] at HR5 HR6 HFL
    obtain ⟨rn, hrn⟩ : ∃ rn, recs.length = rn := ⟨_, rfl⟩
    have HRN := Lib.hid hrn
    rw [r1, hrn] at HEV
    rw [hrn] at r2 r3
    clear r1 r4 r5 r6 HGF HG1 HFO HS1 HP1 HB1 hFT hrn HE0
    go_wp2_with fail
    refine HEV.out.mono ?_
    rintro e w3 hcl
    obtain ⟨mv, rfl, hsl, hown, hb3⟩ := hcl
    have HB3 := Lib.hid (bel_on HB.out hb3)
    have HRP := Lib.hid (HRF.out.below hb3)
    obtain ⟨EA, ecap, rfl, hec, hem, _, hsc⟩ := hsl.shape
    have hec2 : rn ≤ ecap := hec
    have hem2 : ecap ≤ 9223372036854775807 := by unfold maxLen at hem; omega
    have HSN : Hid (EA = none → rn = 0) := Lib.hid fun h => by
      subst h
      obtain ⟨_, _, hv9, _, _, h9, _⟩ := hsl.shape
      simp only [Value.slice.injEq] at hv9
      exact (h9 hv9.1.symm).1
    have HSA : Hid (∀ ad, EA = some ad → ad.spot = none ∧ ad.block < w3.heap.size ∧ ∀ j u, (iv recs.flatten)[j]? = some u → w3.cell? ⟨ad.block, ad.off + j, none⟩ = some u) := Lib.hid fun ad h => by
      obtain ⟨h1, h2, h3⟩ := hsc ad h
      exact ⟨h1, hsl.lt h2, h3⟩
    have hFN := HFL.out
    clear hsc hb3 hown hsl HEV hec hem HRF HB HMS HFL
    go_wp2_with fail
    go_loopw [32] (fun i wr => ∃ (k : Nat), i = .int .i64 (k : Int) ∧ k ≤ N ∧ k ≤ FT ∧ Hid (Below w3.heap.size w3 wr)) (fun i _ => N - (intOf i).toNat)
    case atStart => exact ⟨0, rfl, by omega, by omega, Lib.hid (Below.refl _ _)⟩
    case round =>
      obtain ⟨k, rfl, hk, hkF, HBW⟩ := hrel
      by_cases hlt : k < N
      · have hkc : k < l.length := by rw [HN.out]; exact hlt
        have hkI : (k : Int) < (N : Int) := by omega
        obtain ⟨bb, oo, rfl, hbl, hcells⟩ := HRR.out (by omega)
        obtain ⟨hx12, hxI⟩ := HL.out _ (List.getElem_mem hkc)
        have HBA := Lib.hid (bel_on HB3.out HBW.out)
        have rE : wr.rangeAt bb (oo + k * 12) (iv l[k]) := evLine (fun x hx => (HL.out x hx).1) (cells_at hcells HBA.out hbl) hkc
        have hi12 : (Tryz.prog.info? 68).map (·.size) = some (iv l[k]).length := by rw [size79, iv_len, hx12]
        have HFAIL : Hid (k = FT → FT < N) := Lib.hid fun h => by omega
        have HDON : Hid (∀ w', Below w.heap.size w w' → FT < N → PO (.returned (.tuple #[.pointer none, .int .i64 (FT : Int), .int .i64 3])) w' ∧ Below w.heap.size w w') := Lib.hid fun w' hb h => ⟨by
          rw [HPO.out]
          exact .inr (.inl ⟨HRB.out, h, rfl⟩), hb⟩
        have HLK : Hid (l[k]? = some l[k]) := Lib.hid (List.getElem?_eq_getElem hkc)
        generalize l[k] = x at *
        have HB2 := Lib.hid (bel_on HBA.out (bel_new wr (.cells (iv x).toArray 68)))
        have HBX := Lib.hid (bel_on HBW.out (bel_new wr (.cells (iv x).toArray 68)))
        have HAX := Lib.hid (Arr.new wr (iv x) 68)
        have HO := Lib.hid (iv_one x)
        have HL12 := Lib.hid hx12
        have HXI := Lib.hid hxI
        have hAX := HAX.out
        clear hcells hx12 hxI
        by_cases hkr : k = rn
        · subst hkr
          have HKF : Hid (k = FT) := Lib.hid (by omega)
          have hkk : ((k : Int) == (k : Int)) = true := by simp
          go_wp2_with (first
            | ((with_reducible refine arm_range 68 bb (oo + k * 12) (iv x) rE _ hu68 rfl hi12 rfl _ rfl ?_ ?_); focus rfl)
            | ((with_reducible refine arm_new 68 (iv x) 12 ?_ size79 HO.out _ rfl rfl _ _ rfl ?_ ?_ ?_); (focus (rw [iv_len, HL12.out])); (focus rfl); (focus rfl)))
          go_quiet (fail)
          go_wp2_with fail
          go_ret3
          obtain rfl := HKF.out
          exact HDON.out _ (below_drewN HB2.out _) (by omega)
        · have hkr2 : k < rn := by omega
          have hkrc : k < recs.length := by rw [HRN.out]; exact hkr2
          have HRK : Hid (recs[k]? = some recs[k]) := Lib.hid (List.getElem?_eq_getElem hkrc)
          obtain ⟨hy12, hyI⟩ := HEI.out _ (List.getElem_mem hkrc)
          cases EA with
          | none => exact absurd (HSN.out rfl) (by omega)
          | some ad =>
          obtain ⟨hsp, hbl2, hc2⟩ := HSA.out ad rfl
          obtain ⟨eb, eo, sp⟩ := ad
          simp only at hsp hbl2 hc2
          subst hsp
          have rY0 : (wr.alloc (.cells (iv x).toArray 68)).drew.rangeAt eb (eo + k * 12) (iv recs[k]) := evLine (fun x hx => (HEI.out x hx).1) (cells_at hc2 (bel_on HBX.out (bel_drew _)) hbl2) hkrc
          have rX0 : (wr.alloc (.cells (iv x).toArray 68)).drew.rangeAt wr.heap.size 0 (iv x) := (HAX.out.keep (bel_drew _)).range
          have hiY : (Tryz.prog.info? 68).map (·.size) = some (iv recs[k]).length := by rw [size79, iv_len, hy12]
          have HEQ := Lib.hid fun w => eq_event2 x recs[k] HL12.out hy12 HXI.out hyI w
          have HNE : Hid (x = recs[k] → k < FT) := Lib.hid fun h => by
            apply Nat.lt_of_le_of_ne hkF
            intro h2
            have h3 := HR5.out (by omega)
            rw [← h2, HRK.out, HLK.out, h] at h3
            exact h3 rfl
          have HNF : Hid (x ≠ recs[k] → k = FT) := Lib.hid fun h => by
            apply Nat.le_antisymm hkF
            apply Nat.le_of_not_lt
            intro h2
            have h3 := congrArg (fun q => q[k]?) HR4.out
            simp only [List.getElem?_take, if_pos h2, HRK.out, HLK.out, Option.some.injEq] at h3
            exact h h3.symm
          have HRNN : Hid (recs.length = rn) := HRN
          generalize recs[k] = y at *
          have hkk : ((k : Int) == (rn : Int)) = false := by rw [beq_eq_false_iff_ne]; omega
          have hkrI : (k : Int) < (rn : Int) := by omega
          obtain ⟨NE, hNE⟩ : ∃ NE, decide (x = y) = NE := ⟨_, rfl⟩
          rw [hNE] at HEQ
          have HNEb := Lib.hid hNE
          clear hc2 hy12 hyI hNE
          go_wp2_with (first
            | ((with_reducible refine arm_range 68 bb (oo + k * 12) (iv x) rE _ hu68 rfl hi12 rfl _ rfl ?_ ?_); focus rfl)
            | ((with_reducible refine arm_new 68 (iv x) 12 ?_ size79 HO.out _ rfl rfl _ _ rfl ?_ ?_ ?_); (focus (rw [iv_len, HL12.out])); (focus rfl); (focus rfl)))
          refine wp_region_held_drew (S := fun W => W.rangeAt wr.heap.size 0 (iv x) ∧ W.rangeAt eb (eo + k * 12) (iv y)) (by kernel_rfl) ⟨rX0, rY0⟩ (fun hHeld => ?_)
          refine wpAnyH_take (i := 0) (v := .int .i64 (k : Int)) rfl (by kernel_rfl) (by kernel_rfl) (by kernel_rfl) (fun _ _ _ h => h) (Or.inl ⟨by rfl, fun w hSw => by obtain ⟨h1, h2⟩ := hSw; go_simp⟩) (by assumption) ?_
          change wpAnyH _ _ _ _ _ _ _ (Act.put _ (some 37) _) _
          simp only [Act.put, List.setIfInBounds_toArray, List.set_cons_zero, List.set_cons_succ]
          refine wpAnyH_take (i := 1) (v := .slice (some ⟨eb, eo, none⟩) rn ecap) rfl (by kernel_rfl) (by kernel_rfl) (by kernel_rfl) (fun _ _ _ h => h) (Or.inl ⟨by rfl, fun w hSw => by obtain ⟨h1, h2⟩ := hSw; go_simp⟩) (by assumption) ?_
          change wpAnyH _ _ _ _ _ _ _ (Act.put _ (some 38) _) _
          simp only [Act.put, List.setIfInBounds_toArray, List.set_cons_zero, List.set_cons_succ]
          refine wpAnyH_take (i := 2) (v := .int .i64 (rn : Int)) rfl (by kernel_rfl) (by kernel_rfl) (by kernel_rfl) (fun _ _ _ h => h) (Or.inl ⟨by rfl, fun w hSw => by obtain ⟨h1, h2⟩ := hSw; go_simp⟩) (by assumption) ?_
          change wpAnyH _ _ _ _ _ _ _ (Act.put _ (some 39) _) _
          simp only [Act.put, List.setIfInBounds_toArray, List.set_cons_zero, List.set_cons_succ]
          refine wpAnyH_take (i := 3) (v := .bool false) rfl (by kernel_rfl) (by kernel_rfl) (by kernel_rfl) (fun _ _ _ h => h) (Or.inl ⟨by rfl, fun w hSw => by obtain ⟨h1, h2⟩ := hSw; go_simp⟩) (by assumption) ?_
          change wpAnyH _ _ _ _ _ _ _ (Act.put _ (some 40) _) _
          simp only [Act.put, List.setIfInBounds_toArray, List.set_cons_zero, List.set_cons_succ]
          refine wpAnyH_take (i := 4) (v := .bool false) rfl (by kernel_rfl) (by kernel_rfl) (by kernel_rfl) (fun _ _ _ h => h) (Or.inl ⟨by rfl, fun w hSw => by obtain ⟨h1, h2⟩ := hSw; go_simp⟩) (by assumption) ?_
          change wpAnyH _ _ _ _ _ _ _ (Act.put _ (some 41) _) _
          simp only [Act.put, List.setIfInBounds_toArray, List.set_cons_zero, List.set_cons_succ]
          refine wpAnyH_take (i := 5) (v := .agg (iv x).toArray) rfl (by kernel_rfl) (by kernel_rfl) (by kernel_rfl) (fun _ _ _ h => h) (yieldsIf_load_mid (by rfl) _ _ rfl _ _ rfl _ _ (fun w h => h.1) hu68 rfl hi12) (by assumption) ?_
          change wpAnyH _ _ _ _ _ _ _ (Act.put _ (some 42) _) _
          simp only [Act.put, List.setIfInBounds_toArray, List.set_cons_zero, List.set_cons_succ]
          refine wpAnyH_take (i := 6) (v := .slice (some ⟨eb, eo, none⟩) rn ecap) rfl (by kernel_rfl) (by kernel_rfl) (by kernel_rfl) (fun _ _ _ h => h) (Or.inl ⟨by rfl, fun w hSw => by obtain ⟨h1, h2⟩ := hSw; go_simp⟩) (by assumption) ?_
          change wpAnyH _ _ _ _ _ _ _ (Act.put _ (some 43) _) _
          simp only [Act.put, List.setIfInBounds_toArray, List.set_cons_zero, List.set_cons_succ]
          refine wpAnyH_take (i := 7) (v := .int .i64 (k : Int)) rfl (by kernel_rfl) (by kernel_rfl) (by kernel_rfl) (fun _ _ _ h => h) (Or.inl ⟨by rfl, fun w hSw => by obtain ⟨h1, h2⟩ := hSw; go_simp⟩) (by assumption) ?_
          change wpAnyH _ _ _ _ _ _ _ (Act.put _ (some 44) _) _
          simp only [Act.put, List.setIfInBounds_toArray, List.set_cons_zero, List.set_cons_succ]
          refine wpAnyH_take (i := 8) (v := .pointer (some ⟨eb, eo + k * 12, none⟩)) rfl (by kernel_rfl) (by kernel_rfl) (by kernel_rfl) (fun _ _ _ h => h) (Or.inl ⟨by rfl, fun w hSw => by obtain ⟨h1, h2⟩ := hSw; go_simp⟩) (by assumption) ?_
          change wpAnyH _ _ _ _ _ _ _ (Act.put _ (some 45) _) _
          simp only [Act.put, List.setIfInBounds_toArray, List.set_cons_zero, List.set_cons_succ]
          refine wpAnyH_take (i := 9) (v := .agg (iv y).toArray) rfl (by kernel_rfl) (by kernel_rfl) (by kernel_rfl) (fun _ _ _ h => h) (yieldsIf_load_mid (by rfl) _ _ rfl _ _ rfl _ _ (fun w h => h.2) hu68 rfl hiY) (by assumption) ?_
          change wpAnyH _ _ _ _ _ _ _ (Act.put _ (some 46) _) _
          simp only [Act.put, List.setIfInBounds_toArray, List.set_cons_zero, List.set_cons_succ]
          refine wpAnyH_take (i := 10) (v := .bool (!NE)) rfl (by kernel_rfl) (by kernel_rfl) (by kernel_rfl) (fun _ _ _ h => h) (Or.inl ⟨by rfl, fun w hSw => exec_neq _ _ 68 _ _ _ _ _ _ w rfl rfl rfl (by kernel_rfl) (HEQ.out w)⟩) (by assumption) ?_
          change wpAnyH _ _ _ _ _ _ _ (Act.put _ (some 47) _) _
          simp only [Act.put, List.setIfInBounds_toArray, List.set_cons_zero, List.set_cons_succ]
          refine wpAnyH_take (i := 11) (v := .bool (!NE)) rfl (by kernel_rfl) (by kernel_rfl) (by kernel_rfl) (fun _ _ _ h => h) (Or.inl ⟨by rfl, fun w hSw => by obtain ⟨h1, h2⟩ := hSw; go_simp⟩) (by assumption) ?_
          change wpAnyH _ _ _ _ _ _ _ (Act.put _ (some 48) _) _
          simp only [Act.put, List.setIfInBounds_toArray, List.set_cons_zero, List.set_cons_succ]
          refine wpAnyH_done (by kernel_rfl) ?_ _
          have HBD := Lib.hid (bel_on HB2.out (bel_drew (wr.alloc (.cells (iv x).toArray 68))))
          have HBE := Lib.hid (bel_on HBX.out (bel_drew (wr.alloc (.cells (iv x).toArray 68))))
          cases NE with
          | false =>
            have HKF : Hid (k = FT) := Lib.hid (HNF.out (of_decide_eq_false HNEb.out))
            go_wp2_with fail
            go_ret3
            obtain rfl := HKF.out
            exact HDON.out _ HBD.out (by omega)
          | true =>
            have hkF2 := HNE.out (of_decide_eq_true HNEb.out)
            go_wp2_with fail
            go_roundw
            case rel => exact ⟨k + 1, by simp, by omega, by omega, HBE⟩
            case measure => simp [intOf]; omega
      · obtain rfl : k = N := by omega
        have hkI : ¬ (k : Int) < (k : Int) := by omega
        have HFK : Hid (FT = k) := Lib.hid (by omega)
        have HFIN : Hid (PO (.returned (.tuple #[.pointer (some ⟨p, 0, none⟩), .int .i64 (k : Int), .int .i64 0])) wr ∧ Below w.heap.size w wr) := Lib.hid ⟨by
          rw [HPO.out]
          refine .inr (.inr ⟨HRB.out, HFK.out, p, rfl, ?_⟩)
          have h1 := HR6.out HFK.out
          rw [← h1]
          have h3 := HB3.out.size
          have h4 := HBW.out.size
          refine (HRP.out.below HBW.out).wide (fun q h => ⟨h.1, ?_⟩) (fun q h => h.2)
          have := HRP.out.lt q h
          omega, bel_on HB3.out HBW.out⟩
        go_wp2_with fail
        go_ret3
        exact HFIN.out
end Go.Proofs.YtpojhplnhppcpaaGreatDoor
