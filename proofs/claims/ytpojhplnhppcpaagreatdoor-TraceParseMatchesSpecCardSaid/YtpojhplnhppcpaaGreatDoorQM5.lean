/-
  What memory's shown, Load, withCode, Image, Events and Pending do. What memory's withCode, Image, Events, Pending and Seen do. What memory's Seen does. What becomes of a memory in the heap where a line is written, where an entry of the map is laid or struck, where a cell of its own is written. What becomes of a memory in the heap where a durable line is written, where an entry of the map is laid or struck, where the map is cleared.
-/
import Derived.Test.YtpojhplnhppcpaaGreatDoorQM3
namespace Go.Proofs.YtpojhplnhppcpaaGreatDoor
open Go.RowKit
section
variable {w : World} {p b : Nat} {m : PM} {F : Nat → Prop} {dv ev : Value} {D : DataW Value} {G : Nat → Value}
/-- What the look-up of a line gives, in whatever world where the map's block stands. -/
theorem RepAt.look (h : RepAt w p m F dv b ev D G) {i : Nat} (hi : i < m.L.length) (hf : m.L.length ≤ 4096) : ∃ A cap, G i = .slice A (m.line i).pend.length cap ∧ (m.line i).pend.length ≤ cap ∧ cap ≤ maxLen ∧
    ∀ w', w'.heap[b]? = w.heap[b]? → (Instr.lookup 98 (.map (some b)) (.int .i64 (i : Int)) false).run Tryz.prog w' = .ok (.agg #[.slice A (m.line i).pend.length cap, .int .i64 ((m.line i).mark : Int)]) w' := by
  obtain ⟨A, cap, hG, h1, h2, _, _⟩ := (h.pend i hi).shape
  refine ⟨A, cap, hG, h1, h2, fun w' hw => ?_⟩
  have := look_run (ownsMap_keep h.map hw) (i : Int) (by unfold I64; omega) (h.at_ i hi)
  unfold backV at this
  rw [hG] at this
  exact this
/-- Where no line is. -/
theorem RepAt.lookNone (h : RepAt w p m F dv b ev D G) {z : Int} (hz : I64 z) (hh : m.has z = false) :
    ∀ w', w'.heap[b]? = w.heap[b]? → (Instr.lookup 98 (.map (some b)) (.int .i64 z) false).run Tryz.prog w' = .ok (.agg #[.slice none 0 0, .int .i64 0]) w' :=
  fun _ hw => look_run (ownsMap_keep h.map hw) z hz (h.none_ hh).1
end
set_option maxRecDepth 100000 in
set_option maxHeartbeats 1000000 in
theorem shown_any (p i : Nat) (z : Int) (hz : z = i) (m : PM) (F : Nat → Prop) (w : World) (hi : i < m.L.length) (hm : m.Ok) (h : Rep w p m F) (hT : Tab w) :
    Calls Tryz.prog 61 #[.pointer (some ⟨p, 0, none⟩), .int .i64 z] w fun e w' =>
      e = .returned (.tuple #[.agg (iv (m.line i).shows).toArray, .int .i64 (m.line i).err]) ∧ Below w.heap.size w w' := by
  subst hz
  have hAF := fun w h hT => after_any p i (m.line i).pend.length m F w hi (Nat.le_refl _) hm h hT
  have hrp := h
  obtain ⟨dv, b, ev, D, G, h⟩ := h
  have c1 := h.c1
  obtain ⟨A, cap, _, hc1, hc2, hlk⟩ := h.look hi hm.few
  have h8 := ((hm.line hi).after (m.line i).pend.length).1
  change (m.line i).shows.length = 8 at h8
  have hs : (m.line i).after (m.line i).pend.length = (m.line i).shows := rfl
  rw [hs] at hAF
  clear hs
  have hbs := h.map.lt
  clear h
  generalize (m.line i).shows = X at *
  generalize (m.line i).err = E at *
  generalize (m.line i).pend.length = n at *
  generalize (m.line i).mark = mk at *
  have HAF := Lib.hid hAF
  have HI := Lib.hid (size22' (l := X) h8)
  have HL : Hid ((iv Z8).length = (iv X).length) := Lib.hid (by rw [iv_len, iv_len, h8]; rfl)
  have HO := Lib.hid (iv_one X)
  have H22 := Lib.hid Tryz.underlying66
  have hnm : n ≤ 9223372036854775807 := by unfold maxLen at hc2; omega
  have hfb := field_b0 (.slice A n cap) (mk : Int)
  clear hAF h8
  go_enter Tryz.func61, Tryz.ntmps61
  have c1A := fun o => cell_below (bel_new w o) c1
  have hlk1 := fun o => hlk (w.alloc o) (Below.heap_alloc w o b hbs)
  clear hlk
  go_wp2_with fail
  have HB0 := Lib.hid (bel_new w (.cells #[.int .i64 0, .int .i64 0, .int .i64 0, .int .i64 0, .int .i64 0, .int .i64 0, .int .i64 0, .int .i64 0] 66))
  have HZ0 : Hid (Arr (w.alloc (.cells #[.int .i64 0, .int .i64 0, .int .i64 0, .int .i64 0, .int .i64 0, .int .i64 0, .int .i64 0, .int .i64 0] 66)) w.heap.size 66 (iv Z8)) := Lib.hid (Arr.new w (iv Z8) 66)
  refine (HAF.out _ (hrp.below HB0.out) (hT.keep HB0.out)).mono ?_
  rintro e w1 ⟨rfl, hb⟩
  have HB := Lib.hid (bel_on HB0.out hb)
  have HZ := Lib.hid (HZ0.out.keep hb)
  clear hb hlk1
  go_wp2_with ((with_reducible refine arm_put 66 w.heap.size 66 _ _ HZ.out HI.out HL.out HO.out rfl _ _ rfl ?_ ?_ ?_); (focus rfl); (focus rfl))
  refine bodyPost_ret (v := .tuple #[.agg (iv X).toArray, .int .i64 E]) (ret_row2 Tryz.results61 _ _ w.heap.size 66 (iv X) (HZ.out.row _) rfl _ H22.out rfl HI.out _ rfl) rfl ?_
  exact ⟨rfl, bel_row HB.out (Nat.le_refl _) _⟩
theorem getD_of {l : List Int} {k : Nat} (h : k < l.length) : (iv l)[k]? = some (.int .i64 (l.getD k 0)) := iv_at h
set_option maxRecDepth 100000 in
set_option maxHeartbeats 1000000 in
theorem load_any (p : Nat) (z : Int) (m : PM) (F : Nat → Prop) (w : World) (hz : I64 z) (hm : m.Ok) (h : Rep w p m F) (hT : Tab w) :
    Calls Tryz.prog 47 #[.pointer (some ⟨p, 0, none⟩), .int .i64 z] w fun e w' =>
      e = .returned (.tuple #[.int .i64 (loadP m z).1, .int .i64 (loadP m z).2]) ∧ Below w.heap.size w w' := by
  have hc := hasAddress_any p z m F w hz hm h
  obtain ⟨R, hR⟩ : ∃ R, loadP m z = R := ⟨_, rfl⟩
  rw [hR]
  unfold loadP at hR
  cases hh : m.hasA z with
  | false =>
    rw [hh] at hc hR
    rw [if_pos rfl] at hR
    subst hR
    have HC := Lib.hid hc
    clear hc h
    go_enter Tryz.func47, Tryz.ntmps47
    go_wp2_with (go_at_call 90; refine HC.out.mono ?_; rintro e w' ⟨rfl, rfl⟩)
    go_ret2
    exact ⟨rfl, Below.refl _ _⟩
  | true =>
    rw [hh] at hc hR
    rw [if_neg (by simp)] at hR
    have hr : 0 ≤ z ∧ z < 8 * m.L.length := by unfold PM.hasA at hh; simpa using hh
    obtain ⟨a, rfl⟩ : ∃ a : Nat, z = a := ⟨z.toNat, by omega⟩
    have hi : a / 8 < m.L.length := by omega
    have e1 : ((a : Int) / 8).toNat = a / 8 := by omega
    have e2 : ((a : Int) % 8).toNat = a % 8 := by omega
    rw [e1, e2] at hR
    have h8 := ((hm.line hi).after (m.line (a / 8)).pend.length).1
    change (m.line (a / 8)).shows.length = 8 at h8
    have hS := shown_any p (a / 8) ((a : Int) / 8) (by omega) m F w hi hm h hT
    have hcell := fun w0 : World => (Arr.new w0 (iv (m.line (a / 8)).shows) 66).cell (getD_of (k := a % 8) (by omega))
    generalize (m.line (a / 8)).shows = X at *
    generalize (m.line (a / 8)).err = E at *
    have HI := Lib.hid (size22' (l := X) h8)
    have HL := Lib.hid h8
    have HO := Lib.hid (iv_one X)
    have HC := Lib.hid hc
    have HS := Lib.hid hS
    have HR := Lib.hid hR
    have hai : (a : Int) ≤ 9223372036854775807 := hz.2
    have hm8 : (a : Int) % 8 < 8 := by omega
    have hm0 : 0 ≤ (a : Int) % 8 := by omega
    have hsz := Tryz.underlying66
    generalize X.getD (a % 8) 0 = v at *
    have HCE := Lib.hid hcell
    clear hc hS hR h8 h hcell hr hi e1 e2
    go_enter Tryz.func47, Tryz.ntmps47
    go_wp2_with (go_at_call 90; refine HC.out.mono ?_; rintro e w' ⟨rfl, rfl⟩)
    refine HS.out.mono ?_
    rintro e w1 ⟨rfl, hb⟩
    have HB : Hid (Below w'.heap.size w' (w1.alloc (.cells (iv X).toArray 66))) := Lib.hid (bel_on hb (bel_new _ _))
    have hcl := HCE.out w1
    clear hb HCE
    go_wp2_with ((with_reducible refine arm_new 66 (iv X) 8 ?_ size22 HO.out _ rfl rfl _ _ rfl ?_ ?_ ?_); (focus (rw [iv_len, HL.out])); (focus rfl); (focus rfl))
    go_ret2
    exact ⟨by rw [← HR.out]; rfl, HB.out⟩
end Go.Proofs.YtpojhplnhppcpaaGreatDoor
namespace Go.Proofs.YtpojhplnhppcpaaGreatDoor
open Go.RowKit
theorem line8 {L : List Int} (h8 : L.length = 8) : ∃ a0 a1 a2 a3 a4 a5 a6 a7, L = [a0, a1, a2, a3, a4, a5, a6, a7] := by
  rcases L with _ | ⟨a0, _ | ⟨a1, _ | ⟨a2, _ | ⟨a3, _ | ⟨a4, _ | ⟨a5, _ | ⟨a6, _ | ⟨a7, _ | ⟨_, _⟩⟩⟩⟩⟩⟩⟩⟩⟩ <;> simp at h8
  exact ⟨a0, a1, a2, a3, a4, a5, a6, a7, rfl⟩
theorem built_line {L : List Int} (h8 : L.length = 8) (e : Int) (w : World) : (Instr.build 77 #[(0, .agg (iv L).toArray), (1, .int .i64 e)]).run Tryz.prog w = .ok (.agg (iv (L ++ [e])).toArray) w := by
  obtain ⟨a0, a1, a2, a3, a4, a5, a6, a7, rfl⟩ := line8 h8
  kernel_rfl
theorem yields_build {ops : Array Oper} {S : World → Prop} {o : Oper} {a : Act} {v : Value} (hw : Region.wanted o (yielded ops a.tmps) = true) (t : TypeId) (parts : Array (Nat × Operand)) (ho : o.op = .build t parts)
    (h : ∀ w, (Instr.build t (parts.map fun (i, x) => (i, a.eval x))).run Tryz.prog w = .ok v w) : YieldsIf Tryz.prog ops S o v a :=
  .inl ⟨hw, fun w _ => by
    unfold execOp
    simp only [ho, Sem.run_bind, h w, Result.andThen_ok, Sem.run_pure]⟩
theorem size68 : (Tryz.prog.info? 77).map (·.size) = some 9 := by kernel_rfl
def Z9 : List Int := [0, 0, 0, 0, 0, 0, 0, 0, 0]
set_option maxRecDepth 100000 in
set_option maxHeartbeats 2000000 in
set_option linter.unusedSimpArgs false in
theorem withCode_any (L : List Int) (w : World) (h8 : L.length = 8) (hT : Tab w) :
    Calls Tryz.prog 102 #[.agg (iv L).toArray] w fun e w' => e = .returned (.agg (iv (L ++ [encZ L])).toArray) ∧ Below w.heap.size w w' := by
  have HENC := Lib.hid fun w hT => encode_any L w h8 hT
  generalize encZ L = E at *
  have hu22 := Tryz.underlying66
  have hi22 := size22' (l := L) h8
  have hbl := built_line h8 E
  have H68 := Lib.hid Tryz.underlying77
  have H8 := Lib.hid h8
  have HT := Lib.hid hT
  have hl9 : (iv (L ++ [E])).length = 9 := by rw [iv_len, List.length_append, h8]; rfl
  have HI9 : Hid ((Tryz.prog.info? 77).map (·.size) = some (iv (L ++ [E])).length) := Lib.hid (by rw [size68, hl9])
  clear h8 hT
  go_enter Tryz.func102, Tryz.ntmps102
  go_wp2_with fail
  obtain ⟨W0, hW0⟩ : ∃ W, (w.alloc (.cells (iv L).toArray 66)).alloc (.cells #[.int .i64 0, .int .i64 0, .int .i64 0, .int .i64 0, .int .i64 0, .int .i64 0, .int .i64 0, .int .i64 0, .int .i64 0] 77) = W := ⟨_, rfl⟩
  have HB0 : Hid (Below w.heap.size w W0.drew) := Lib.hid (by rw [← hW0]; exact (bel2 w _ _).drew)
  have HA0 : Hid (Arr W0.drew w.heap.size 66 (iv L)) := Lib.hid (by rw [← hW0]; exact a2_0 w _ _)
  have HZ0 : Hid (Arr W0.drew (w.heap.size + 1) 77 (iv Z9)) := Lib.hid (by rw [← hW0]; exact a2_1 w _ _)
  have hr := HA0.out.range
  rw [hW0]
  clear hW0
  refine wp_region_held_drew (S := fun W => W.rangeAt w.heap.size 0 (iv L)) (by kernel_rfl) hr (fun hHeld => ?_)
  generalize W0.drew = W1 at *
  refine wpAnyH_take (i := 0) (v := .agg (iv L).toArray) rfl (by kernel_rfl) (by kernel_rfl) (by kernel_rfl) (fun _ _ _ h => h) (yieldsIf_load_mid (by rfl) _ _ rfl _ _ rfl _ _ (fun w h => h) hu22 rfl hi22) (by assumption) ?_
  change wpAnyH _ _ _ _ _ _ _ (Act.put _ (some 3) _) _
  simp only [Act.put, List.setIfInBounds_toArray, List.set_cons_zero, List.set_cons_succ]
  refine wpAnyH_take (i := 1) (v := .agg (iv L).toArray) rfl (by kernel_rfl) (by kernel_rfl) (by kernel_rfl) (fun _ _ _ h => h) (yieldsIf_load_mid (by rfl) _ _ rfl _ _ rfl _ _ (fun w h => h) hu22 rfl hi22) (by assumption) ?_
  change wpAnyH _ _ _ _ _ _ _ (Act.put _ (some 4) _) _
  simp only [Act.put, List.setIfInBounds_toArray, List.set_cons_zero, List.set_cons_succ]
  refine wpAnyH_ready (rs := [2]) (by kernel_rfl) (by simp) ?_
  refine AllReadyH.cons rfl (fun K hK => ?_) AllReadyH.nil
  go_simp
  refine (HENC.out _ (HT.out.keep HB0.out)).mono ?_
  rintro e w1 ⟨rfl, hb⟩
  have b1 := range_below hb hr
  refine hK.out _ _ b1 (fun hHeld1 => ?_)
  clear hK K hHeld
  have HB1 := Lib.hid (bel_on HB0.out hb)
  have HZ1 := Lib.hid (HZ0.out.keep hb)
  have HA1 := Lib.hid (HA0.out.keep hb)
  clear hb
  refine wpAnyH_take (i := 3) (v := .agg (iv (L ++ [E])).toArray) rfl (by kernel_rfl) (by kernel_rfl) (by kernel_rfl) (fun _ _ _ h => h) (yields_build (by rfl) _ _ rfl (fun w => by simpa [Act.eval] using hbl w)) (by assumption) ?_
  change wpAnyH _ _ _ _ _ _ _ (Act.put _ (some 6) _) _
  simp only [Act.put, List.setIfInBounds_toArray, List.set_cons_zero, List.set_cons_succ]
  refine wpAnyH_ready (rs := [4]) (by kernel_rfl) (by simp) ?_
  refine AllReadyH.cons rfl (fun K hK => ?_) AllReadyH.nil
  refine wp_store_row 77 _ _ rfl (w.heap.size + 1) (iv (L ++ [E])).toArray rfl rfl 77 (iv Z9).toArray HZ1.out (by simpa using HI9.out) (by rw [List.size_toArray, List.size_toArray, hl9]; rfl) (all_oneCell_toArray (iv_one _)) ?_
  refine hK.out _ _ (fun j v hv => (cell_setRow_other _ _ _ _ (by show w.heap.size ≠ w.heap.size + 1; omega)).trans (hHeld1 j v hv)) (fun hHeld2 => ?_)
  clear hK K hHeld1
  refine wpAnyH_done (by kernel_rfl) ?_ _
  go_wp2_with fail
  refine bodyPost_ret (v := .agg (iv (L ++ [E])).toArray) (ret_row Tryz.results102 _ _ (w.heap.size + 1) 77 (iv (L ++ [E])) (HZ1.out.row _) rfl _ H68.out rfl HI9.out) rfl ?_
  exact ⟨rfl, bel_row HB1.out (by omega) _⟩
set_option maxRecDepth 100000 in
set_option maxHeartbeats 1000000 in
theorem image_any (p : Nat) (m : PM) (F : Nat → Prop) (w : World) (hf : m.L.length ≤ 4096) (h : Rep w p m F) :
    Calls Tryz.prog 23 #[.pointer (some ⟨p, 0, none⟩)] w (Cloned w 77 9 m.L.length (iv (flatL m.L))) := by
  obtain ⟨dv, b, ev, D, G, h⟩ := h
  have cc := h.c0
  have HC := Lib.hid (cloneLine_any dv m.L.length (iv (flatL m.L)) w h.dur (iv_one _) (by omega))
  clear h
  go_enter Tryz.func23, Tryz.ntmps23
  go_wp2_with (go_at_call 60; refine HC.out.mono ?_; rintro e w1 ⟨v', rfl, hs, ho, hb⟩)
  go_ret
  exact ⟨v', rfl, hs, ho, hb⟩
set_option maxRecDepth 100000 in
set_option maxHeartbeats 1000000 in
theorem events_any (p : Nat) (m : PM) (F : Nat → Prop) (w : World) (hf : m.ev.length ≤ 1000000) (h : Rep w p m F) :
    Calls Tryz.prog 20 #[.pointer (some ⟨p, 0, none⟩)] w (Cloned w 68 12 m.ev.length (iv m.ev.flatten)) := by
  obtain ⟨dv, b, ev, D, G, h⟩ := h
  have cc := h.c3
  have HC := Lib.hid (cloneEvent_any ev m.ev.length (iv m.ev.flatten) w h.evs (iv_one _) hf)
  clear h
  go_enter Tryz.func20, Tryz.ntmps20
  go_wp2_with (go_at_call 59; refine HC.out.mono ?_; rintro e w1 ⟨v', rfl, hs, ho, hb⟩)
  go_ret
  exact ⟨v', rfl, hs, ho, hb⟩
/-- What is pending on a line, as the map has it. -/
theorem RepAt.lookAny {w : World} {p b : Nat} {m : PM} {F : Nat → Prop} {dv ev : Value} {D : DataW Value} {G : Nat → Value} (h : RepAt w p m F dv b ev D G) {z : Int} (hz : I64 z) (hf : m.L.length ≤ 4096) : ∃ A cap mk, (pendP m z).length ≤ cap ∧ cap ≤ maxLen ∧
    Sl w 105 2 (.slice A (pendP m z).length cap) (pendP m z).length (iv (flatS (pendP m z))) ∧
    ∀ w', w'.heap[b]? = w.heap[b]? → (Instr.lookup 98 (.map (some b)) (.int .i64 z) false).run Tryz.prog w' = .ok (.agg #[.slice A (pendP m z).length cap, .int .i64 mk]) w' := by
  cases hh : m.has z with
  | false =>
    have e : pendP m z = [] := by unfold pendP; rw [hh]; rfl
    rw [e]
    exact ⟨none, 0, 0, by simp, by simp [maxLen], Sl.nil _ _ _, h.lookNone hz hh⟩
  | true =>
    have hr : 0 ≤ z ∧ z < m.L.length := by unfold PM.has at hh; simpa using hh
    obtain ⟨i, rfl⟩ : ∃ i : Nat, z = i := ⟨z.toNat, by omega⟩
    have hi : i < m.L.length := by omega
    have e : pendP m i = (m.line i).pend := by unfold pendP; rw [hh]; rfl
    rw [e]
    obtain ⟨A, cap, hG, h1, h2, hlk⟩ := h.look hi hf
    have := h.pend i hi
    rw [hG] at this
    exact ⟨A, cap, _, h1, h2, this, hlk⟩
set_option maxRecDepth 100000 in
set_option maxHeartbeats 1000000 in
theorem pending_any (p : Nat) (z : Int) (m : PM) (F : Nat → Prop) (w : World) (hz : I64 z) (hf : m.L.length ≤ 4096) (hn : (pendP m z).length ≤ 1000000) (h : Rep w p m F) :
    Calls Tryz.prog 28 #[.pointer (some ⟨p, 0, none⟩), .int .i64 z] w (Cloned w 105 2 (pendP m z).length (iv (flatS (pendP m z)))) := by
  obtain ⟨dv, b, ev, D, G, h⟩ := h
  have cc := h.c1
  obtain ⟨A, cap, mk, _, _, hs, hlk⟩ := h.lookAny hz hf
  have hl := hlk w rfl
  have HC := Lib.hid (cloneStore_any _ _ _ w hs (iv_one _) hn)
  have hfb := field_b0 (.slice A (pendP m z).length cap) mk
  clear h hlk hs
  generalize (pendP m z) = ss at *
  go_enter Tryz.func28, Tryz.ntmps28
  go_wp2_with (go_at_call 62; refine HC.out.mono ?_; rintro e w1 ⟨v', rfl, hs, ho, hb⟩)
  go_ret
  exact ⟨v', rfl, hs, ho, hb⟩
end Go.Proofs.YtpojhplnhppcpaaGreatDoor
namespace Go.Proofs.YtpojhplnhppcpaaGreatDoor
open Go.RowKit
theorem info47 : (Tryz.prog.info? 66).map (fun i => (i.zero, i.size, i.bytes)) = some (some (.agg #[.int .i64 0, .int .i64 0, .int .i64 0, .int .i64 0, .int .i64 0, .int .i64 0, .int .i64 0, .int .i64 0]), 8, 64) := by kernel_rfl
theorem made_zeros (n : Nat) : (madeCells #[.int .i64 0, .int .i64 0, .int .i64 0, .int .i64 0, .int .i64 0, .int .i64 0, .int .i64 0, .int .i64 0] n).toList = iv (List.replicate n 0) := by
  have hz : ∀ q : Fin 8, (#[Value.int .i64 0, .int .i64 0, .int .i64 0, .int .i64 0, .int .i64 0, .int .i64 0, .int .i64 0, .int .i64 0] : Array Value)[q.val]! = .int .i64 0 := fun q => by
    match q with
    | 0 | 1 | 2 | 3 | 4 | 5 | 6 | 7 => rfl
  have e : madeCells #[.int .i64 0, .int .i64 0, .int .i64 0, .int .i64 0, .int .i64 0, .int .i64 0, .int .i64 0, .int .i64 0] n = (Array.range n).map fun _ => Value.int .i64 0 := by
    unfold madeCells
    congr 1
    funext i
    exact hz ⟨i % 8, Nat.mod_lt _ (by decide)⟩
  rw [e]
  unfold iv
  rw [Array.toList_map, Array.toList_range, List.map_const', List.length_range, List.map_replicate]
theorem seen_len {m : PM} (hm : m.Ok) : ∀ x ∈ m.seen, x.length = 8 := fun x hx => by
  obtain ⟨l, hl, rfl⟩ := List.mem_map.1 hx
  exact ((hm.lines l hl).after l.pend.length).1
theorem flat_take (l : List (List Int)) (h : ∀ x ∈ l, x.length = 8) (k : Nat) (hk : k ≤ l.length) : (l.take k).flatten.length = k * 8 := by
  have := flatMap_len (fun x : List Int => x) 8 (l.take k) (fun x hx => h x (List.mem_of_mem_take hx))
  rw [List.flatMap_id'] at this
  rw [this, List.length_take, Nat.min_eq_left hk]
/-- What the new row holds behind k rounds. -/
def seenRow (l : List (List Int)) (n k : Nat) : List Int := (l.take k).flatten ++ List.replicate ((n - k) * 8) 0
theorem seenRow_len (l : List (List Int)) (h : ∀ x ∈ l, x.length = 8) (k : Nat) (hk : k ≤ l.length) : (seenRow l l.length k).length = l.length * 8 := by
  unfold seenRow
  rw [List.length_append, flat_take l h k hk, List.length_replicate, ← Nat.add_mul]
  congr 1
  omega
theorem seenRow_step (l : List (List Int)) (h : ∀ x ∈ l, x.length = 8) (k : Nat) (hk : k < l.length) :
    (iv (seenRow l l.length k)).take (k * 8) ++ iv l[k] ++ (iv (seenRow l l.length k)).drop (k * 8 + (iv l[k]).length) = iv (seenRow l l.length (k + 1)) := by
  have h8 := h _ (List.getElem_mem hk)
  have hf := flat_take l h k (Nat.le_of_lt hk)
  unfold iv
  rw [← List.map_take, ← List.map_drop, List.length_map, h8, ← List.map_append, ← List.map_append]
  congr 1
  unfold seenRow
  rw [List.take_append_of_le_length (by omega), List.take_of_length_le (by omega), take_snoc' l k hk, List.flatten_append, List.drop_append, hf, List.drop_of_length_le (by omega), List.nil_append, List.drop_replicate]
  simp only [List.flatten_cons, List.flatten_nil, List.append_nil, List.append_assoc]
  congr 3
  rw [Nat.sub_mul, Nat.sub_mul, Nat.add_mul]
  omega
theorem seenRow_end (l : List (List Int)) : seenRow l l.length l.length = l.flatten := by
  unfold seenRow
  rw [List.take_length, Nat.sub_self, Nat.zero_mul]
  simp
/-- Cells are written into the middle of a block. -/
theorem arm_mid {ops : Array Oper} {rest : List Oper} {o : Oper} {a : Act} {Q : Exit → Act → World → Prop} {w : World} (ty g p t : Nat) (cs ds rs : List Value) (hA : Arr w g t cs) (hi : (Tryz.prog.info? ty).map (·.size) = some ds.length) (hfit : p + ds.length ≤ cs.length) (h1 : ∀ v ∈ ds, v.oneCell' = true)
    (hrs : cs.take p ++ ds ++ cs.drop (p + ds.length) = rs)
    (hgd : o.guard = none) (x y : Operand) (ho : o.op = .store ty x y) (hx : a.eval x = .pointer (some ⟨g, p, none⟩)) (hy : a.eval y = .agg ds.toArray)
    (h : wpList Tryz.prog ops Q rest (a.put o.dst undef) (w.setRow g rs.toArray)) : wpList Tryz.prog ops Q (o :: rest) a w := by
  refine wpList_store_at w hgd ty x y ho g p t cs.toArray ds.toArray hx hy hA (by simpa using hfit) (by simpa using hi) (all_oneCell_toArray h1) ?_
  rw [List.size_toArray, List.toList_toArray, List.toList_toArray, hrs]
  exact h
set_option maxRecDepth 100000 in
set_option maxHeartbeats 4000000 in
theorem seen_any (p : Nat) (m : PM) (F : Nat → Prop) (w : World) (hm : m.Ok) (h : Rep w p m F) (hT : Tab w) :
    Calls Tryz.prog 25 #[.pointer (some ⟨p, 0, none⟩)] w (Cloned w 66 8 m.L.length (iv m.seen.flatten)) := by
  have HS := Lib.hid fun i z hz w hi h hT => shown_any p i z hz m F w hi hm h hT
  have hrp := h
  obtain ⟨dv, b, ev, D, G, h⟩ := h
  have c0 := h.c0
  obtain ⟨d, o, cap, rfl, hcap, hcm, _, _⟩ := h.where_ hm
  have hf := hm.few
  have hpos := hm.pos
  have H8 := Lib.hid (seen_len hm)
  have HSL : Hid (m.seen.length = m.L.length) := Lib.hid (by unfold PM.seen; rw [List.length_map])
  have HSG : Hid (∀ k, k < m.L.length → m.seen[k]? = some (m.line k).shows) := Lib.hid (fun k hk => by
    unfold PM.seen
    rw [List.getElem?_map, PM.line_eq hk, List.getElem?_eq_getElem hk]
    rfl)
  obtain ⟨i0, hi, hz0, hz1, hz2⟩ := info_parts info47
  have HI0 := Lib.hid hi
  have HZ0 := Lib.hid hz0
  have HZ1 := Lib.hid hz1
  have HZ2 := Lib.hid hz2
  have HRP := Lib.hid hrp
  have HT := Lib.hid hT
  clear h hrp hT hi hz0 hz1 hz2 hm
  generalize hn : m.L.length = n at *
  generalize hs : m.seen = S at *
  have HB0 : Hid (Below w.heap.size w w) := Lib.hid (Below.refl _ _)
  clear hn hs
  go_enter Tryz.func25, Tryz.ntmps25
  go_wp2_with (at_make; refine wpList_make_full _ rfl _ _ 40 rfl w.heap.size 66 i0 _ 8 Tryz.underlying40 HI0.out HZ0.out HZ1.out .i64 .i64 _ _ n rfl rfl rfl rfl (by rw [HZ2.out]; omega) (by unfold maxLen; omega) (Nat.le_refl _) ?_; intro w1 hown hgrow)
  have HA1 : Hid (Arr w1 w.heap.size 66 (iv (seenRow S n 0))) := Lib.hid (by
    rcases hown.2 with ⟨h0, _⟩ | ⟨g, cap', cur, hv, _, hg, _, _, hsz, ht⟩
    · cases h0
    · simp only [Value.slice.injEq, Option.some.injEq, Addr.mk.injEq, and_true, true_and] at hv
      obtain ⟨rfl, rfl⟩ := hv
      have e : cur.toList = iv (seenRow S n 0) := by
        rw [List.take_of_length_le (by rw [Array.length_toList, hsz]; exact Nat.le_refl _)] at ht
        rw [ht]
        show (madeCells #[.int .i64 0, .int .i64 0, .int .i64 0, .int .i64 0, .int .i64 0, .int .i64 0, .int .i64 0, .int .i64 0] (n * 8)).toList = _
        rw [made_zeros]
        unfold seenRow
        simp
      unfold Arr
      rw [hg, ← e])
  have HB1 : Hid (Below w.heap.size w w1) := Lib.hid (HB0.out.grown hgrow (Nat.le_refl _) (fun k hk => by cases hk))
  clear hown hgrow HB0
  go_wp2_with fail
  go_loopw [13] (fun i wr => ∃ k : Nat, i = .int .i64 (k : Int) ∧ k ≤ n ∧ Hid (Arr wr w.heap.size 66 (iv (seenRow S n k))) ∧ Hid (Below w.heap.size w wr)) (fun i _ => n - (intOf i).toNat)
  case atStart => exact ⟨0, rfl, by omega, HA1, HB1⟩
  case round =>
    clear HA1 HB1
    obtain ⟨k, rfl, hk, HA, HB⟩ := hrel
    by_cases hlt : k < n
    · have hkS : k < S.length := by have := HSL.out; omega
      have hsc := HS.out k (k : Int) rfl wr hlt (HRP.out.below HB.out) (HT.out.keep HB.out)
      have hsk : (m.line k).shows = S[k] := by
        have := HSG.out k hlt
        rw [List.getElem?_eq_getElem hkS] at this
        exact (Option.some.inj this).symm
      rw [hsk] at hsc
      clear hsk
      have HX8 := Lib.hid (H8.out _ (List.getElem_mem hkS))
      have hstep := seenRow_step S H8.out k hkS
      rw [HSL.out] at hstep
      have hlen := seenRow_len S H8.out k (Nat.le_of_lt hkS)
      rw [HSL.out] at hlen
      generalize S[k] = X at *
      generalize seenRow S n k = R at *
      have HSC := Lib.hid hsc
      have HST := Lib.hid hstep
      have HFT : Hid (k * 8 + (iv X).length ≤ (iv R).length) := Lib.hid (by rw [iv_len, iv_len, HX8.out, hlen]; omega)
      have HIX := Lib.hid (size22' (l := X) HX8.out)
      have HOX := Lib.hid (iv_one X)
      have hkI : (k : Int) < (n : Int) := by omega
      clear hsc hstep hlen hkS
      go_wp2_with fail
      refine HSC.out.mono ?_
      rintro e w2 ⟨rfl, hb⟩
      have HA2 := Lib.hid (HA.out.keep hb)
      have HB2 := Lib.hid (bel_on HB.out hb)
      clear hb HA HB HSC
      go_wp2_with ((with_reducible refine arm_mid 66 w.heap.size (k * 8) 66 _ _ _ HA2.out HIX.out HFT.out HOX.out HST.out rfl _ _ rfl ?_ ?_ ?_); (focus rfl); (focus rfl))
      have HA3 := Lib.hid (HA2.out.row (iv (seenRow S n (k + 1))))
      have HB3 := Lib.hid (bel_row HB2.out (Nat.le_refl _) (iv (seenRow S n (k + 1))).toArray)
      clear HA2 HB2
      go_roundw
      case rel => exact ⟨k + 1, by simp, by omega, HA3, HB3⟩
      case measure => simp [intOf]; omega
    · obtain rfl : k = n := by omega
      have HE : Hid (seenRow S k k = S.flatten) := Lib.hid (by
        have := seenRow_end S
        rw [HSL.out] at this
        exact this)
      rw [HE.out] at HA
      go_wp2_with fail
      go_ret
      exact ⟨_, rfl, ⟨by
        have := seenRow_len S H8.out k (by rw [HSL.out]; exact Nat.le_refl _)
        rw [HSL.out, HE.out] at this
        rw [iv_len, this], .inr ⟨w.heap.size, 0, k, _, rfl, HA.out, Nat.le_refl _, by unfold maxLen; omega, by
        have := seenRow_len S H8.out k (by rw [HSL.out]; exact Nat.le_refl _)
        rw [HSL.out, HE.out] at this
        rw [List.size_toArray, iv_len, this]
        omega, by
        have := seenRow_len S H8.out k (by rw [HSL.out]; exact Nat.le_refl _)
        rw [HSL.out, HE.out] at this
        rw [List.toList_toArray, List.drop_zero, List.take_of_length_le (by rw [iv_len, this]; exact Nat.le_refl _)]⟩⟩, fun j hj => by
          simp [Value.ownBlock] at hj
          omega, HB.out⟩
end Go.Proofs.YtpojhplnhppcpaaGreatDoor
namespace Go.Proofs.YtpojhplnhppcpaaGreatDoor
open Go.RowKit Go.Maps
theorem PM.upd_len (m : PM) (i : Nat) (f : PL → PL) : (m.upd i f).L.length = m.L.length := by simp [PM.upd]
theorem PM.upd_line {m : PM} {i j : Nat} (f : PL → PL) (hi : i < m.L.length) : (m.upd i f).line j = if j = i then f (m.line i) else m.line j := by
  unfold PM.line PM.upd
  simp only
  rw [List.getD_eq_getElem?_getD, List.getElem?_set]
  by_cases h : i = j
  · subst h
    rw [if_pos rfl, if_pos hi, if_pos rfl]
    rfl
  · rw [if_neg h, if_neg (fun e => h e.symm), List.getD_eq_getElem?_getD]
theorem PM.upd_upd (m : PM) (i : Nat) (f g : PL → PL) (hi : i < m.L.length) : (m.upd i f).upd i g = m.upd i fun l => g (f l) := by
  have h := PM.upd_line (j := i) f hi
  rw [if_pos rfl] at h
  have e : (m.upd i f).upd i g = { (m.upd i f) with L := (m.upd i f).L.set i (g ((m.upd i f).line i)) } := rfl
  rw [e, h]
  simp [PM.upd]
/-- What has come of it: the memory behind p is m now; nothing was written but blocks of F and new ones. -/
def Step (F : Nat → Prop) (w : World) (p : Nat) (m : PM) (w' : World) : Prop := Rep w' p m (Ex F w w') ∧ Kept F w w'
theorem Step.refl {F : Nat → Prop} {w : World} {p : Nat} {m : PM} (h : Rep w p m F) : Step F w p m w := ⟨h.ex, Kept.refl F w⟩
theorem Step.trans {F : Nat → Prop} {w w1 w2 : World} {p : Nat} {m m' : PM} (h : Step F w p m w1) (k : Step (Ex F w w1) w1 p m' w2) : Step F w p m' w2 :=
  ⟨k.1.wide (fun _ hx => (Ex.trans h.2.size k.2.size).1 hx) fun x hx => k.1.lt x ((Ex.trans h.2.size k.2.size).2 hx), h.2.trans k.2⟩
theorem Step.below {F : Nat → Prop} {w w1 : World} {p : Nat} {m : PM} (h : Rep w p m F) (hb : Below w.heap.size w w1) : Step F w p m w1 := ⟨(h.below hb).ex, Kept.of_below hb⟩
theorem Step.then_below {F : Nat → Prop} {w w1 w2 : World} {p : Nat} {m : PM} (h : Step F w p m w1) (hb : Below w1.heap.size w1 w2) : Step F w p m w2 := h.trans (Step.below h.1 hb)
/-- In world w1 the memory was that of F, and only blocks of F have been written since w. -/
theorem Step.of {F : Nat → Prop} {w w1 : World} {p : Nat} {m : PM} (h : Rep w1 p m F) (hk : Kept F w w1) : Step F w p m w1 := ⟨h.ex, hk⟩
section
variable {w w' : World} {p b : Nat} {m : PM} {F : Nat → Prop} {dv ev : Value} {D : DataW Value} {G : Nat → Value}
/-- Blocks of other kinds are other blocks. -/
theorem RepAt.p_ne_b (h : RepAt w p m F dv b ev D G) : p ≠ b := by
  rintro rfl
  obtain ⟨es, clock, hb, _⟩ := h.map
  have := h.mem
  unfold Arr at this
  rw [hb] at this
  cases this
theorem Sl.blk {e sz n : Nat} {v : Value} {xs : List Value} (h : Sl w e sz v n xs) {g : Nat} (hg : v.ownBlock = some g) : ∃ cur, w.heap[g]? = some (.cells cur e (0, 0)) := by
  rcases h.2 with ⟨rfl, _⟩ | ⟨g', o, cap, cur, rfl, hb, _⟩
  · simp [Value.ownBlock] at hg
  · simp [Value.ownBlock] at hg
    subst hg
    exact ⟨cur, hb⟩
theorem Sl.ne_of {e sz n e' : Nat} {v : Value} {xs : List Value} (h : Sl w e sz v n xs) {g : Nat} (hg : v.ownBlock = some g) {g' : Nat} {cs : Array Value} (hg' : w.heap[g']? = some (.cells cs e' (0, 0))) (hne : e ≠ e') : g ≠ g' := by
  rintro rfl
  obtain ⟨cur, hc⟩ := h.blk hg
  rw [hc] at hg'
  simp only [Option.some.injEq, Obj.cells.injEq] at hg'
  exact hne hg'.2.1
theorem Sl.ne_map {e sz n : Nat} {v : Value} {xs : List Value} (h : Sl w e sz v n xs) {g : Nat} (hg : v.ownBlock = some g) {R : Value → Option (DataW Value × List MemPlace)} {k : Nat} {D : DataW Value} (hm : w.ownsMap Tryz.prog 3 R b k D) : g ≠ b := by
  rintro rfl
  obtain ⟨cur, hc⟩ := h.blk hg
  obtain ⟨es, clock, hb, _⟩ := hm
  rw [hc] at hb
  cases hb
/-- A cell of the memory's own block is written: the span. -/
theorem RepAt.setSpan (h : RepAt w p m F dv b ev D G) (n : Int) : RepAt (w.setCell ⟨p, 2, none⟩ (.int .i64 n)) p { m with span := n } F dv b ev D G where
  mem := h.mem.set 2 _
  dur := h.dur.keep fun g hg => heap_setCell_other w _ g _ (h.dur.ne_of hg h.mem (by decide))
  map := ownsMap_keep h.map (heap_setCell_other w _ b _ (by show b ≠ p; exact fun e => h.p_ne_b e.symm))
  evs := h.evs.keep fun g hg => heap_setCell_other w _ g _ (h.evs.ne_of hg h.mem (by decide))
  at_ := h.at_
  has_ := h.has_
  off := h.off
  pend := fun i hi => (h.pend i hi).keep fun g hg => heap_setCell_other w _ g _ ((h.pend i hi).ne_of hg h.mem (by decide))
  apart := h.apart
  ownP := h.ownP
  ownB := h.ownB
  ownD := h.ownD
  ownE := h.ownE
  ownG := h.ownG
  lt := fun k hk => by simpa using h.lt k hk
/-- The events are other ones, in whatever slice of their own. -/
theorem RepAt.setEv (h : RepAt w p m F dv b ev D G) (hk : ∀ k, F k → ev.ownBlock ≠ some k → w'.heap[k]? = w.heap[k]?) (hs : w.heap.size ≤ w'.heap.size) {ev' : Value} {evs : List (List Int)} (hsl : Sl w' 68 12 ev' evs.length (iv evs.flatten))
    (ho : ∀ k, ev'.ownBlock = some k → F k ∨ w.heap.size ≤ k) : RepAt (w'.setCell ⟨p, 3, none⟩ ev') p { m with ev := evs } (Ex F w w') dv b ev' D G := by
  have hev : ∀ g, ev.ownBlock = some g → g ≠ p ∧ g ≠ b ∧ dv.ownBlock ≠ some g ∧ ∀ i, i < m.L.length → (G i).ownBlock ≠ some g := fun g hg => by
    obtain ⟨cur, hc⟩ := h.evs.blk hg
    exact ⟨h.evs.ne_of hg h.mem (by decide), h.evs.ne_map hg h.map, fun hd => h.dur.ne_of hd hc (by decide) rfl, fun i hi hd => (h.pend i hi).ne_of hd hc (by decide) rfl⟩
  have hp : w'.heap[p]? = w.heap[p]? := hk p h.ownP fun e => (hev p e).1 rfl
  have hb : w'.heap[b]? = w.heap[b]? := hk b h.ownB fun e => (hev b e).2.1 rfl
  have hmem : Arr w' p 100 [dv, .map (some b), .int .i64 m.span, ev] := hp.trans h.mem
  have hd : ∀ g, dv.ownBlock = some g → w'.heap[g]? = w.heap[g]? := fun g hg => hk g (h.ownD g hg) fun e => (hev g e).2.2.1 hg
  have hG : ∀ i, i < m.L.length → ∀ g, (G i).ownBlock = some g → w'.heap[g]? = w.heap[g]? := fun i hi g hg => hk g (h.ownG i hi g hg) fun e => (hev g e).2.2.2 i hi hg
  have hdur := h.dur.keep hd
  have hpend := fun i hi => (h.pend i hi).keep (hG i hi)
  exact {
    mem := hmem.set 3 _
    dur := hdur.keep fun g hg => heap_setCell_other _ _ g _ (hdur.ne_of hg hmem (by decide))
    map := ownsMap_keep (ownsMap_keep h.map hb) (heap_setCell_other _ _ b _ (by show b ≠ p; exact fun e => h.p_ne_b e.symm))
    evs := hsl.keep fun g hg => heap_setCell_other _ _ g _ (hsl.ne_of hg hmem (by decide))
    at_ := h.at_
    has_ := h.has_
    off := h.off
    pend := fun i hi => (hpend i hi).keep fun g hg => heap_setCell_other _ _ g _ ((hpend i hi).ne_of hg hmem (by decide))
    apart := h.apart
    ownP := .inl h.ownP
    ownB := .inl h.ownB
    ownD := fun k hk => .inl (h.ownD k hk)
    ownE := fun k hk => by
      rcases ho k hk with h1 | h1
      · exact .inl h1
      · exact .inr ⟨h1, hsl.lt hk⟩
    ownG := fun i hi k hk => .inl (h.ownG i hi k hk)
    lt := fun k hk => by
      have : k < w'.heap.size := by
        rcases hk with h1 | h1
        · exact Nat.lt_of_lt_of_le (h.lt k h1) hs
        · exact h1.2
      simpa using this }
end
end Go.Proofs.YtpojhplnhppcpaaGreatDoor
namespace Go.Proofs.YtpojhplnhppcpaaGreatDoor
open Go.RowKit Go.Maps
/-- n cells in the middle are others. -/
theorem splice_flat {α : Type} (f : α → List Int) (n : Nat) (L : List α) (i : Nat) (x : α) (hi : i < L.length) (hall : ∀ y ∈ L, (f y).length = n) (hx : (f x).length = n) :
    (L.flatMap f).take (i * n) ++ f x ++ (L.flatMap f).drop (i * n + n) = (L.set i x).flatMap f := by
  induction L generalizing i with
  | nil => simp at hi
  | cons y r ih =>
    have hy := hall y (by simp)
    cases i with
    | zero =>
      simp only [Nat.zero_mul, List.take_zero, List.nil_append, Nat.zero_add, List.set_cons_zero, List.flatMap_cons]
      rw [List.drop_append_of_le_length (by omega), List.drop_of_length_le (by omega), List.nil_append]
    | succ i =>
      have e : (i + 1) * n = n + i * n := by rw [Nat.add_mul]; omega
      simp only [List.set_cons_succ, List.flatMap_cons]
      rw [e, List.take_append, List.take_of_length_le (by omega), List.drop_append, List.drop_of_length_le (by omega), List.nil_append, hy,
        show n + i * n - n = i * n by omega, show n + i * n + n - n = i * n + n by omega, ← ih i (by simpa using hi) (fun z hz => hall z (by simp [hz]))]
      simp only [List.append_assoc]
theorem splice_in (cur X : List Value) (o a x T : Nat) (hX : X.length = x) (ha : a + x ≤ T) (hT : o + T ≤ cur.length) :
    ((cur.take (o + a) ++ X ++ cur.drop (o + a + x)).drop o).take T = ((cur.drop o).take T).take a ++ X ++ ((cur.drop o).take T).drop (a + x) := by
  apply List.ext_getElem?
  intro j
  have e1 : (cur.take (o + a)).length = o + a := by rw [List.length_take]; omega
  have e2 : (((cur.drop o).take T).take a).length = a := by rw [List.length_take, List.length_take, List.length_drop]; omega
  rw [List.getElem?_take, List.getElem?_drop, List.append_assoc, List.append_assoc]
  by_cases h1 : j < a
  · rw [if_pos (by omega), List.getElem?_append_left (by omega), List.getElem?_append_left (by omega), List.getElem?_take, if_pos (by omega), List.getElem?_take, if_pos (by omega), List.getElem?_take, if_pos (by omega), List.getElem?_drop]
  · rw [List.getElem?_append_right (l₁ := cur.take (o + a)) (by omega), e1, List.getElem?_append_right (l₁ := ((cur.drop o).take T).take a) (by omega), e2]
    by_cases h2 : j < a + x
    · rw [if_pos (by omega), List.getElem?_append_left (l₁ := X) (by omega), List.getElem?_append_left (l₁ := X) (by omega)]
      congr 1
      omega
    · rw [List.getElem?_append_right (l₁ := X) (by omega), List.getElem?_append_right (l₁ := X) (by omega), List.getElem?_drop, List.getElem?_drop, List.getElem?_take]
      by_cases h3 : j < T
      · rw [if_pos h3, if_pos (by omega), List.getElem?_drop]
        congr 1
        omega
      · rw [if_neg h3, if_neg (by omega)]
section
variable {w w' : World} {p b : Nat} {m : PM} {F : Nat → Prop} {dv ev : Value} {D : DataW Value} {G : Nat → Value}
/-- A slice's own cells, as its block has them. -/
theorem Sl.inside {e sz n : Nat} {xs : List Value} {g o cap : Nat} (h : Sl w e sz (.slice (some ⟨g, o, none⟩) n cap) n xs) : ∃ cur : List Value, Arr w g e cur ∧ n ≤ cap ∧ cap ≤ maxLen ∧ o + cap * sz ≤ cur.length ∧ (cur.drop o).take (n * sz) = xs := by
  rcases h.2 with ⟨h0, _⟩ | ⟨g', o', cap', cur, hv, hb, h1, h2, h3, h4⟩
  · cases h0
  · simp only [Value.slice.injEq, Option.some.injEq, Addr.mk.injEq, and_true, true_and] at hv
    obtain ⟨⟨rfl, rfl⟩, rfl⟩ := hv
    exact ⟨cur.toList, by unfold Arr; rw [hb], h1, h2, by simpa using h3, h4⟩
/-- A durable line is written. -/
theorem RepAt.setLine (h : RepAt w p m F dv b ev D G) (hm : m.Ok) {i d o cap : Nat} (hi : i < m.L.length) (hdv : dv = .slice (some ⟨d, o, none⟩) m.L.length cap) {ws : List Int} (h8 : ws.length = 8) (c : Int) {cur : List Value} (hc : Arr w d 77 cur) :
    RepAt (w.setRow d (cur.take (o + i * 9) ++ iv (ws ++ [c]) ++ cur.drop (o + i * 9 + 9)).toArray) p (m.upd i fun l => { l with ws := ws, code := c }) F dv b ev D G := by
  subst hdv
  obtain ⟨cur', hc', hn, hcm, hfit, htake⟩ := h.dur.inside
  have ecur : cur' = cur := by
    unfold Arr at hc hc'
    rw [hc] at hc'
    simp only [Option.some.injEq, Obj.cells.injEq, and_true] at hc'
    simpa using hc'.symm
  subst ecur
  have hF : F d := h.ownD d rfl
  have hd : ∀ k, k ≠ d → (w.setRow d (cur'.take (o + i * 9) ++ iv (ws ++ [c]) ++ cur'.drop (o + i * 9 + 9)).toArray).heap[k]? = w.heap[k]? := fun k hk => setRow_other w d k _ hk
  have hl9 : (iv (ws ++ [c])).length = 9 := by rw [iv_len, List.length_append, h8]; rfl
  have hN : m.L.length * 9 ≤ cap * 9 := Nat.mul_le_mul_right 9 hn
  have hi9 : i * 9 + 9 ≤ m.L.length * 9 := by omega
  have hup : (m.upd i fun l => { l with ws := ws, code := c }).L = m.L.set i { (m.line i) with ws := ws, code := c } := rfl
  have hlen := PM.upd_len m i fun l => { l with ws := ws, code := c }
  have hpnd : ∀ j, ((m.upd i fun l => { l with ws := ws, code := c }).line j).pend = (m.line j).pend ∧ ((m.upd i fun l => { l with ws := ws, code := c }).line j).mark = (m.line j).mark := fun j => by
    rw [PM.upd_line _ hi]
    by_cases e : j = i
    · subst e; rw [if_pos rfl]; exact ⟨rfl, rfl⟩
    · rw [if_neg e]; exact ⟨rfl, rfl⟩
  refine {
    mem := (hd p (fun e => ?_)).trans h.mem
    dur := ?_
    map := ownsMap_keep h.map (hd b fun e => ?_)
    evs := h.evs.keep fun g hg => hd g (h.evs.ne_of hg hc (by decide))
    at_ := fun j hj => by rw [(hpnd j).2]; exact h.at_ j (hlen ▸ hj)
    has_ := fun j hj => by rw [(hpnd j).1]; exact h.has_ j (hlen ▸ hj)
    off := fun kl hk => by rw [hlen]; exact h.off kl hk
    pend := fun j hj => by
      rw [(hpnd j).1]
      exact (h.pend j (hlen ▸ hj)).keep fun g hg => hd g ((h.pend j (hlen ▸ hj)).ne_of hg hc (by decide))
    apart := fun j k hj hk => h.apart j k (hlen ▸ hj) (hlen ▸ hk)
    ownP := h.ownP
    ownB := h.ownB
    ownD := h.ownD
    ownE := h.ownE
    ownG := fun j hj => h.ownG j (hlen ▸ hj)
    lt := fun k hk => by simpa using h.lt k hk }
  · subst e
    have h1 := h.mem
    unfold Arr at h1 hc
    rw [hc] at h1
    simp only [Option.some.injEq, Obj.cells.injEq] at h1
    exact absurd h1.2.1 (by decide)
  · refine ⟨?_, .inr ⟨d, o, cap, _, by rw [hlen], setRow_heap w d _ _ _ _ hc, by rw [hlen]; exact hn, hcm, ?_, ?_⟩⟩
    · rw [iv_len, hup]
      unfold flatL
      rw [flatMap_len _ 9 _ (fun x hx => ?_)]
      rcases List.mem_or_eq_of_mem_set hx with h1 | rfl
      · exact hm.flat_len x h1
      · show (ws ++ [c]).length = 9
        rw [List.length_append, h8]
        rfl
    · rw [List.size_toArray]
      have := splice_take cur' (iv (ws ++ [c])) (o + i * 9) (by rw [hl9]; omega)
      rw [hl9] at this
      rw [this]
      exact hfit
    · rw [List.toList_toArray, hlen, hup]
      have key := splice_flat (fun l : PL => l.ws ++ [l.code]) 9 m.L i { (m.line i) with ws := ws, code := c } hi hm.flat_len (by show (ws ++ [c]).length = 9; rw [List.length_append, h8]; rfl)
      unfold flatL
      rw [← key]
      have e0 : iv (List.take (i * 9) (m.L.flatMap fun l => l.ws ++ [l.code]) ++ (ws ++ [c]) ++ List.drop (i * 9 + 9) (m.L.flatMap fun l => l.ws ++ [l.code])) = (iv (flatL m.L)).take (i * 9) ++ iv (ws ++ [c]) ++ (iv (flatL m.L)).drop (i * 9 + 9) := by
        unfold iv flatL
        rw [List.map_append, List.map_append, List.map_take, List.map_drop]
      refine Eq.trans ?_ e0.symm
      rw [← htake]
      generalize iv (ws ++ [c]) = X at *
      exact splice_in cur' X o (i * 9) 9 (m.L.length * 9) hl9 (by omega) (by omega)
  · subst e
    obtain ⟨es, clock, hb, _⟩ := h.map
    unfold Arr at hc
    rw [hc] at hb
    cases hb
end
end Go.Proofs.YtpojhplnhppcpaaGreatDoor
