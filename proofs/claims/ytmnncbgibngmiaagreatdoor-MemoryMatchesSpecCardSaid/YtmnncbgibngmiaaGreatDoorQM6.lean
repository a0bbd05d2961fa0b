/-
  What memory's withCode, Image, Events, Pending and Seen do. What memory's Seen does.
-/
import Derived.Test.YtmnncbgibngmiaaGreatDoorQM4
namespace Go.Proofs.YtmnncbgibngmiaaGreatDoor
open Go.RowKit
theorem line8 {L : List Int} (h8 : L.length = 8) : ∃ a0 a1 a2 a3 a4 a5 a6 a7, L = [a0, a1, a2, a3, a4, a5, a6, a7] := by
  rcases L with _ | ⟨a0, _ | ⟨a1, _ | ⟨a2, _ | ⟨a3, _ | ⟨a4, _ | ⟨a5, _ | ⟨a6, _ | ⟨a7, _ | ⟨_, _⟩⟩⟩⟩⟩⟩⟩⟩⟩ <;> simp at h8
  exact ⟨a0, a1, a2, a3, a4, a5, a6, a7, rfl⟩
theorem built_line {L : List Int} (h8 : L.length = 8) (e : Int) (w : World) : (Instr.build 57 #[(0, .agg (iv L).toArray), (1, .int .i64 e)]).run Tryz.prog w = .ok (.agg (iv (L ++ [e])).toArray) w := by
  obtain ⟨a0, a1, a2, a3, a4, a5, a6, a7, rfl⟩ := line8 h8
  kernel_rfl
theorem yields_build {ops : Array Oper} {S : World → Prop} {o : Oper} {a : Act} {v : Value} (hw : Region.wanted o (yielded ops a.tmps) = true) (t : TypeId) (parts : Array (Nat × Operand)) (ho : o.op = .build t parts)
    (h : ∀ w, (Instr.build t (parts.map fun (i, x) => (i, a.eval x))).run Tryz.prog w = .ok v w) : YieldsIf Tryz.prog ops S o v a :=
  .inl ⟨hw, fun w _ => by
    unfold execOp
    simp only [ho, Sem.run_bind, h w, Result.andThen_ok, Sem.run_pure]⟩
theorem size68 : (Tryz.prog.info? 57).map (·.size) = some 9 := by kernel_rfl
def Z9 : List Int := [0, 0, 0, 0, 0, 0, 0, 0, 0]
set_option maxRecDepth 100000 in
set_option maxHeartbeats 2000000 in
set_option linter.unusedSimpArgs false in
theorem withCode_any (L : List Int) (w : World) (h8 : L.length = 8) (hT : Tab w) :
    Calls Tryz.prog 70 #[.agg (iv L).toArray] w fun e w' => e = .returned (.agg (iv (L ++ [encZ L])).toArray) ∧ Below w.heap.size w w' := by
  have HENC := Lib.hid fun w hT => encode_any L w h8 hT
  generalize encZ L = E at *
  have hu22 := Tryz.underlying39
  have hi22 := size22' (l := L) h8
  have hbl := built_line h8 E
  have H68 := Lib.hid Tryz.underlying57
  have H8 := Lib.hid h8
  have HT := Lib.hid hT
  have hl9 : (iv (L ++ [E])).length = 9 := by rw [iv_len, List.length_append, h8]; rfl
  have HI9 : Hid ((Tryz.prog.info? 57).map (·.size) = some (iv (L ++ [E])).length) := Lib.hid (by rw [size68, hl9])
  clear h8 hT
  go_enter Tryz.func70, Tryz.ntmps70
  go_wp2_with fail
  obtain ⟨W0, hW0⟩ : ∃ W, (w.alloc (.cells (iv L).toArray 39)).alloc (.cells #[.int .i64 0, .int .i64 0, .int .i64 0, .int .i64 0, .int .i64 0, .int .i64 0, .int .i64 0, .int .i64 0, .int .i64 0] 57) = W := ⟨_, rfl⟩
  have HB0 : Hid (Below w.heap.size w W0.drew) := Lib.hid (by rw [← hW0]; exact (bel2 w _ _).drew)
  have HA0 : Hid (Arr W0.drew w.heap.size 39 (iv L)) := Lib.hid (by rw [← hW0]; exact a2_0 w _ _)
  have HZ0 : Hid (Arr W0.drew (w.heap.size + 1) 57 (iv Z9)) := Lib.hid (by rw [← hW0]; exact a2_1 w _ _)
  have hr := HA0.out.range
  rw [hW0]
  clear hW0
  refine wp_region_held_drew (S := fun W => W.rangeAt w.heap.size 0 (iv L)) (by kernel_rfl) hr (fun hHeld => ?_)
  generalize W0.drew = W1 at *
  refine wpAnyH_take (i := 0) (v := .agg (iv L).toArray) rfl (by kernel_rfl) (by kernel_rfl) (by kernel_rfl) (fun _ _ _ h => h) (yieldsIf_load_mid (by rfl) _ _ rfl _ _ rfl _ _ (fun w h => h) hu22 rfl hi22) (by assumption) ?_
  change wpAnyH _ _ _ _ _ _ _ (Act.put _ (some 3) _) _
  simp only [Act.put, List.setIfInBounds_toArray, List.set_cons_zero, List.set_cons_succ]
  refine wpAnyH_take (i := 1) (v := .agg (iv L).toArray) rfl (by kernel_rfl) (by kernel_rfl) (by kernel_rfl) (fun _ _ _ h => h) (yieldsIf_load_mid (by rfl) _ _ rfl _ _ rfl _ _ (fun w h => h) hu22 rfl hi22) (by assumption) ?_
  change wpAnyH _ _ _ _ _ _ _ (Act.put _ (some 4) _) _
  simp only [Act.put, List.setIfInBounds_toArray, List.set_cons_zero, List.set_cons_succ]
  refine wpAnyH_ready (rs := [2]) (by kernel_rfl) (by simp) ?_
  refine AllReadyH.cons rfl (fun K hK => ?_) AllReadyH.nil
  go_simp
  refine (HENC.out _ (HT.out.keep HB0.out)).mono ?_
  rintro e w1 ⟨rfl, hb⟩
  have b1 := range_below hb hr
  refine hK.out _ _ b1 (fun hHeld1 => ?_)
  clear hK K hHeld
  have HB1 := Lib.hid (bel_on HB0.out hb)
  have HZ1 := Lib.hid (HZ0.out.keep hb)
  have HA1 := Lib.hid (HA0.out.keep hb)
  clear hb
  refine wpAnyH_take (i := 3) (v := .agg (iv (L ++ [E])).toArray) rfl (by kernel_rfl) (by kernel_rfl) (by kernel_rfl) (fun _ _ _ h => h) (yields_build (by rfl) _ _ rfl (fun w => by simpa [Act.eval] using hbl w)) (by assumption) ?_
  change wpAnyH _ _ _ _ _ _ _ (Act.put _ (some 6) _) _
  simp only [Act.put, List.setIfInBounds_toArray, List.set_cons_zero, List.set_cons_succ]
  refine wpAnyH_ready (rs := [4]) (by kernel_rfl) (by simp) ?_
  refine AllReadyH.cons rfl (fun K hK => ?_) AllReadyH.nil
  refine wp_store_row 57 _ _ rfl (w.heap.size + 1) (iv (L ++ [E])).toArray rfl rfl 57 (iv Z9).toArray HZ1.out (by simpa using HI9.out) (by rw [List.size_toArray, List.size_toArray, hl9]; rfl) (all_oneCell_toArray (iv_one _)) ?_
  refine hK.out _ _ (fun j v hv => (cell_setRow_other _ _ _ _ (by show w.heap.size ≠ w.heap.size + 1; omega)).trans (hHeld1 j v hv)) (fun hHeld2 => ?_)
  clear hK K hHeld1
  refine wpAnyH_done (by kernel_rfl) ?_ _
  go_wp2_with fail
  refine bodyPost_ret (v := .agg (iv (L ++ [E])).toArray) (ret_row Tryz.results70 _ _ (w.heap.size + 1) 57 (iv (L ++ [E])) (HZ1.out.row _) rfl _ H68.out rfl HI9.out) rfl ?_
  exact ⟨rfl, bel_row HB1.out (by omega) _⟩
set_option maxRecDepth 100000 in
set_option maxHeartbeats 1000000 in
theorem image_any (p : Nat) (m : PM) (F : Nat → Prop) (w : World) (hf : m.L.length ≤ 4096) (h : Rep w p m F) :
    Calls Tryz.prog 16 #[.pointer (some ⟨p, 0, none⟩)] w (Cloned w 57 9 m.L.length (iv (flatL m.L))) := by
  obtain ⟨dv, b, ev, D, G, h⟩ := h
  have cc := h.c0
  have HC := Lib.hid (cloneLine_any dv m.L.length (iv (flatL m.L)) w h.dur (iv_one _) (by omega))
  clear h
  go_enter Tryz.func16, Tryz.ntmps16
  go_wp2_with (go_at_call 55; refine HC.out.mono ?_; rintro e w1 ⟨v', rfl, hs, ho, hb⟩)
  go_ret
  exact ⟨v', rfl, hs, ho, hb⟩
set_option maxRecDepth 100000 in
set_option maxHeartbeats 1000000 in
theorem events_any (p : Nat) (m : PM) (F : Nat → Prop) (w : World) (hf : m.ev.length ≤ 1000000) (h : Rep w p m F) :
    Calls Tryz.prog 22 #[.pointer (some ⟨p, 0, none⟩)] w (Cloned w 79 12 m.ev.length (iv m.ev.flatten)) := by
  obtain ⟨dv, b, ev, D, G, h⟩ := h
  have cc := h.c3
  have HC := Lib.hid (cloneEvent_any ev m.ev.length (iv m.ev.flatten) w h.evs (iv_one _) hf)
  clear h
  go_enter Tryz.func22, Tryz.ntmps22
  go_wp2_with (go_at_call 64; refine HC.out.mono ?_; rintro e w1 ⟨v', rfl, hs, ho, hb⟩)
  go_ret
  exact ⟨v', rfl, hs, ho, hb⟩
/-- What is pending on a line, as the map has it. -/
theorem RepAt.lookAny {w : World} {p b : Nat} {m : PM} {F : Nat → Prop} {dv ev : Value} {D : DataW Value} {G : Nat → Value} (h : RepAt w p m F dv b ev D G) {z : Int} (hz : I64 z) (hf : m.L.length ≤ 4096) : ∃ A cap mk, (pendP m z).length ≤ cap ∧ cap ≤ maxLen ∧
    Sl w 66 2 (.slice A (pendP m z).length cap) (pendP m z).length (iv (flatS (pendP m z))) ∧
    ∀ w', w'.heap[b]? = w.heap[b]? → (Instr.lookup 59 (.map (some b)) (.int .i64 z) false).run Tryz.prog w' = .ok (.agg #[.slice A (pendP m z).length cap, .int .i64 mk]) w' := by
  cases hh : m.has z with
  | false =>
    have e : pendP m z = [] := by unfold pendP; rw [hh]; rfl
    rw [e]
    exact ⟨none, 0, 0, by simp, by simp [maxLen], Sl.nil _ _ _, h.lookNone hz hh⟩
  | true =>
    have hr : 0 ≤ z ∧ z < m.L.length := by unfold PM.has at hh; simpa using hh
    obtain ⟨i, rfl⟩ : ∃ i : Nat, z = i := ⟨z.toNat, by omega⟩
    have hi : i < m.L.length := by omega
    have e : pendP m i = (m.line i).pend := by unfold pendP; rw [hh]; rfl
    rw [e]
    obtain ⟨A, cap, hG, h1, h2, hlk⟩ := h.look hi hf
    have := h.pend i hi
    rw [hG] at this
    exact ⟨A, cap, _, h1, h2, this, hlk⟩
set_option maxRecDepth 100000 in
set_option maxHeartbeats 1000000 in
theorem pending_any (p : Nat) (z : Int) (m : PM) (F : Nat → Prop) (w : World) (hz : I64 z) (hf : m.L.length ≤ 4096) (hn : (pendP m z).length ≤ 1000000) (h : Rep w p m F) :
    Calls Tryz.prog 32 #[.pointer (some ⟨p, 0, none⟩), .int .i64 z] w (Cloned w 66 2 (pendP m z).length (iv (flatS (pendP m z)))) := by
  obtain ⟨dv, b, ev, D, G, h⟩ := h
  have cc := h.c1
  obtain ⟨A, cap, mk, _, _, hs, hlk⟩ := h.lookAny hz hf
  have hl := hlk w rfl
  have HC := Lib.hid (cloneStore_any _ _ _ w hs (iv_one _) hn)
  have hfb := field_b0 (.slice A (pendP m z).length cap) mk
  clear h hlk hs
  generalize (pendP m z) = ss at *
  go_enter Tryz.func32, Tryz.ntmps32
  go_wp2_with (go_at_call 21; refine HC.out.mono ?_; rintro e w1 ⟨v', rfl, hs, ho, hb⟩)
  go_ret
  exact ⟨v', rfl, hs, ho, hb⟩
end Go.Proofs.YtmnncbgibngmiaaGreatDoor
namespace Go.Proofs.YtmnncbgibngmiaaGreatDoor
open Go.RowKit
theorem info47 : (Tryz.prog.info? 39).map (fun i => (i.zero, i.size, i.bytes)) = some (some (.agg #[.int .i64 0, .int .i64 0, .int .i64 0, .int .i64 0, .int .i64 0, .int .i64 0, .int .i64 0, .int .i64 0]), 8, 64) := by kernel_rfl
theorem made_zeros (n : Nat) : (madeCells #[.int .i64 0, .int .i64 0, .int .i64 0, .int .i64 0, .int .i64 0, .int .i64 0, .int .i64 0, .int .i64 0] n).toList = iv (List.replicate n 0) := by
  have hz : ∀ q : Fin 8, (#[Value.int .i64 0, .int .i64 0, .int .i64 0, .int .i64 0, .int .i64 0, .int .i64 0, .int .i64 0, .int .i64 0] : Array Value)[q.val]! = .int .i64 0 := fun q => by
    match q with
    | 0 | 1 | 2 | 3 | 4 | 5 | 6 | 7 => rfl
  have e : madeCells #[.int .i64 0, .int .i64 0, .int .i64 0, .int .i64 0, .int .i64 0, .int .i64 0, .int .i64 0, .int .i64 0] n = (Array.range n).map fun _ => Value.int .i64 0 := by
    unfold madeCells
    congr 1
    funext i
    exact hz ⟨i % 8, Nat.mod_lt _ (by decide)⟩
  rw [e]
  unfold iv
  rw [Array.toList_map, Array.toList_range, List.map_const', List.length_range, List.map_replicate]
theorem seen_len {m : PM} (hm : m.Ok) : ∀ x ∈ m.seen, x.length = 8 := fun x hx => by
  obtain ⟨l, hl, rfl⟩ := List.mem_map.1 hx
  exact ((hm.lines l hl).after l.pend.length).1
theorem flat_take (l : List (List Int)) (h : ∀ x ∈ l, x.length = 8) (k : Nat) (hk : k ≤ l.length) : (l.take k).flatten.length = k * 8 := by
  have := flatMap_len (fun x : List Int => x) 8 (l.take k) (fun x hx => h x (List.mem_of_mem_take hx))
  rw [List.flatMap_id'] at this
  rw [this, List.length_take, Nat.min_eq_left hk]
/-- What the new row holds behind k rounds. -/
def seenRow (l : List (List Int)) (n k : Nat) : List Int := (l.take k).flatten ++ List.replicate ((n - k) * 8) 0
theorem seenRow_len (l : List (List Int)) (h : ∀ x ∈ l, x.length = 8) (k : Nat) (hk : k ≤ l.length) : (seenRow l l.length k).length = l.length * 8 := by
  unfold seenRow
  rw [List.length_append, flat_take l h k hk, List.length_replicate, ← Nat.add_mul]
  congr 1
  omega
theorem seenRow_step (l : List (List Int)) (h : ∀ x ∈ l, x.length = 8) (k : Nat) (hk : k < l.length) :
    (iv (seenRow l l.length k)).take (k * 8) ++ iv l[k] ++ (iv (seenRow l l.length k)).drop (k * 8 + (iv l[k]).length) = iv (seenRow l l.length (k + 1)) := by
  have h8 := h _ (List.getElem_mem hk)
  have hf := flat_take l h k (Nat.le_of_lt hk)
  unfold iv
  rw [← List.map_take, ← List.map_drop, List.length_map, h8, ← List.map_append, ← List.map_append]
  congr 1
  unfold seenRow
  rw [List.take_append_of_le_length (by omega), List.take_of_length_le (by omega), take_snoc' l k hk, List.flatten_append, List.drop_append, hf, List.drop_of_length_le (by omega), List.nil_append, List.drop_replicate]
  simp only [List.flatten_cons, List.flatten_nil, List.append_nil, List.append_assoc]
  congr 3
  rw [Nat.sub_mul, Nat.sub_mul, Nat.add_mul]
  omega
theorem seenRow_end (l : List (List Int)) : seenRow l l.length l.length = l.flatten := by
  unfold seenRow
  rw [List.take_length, Nat.sub_self, Nat.zero_mul]
  simp
/-- Cells are written into the middle of a block. -/
theorem arm_mid {ops : Array Oper} {rest : List Oper} {o : Oper} {a : Act} {Q : Exit → Act → World → Prop} {w : World} (ty g p t : Nat) (cs ds rs : List Value) (hA : Arr w g t cs) (hi : (Tryz.prog.info? ty).map (·.size) = some ds.length) (hfit : p + ds.length ≤ cs.length) (h1 : ∀ v ∈ ds, v.oneCell' = true)
    (hrs : cs.take p ++ ds ++ cs.drop (p + ds.length) = rs)
    (hgd : o.guard = none) (x y : Operand) (ho : o.op = .store ty x y) (hx : a.eval x = .pointer (some ⟨g, p, none⟩)) (hy : a.eval y = .agg ds.toArray)
    (h : wpList Tryz.prog ops Q rest (a.put o.dst undef) (w.setRow g rs.toArray)) : wpList Tryz.prog ops Q (o :: rest) a w := by
  refine wpList_store_at w hgd ty x y ho g p t cs.toArray ds.toArray hx hy hA (by simpa using hfit) (by simpa using hi) (all_oneCell_toArray h1) ?_
  rw [List.size_toArray, List.toList_toArray, List.toList_toArray, hrs]
  exact h
set_option maxRecDepth 100000 in
set_option maxHeartbeats 4000000 in
theorem seen_any (p : Nat) (m : PM) (F : Nat → Prop) (w : World) (hm : m.Ok) (h : Rep w p m F) (hT : Tab w) :
    Calls Tryz.prog 27 #[.pointer (some ⟨p, 0, none⟩)] w (Cloned w 39 8 m.L.length (iv m.seen.flatten)) := by
  have HS := Lib.hid fun i z hz w hi h hT => shown_any p i z hz m F w hi hm h hT
  have hrp := h
  obtain ⟨dv, b, ev, D, G, h⟩ := h
  have c0 := h.c0
  obtain ⟨d, o, cap, rfl, hcap, hcm, _, _⟩ := h.where_ hm
  have hf := hm.few
  have hpos := hm.pos
  have H8 := Lib.hid (seen_len hm)
  have HSL : Hid (m.seen.length = m.L.length) := Lib.hid (by unfold PM.seen; rw [List.length_map])
  have HSG : Hid (∀ k, k < m.L.length → m.seen[k]? = some (m.line k).shows) := Lib.hid (fun k hk => by
    unfold PM.seen
    rw [List.getElem?_map, PM.line_eq hk, List.getElem?_eq_getElem hk]
    rfl)
  obtain ⟨i0, hi, hz0, hz1, hz2⟩ := info_parts info47
  have HI0 := Lib.hid hi
  have HZ0 := Lib.hid hz0
  have HZ1 := Lib.hid hz1
  have HZ2 := Lib.hid hz2
  have HRP := Lib.hid hrp
  have HT := Lib.hid hT
  clear h hrp hT hi hz0 hz1 hz2 hm
  generalize hn : m.L.length = n at *
  generalize hs : m.seen = S at *
  have HB0 : Hid (Below w.heap.size w w) := Lib.hid (Below.refl _ _)
  clear hn hs
  go_enter Tryz.func27, Tryz.ntmps27
  go_wp2_with (at_make; refine wpList_make_full _ rfl _ _ 71 rfl w.heap.size 39 i0 _ 8 Tryz.underlying71 HI0.out HZ0.out HZ1.out .i64 .i64 _ _ n rfl rfl rfl rfl (by rw [HZ2.out]; omega) (by unfold maxLen; omega) (Nat.le_refl _) ?_; intro w1 hown hgrow)
  have HA1 : Hid (Arr w1 w.heap.size 39 (iv (seenRow S n 0))) := Lib.hid (by
    rcases hown.2 with ⟨h0, _⟩ | ⟨g, cap', cur, hv, _, hg, _, _, hsz, ht⟩
    · cases h0
    · simp only [Value.slice.injEq, Option.some.injEq, Addr.mk.injEq, and_true, true_and] at hv
      obtain ⟨rfl, rfl⟩ := hv
      have e : cur.toList = iv (seenRow S n 0) := by
        rw [List.take_of_length_le (by rw [Array.length_toList, hsz]; exact Nat.le_refl _)] at ht
        rw [ht]
        show (madeCells #[.int .i64 0, .int .i64 0, .int .i64 0, .int .i64 0, .int .i64 0, .int .i64 0, .int .i64 0, .int .i64 0] (n * 8)).toList = _
        rw [made_zeros]
        unfold seenRow
        simp
      unfold Arr
      rw [hg, ← e])
  have HB1 : Hid (Below w.heap.size w w1) := Lib.hid (HB0.out.grown hgrow (Nat.le_refl _) (fun k hk => by cases hk))
  clear hown hgrow HB0
  go_wp2_with fail
  go_loopw [13] (fun i wr => ∃ k : Nat, i = .int .i64 (k : Int) ∧ k ≤ n ∧ Hid (Arr wr w.heap.size 39 (iv (seenRow S n k))) ∧ Hid (Below w.heap.size w wr)) (fun i _ => n - (intOf i).toNat)
  case atStart => exact ⟨0, rfl, by omega, HA1, HB1⟩
  case round =>
    clear HA1 HB1
    obtain ⟨k, rfl, hk, HA, HB⟩ := hrel
    by_cases hlt : k < n
    · have hkS : k < S.length := by have := HSL.out; omega
      have hsc := HS.out k (k : Int) rfl wr hlt (HRP.out.below HB.out) (HT.out.keep HB.out)
      have hsk : (m.line k).shows = S[k] := by
        have := HSG.out k hlt
        rw [List.getElem?_eq_getElem hkS] at this
        exact (Option.some.inj this).symm
      rw [hsk] at hsc
      clear hsk
      have HX8 := Lib.hid (H8.out _ (List.getElem_mem hkS))
      have hstep := seenRow_step S H8.out k hkS
      rw [HSL.out] at hstep
      have hlen := seenRow_len S H8.out k (Nat.le_of_lt hkS)
      rw [HSL.out] at hlen
      generalize S[k] = X at *
      generalize seenRow S n k = R at *
      have HSC := Lib.hid hsc
      have HST := Lib.hid hstep
      have HFT : Hid (k * 8 + (iv X).length ≤ (iv R).length) := Lib.hid (by rw [iv_len, iv_len, HX8.out, hlen]; omega)
      have HIX := Lib.hid (size22' (l := X) HX8.out)
      have HOX := Lib.hid (iv_one X)
      have hkI : (k : Int) < (n : Int) := by omega
      clear hsc hstep hlen hkS
      go_wp2_with fail
      refine HSC.out.mono ?_
      rintro e w2 ⟨rfl, hb⟩
      have HA2 := Lib.hid (HA.out.keep hb)
      have HB2 := Lib.hid (bel_on HB.out hb)
      clear hb HA HB HSC
      go_wp2_with ((with_reducible refine arm_mid 39 w.heap.size (k * 8) 39 _ _ _ HA2.out HIX.out HFT.out HOX.out HST.out rfl _ _ rfl ?_ ?_ ?_); (focus rfl); (focus rfl))
      have HA3 := Lib.hid (HA2.out.row (iv (seenRow S n (k + 1))))
      have HB3 := Lib.hid (bel_row HB2.out (Nat.le_refl _) (iv (seenRow S n (k + 1))).toArray)
      clear HA2 HB2
      go_roundw
      case rel => exact ⟨k + 1, by simp, by omega, HA3, HB3⟩
      case measure => simp [intOf]; omega
    · obtain rfl : k = n := by omega
      have HE : Hid (seenRow S k k = S.flatten) := Lib.hid (by
        have := seenRow_end S
        rw [HSL.out] at this
        exact this)
      rw [HE.out] at HA
      go_wp2_with fail
      go_ret
      exact ⟨_, rfl, ⟨by
        have := seenRow_len S H8.out k (by rw [HSL.out]; exact Nat.le_refl _)
        rw [HSL.out, HE.out] at this
        rw [iv_len, this], .inr ⟨w.heap.size, 0, k, _, rfl, HA.out, Nat.le_refl _, by unfold maxLen; omega, by
        have := seenRow_len S H8.out k (by rw [HSL.out]; exact Nat.le_refl _)
        rw [HSL.out, HE.out] at this
        rw [List.size_toArray, iv_len, this]
        omega, by
        have := seenRow_len S H8.out k (by rw [HSL.out]; exact Nat.le_refl _)
        rw [HSL.out, HE.out] at this
        rw [List.toList_toArray, List.drop_zero, List.take_of_length_le (by rw [iv_len, this]; exact Nat.le_refl _)]⟩⟩, fun j hj => by
          simp [Value.ownBlock] at hj
          omega, HB.out⟩
end Go.Proofs.YtmnncbgibngmiaaGreatDoor
