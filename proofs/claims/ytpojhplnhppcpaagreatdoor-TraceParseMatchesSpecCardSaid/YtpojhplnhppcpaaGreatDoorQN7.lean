/-
  What memory's flush does. What memory's heal does; what keeps a memory right. What memory's put does.
-/
import Derived.Test.YtpojhplnhppcpaaGreatDoorQN3
namespace Go.Proofs.YtpojhplnhppcpaaGreatDoor
open Go.RowKit Go.Maps
theorem yields_look {ops : Array Oper} {S : World → Prop} {o : Oper} {a : Act} {v : Value} (hw : Region.wanted o (yielded ops a.tmps) = true) (t : TypeId) (x y : Operand) (c : Bool) (ho : o.op = .lookup t x y c)
    (h : ∀ w, S w → (Instr.lookup t (a.eval x) (a.eval y) c).run Tryz.prog w = .ok v w) : YieldsIf Tryz.prog ops S o v a :=
  .inl ⟨hw, fun w hS => by
    unfold execOp
    simp only [ho, Sem.run_bind, h w hS, Result.andThen_ok, Sem.run_pure]⟩
theorem PL.flushed_idle {l : PL} (hp : l.pend = []) (hm : l.mark = 0) : l.flushed = l := by
  cases l
  simp only at hp hm
  subst hp hm
  rfl
/-- With the second result. -/
theorem RepAt.lookOk {w : World} {p b : Nat} {m : PM} {F : Nat → Prop} {dv ev : Value} {D : DataW Value} {G : Nat → Value} (h : RepAt w p m F dv b ev D G) {i : Nat} (hi : i < m.L.length) (hf : m.L.length ≤ 4096) :
    ∀ w', w'.heap[b]? = w.heap[b]? → (Instr.lookup 98 (.map (some b)) (.int .i64 (i : Int)) true).run Tryz.prog w' = .ok (.tuple #[backV (G i) (m.line i).mark, .bool (decide ((m.line i).pend ≠ []))]) w' := fun w' hw => by
  have := look_ok_run (ownsMap_keep h.map hw) (i : Int) (by unfold I64; omega) (h.at_ i hi)
  rw [show Maps.has D (.int .i64 (i : Int)) = _ from h.has_ i hi] at this
  exact this
set_option maxRecDepth 100000 in
set_option maxHeartbeats 4000000 in
set_option linter.unusedSimpArgs false in
theorem flush_any (p : Nat) (a : Int) (E : List Int) (hE : E.length = 12) (h1 : E[1]? = some a) (m : PM) (F : Nat → Prop) (w : World) (hm : m.Ok) (h : Rep w p m F) :
    Calls Tryz.prog 95 #[.pointer (some ⟨p, 0, none⟩), .agg (iv E).toArray] w fun e w' => e = .returned (.int .i64 (flushP m a).1) ∧ Step F w p (flushP m a).2 w' := by
  have hb := bel_new w (.cells (iv E).toArray 68)
  have hA := Arr.new w (iv E) 68
  have e1 := hA.cell (iv_get h1)
  have HI := Lib.hid (size81 hE)
  have hrp := h.below hb
  have hc := hasLine_any p a m F _ hm hrp
  obtain ⟨R, hR⟩ : ∃ R, flushP m a = R := ⟨_, rfl⟩
  rw [hR]
  unfold flushP at hR
  have HST := Lib.hid (fun W (hW : Below w.heap.size w W) => Step.below h hW)
  have HB := Lib.hid hb
  have hi := HI.out
  cases hh : m.has a with
  | false =>
    rw [hh, if_pos rfl] at hR
    subst hR
    rw [hh] at hc
    have HC := Lib.hid hc
    clear hc hrp h
    go_enter Tryz.func95, Tryz.ntmps95
    go_wp2_with (go_at_call 65; refine HC.out.mono ?_; rintro e w' ⟨rfl, rfl⟩)
    go_ret
    exact ⟨rfl, HST.out _ HB.out⟩
  | true =>
    rw [hh, if_neg (by simp)] at hR
    rw [hh] at hc
    have hr : 0 ≤ a ∧ a < m.L.length := by unfold PM.has at hh; simpa using hh
    obtain ⟨i, rfl⟩ : ∃ i : Nat, a = i := ⟨a.toNat, by omega⟩
    have hil : i < m.L.length := by omega
    rw [Int.toNat_natCast] at hR
    obtain ⟨dv, b, ev, D, G, hr0⟩ := h
    have HR0 := Lib.hid hr0
    have hr1 := hr0.below hb
    obtain ⟨A, gcap, hG, hc1, hc2, _⟩ := hr1.look hil hm.few
    have hlk := hr1.lookOk hil hm.few
    rw [hG] at hlk
    have c1 := hr1.c1
    have HC := Lib.hid hc
    have HIL := Lib.hid hil
    have HFEW : Hid (Maps.size D < maxLen) := Lib.hid (by
      have := hr1.few
      have := hm.few
      unfold maxLen
      omega)
    have HKEY := Lib.hid (key_of (i : Int) (by have := hm.few; unfold I64; omega))
    have HIDLE := Lib.hid (hr0.idle hil)
    have HOWN : Hid (∀ k, (G i).ownBlock = some k → k < w.heap.size) := Lib.hid (fun k hk => hr0.lt k (hr0.ownG i hil k hk))
    have HPS := Lib.hid (hr0.pend i hil)
    have hlp : (m.line i).pend.length ≤ 9223372036854775807 := by unfold maxLen at hc2; omega
    have hbl := hr0.map.lt
    clear hc hrp hr0 hr1 hm
    obtain ⟨PD, hPD⟩ : ∃ PD, PD = (m.line i).pend := ⟨_, rfl⟩
    rw [← hPD] at hlk hc1 hlp HPS hG
    obtain ⟨mk, hmk⟩ : ∃ mk, mk = (m.line i).mark := ⟨_, rfl⟩
    rw [← hmk] at hlk
    have HPD := Lib.hid hPD
    have HMK := Lib.hid hmk
    have HHG := Lib.hid hG
    clear hPD hmk hG
    unfold backV at hlk
    obtain ⟨ok, hok⟩ : ∃ ok, decide (PD ≠ []) = ok := ⟨_, rfl⟩
    rw [hok] at hlk
    have HOK := Lib.hid hok
    have hkk : w.heap.size < (w.alloc (.cells (iv E).toArray 68)).heap.size := by simp
    have HA1 := Lib.hid hA
    clear hok hh hA hi
    have hi := HI.out
    go_enter Tryz.func95, Tryz.ntmps95
    go_wp2_with (go_at_call 65; refine HC.out.mono ?_; rintro e w' ⟨rfl, rfl⟩)
    obtain ⟨W0, hW0⟩ : ∃ W, w.alloc (.cells (iv E).toArray 68) = W := ⟨_, rfl⟩
    rw [hW0] at HB hlk c1 HA1 e1 hkk ⊢
    clear hW0
    obtain ⟨k, hk⟩ : ∃ k, w.heap.size = k := ⟨_, rfl⟩
    have HWS := Lib.hid hk
    rw [hk] at hkk e1 HA1 ⊢
    clear hk
    refine wp_region_held_drew (S := fun W => W.cell? ⟨p, 1, none⟩ = some (.map (some b)) ∧ W.cell? ⟨k, 1, none⟩ = some (.int .i64 (i : Int)) ∧ W.heap[b]? = W0.heap[b]?) (by kernel_rfl) ⟨c1, e1, rfl⟩ (fun hHeld => ?_)
    refine wpAnyH_take (i := 0) (v := .pointer (some ⟨p, 0, none⟩)) rfl (by kernel_rfl) (by kernel_rfl) (by kernel_rfl) (fun _ _ _ h => h) (Or.inl ⟨by rfl, fun w hSw => by obtain ⟨h1, h2, h3⟩ := hSw; go_simp⟩) (by assumption) ?_
    change wpAnyH _ _ _ _ _ _ _ (Act.put _ (some 13) _) _
    simp only [Act.put, List.setIfInBounds_toArray, List.set_cons_zero, List.set_cons_succ]
    refine wpAnyH_take (i := 1) (v := .pointer (some ⟨p, 0, none⟩)) rfl (by kernel_rfl) (by kernel_rfl) (by kernel_rfl) (fun _ _ _ h => h) (Or.inl ⟨by rfl, fun w hSw => by obtain ⟨h1, h2, h3⟩ := hSw; go_simp⟩) (by assumption) ?_
    change wpAnyH _ _ _ _ _ _ _ (Act.put _ (some 14) _) _
    simp only [Act.put, List.setIfInBounds_toArray, List.set_cons_zero, List.set_cons_succ]
    refine wpAnyH_take (i := 2) (v := .pointer (some ⟨p, 1, none⟩)) rfl (by kernel_rfl) (by kernel_rfl) (by kernel_rfl) (fun _ _ _ h => h) (Or.inl ⟨by rfl, fun w hSw => by obtain ⟨h1, h2, h3⟩ := hSw; go_simp⟩) (by assumption) ?_
    change wpAnyH _ _ _ _ _ _ _ (Act.put _ (some 15) _) _
    simp only [Act.put, List.setIfInBounds_toArray, List.set_cons_zero, List.set_cons_succ]
    refine wpAnyH_take (i := 3) (v := .map (some b)) rfl (by kernel_rfl) (by kernel_rfl) (by kernel_rfl) (fun _ _ _ h => h) (Or.inl ⟨by rfl, fun w hSw => by obtain ⟨h1, h2, h3⟩ := hSw; go_simp⟩) (by assumption) ?_
    change wpAnyH _ _ _ _ _ _ _ (Act.put _ (some 16) _) _
    simp only [Act.put, List.setIfInBounds_toArray, List.set_cons_zero, List.set_cons_succ]
    refine wpAnyH_take (i := 4) (v := .pointer (some ⟨k, 1, none⟩)) rfl (by kernel_rfl) (by kernel_rfl) (by kernel_rfl) (fun _ _ _ h => h) (Or.inl ⟨by rfl, fun w hSw => by obtain ⟨h1, h2, h3⟩ := hSw; go_simp⟩) (by assumption) ?_
    change wpAnyH _ _ _ _ _ _ _ (Act.put _ (some 17) _) _
    simp only [Act.put, List.setIfInBounds_toArray, List.set_cons_zero, List.set_cons_succ]
    refine wpAnyH_take (i := 5) (v := .int .i64 (i : Int)) rfl (by kernel_rfl) (by kernel_rfl) (by kernel_rfl) (fun _ _ _ h => h) (Or.inl ⟨by rfl, fun w hSw => by obtain ⟨h1, h2, h3⟩ := hSw; go_simp⟩) (by assumption) ?_
    change wpAnyH _ _ _ _ _ _ _ (Act.put _ (some 18) _) _
    simp only [Act.put, List.setIfInBounds_toArray, List.set_cons_zero, List.set_cons_succ]
    refine wpAnyH_take (i := 6) (v := .tuple #[.agg #[.slice A PD.length gcap, .int .i64 (mk : Int)], .bool ok]) rfl (by kernel_rfl) (by kernel_rfl) (by kernel_rfl) (fun _ _ _ h => h) (yields_look (by rfl) _ _ _ _ rfl (fun w h => hlk w h.2.2)) (by assumption) ?_
    change wpAnyH _ _ _ _ _ _ _ (Act.put _ (some 19) _) _
    simp only [Act.put, List.setIfInBounds_toArray, List.set_cons_zero, List.set_cons_succ]
    refine wpAnyH_take (i := 7) (v := .tuple #[.agg #[.slice A PD.length gcap, .int .i64 (mk : Int)], .bool ok]) rfl (by kernel_rfl) (by kernel_rfl) (by kernel_rfl) (fun _ _ _ h => h) (Or.inl ⟨by rfl, fun w hSw => by obtain ⟨h1, h2, h3⟩ := hSw; go_simp⟩) (by assumption) ?_
    change wpAnyH _ _ _ _ _ _ _ (Act.put _ (some 12) _) _
    simp only [Act.put, List.setIfInBounds_toArray, List.set_cons_zero, List.set_cons_succ]
    refine wpAnyH_take (i := 8) (v := .agg #[.slice A PD.length gcap, .int .i64 (mk : Int)]) rfl (by kernel_rfl) (by kernel_rfl) (by kernel_rfl) (fun _ _ _ h => h) (Or.inl ⟨by rfl, fun w hSw => by obtain ⟨h1, h2, h3⟩ := hSw; go_simp⟩) (by assumption) ?_
    change wpAnyH _ _ _ _ _ _ _ (Act.put _ (some 20) _) _
    simp only [Act.put, List.setIfInBounds_toArray, List.set_cons_zero, List.set_cons_succ]
    refine wpAnyH_take (i := 9) (v := .bool ok) rfl (by kernel_rfl) (by kernel_rfl) (by kernel_rfl) (fun _ _ _ h => h) (Or.inl ⟨by rfl, fun w hSw => by obtain ⟨h1, h2, h3⟩ := hSw; go_simp⟩) (by assumption) ?_
    change wpAnyH _ _ _ _ _ _ _ (Act.put _ (some 21) _) _
    simp only [Act.put, List.setIfInBounds_toArray, List.set_cons_zero, List.set_cons_succ]
    refine wpAnyH_ready (rs := [10]) (by kernel_rfl) (by simp) ?_
    refine AllReadyH.cons rfl (fun K hK => ?_) AllReadyH.nil
    go_simp
    refine hK.out _ _ ⟨cell_below (bel_new _ _) hHeld.1, cell_below (bel_new _ _) hHeld.2.1, (Below.heap_alloc _ _ b (by have := HB.out.size; show b < W0.heap.size; omega)).trans hHeld.2.2⟩ (fun hHeld1 => ?_)
    clear hK K
    refine wpAnyH_ready (rs := [11]) (by kernel_rfl) (by simp) ?_
    refine AllReadyH.cons rfl (fun K hK => ?_) AllReadyH.nil
    go_simp
    refine hK.out _ _ ⟨cell_below (bel_new _ _) hHeld.1, cell_below (bel_new _ _) hHeld.2.1, (Below.heap_alloc _ _ b (by have := HB.out.size; show b < W0.heap.size; omega)).trans hHeld.2.2⟩ (fun hHeld2 => ?_)
    clear hK K hHeld1 hHeld
    refine wpAnyH_take (i := 12) (v := .bool ok) rfl (by kernel_rfl) (by kernel_rfl) (by kernel_rfl) (fun _ _ _ h => h) (Or.inl ⟨by rfl, fun w hSw => by obtain ⟨h1, h2, h3⟩ := hSw; go_simp⟩) (by assumption) ?_
    change wpAnyH _ _ _ _ _ _ _ (Act.put _ (some 6) _) _
    simp only [Act.put, List.setIfInBounds_toArray, List.set_cons_zero, List.set_cons_succ]
    refine wpAnyH_done (by kernel_rfl) ?_ _
    clear hHeld2 hlk
    have HB5 : Hid (Below w.heap.size w (W0.alloc (.cells #[.slice A PD.length gcap, .int .i64 (mk : Int)] 108)).drew) := Lib.hid (bel_on HB.out (bel_new _ _)).drew
    have hA5 : Arr (W0.alloc (.cells #[.slice A PD.length gcap, .int .i64 (mk : Int)] 108)).drew W0.heap.size 108 [.slice A PD.length gcap, .int .i64 (mk : Int)] := Arr.new W0 [.slice A PD.length gcap, .int .i64 (mk : Int)] 108
    have e5 : (W0.alloc (.cells #[.slice A PD.length gcap, .int .i64 (mk : Int)] 108)).drew.cell? ⟨k, 1, none⟩ = some (.int .i64 (i : Int)) := cell_below (bel_new W0 _).drew e1
    have d5 : (W0.alloc (.cells #[.slice A PD.length gcap, .int .i64 (mk : Int)] 108)).drew.cell? ⟨p, 1, none⟩ = some (.map (some b)) := cell_below (bel_new W0 _).drew c1
    generalize (W0.alloc (.cells #[.slice A PD.length gcap, .int .i64 (mk : Int)] 108)).drew = W5 at *
    generalize W0.heap.size = g5 at *
    cases ok with
    | false =>
      have HM : Hid (m.upd i (·.flushed) = m) := Lib.hid (PM.upd_id HIL.out (by
        have hpe : PD = [] := by simpa using HOK.out
        have hpl : (m.line i).pend = [] := HPD.out ▸ hpe
        exact PL.flushed_idle hpl (HIDLE.out hpl).2))
      go_wp2_with fail
      go_ret
      subst hR
      exact ⟨rfl, by
        rw [HM.out]
        exact HST.out _ HB5.out⟩
    | true =>
      have b0 := hA5.cell (j := 0) rfl
      have b1 := hA5.cell (j := 1) rfl
      clear hA5 hkk c1 e1 HA1
      go_wp2_with fail
      go_still_tail 12, (by kernel_rfl)
      change wpList _ _ _ _ _ W5.drew
      have HR6 := Lib.hid ((HR0.out.below HB5.out).below (bel_drew W5))
      have hHM6 := HR6.out.map
      refine wpList_mapUpdate_own _ rfl _ _ _ 98 rfl 3 108 keyed3 Tryz.underlying98 heldR b _ D rfl hHM6 HFEW.out _ (backV (.slice A PD.length gcap) PD.length) (kOf i) rfl rfl HKEY.out (.held (backV (.slice A PD.length gcap) PD.length)) [] rfl ?_
      intro w6 hown6 hgrow6
      go_wp2_with fail
      go_ret
      subst hR
      refine ⟨rfl, ?_⟩
      have hK6 : Kept (fun k => k = b) _ w6 := Kept.of_grown hgrow6 (fun k hk => by simpa using hk.symm)
      have hne : PD ≠ [] := by simpa using HOK.out
      have hS6 : Sl w6 105 2 (.slice A PD.length gcap) PD.length (iv (flatS PD)) := by
        have h7 := HR6.out.pend i HIL.out
        rw [← HPD.out, HHG.out] at h7
        exact h7.keep fun q hq => hK6.block q (h7.lt hq) fun e => h7.ne_map hq HR6.out.map e
      have := HR6.out.putBusy (w' := w6) HIL.out (fun k hk hne _ => hK6.block k (HR6.out.lt k hk) hne) hK6.size hown6 hS6 hne (fun k hk => .inl (by rw [HHG.out]; exact hk))
      rw [HPD.out] at this
      exact Step.close (Kept.of_below HB5.out.drew) (hK6.mono (fun k _ e => by subst e; exact HR6.out.ownB)) this
end Go.Proofs.YtpojhplnhppcpaaGreatDoor
namespace Go.Proofs.YtpojhplnhppcpaaGreatDoor
open Go.RowKit Go.Maps
theorem PM.Ok.upd {m : PM} (h : m.Ok) {i : Nat} {f : PL → PL} (hf : (f (m.line i)).Ok) : (m.upd i f).Ok where
  pos := by rw [PM.upd_len]; exact h.pos
  few := by rw [PM.upd_len]; exact h.few
  lines := fun l hl => by
    rcases List.mem_or_eq_of_mem_set hl with h1 | rfl
    · exact h.lines l h1
    · exact hf
  span0 := h.span0
  span := h.span
  evs := h.evs
theorem Tab.kept {F : Nat → Prop} {w w' : World} (h : Tab w) (hF : ¬ F 6) (hk : Kept F w w') : Tab w' := fun j hj => by
  have hb := hk.block 6 h.lt hF
  have := h j hj
  rw [← this]
  unfold World.cell?
  rw [hb]
theorem Ex.not1 {F : Nat → Prop} {w w' : World} (h : Tab w) (hF : ¬ F 6) : ¬ Ex F w w' 6 := by
  have := h.lt
  rintro (h1 | h1)
  · exact hF h1
  · omega
theorem PL.Ok.lost {l : PL} (h : l.Ok) : ({ l with pend := [], mark := 0 } : PL).Ok := ⟨h.len, h.val, fun s hs => by simp at hs, Nat.le_refl _, fun _ => rfl⟩
theorem Arr.rangeD {w : World} {b : Nat} {t : TypeId} {E ws : List Int} (h : Arr w b t (iv E)) (k : Nat) (hd : E.drop k = ws) : w.rangeAt b k (iv ws) := fun j v hv => by
  refine h.cell ?_
  rw [← hd] at hv
  unfold iv at hv ⊢
  rw [List.getElem?_map, List.getElem?_drop] at hv
  rw [List.getElem?_map]
  exact hv
/-- Cells in the middle of a block are read. -/
theorem arm_range {ops : Array Oper} {rest : List Oper} {o : Oper} {a : Act} {Q : Exit → Act → World → Prop} {w : World} (ty g p : Nat) (cs : List Value) (hA : w.rangeAt g p cs) (d : TypeDesc) (hu : Tryz.prog.underlying ty = some d) (hd : d.isRow = true) (hi : (Tryz.prog.info? ty).map (·.size) = some cs.length)
    (hgd : o.guard = none) (x : Operand) (ho : o.op = .load ty x) (hx : a.eval x = .pointer (some ⟨g, p, none⟩))
    (h : wpList Tryz.prog ops Q rest (a.put o.dst (.agg cs.toArray)) w) : wpList Tryz.prog ops Q (o :: rest) a w :=
  wpList_load_mid hgd ty x ho g p hx cs d hA hu hd hi h
theorem made_eq (m : PM) (i : Nat) (hi : i < m.L.length) (ws : List Int) : (m.upd i fun l => { l with pend := [], mark := 0 }).upd i (fun l => { l with ws := ws, code := encZ ws }) = m.upd i fun _ => PL.made ws := by
  rw [PM.upd_upd m i _ _ hi]
  rfl
set_option maxRecDepth 100000 in
set_option maxHeartbeats 4000000 in
set_option linter.unusedSimpArgs false in
theorem heal_any (p : Nat) (a : Int) (ws : List Int) (E : List Int) (hE : E.length = 12) (h1 : E[1]? = some a) (h4 : E.drop 4 = ws) (m : PM) (F : Nat → Prop) (w : World) (hm : m.Ok) (h : Rep w p m F) (hT : Tab w) (hF : ¬ F 6) :
    Calls Tryz.prog 97 #[.pointer (some ⟨p, 0, none⟩), .agg (iv E).toArray] w fun e w' => e = .returned (.int .i64 (healP m a ws).1) ∧ Step F w p (healP m a ws).2 w' := by
  have h8 : ws.length = 8 := by rw [← h4, List.length_drop, hE]
  have hb := bel_new w (.cells (iv E).toArray 68)
  have hA := Arr.new w (iv E) 68
  have e1 := hA.cell (iv_get h1)
  have e4 := hA.rangeD 4 h4
  have HI := Lib.hid (size81 hE)
  have hrp := h.below hb
  have hc := hasLine_any p a m F _ hm hrp
  obtain ⟨R, hR⟩ : ∃ R, healP m a ws = R := ⟨_, rfl⟩
  rw [hR]
  unfold healP at hR
  have HST := Lib.hid (fun W (hW : Below w.heap.size w W) => Step.below h hW)
  have HB := Lib.hid hb
  have hi := HI.out
  have HI8 := Lib.hid (size22' h8)
  have HAW := Lib.hid fun w => areWords_any ws w h8
  have hu22 := Tryz.underlying66
  cases hh : m.has a with
  | false =>
    rw [hh, if_pos rfl] at hR
    subst hR
    rw [hh] at hc
    have HC := Lib.hid hc
    clear hc hrp h
    go_enter Tryz.func97, Tryz.ntmps97
    go_wp2_with (go_at_call 65; refine HC.out.mono ?_; rintro e w' ⟨rfl, rfl⟩)
    go_ret
    exact ⟨rfl, HST.out _ HB.out⟩
  | true =>
    rw [hh, if_neg (by simp)] at hR
    rw [hh] at hc
    have hr : 0 ≤ a ∧ a < m.L.length := by unfold PM.has at hh; simpa using hh
    obtain ⟨i, rfl⟩ : ∃ i : Nat, a = i := ⟨a.toNat, by omega⟩
    have hil : i < m.L.length := by omega
    rw [Int.toNat_natCast] at hR
    obtain ⟨ok, hok⟩ : ∃ ok, ws.all okW = ok := ⟨_, rfl⟩
    rw [hok] at hR HAW
    have HC := Lib.hid hc
    cases ok with
    | false =>
      rw [if_pos rfl] at hR
      subst hR
      clear hc hrp h
      go_enter Tryz.func97, Tryz.ntmps97
      go_wp2_with (first | (go_at_call 65; refine HC.out.mono ?_; rintro e w' ⟨rfl, rfl⟩) | ((with_reducible refine arm_range 66 w.heap.size 4 (iv ws) e4 _ hu22 rfl HI8.out rfl _ rfl ?_ ?_); focus rfl))
      refine (HAW.out _).mono ?_
      rintro e w2 ⟨rfl, hb2⟩
      have HB2 := Lib.hid (bel_on HB.out hb2)
      clear hb2
      go_wp2_with fail
      go_ret
      exact ⟨rfl, HST.out _ HB2.out⟩
    | true =>
      rw [if_neg (by simp)] at hR
      obtain ⟨dv, b, ev, D, G, hr0⟩ := h
      obtain ⟨d, o, cap, rfl, hcap, _, _, _⟩ := hr0.where_ hm
      have HR0 := Lib.hid hr0
      have hr1 := hr0.below hb
      have c1 := hr1.c1
      have HM := Lib.hid hm
      have HT := Lib.hid hT
      have HH8 := Lib.hid h8
      have HKEY := Lib.hid (key_of (i : Int) (by have := hm.few; unfold I64; omega))
      have HW := Lib.hid fun w hT => withCode_any ws w h8 hT
      have HM1 := Lib.hid (PM.Ok.upd hm (i := i) (f := fun l => { l with pend := [], mark := 0 }) (hm.line hil).lost)
      have hl9 : (iv (ws ++ [encZ ws])).length = 9 := by rw [iv_len, List.length_append, h8]; rfl
      have HI9 : Hid ((Tryz.prog.info? 77).map (·.size) = some (iv (ws ++ [encZ ws])).length) := Lib.hid (by rw [size68, hl9])
      have hf := hm.few
      have hi22 := HI8.out
      obtain ⟨N, hN⟩ : ∃ N, m.L.length = N := ⟨_, rfl⟩
      have HIL := Lib.hid hil
      rw [hN] at hcap hf hil
      have HN := Lib.hid hN
      have hiI : (i : Int) < (N : Int) := by omega
      have HA1 := Lib.hid hA
      clear hc hrp hr0 hr1 hm hT hN hh hok hA HST
      go_enter Tryz.func97, Tryz.ntmps97
      go_wp2_with (first | (go_at_call 65; refine HC.out.mono ?_; rintro e w' ⟨rfl, rfl⟩) | ((with_reducible refine arm_range 66 w.heap.size 4 (iv ws) e4 _ hu22 rfl HI8.out rfl _ rfl ?_ ?_); focus rfl))
      refine (HAW.out _).mono ?_
      rintro e w2 ⟨rfl, hb2⟩
      have HB2 := Lib.hid (bel_on HB.out hb2)
      have HA2 := Lib.hid (HA1.out.keep hb2)
      have c2 := cell_below hb2 c1
      have e2 := cell_below hb2 e1
      clear hb2 HAW c1 e1 e4 HC HA1 hr hb HB
      obtain ⟨k, hk⟩ : ∃ k, w.heap.size = k := ⟨_, rfl⟩
      rw [hk] at HA2 e2 ⊢
      have HKW := Lib.hid hk
      clear hk
      go_wp2_with fail
      go_still_tail 6, (by kernel_rfl)
      change wpList _ _ _ _ _ w2.drew
      have HB3 := Lib.hid HB2.out.drew
      have HR3 := Lib.hid (HR0.out.below HB3.out)
      have HA3 : Hid (Arr w2.drew k 68 (iv E)) := Lib.hid HA2.out
      clear HB2 HR0 HA2 c2 e2
      generalize w2.drew = w3 at *
      refine wpList_delete_own _ rfl _ _ 98 3 rfl 108 keyed3 Tryz.underlying98 heldR b _ D rfl HR3.out.map _ _ rfl HKEY.out ?_
      intro w4 hown4 hturn4
      have hK4 : Kept (fun k => k = b) w3 w4 := Kept.of_grown hturn4.grown (fun k hk => by simpa using hk.symm)
      have HS4 := Lib.hid (Step.close (Kept.of_below HB3.out) (hK4.mono (fun k _ e => by subst e; exact HR3.out.ownB)) (HR3.out.dropBusy HIL.out (fun k hk hne => hK4.block k (HR3.out.lt k hk) hne) hK4.size hown4))
      have HA4 : Hid (Arr w4 k 68 (iv E)) := Lib.hid ((hK4.block k HA3.out.lt fun e => by
        subst e
        obtain ⟨es, clock, hbb, _⟩ := HR3.out.map
        have := HA3.out
        unfold Arr at this
        rw [hbb] at this
        cases this).trans HA3.out)
      have hS4r : RepAt w4 p (m.upd i fun l => { l with pend := [], mark := 0 }) (Ex F w w4) _ b ev _ _ := (HR3.out.dropBusy HIL.out (fun k hk hne => hK4.block k (HR3.out.lt k hk) hne) hK4.size hown4).keep (fun _ _ => rfl) (fun k hF => by
        rcases hF with h1 | h1
        · exact .inl h1
        · exact .inr ⟨Nat.le_trans HB3.out.size h1.1, h1.2⟩) HS4.out.1.lt
      obtain ⟨F6, hF6⟩ : ∃ F6, F6 = Ex F w w4 := ⟨_, rfl⟩
      rw [← hF6] at hS4r
      have HR5 : Hid (RepAt w4.drew p _ F6 _ b ev _ _) := Lib.hid (hS4r.below (bel_drew w4))
      have HS5 : Hid (Step F w p (m.upd i fun l => { l with pend := [], mark := 0 }) w4.drew) := Lib.hid (HS4.out.then_below (bel_drew w4))
      have HA5 : Hid (Arr w4.drew k 68 (iv E)) := Lib.hid HA4.out
      have HT5 : Hid (Tab w4.drew) := Lib.hid (HT.out.kept hF HS5.out.2)
      go_wp2_with fail
      have a0 := HR5.out.c0
      rw [HN.out] at a0
      have e5 := HA5.out.cell (iv_get h1)
      have r5 := HA5.out.rangeD 4 h4
      have hF6d : F6 = Ex F w w4.drew := hF6
      clear hS4r HS4 HR3 hown4 hturn4 hK4 HA4 HA3 HB3 hF6
      refine wp_region_held_drew (S := fun W => W.cell? ⟨p, 0, none⟩ = some (.slice (some ⟨d, o, none⟩) N cap) ∧ W.cell? ⟨k, 1, none⟩ = some (.int .i64 (i : Int)) ∧ W.rangeAt k 4 (iv ws)) (by kernel_rfl) ⟨a0, e5, r5⟩ (fun hHeld => ?_)
      generalize w4.drew = w5 at *
      refine wpAnyH_take (i := 0) (v := .pointer (some ⟨p, 0, none⟩)) rfl (by kernel_rfl) (by kernel_rfl) (by kernel_rfl) (fun _ _ _ h => h) (Or.inl ⟨by rfl, fun w hSw => by obtain ⟨h1, h2, h3⟩ := hSw; go_simp⟩) (by assumption) ?_
      change wpAnyH _ _ _ _ _ _ _ (Act.put _ (some 20) _) _
      simp only [Act.put, List.setIfInBounds_toArray, List.set_cons_zero, List.set_cons_succ]
      refine wpAnyH_take (i := 1) (v := .pointer (some ⟨p, 0, none⟩)) rfl (by kernel_rfl) (by kernel_rfl) (by kernel_rfl) (fun _ _ _ h => h) (Or.inl ⟨by rfl, fun w hSw => by obtain ⟨h1, h2, h3⟩ := hSw; go_simp⟩) (by assumption) ?_
      change wpAnyH _ _ _ _ _ _ _ (Act.put _ (some 21) _) _
      simp only [Act.put, List.setIfInBounds_toArray, List.set_cons_zero, List.set_cons_succ]
      refine wpAnyH_take (i := 2) (v := .pointer (some ⟨p, 0, none⟩)) rfl (by kernel_rfl) (by kernel_rfl) (by kernel_rfl) (fun _ _ _ h => h) (Or.inl ⟨by rfl, fun w hSw => by obtain ⟨h1, h2, h3⟩ := hSw; go_simp⟩) (by assumption) ?_
      change wpAnyH _ _ _ _ _ _ _ (Act.put _ (some 22) _) _
      simp only [Act.put, List.setIfInBounds_toArray, List.set_cons_zero, List.set_cons_succ]
      refine wpAnyH_take (i := 3) (v := .slice (some ⟨d, o, none⟩) N cap) rfl (by kernel_rfl) (by kernel_rfl) (by kernel_rfl) (fun _ _ _ h => h) (Or.inl ⟨by rfl, fun w hSw => by obtain ⟨h1, h2, h3⟩ := hSw; go_simp⟩) (by assumption) ?_
      change wpAnyH _ _ _ _ _ _ _ (Act.put _ (some 23) _) _
      simp only [Act.put, List.setIfInBounds_toArray, List.set_cons_zero, List.set_cons_succ]
      refine wpAnyH_take (i := 4) (v := .pointer (some ⟨k, 1, none⟩)) rfl (by kernel_rfl) (by kernel_rfl) (by kernel_rfl) (fun _ _ _ h => h) (Or.inl ⟨by rfl, fun w hSw => by obtain ⟨h1, h2, h3⟩ := hSw; go_simp⟩) (by assumption) ?_
      change wpAnyH _ _ _ _ _ _ _ (Act.put _ (some 24) _) _
      simp only [Act.put, List.setIfInBounds_toArray, List.set_cons_zero, List.set_cons_succ]
      refine wpAnyH_take (i := 5) (v := .int .i64 (i : Int)) rfl (by kernel_rfl) (by kernel_rfl) (by kernel_rfl) (fun _ _ _ h => h) (Or.inl ⟨by rfl, fun w hSw => by obtain ⟨h1, h2, h3⟩ := hSw; go_simp⟩) (by assumption) ?_
      change wpAnyH _ _ _ _ _ _ _ (Act.put _ (some 25) _) _
      simp only [Act.put, List.setIfInBounds_toArray, List.set_cons_zero, List.set_cons_succ]
      refine wpAnyH_take (i := 6) (v := .pointer (some ⟨k, 4, none⟩)) rfl (by kernel_rfl) (by kernel_rfl) (by kernel_rfl) (fun _ _ _ h => h) (Or.inl ⟨by rfl, fun w hSw => by obtain ⟨h1, h2, h3⟩ := hSw; go_simp⟩) (by assumption) ?_
      change wpAnyH _ _ _ _ _ _ _ (Act.put _ (some 26) _) _
      simp only [Act.put, List.setIfInBounds_toArray, List.set_cons_zero, List.set_cons_succ]
      refine wpAnyH_take (i := 7) (v := .agg (iv ws).toArray) rfl (by kernel_rfl) (by kernel_rfl) (by kernel_rfl) (fun _ _ _ h => h) (yieldsIf_load_mid (by rfl) _ _ rfl _ _ rfl _ _ (fun w h => h.2.2) hu22 rfl hi22) (by assumption) ?_
      change wpAnyH _ _ _ _ _ _ _ (Act.put _ (some 27) _) _
      simp only [Act.put, List.setIfInBounds_toArray, List.set_cons_zero, List.set_cons_succ]
      refine wpAnyH_ready (rs := [8]) (by kernel_rfl) (by simp) ?_
      refine AllReadyH.cons rfl (fun K hK => ?_) AllReadyH.nil
      go_simp
      refine (HW.out _ HT5.out).mono ?_
      rintro e w6 ⟨rfl, hb6⟩
      refine hK.out _ _ ⟨cell_below hb6 a0, cell_below hb6 e5, range_below hb6 r5⟩ (fun hHeld1 => ?_)
      clear hK K hHeld
      have HR6 := Lib.hid (HR5.out.below hb6)
      have HA6 := Lib.hid (HA5.out.keep hb6)
      have HBK := Lib.hid hb6
      clear hb6 a0 e5 r5 HA5
      refine wpAnyH_take (i := 9) (v := .pointer (some ⟨d, o + i * 9, none⟩)) rfl (by kernel_rfl) (by kernel_rfl) (by kernel_rfl) (fun _ _ _ h => h) (Or.inl ⟨by rfl, fun w hSw => by obtain ⟨h1, h2, h3⟩ := hSw; go_simp⟩) (by assumption) ?_
      change wpAnyH _ _ _ _ _ _ _ (Act.put _ (some 29) _) _
      simp only [Act.put, List.setIfInBounds_toArray, List.set_cons_zero, List.set_cons_succ]
      refine wpAnyH_ready (rs := [10]) (by kernel_rfl) (by simp) ?_
      refine AllReadyH.cons rfl (fun K hK => ?_) AllReadyH.nil
      have hdur6 := HR6.out.dur
      rw [PM.upd_len] at hdur6
      obtain ⟨cur, hc, hn1, _, hfit, _⟩ := hdur6.inside
      clear hdur6
      rw [HN.out] at hn1
      have HR7 := Lib.hid (HR6.out.setLine HM1.out (i := i) (by rw [PM.upd_len]; exact HIL.out) (by rw [PM.upd_len]) HH8.out (encZ ws) hc)
      have hne : d ≠ k := fun e => by
        subst e
        have := HA6.out
        unfold Arr at this hc
        rw [hc] at this
        simp only [Option.some.injEq, Obj.cells.injEq] at this
        exact absurd this.2.1 (by decide)
      have hF7 := HR6.out.ownD d rfl
      refine wp_store_at 77 _ _ rfl d (o + i * 9) 77 cur (iv (ws ++ [encZ ws])) _ rfl rfl hc (by rw [hl9]; omega) HI9.out (iv_one _) (by rw [hl9]) ?_
      have HK7 : Hid (Kept F6 w5 (w6.setRow d (cur.take (o + i * 9) ++ iv (ws ++ [encZ ws]) ++ cur.drop (o + i * 9 + 9)).toArray)) := Lib.hid ((Kept.of_below HBK.out).then_ (Kept.setRow w6 _ hF7))
      have a7 := HR7.out.c0
      rw [HN.out] at a7
      have r7 : Arr (w6.setRow d (cur.take (o + i * 9) ++ iv (ws ++ [encZ ws]) ++ cur.drop (o + i * 9 + 9)).toArray) k 68 (iv E) := (setRow_other w6 d k _ (fun e => hne e.symm)).trans HA6.out
      clear hc hn1 hfit HR6
      generalize w6.setRow d (cur.take (o + i * 9) ++ iv (ws ++ [encZ ws]) ++ cur.drop (o + i * 9 + 9)).toArray = w7 at *
      refine hK.out _ _ ⟨a7, r7.cell (iv_get h1), r7.rangeD 4 h4⟩ (fun hHeld2 => ?_)
      clear hK K hHeld1
      refine wpAnyH_done (by kernel_rfl) ?_ _
      go_wp2_with fail
      go_ret
      subst hR
      subst hF6d
      have h9 := Step.trans HS5.out (Step.of ⟨_, _, _, _, _, HR7.out⟩ HK7.out)
      rw [made_eq m i HIL.out ws] at h9
      exact ⟨rfl, h9⟩
end Go.Proofs.YtpojhplnhppcpaaGreatDoor
namespace Go.Proofs.YtpojhplnhppcpaaGreatDoor
open Go.RowKit Go.Maps
theorem Kept.glue {F H : Nat → Prop} {w w1 w2 : World} (hb : Below w.heap.size w w1) (hk : Kept H w1 w2) (hH : ∀ q, q < w.heap.size → H q → F q) : Kept F w w2 :=
  ⟨hk.os.trans hb.os, hk.tape.trans hb.tape, hk.output.trans hb.output, Nat.le_trans hb.size hk.size, fun k hk' hf => (hk.block k (Nat.lt_of_lt_of_le hk' hb.size) (fun h => hf (hH k hk' h))).trans (hb.block k hk')⟩
theorem Step.close' {w w1 w2 : World} {p b : Nat} {m : PM} {F : Nat → Prop} {dv ev : Value} {D : DataW Value} {G : Nat → Value} (hk : Kept F w w2) (hs : w.heap.size ≤ w1.heap.size) (h : RepAt w2 p m (Ex F w1 w2) dv b ev D G) : Step F w p m w2 :=
  ⟨⟨dv, b, ev, D, G, h.keep (fun _ _ => rfl) (fun k hF => by
    rcases hF with h1 | h1
    · exact .inl h1
    · exact .inr ⟨Nat.le_trans hs h1.1, h1.2⟩) fun k hF => by
      rcases hF with h1 | h1
      · exact h.lt k (.inl h1)
      · exact h1.2⟩, hk⟩
set_option maxRecDepth 100000 in
set_option maxHeartbeats 4000000 in
set_option linter.unusedSimpArgs false in
theorem put_any (p : Nat) (a v : Int) (E : List Int) (hE : E.length = 12) (h1 : E[1]? = some a) (h2 : E[2]? = some v) (m : PM) (F : Nat → Prop) (w : World) (ha : I64 a) (hm : m.Ok) (hsm : ∀ l ∈ m.L, l.pend.length ≤ 1000000) (h : Rep w p m F) (hT : Tab w) :
    Calls Tryz.prog 94 #[.pointer (some ⟨p, 0, none⟩), .agg (iv E).toArray] w fun e w' => e = .returned (.int .i64 (putP m a v).1) ∧ Step F w p (putP m a v).2 w' := by
  have hb := bel_new w (.cells (iv E).toArray 68)
  have hA := Arr.new w (iv E) 68
  have e1 := hA.cell (iv_get h1)
  have e2 := hA.cell (iv_get h2)
  have HI := Lib.hid (size81 hE)
  have hrp := h.below hb
  have hc := hasAddress_any p a m F _ ha hm hrp
  have HW := Lib.hid fun w => isWord_any v w
  obtain ⟨R, hR⟩ : ∃ R, putP m a v = R := ⟨_, rfl⟩
  rw [hR]
  unfold putP at hR
  have HST := Lib.hid (fun W (hW : Below w.heap.size w W) => Step.below h hW)
  have HB := Lib.hid hb
  have hi := HI.out
  cases hh : m.hasA a with
  | false =>
    rw [hh, if_pos rfl] at hR
    subst hR
    rw [hh] at hc
    have HC := Lib.hid hc
    clear hc hrp h
    go_enter Tryz.func94, Tryz.ntmps94
    go_wp2_with (go_at_call 90; refine HC.out.mono ?_; rintro e w' ⟨rfl, rfl⟩)
    go_ret
    exact ⟨rfl, HST.out _ HB.out⟩
  | true =>
    rw [hh, if_neg (by simp)] at hR
    rw [hh] at hc
    have hr : 0 ≤ a ∧ a < 8 * m.L.length := by unfold PM.hasA at hh; simpa using hh
    obtain ⟨n, rfl⟩ : ∃ n : Nat, a = n := ⟨a.toNat, by omega⟩
    have hil : n / 8 < m.L.length := by omega
    have en : ((n : Int) / 8).toNat = n / 8 := by omega
    rw [en] at hR
    have HC := Lib.hid hc
    obtain ⟨ok, hok⟩ : ∃ ok, okW v = ok := ⟨_, rfl⟩
    rw [hok] at hR HW
    cases ok with
    | false =>
      rw [if_pos rfl] at hR
      subst hR
      clear hc hrp h
      go_enter Tryz.func94, Tryz.ntmps94
      go_wp2_with (first | (go_at_call 90; refine HC.out.mono ?_; rintro e w' ⟨rfl, rfl⟩) | (go_at_call 126; refine (HW.out _).mono ?_; rintro e w' ⟨rfl, rfl⟩))
      go_ret
      exact ⟨rfl, HST.out _ HB.out⟩
    | true =>
      rw [if_neg (by simp)] at hR
      have HSTA := Lib.hid fun W (hW : Below w.heap.size w W) => state_any p ((n : Int) / 8) m F W (by unfold I64 at *; omega) hm (h.below hW) (hT.keep hW)
      have hst : stateP m ((n : Int) / 8) = (((m.line (n / 8)).state : Nat) : Int) := by
        unfold stateP PM.has
        rw [if_pos (by simp; omega), en]
      rw [hst] at HSTA
      have hn9 : (n : Int) ≤ 9223372036854775807 := ha.2
      have q1 : IntKind.i64.wrap (Int.tdiv (n : Int) 8) = (n : Int) / 8 := by rw [wrapEq, Int.tdiv_eq_ediv_of_nonneg (by omega), w64 _ (by omega) (by omega)]
      have q2 : Int.tmod (n : Int) 8 = (n : Int) % 8 := Int.tmod_eq_emod_of_nonneg (by omega)
      go_enter Tryz.func94, Tryz.ntmps94
      go_wp2_with (first | (go_at_call 90; refine HC.out.mono ?_; rintro e w' ⟨rfl, rfl⟩) | (go_at_call 126; refine (HW.out _).mono ?_; rintro e w' ⟨rfl, rfl⟩))
      go_quiet (fail)
      go_wp2_with fail
      refine (HSTA.out _ (below_drewN HB.out nq)).mono ?_
      rintro e w2 ⟨rfl, hb2⟩
      have HB2 := Lib.hid (bel_on (below_drewN HB.out nq) hb2)
      have HA2 : Hid (Arr w2 w.heap.size 68 (iv E)) := Lib.hid (Arr.keep (w := (w.alloc (.cells (iv E).toArray 68)).drewN nq) hA hb2)
      clear hb2 HSTA hst q1 q2 hc hrp e1 e2 hb hA
      by_cases hrot : (m.line (n / 8)).state = 2
      · rw [if_pos hrot] at hR
        subst hR
        rw [hrot]
        clear h
        go_wp2_with fail
        go_ret
        exact ⟨rfl, HST.out _ HB2.out⟩
      · rw [if_neg hrot] at hR
        have hrotI : ¬ ((((m.line (n / 8)).state : Nat) : Int) = 2) := by omega
        generalize (m.line (n / 8)).state = st at *
        rw [show (n : Int) / 8 = ((n / 8 : Nat) : Int) by omega]
        obtain ⟨i, hin⟩ : ∃ i, n / 8 = i := ⟨_, rfl⟩
        rw [hin] at hR hil ⊢
        obtain ⟨wd, hwd⟩ : ∃ wd : Int, (n : Int) % 8 = wd := ⟨_, rfl⟩
        rw [hwd] at hR ⊢
        clear hin hwd hr hn9 HC HW hh hok ha en
        obtain ⟨dv, b, ev, D, G, hr0⟩ := h
        have HR0 := Lib.hid hr0
        have hr2 := hr0.below HB2.out
        have c1 := hr2.c1
        obtain ⟨A, gcap, hG, hc1, hc2, hlk⟩ := hr2.look hil hm.few
        have hl2 := hlk w2 rfl
        have HIL := Lib.hid hil
        have HFEW : Hid (Maps.size D < maxLen) := Lib.hid (by
          have := hr0.few
          have := hm.few
          unfold maxLen
          omega)
        have HKEY := Lib.hid (key_of (i : Int) (by have := hm.few; unfold I64; omega))
        have HPL := Lib.hid (hsm _ (PM.line_mem hil))
        have hlp : (m.line i).pend.length ≤ 9223372036854775807 := by unfold maxLen at hc2; omega
        obtain ⟨PD, hPD⟩ : ∃ PD, PD = (m.line i).pend := ⟨_, rfl⟩
        obtain ⟨mk, hmk⟩ : ∃ mk, mk = (m.line i).mark := ⟨_, rfl⟩
        rw [← hPD] at hl2 hc1 hlp hG HPL
        rw [← hmk] at hl2
        have HPD := Lib.hid hPD
        have HMK := Lib.hid hmk
        have HHG := Lib.hid hG
        have HR2 := Lib.hid hr2
        have e2 := HA2.out.cell (iv_get h2)
        have c1A := fun o => cell_below (bel_new w2 o) c1
        have e2A := fun o => cell_below (bel_new w2 o) e2
        obtain ⟨k, hk⟩ : ∃ k, w.heap.size = k := ⟨_, rfl⟩
        rw [hk] at e2 e2A ⊢
        clear hPD hmk hG hlk hr0 hr2 hm hsm hT hil hk
        have hS4 : Sl ((w2.alloc (.cells #[.slice A PD.length gcap, .int .i64 (mk : Int)] 108)).alloc (.cells #[.int .i64 wd, .int .i64 v] 105)) 105 2 (.slice A PD.length gcap) PD.length (iv (flatS PD)) := by
          have h7 := HR2.out.pend i HIL.out
          rw [← HPD.out, HHG.out] at h7
          exact h7.keep fun q hq => (bel2 w2 _ _).block q (h7.lt hq)
        have HS4 := Lib.hid hS4
        obtain ⟨i0, his, hz0, hz1, hz2⟩ := info_parts infoStore
        have HIS := Lib.hid his
        have HZ0 := Lib.hid hz0
        have HZ1 := Lib.hid hz1
        have HZ2 := Lib.hid hz2
        have HNW : Hid (∀ j u, [Value.int .i64 wd, .int .i64 v][j]? = some u → ((w2.alloc (.cells #[.slice A PD.length gcap, .int .i64 (mk : Int)] 108)).alloc (.cells #[.int .i64 wd, .int .i64 v] 105)).cell? ((⟨w2.heap.size + 1, 0, none⟩ : Addr).add j) = some u) := Lib.hid (fun j u hu => by
          rw [Addr.add_lit, Nat.zero_add]
          have ez : (w2.alloc (.cells #[.slice A PD.length gcap, .int .i64 (mk : Int)] 108)).heap.size = w2.heap.size + 1 := by simp
          rw [← ez]
          exact (Arr.new (w2.alloc (.cells #[.slice A PD.length gcap, .int .i64 (mk : Int)] 108)) [.int .i64 wd, .int .i64 v] 105).cell hu)
        have hAg : Arr ((w2.alloc (.cells #[.slice A PD.length gcap, .int .i64 (mk : Int)] 108)).alloc (.cells #[.int .i64 wd, .int .i64 v] 105)) w2.heap.size 108 [.slice A PD.length gcap, .int .i64 (mk : Int)] := (Arr.new w2 [.slice A PD.length gcap, .int .i64 (mk : Int)] 108).keep (bel_new _ _)
        have HAG := Lib.hid hAg
        clear his hz0 hz1 hz2 hS4 hAg
        go_wp2_with (at_builtin; refine wpList_append_sl _ rfl _ _ 44 rfl 105 i0 _ 2 16 Tryz.underlying44 HIS.out HZ0.out HZ1.out HZ2.out rfl (by decide) _ PD.length (iv (flatS PD)) rfl HS4.out ⟨w2.heap.size + 1, 0, none⟩ 1 1 [.int .i64 wd, .int .i64 v] rfl rfl HNW.out (by simp [Value.oneCell']) (by have := HPL.out; unfold maxLen; omega) (by have := HPL.out; omega) ?_)
        intro v' w5 hs5 hg5 ho5
        have hB4 : Below w2.heap.size w2 ((w2.alloc (.cells #[.slice A PD.length gcap, .int .i64 (mk : Int)] 108)).alloc (.cells #[.int .i64 wd, .int .i64 v] 105)) := bel2 w2 _ _
        have hz4 : ((w2.alloc (.cells #[.slice A PD.length gcap, .int .i64 (mk : Int)] 108)).alloc (.cells #[.int .i64 wd, .int .i64 v] 105)).heap.size = w2.heap.size + 2 := by simp
        have HS4' := Lib.hid HS4.out
        have HAG' := Lib.hid HAG.out
        clear HNW HS4 HAG
        obtain ⟨W4, hW4⟩ : ∃ W, ((w2.alloc (.cells #[.slice A PD.length gcap, .int .i64 (mk : Int)] 108)).alloc (.cells #[.int .i64 wd, .int .i64 v] 105)) = W := ⟨_, rfl⟩
        rw [hW4] at hg5 hB4 hz4 HS4' HAG'
        clear hW4
        have hgi : ∀ q, (G i).ownBlock = some q → q < w2.heap.size ∧ q ≠ b ∧ F q := fun q hq => by
          have h7 := HR2.out.pend i HIL.out
          exact ⟨h7.lt hq, h7.ne_map hq HR2.out.map, HR2.out.ownG i HIL.out q hq⟩
        rw [HHG.out] at hgi
        have hK5 : Kept (fun q => (Value.slice A PD.length gcap).ownBlock = some q) W4 w5 := Kept.of_grown hg5 (fun q hq => hq)
        have hg3 : w2.heap.size < W4.heap.size := by omega
        have hA5 : Arr w5 w2.heap.size 108 [.slice A PD.length gcap, .int .i64 (mk : Int)] := (hK5.block w2.heap.size hg3 fun e => by have := (hgi _ e).1; omega).trans HAG'.out
        have g5c := hA5.cell (j := 0) rfl
        have g5f := hA5.free 0
        have HR4 := Lib.hid (HR2.out.below hB4)
        have hlt4 : ∀ q, F q → q < W4.heap.size := HR4.out.lt
        have hb5 : w5.heap[b]? = W4.heap[b]? := hK5.block b (hlt4 b HR2.out.ownB) fun e => (hgi _ e).2.1 rfl
        have hp5 : w5.heap[p]? = W4.heap[p]? := hK5.block p (hlt4 p HR2.out.ownP) fun e => by
          have h7 := HR2.out.pend i HIL.out
          rw [HHG.out] at h7
          exact h7.ne_of e HR2.out.mem (by decide) rfl
        have hp2 : p < w2.heap.size := HR2.out.lt p HR2.out.ownP
        have hb2 : b < w2.heap.size := HR2.out.lt b HR2.out.ownB
        obtain ⟨w6, hw6⟩ : ∃ w6, w5.setCell ⟨w2.heap.size, 0, none⟩ v' = w6 := ⟨_, rfl⟩
        have hA6 : Arr w6 w2.heap.size 108 [v', .int .i64 (mk : Int)] := by
          rw [← hw6]
          exact hA5.set 0 v'
        have hO6 : ∀ q, q ≠ w2.heap.size → w6.heap[q]? = w5.heap[q]? := fun q hq => by
          rw [← hw6]
          exact heap_setCell_other _ _ _ _ hq
        have hz6 : w6.heap.size = w5.heap.size := by rw [← hw6]; simp [World.setCell]
        have hp6 : w6.heap[p]? = W4.heap[p]? := (hO6 p (by omega)).trans hp5
        have hb6 : w6.heap[b]? = W4.heap[b]? := (hO6 b (by omega)).trans hb5
        have d6 : w6.cell? ⟨p, 1, none⟩ = some (.map (some b)) := (Arr.cell (show Arr w6 p _ _ from hp6.trans HR4.out.mem) (j := 1) rfl)
        have HM6 : Hid (w6.ownsMap Tryz.prog 3 heldR b (Maps.size D) D) := Lib.hid (ownsMap_keep HR4.out.map hb6)
        have hS6 : Sl w6 105 2 v' (PD.length + 1) (iv (flatS PD) ++ [.int .i64 wd, .int .i64 v]) := hs5.keep fun q hq => hO6 q fun e => by
          subst e
          rcases ho5 with h8 | h8
          · rw [h8] at hq
            have := (hgi _ hq).1
            omega
          · rw [h8] at hq
            simp only [Option.some.injEq] at hq
            omega
        have hK6 : Kept (fun q => (Value.slice A PD.length gcap).ownBlock = some q ∨ q = w2.heap.size) W4 w6 := by
          rw [← hw6]
          exact (hK5.mono (fun _ _ h => .inl h)).then_ (Kept.setCell w5 v' (.inr rfl))
        have HS6 := Lib.hid hS6
        have HK6 := Lib.hid hK6
        have HO5 := Lib.hid ho5
        have HGI := Lib.hid hgi
        have HW6 := Lib.hid hw6
        have HB4 := Lib.hid hB4
        have g60 := hA6.cell (j := 0) rfl
        have g61 := hA6.cell (j := 1) rfl
        obtain ⟨A', cap', hv', _⟩ := hs5.shape
        subst hv'
        clear hs5 hg5 hK5 hb5 hp5 hO6 hp6 hb6 hS6 hK6 ho5 hgi hA5 hA6 HAG' HS4' hp2 hb2 hB4 hlt4
        go_wp2_with fail
        clear hw6
        go_still_tail 6, (by kernel_rfl)
        change wpList _ _ _ _ _ w6.drew
        have hHM6 : w6.drew.ownsMap Tryz.prog 3 heldR b (Maps.size D) D := ownsMap_keep HM6.out rfl
        refine wpList_mapUpdate_own _ rfl _ _ _ 98 rfl 3 108 keyed3 Tryz.underlying98 heldR b _ D rfl hHM6 HFEW.out _ (backV (.slice A' (PD.length + 1) cap') mk) (kOf i) rfl rfl HKEY.out (.held (backV (.slice A' (PD.length + 1) cap') mk)) [] rfl ?_
        intro w7 hown7 hgrow7
        go_wp2_with fail
        go_ret
        subst hR
        refine ⟨rfl, ?_⟩
        have hK7 : Kept (fun q => q = b) w6.drew w7 := Kept.of_grown hgrow7 (fun q hq => by simpa using hq.symm)
        have hK67 : Kept (fun q => (Value.slice A PD.length gcap).ownBlock = some q ∨ q = w2.heap.size) W4 w6.drew := HK6.out.then_ (Kept.of_below (bel_drew w6))
        have hK47 : Kept (fun q => ((Value.slice A PD.length gcap).ownBlock = some q ∨ q = w2.heap.size) ∨ q = b) W4 w7 := (hK67.mono (fun _ _ h => .inl h)).then_ (hK7.mono (fun _ _ h => .inr h))
        have hS7 : Sl w7 105 2 (.slice A' (PD.length + 1) cap') (PD ++ [(wd, v)]).length (iv (flatS (PD ++ [(wd, v)]))) := by
          rw [List.length_append, show iv (flatS (PD ++ [(wd, v)])) = iv (flatS PD) ++ [.int .i64 wd, .int .i64 v] by unfold iv flatS; simp]
          exact (HS6.out.keep (w' := w6.drew) fun _ _ => rfl).keep fun q hq => hK7.block q (HS6.out.lt hq) (HS6.out.ne_map hq HM6.out)
        have hP := HR4.out.putBusy (w' := w7) HIL.out (fun q hq hqb hqg => hK47.block q (HR4.out.lt q hq) (by
            rintro ((h8 | h8) | h8)
            · rw [HHG.out] at hqg
              exact hqg h8
            · have := HR2.out.lt q hq
              omega
            · exact hqb h8)) hK47.size hown7 hS7 (by simp) (fun q hq => by
            rcases HO5.out with h8 | h8
            · rw [h8] at hq
              exact .inl (by rw [HHG.out]; exact hq)
            · rw [h8] at hq
              simp only [Option.some.injEq] at hq
              exact .inr (by omega))
        have hfin : Step F w p (m.upd i fun l => { l with pend := PD ++ [(wd, v)], mark := mk }) w7 := by
          have hw2 := HB2.out.size
          refine Step.close' (w1 := W4) (Kept.glue (bel_on HB2.out HB4.out) hK47 ?_) (by have := HB4.out.size; omega) hP
          rintro q hq ((h8 | h8) | h8)
          · exact (HGI.out q h8).2.2
          · omega
          · subst h8
            exact HR2.out.ownB
        rw [HPD.out, HMK.out] at hfin
        exact hfin
end Go.Proofs.YtpojhplnhppcpaaGreatDoor
