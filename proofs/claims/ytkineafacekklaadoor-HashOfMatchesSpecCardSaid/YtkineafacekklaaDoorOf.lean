/- What hash.Of does. -/
import Derived.Test.YtkineafacekklaaDoorSumF
import Derived.Test.YtkineafacekklaaDoorEnc4
import Derived.StillTailTactics
import Derived.Deep.RegionHeld3
namespace Go.Proofs.YtkineafacekklaaDoor
open Go.RowKit
def Z58 : List UInt8 := List.replicate 16 0
theorem store53 (ds : List Value) (h : ds.length = 73) (h1 : ∀ v ∈ ds, v.oneCell' = true) (w : World) (b : Nat) (hb : Arr w b 53 zst) : (storeCells ⟨b, 0, none⟩ ds).run Tryd.prog w = .ok () (w.setRow b ds.toArray) := by
  have hr := run_storeVar_row (P := Tryd.prog) w b 53 53 zst.toArray ds.toArray hb (by rw [size53]; simp [h]) (by simp [h, zst_len]) (all_oneCell_toArray h1)
  obtain ⟨i, hi, hs⟩ := Option.map_eq_some_iff.1 size53
  simpa [storeVar, sizeOf, typeInfo, hi, hs, Value.cells, h] using hr
theorem store53n (ds : List Value) (h : ds.length = 73) (h1 : ∀ v ∈ ds, v.oneCell' = true) (w : World) : (storeCells ⟨w.heap.size, 0, none⟩ ds).run Tryd.prog (w.alloc (.cells zst.toArray 53)) = .ok () (w.alloc (.cells ds.toArray 53)) := by
  rw [store53 ds h h1 _ _ (Arr.new w zst 53), World.setRow_alloc_new]
theorem tag_run (tag : Int) : ∃ X : ByteArray, X.data.toList = [tagB tag] ∧ ∀ (W0 : World) (b : Nat), W0.cell? ⟨b, 0, none⟩ = some (.int .u8 (IntKind.u8.wrap tag)) → (convert 22 9 (.slice (some ⟨b, 0, none⟩) 1 1)).run Tryd.prog W0 = .ok (.string X) W0 := by
  refine ⟨⟨#[tagB tag]⟩, rfl, fun W0 b h => ?_⟩
  have hr : RV W0 (some ⟨b, 0, none⟩) (bv [tagB tag]) := by
    intro _
    refine ⟨b, 0, rfl, fun j u hu => ?_⟩
    have hj : j = 0 := by
      have := (List.getElem?_eq_some_iff.1 hu).1
      simp [bv] at this
      omega
    subst hj
    rw [Nat.zero_add, h]
    rw [IntKind.wrap_u8', ← tagB_nat]
    exact hu
  exact conv_at hr rfl 1
theorem conv_x {tag : Int} {X : ByteArray} (h : ∀ (W0 : World) (b : Nat), W0.cell? ⟨b, 0, none⟩ = some (.int .u8 (IntKind.u8.wrap tag)) → (convert 22 9 (.slice (some ⟨b, 0, none⟩) 1 1)).run Tryd.prog W0 = .ok (.string X) W0)
    {W1 w2 : World} (hb : Below W1.heap.size W1 w2) : ∀ b, W1.cell? ⟨b, 0, none⟩ = some (.int .u8 (IntKind.u8.wrap tag)) → b < W1.heap.size →
      (convert 22 9 (.slice (some ⟨b, 0, none⟩) 1 1)).run Tryd.prog w2 = .ok (.string X) w2 ∧ ∀ o, (convert 22 9 (.slice (some ⟨b, 0, none⟩) 1 1)).run Tryd.prog (w2.alloc o) = .ok (.string X) (w2.alloc o) :=
  fun b hc hl => ⟨h w2 b ((hb.cell (p := ⟨b, 0, none⟩) hl).trans hc), fun o => h _ b (((bel_new w2 o).cell (p := ⟨b, 0, none⟩) (Nat.lt_of_lt_of_le hl hb.size)).trans ((hb.cell (p := ⟨b, 0, none⟩) hl).trans hc))⟩
def REL (w : World) (g : Nat) (wx : World) (m : List UInt8) : Prop := w.heap.size < g ∧ Arr wx g 53 (stm m) ∧ Arr wx w.heap.size 58 (bv Z58) ∧ Below w.heap.size w wx
theorem rel_new {w W w3 : World} (m : List UInt8) (h0 : w.heap.size < W.heap.size) (HO : Arr W w.heap.size 58 (bv Z58)) (HB : Below w.heap.size w W) (K : Below W.heap.size W w3) :
    REL w w3.heap.size (w3.alloc (.cells (stm m).toArray 53)) m :=
  ⟨Nat.lt_of_lt_of_le h0 K.size, Arr.new _ _ _, (HO.keep K).keep (bel_new _ _), bel_on (HB.trans (K.mono (Nat.le_of_lt h0))) (bel_new _ _)⟩
theorem rel_row {w W w3 : World} {g : Nat} (m : List UInt8) (h0 : w.heap.size < W.heap.size) (hg : W.heap.size ≤ g) (HO : Arr W w.heap.size 58 (bv Z58)) (HB : Below w.heap.size w W) (K : Below W.heap.size W w3) (HZ : Arr w3 g 53 zst) :
    REL w g (w3.setRow g (stm m).toArray) m :=
  ⟨Nat.lt_of_lt_of_le h0 hg, HZ.row _, (HO.keep K).row_other (by omega) _, bel_row (HB.trans (K.mono (Nat.le_of_lt h0))) (by omega) _⟩
theorem still_row {ops : Array Oper} {rest : List Oper} {o : Oper} {a : Act} {Q : Act → Prop} {w : World} (ty g t : Nat) (cs : List Value) (hA : Arr w g t cs) (d : TypeDesc) (hu : Tryd.prog.underlying ty = some d) (hd : d.isRow = true)
    (hi : (Tryd.prog.info? ty).map (·.size) = some cs.length) (hw : Region.wanted o (yielded ops a.tmps) = true) (x : Operand) (ho : o.op = .load ty x) (hx : a.eval x = .pointer (some ⟨g, 0, none⟩))
    (h : wpStill Tryd.prog ops w Q rest (a.put o.dst (.agg cs.toArray))) : wpStill Tryd.prog ops w Q (o :: rest) a := by
  refine wpStill_step fun K hK => ?_
  rw [if_pos hw]
  unfold Oper.still execOp
  simp only [ho, hx, Instr.loadAt, Instr.sureAddr, Sem.run_bind, Sem.run_pure, Result.andThen_ok, run_loadVar_mid w g 0 ty cs d hA.range hu hd hi]
  exact ⟨rfl, hK _ h⟩
theorem name_list {P : Program} {ops : Array Oper} {rest : List Oper} {Q : Exit → Act → World → Prop} {a : Act} {W : World} (h : ∀ W', W' = W → wpList P ops Q rest a W') : wpList P ops Q rest a W := h W rfl
theorem at58 (b : Nat) (w : World) : (Instr.arrayAt 58 (.slice (some ⟨b, 0, none⟩) 16 32)).run Tryd.prog w = .ok (.pointer (some ⟨b, 0, none⟩)) w := by
  simp [Instr.arrayAt, run_underlying Tryd.underlying58]
set_option linter.unusedSimpArgs false in
set_option maxRecDepth 100000 in
set_option maxHeartbeats 8000000 in
theorem of_any (tag : Int) (A : Option Addr) (n cap : Nat) (ss : List ByteArray) (w : World) (hn : ss.length = n) (hr : RV w A (sv ss)) (hs : ∀ s ∈ ss, s.size ≤ 400) (hl : n ≤ 12) (hT : Tab w 1) :
    Calls Tryd.prog 34 #[.int .i64 tag, .slice A n cap] w fun e w' => e = .returned (.agg (bv ((sha (input tag ss)).take 16)).toArray) ∧ Below w.heap.size w w' := by
  have HN := Lib.hid hn
  have HT := Lib.hid hT
  have HR := Lib.hid hr
  have HS := Lib.hid hs
  clear hn hT hr hs
  go_enter Tryd.func34, Tryd.ntmps34
  go_upto_region 1 with (fail)
  refine name_world ?_
  intro W hW
  have hO : Arr W w.heap.size 58 (bv Z58) := by rw [hW]; exact Arr.new _ _ _
  have hB : Below w.heap.size w W := by rw [hW]; exact bel_new _ _
  clear hW
  have HO := Lib.hid hO
  have HB := Lib.hid hB
  clear hO hB
  have hz53 := zero53
  obtain ⟨X, hX, hcv⟩ := tag_run tag
  have HX := Lib.hid hX
  have hXs : X.size = 1 := by rw [← size_toList, hX]; rfl
  have HXS := Lib.hid hXs
  clear hX hXs
  go_cut [5] (fun s5 wx => ∃ g : Nat, s5 = .pointer (some ⟨g, 0, none⟩) ∧ Hid (REL w g wx [tagB tag]))
  case first =>
    have hi53 : (Tryd.prog.info? 53).map (·.size) = some (stm [tagB tag]).length := size53' (stm_len _)
    have hl53 : (stm [tagB tag]).length = 73 := stm_len _
    have hone : ∀ u ∈ stm [tagB tag], u.oneCell' = true := stc_one _ _ _
    have HI53 := Lib.hid hi53
    have HL53 := Lib.hid hl53
    clear hi53 hl53
    have hst := store53n (stm [tagB tag]) HL53.out hone
    have hl53 := HL53.out
    have hw0 := HO.out.lt
    go_region_with
      (first
        | (go_at_call 31; go_loud (refine (begins_any _).mono ?_; rintro e w2 ⟨rfl, hb2⟩; have hcc := fun b o (h : b < _) => hb2.cell (p := ⟨b, o, none⟩) h; have hz2 := hb2.size; (with_reducible (first | have HZ2 := Lib.hid ((Arr.new _ zst 53).keep hb2) | have HZ2 := Lib.hid (((Arr.new _ zst 53).keep (bel_new _ _)).keep hb2) | have HZ2 := Lib.hid (((Arr.new _ zst 53).keep (bel_drew _)).keep hb2) | have HZ2 := Lib.hid ((((Arr.new _ zst 53).keep (bel_new _ _)).keep (bel_drew _)).keep hb2) | have HZ2 : True := trivial)); (try simp only [World.size_alloc] at HZ2); have KW2 : Hid (Below W.heap.size W w2) := (by refine Lib.hid (bel_on ?_ hb2); (repeat (with_reducible (first | assumption | exact Below.refl _ _ | (refine bel_on ?_ (bel_new _ _)) | (refine bel_on ?_ (bel_drew _)))))); have hv2 := conv_x hcv hb2; rw [← stm_nil]))
        | (go_at_call 32; go_loud (refine (adds_any [] X _ (by rw [HXS.out]; decide) (by have k2 := KW2.out; refine HT.out.keep (HB.out.trans (Below.mono ?_ HB.out.size)); (repeat (with_reducible (first | assumption | exact Below.refl _ _ | (refine bel_on ?_ (bel_new _ _)) | (refine bel_on ?_ (bel_drew _))))))).mono ?_; rintro e w3 ⟨rfl, hb3⟩; have hz3 := hb3.size; (with_reducible first | have HZ3 := Lib.hid ((Arr.new _ zst 53).keep hb3) | have HZ3 := Lib.hid (((Arr.new _ zst 53).keep (bel_new _ _)).keep hb3) | have HZ3 := Lib.hid (HZ2.out.keep hb3) | have HZ3 := Lib.hid ((HZ2.out.keep (bel_new _ _)).keep hb3) | have HZ3 : True := trivial); (try simp only [World.size_alloc] at HZ3); (first | have hst3 := store53 _ HL53.out hone _ _ HZ3.out | skip); have KW3 : Hid (Below W.heap.size W w3) := (by refine Lib.hid (bel_on ?_ hb3); (first | ((repeat (with_reducible (first | assumption | exact Below.refl _ _ | (refine bel_on ?_ (bel_new _ _)) | (refine bel_on ?_ (bel_drew _))))); done) | (have k2 := KW2.out; (repeat (with_reducible (first | assumption | exact Below.refl _ _ | (refine bel_on ?_ (bel_new _ _)) | (refine bel_on ?_ (bel_drew _)))))))); rw [HX.out, List.nil_append])))
    all_goals (go_wp2_with fail)
    all_goals go_meet
    all_goals (first
      | exact ⟨_, rfl, Lib.hid (rel_new _ hw0 HO.out HB.out KW3.out)⟩
      | (refine ⟨_, rfl, Lib.hid (rel_row _ hw0 ?_ HO.out HB.out KW3.out HZ3.out)⟩; have k2 := KW2.out.size; omega))
  case rest =>
    obtain ⟨g, rfl, HREL⟩ := hcut
    have HNN := HN.out
    go_wp2_with fail
    go_loopw [7, 17] (fun _ i wr => ∃ k : Nat, i = .int .i64 (k : Int) ∧ k ≤ n ∧ Hid (REL w g wr (tagB tag :: (ss.take k).flatMap encS))) (fun _ i _ => n - (intOf i).toNat)
    case atStart => exact ⟨0, rfl, by omega, HREL⟩
    case round =>
      clear HREL HX HXS hcv hz53
      obtain ⟨k, rfl, hk, HRL⟩ := hrel
      by_cases hlt : k < n
      · have hkl : k < ss.length := by rw [HN.out]; exact hlt
        obtain ⟨b, o, rfl, hc⟩ := HR.out.at_ (w' := wr) HRL.out.2.2.2 (k := k) (sv_at hkl)
        have hs4 := HS.out _ (List.getElem_mem hkl)
        have HTK : Hid (tagB tag :: (ss.take (k + 1)).flatMap encS = (tagB tag :: (ss.take k).flatMap encS) ++ encS ss[k]) := Lib.hid (by rw [List.take_succ_eq_append_getElem hkl, List.flatMap_append]; simp)
        have HML : Hid ((tagB tag :: (ss.take k).flatMap encS).length ≤ 5000) := Lib.hid (by
          have := flat_le (ss.take k) (fun s hs => HS.out s (List.mem_of_mem_take hs))
          rw [List.length_take] at this
          rw [List.length_cons]
          omega)
        generalize ss[k] = s at *
        generalize tagB tag :: (ss.take k).flatMap encS = m at *
        obtain ⟨hg, HA, HO2, HB2⟩ := HRL.out
        have HA := Lib.hid HA
        have HO2 := Lib.hid HO2
        have HB2 := Lib.hid HB2
        clear HRL
        go_wp2_with fail
        have hml : (stm m).length = 73 := stm_len m
        have HI53 := Lib.hid (size53' hml)
        have HEL := Lib.hid (encS_len s)
        have HE : Hid (encS s = enc s.size ++ s.data.toList) := Lib.hid rfl
        have HA3 := Lib.hid (HA.out.keep (bel_drew wr))
        have HO3 := Lib.hid (HO2.out.keep (bel_drew wr))
        have HB3 := Lib.hid (bel_on HB2.out (bel_drew wr))
        have H53 := Lib.hid (size53' (stm_len (m ++ encS s)))
        have HONE : Hid (∀ u ∈ stm (m ++ encS s), u.oneCell' = true) := Lib.hid (stc_one _ _ _)
        have HLL : Hid ((stm m).length = (stm (m ++ encS s)).length) := Lib.hid (by rw [stm_len, stm_len])
        refine wp_region_any (by kernel_rfl) ?_
        change wpAny _ _ _ _ _ _ _ wr.drew
        generalize wr.drew = w3 at *
        clear HA HO2 HB2 hml
        refine wpAny_take (i := 1) (v := .string s) rfl (by kernel_rfl) (by kernel_rfl) (by kernel_rfl) (fun _ _ _ h => h) (Or.inl ⟨by rfl, fun w => by go_simp⟩) ?_
        simp only [Act.put, List.setIfInBounds_toArray, List.set_cons_zero, List.set_cons_succ]
        refine wpAny_ready (rs := [0, 2]) (by kernel_rfl) (by simp) ?_
        refine AllReady.cons rfl (fun K hK => ?_) (AllReady.cons rfl (fun K hK => ?_) AllReady.nil)
        · rw [if_pos (by rfl)]
          refine wp_load_mid 53 (.tmp 5) rfl g 0 rfl (stm m) _ (Arr.range HA3.out) Tryd.underlying53 rfl HI53.out ?_
          refine hK _ _ ?_
          clear hK K
          change wpAny _ _ _ _ _ _ (Act.put _ (some 21) _) _
          simp only [Act.put, List.setIfInBounds_toArray, List.set_cons_zero, List.set_cons_succ]
          refine wpAny_ready (rs := [2]) (by kernel_rfl) (by simp) ?_
          refine AllReady.cons rfl (fun K hK => ?_) AllReady.nil
          go_simp
          refine (bytes_any s _ (by omega)).mono ?_
          rintro e w4 ⟨v', rfl, ho, hb4⟩
          obtain ⟨A', cap', rfl, hc1, hc2, hrv⟩ := ho.form
          rw [← HE.out] at hrv hc1 ⊢
          clear ho
          have hq := conv_str hrv cap'
          obtain ⟨X, hX⟩ : ∃ X : ByteArray, X = ⟨(encS s).toArray⟩ := ⟨_, rfl⟩
          rw [← hX] at hq
          have HXL : Hid (X.data.toList = encS s) := Lib.hid (by rw [hX])
          have HXS : Hid (X.size ≤ 410) := Lib.hid (by have := HEL.out; rw [← HXL.out, size_toList] at this; omega)
          clear hrv hX hc1 hc2
          generalize (encS s).length = q at *
          have HA4 := Lib.hid (HA3.out.keep hb4)
          have HO4 := Lib.hid (HO3.out.keep hb4)
          have HB4 := Lib.hid (bel_on HB3.out hb4)
          clear HA3 HO3 HB3 hb4
          refine hK _ _ ?_
          clear hK K
          refine wpAny_ready (rs := [3]) (by kernel_rfl) (by simp) ?_
          refine AllReady.cons rfl (fun K hK => ?_) AllReady.nil
          go_simp
          refine hK _ _ ?_
          clear hK K
          refine wpAny_ready (rs := [4]) (by kernel_rfl) (by simp) ?_
          refine AllReady.cons rfl (fun K hK => ?_) AllReady.nil
          go_simp
          refine (adds_any m X _ (by have := HML.out; have := HXS.out; omega) (HT.out.keep HB4.out)).mono ?_
          rintro e w5 ⟨rfl, hb5⟩
          have HA5 := Lib.hid (HA4.out.keep hb5)
          have HO5 := Lib.hid (HO4.out.keep hb5)
          have HB5 := Lib.hid (bel_on HB4.out hb5)
          rw [HXL.out]
          clear HA4 HO4 HB4 hb5 hq
          refine hK _ _ ?_
          clear hK K
          refine wpAny_ready (rs := [5]) (by kernel_rfl) (by simp) ?_
          refine AllReady.cons rfl (fun K hK => ?_) AllReady.nil
          rw [if_pos (by rfl)]
          refine wp_store_mid 53 (.tmp 5) (.tmp 25) rfl g 0 (stm (m ++ encS s)).toArray rfl rfl (there_of HA5.out ?_) ?_ (all_oneCell_toArray HONE.out) ?_
          · rw [List.size_toArray, ← HLL.out]
          · rw [List.size_toArray]; exact HI53.out.trans (by rw [HLL.out])
          refine hK _ _ ?_
          clear hK K
          change wpAny _ _ _ _ _ _ (Act.put _ none _) _
          simp only [Act.put]
          refine wpAny_done (by kernel_rfl) ?_ _
          have hA6 := arr_over HA5.out HLL.out
          have hO6 : Arr (w5.setCells g 0 (stm (m ++ encS s))) w.heap.size 58 (bv Z58) := (heap_setCells g (stm (m ++ encS s)) 0 w5 _ (by omega)).trans HO5.out
          have hB6 := bel_setCells (B := w.heap.size) (b := g) (by omega) (stm (m ++ encS s)) 0 w5 HB5.out
          rw [← HTK.out] at hA6 hO6 hB6 ⊢
          generalize hm2 : tagB tag :: (ss.take (k + 1)).flatMap encS = m2 at *
          have HM2 := Lib.hid hm2
          clear hm2
          change Exit.inBlock _ _ _ _ (w5.setCells g 0 (stm m2))
          generalize w5.setCells g 0 (stm m2) = w6 at *
          clear HA5 HO5 HB5 HONE HLL
          go_wp2_with fail
          go_roundw
          case rel => exact ⟨k + 1, by go_num, by omega, Lib.hid (by rw [HM2.out]; exact ⟨hg, hA6, hO6, hB6⟩)⟩
          case measure => simp [intOf]; omega
        · go_simp
          refine (bytes_any s _ (by omega)).mono ?_
          rintro e w4 ⟨v', rfl, ho, hb4⟩
          obtain ⟨A', cap', rfl, hc1, hc2, hrv⟩ := ho.form
          rw [← HE.out] at hrv hc1 ⊢
          clear ho
          have hq := conv_str hrv cap'
          obtain ⟨X, hX⟩ : ∃ X : ByteArray, X = ⟨(encS s).toArray⟩ := ⟨_, rfl⟩
          rw [← hX] at hq
          have HXL : Hid (X.data.toList = encS s) := Lib.hid (by rw [hX])
          have HXS : Hid (X.size ≤ 410) := Lib.hid (by have := HEL.out; rw [← HXL.out, size_toList] at this; omega)
          clear hrv hX hc1 hc2
          generalize (encS s).length = q at *
          have HA4 := Lib.hid (HA3.out.keep hb4)
          have HO4 := Lib.hid (HO3.out.keep hb4)
          have HB4 := Lib.hid (bel_on HB3.out hb4)
          clear HA3 HO3 HB3 hb4
          refine hK _ _ ?_
          clear hK K
          refine wpAny_ready (rs := [0, 3]) (by kernel_rfl) (by simp) ?_
          refine AllReady.cons rfl (fun K hK => ?_) (AllReady.cons rfl (fun K hK => ?_) AllReady.nil)
          · rw [if_pos (by rfl)]
            refine wp_load_mid 53 (.tmp 5) rfl g 0 rfl (stm m) _ (Arr.range HA4.out) Tryd.underlying53 rfl HI53.out ?_
            refine hK _ _ ?_
            clear hK K
            change wpAny _ _ _ _ _ _ (Act.put _ (some 21) _) _
            simp only [Act.put, List.setIfInBounds_toArray, List.set_cons_zero, List.set_cons_succ]
            refine wpAny_ready (rs := [3]) (by kernel_rfl) (by simp) ?_
            refine AllReady.cons rfl (fun K hK => ?_) AllReady.nil
            go_simp
            refine hK _ _ ?_
            clear hK K
            refine wpAny_ready (rs := [4]) (by kernel_rfl) (by simp) ?_
            refine AllReady.cons rfl (fun K hK => ?_) AllReady.nil
            go_simp
            refine (adds_any m X _ (by have := HML.out; have := HXS.out; omega) (HT.out.keep HB4.out)).mono ?_
            rintro e w5 ⟨rfl, hb5⟩
            have HA5 := Lib.hid (HA4.out.keep hb5)
            have HO5 := Lib.hid (HO4.out.keep hb5)
            have HB5 := Lib.hid (bel_on HB4.out hb5)
            rw [HXL.out]
            clear HA4 HO4 HB4 hb5 hq
            refine hK _ _ ?_
            clear hK K
            refine wpAny_ready (rs := [5]) (by kernel_rfl) (by simp) ?_
            refine AllReady.cons rfl (fun K hK => ?_) AllReady.nil
            rw [if_pos (by rfl)]
            refine wp_store_mid 53 (.tmp 5) (.tmp 25) rfl g 0 (stm (m ++ encS s)).toArray rfl rfl (there_of HA5.out ?_) ?_ (all_oneCell_toArray HONE.out) ?_
            · rw [List.size_toArray, ← HLL.out]
            · rw [List.size_toArray]; exact HI53.out.trans (by rw [HLL.out])
            refine hK _ _ ?_
            clear hK K
            change wpAny _ _ _ _ _ _ (Act.put _ none _) _
            simp only [Act.put]
            refine wpAny_done (by kernel_rfl) ?_ _
            have hA6 := arr_over HA5.out HLL.out
            have hO6 : Arr (w5.setCells g 0 (stm (m ++ encS s))) w.heap.size 58 (bv Z58) := (heap_setCells g (stm (m ++ encS s)) 0 w5 _ (by omega)).trans HO5.out
            have hB6 := bel_setCells (B := w.heap.size) (b := g) (by omega) (stm (m ++ encS s)) 0 w5 HB5.out
            rw [← HTK.out] at hA6 hO6 hB6 ⊢
            generalize hm2 : tagB tag :: (ss.take (k + 1)).flatMap encS = m2 at *
            have HM2 := Lib.hid hm2
            clear hm2
            change Exit.inBlock _ _ _ _ (w5.setCells g 0 (stm m2))
            generalize w5.setCells g 0 (stm m2) = w6 at *
            clear HA5 HO5 HB5 HONE HLL
            go_wp2_with fail
            go_roundw
            case rel => exact ⟨k + 1, by go_num, by omega, Lib.hid (by rw [HM2.out]; exact ⟨hg, hA6, hO6, hB6⟩)⟩
            case measure => simp [intOf]; omega
          · go_simp
            refine hK _ _ ?_
            clear hK K
            refine wpAny_ready (rs := [0]) (by kernel_rfl) (by simp) ?_
            refine AllReady.cons rfl (fun K hK => ?_) AllReady.nil
            rw [if_pos (by rfl)]
            refine wp_load_mid 53 (.tmp 5) rfl g 0 rfl (stm m) _ (Arr.range HA4.out) Tryd.underlying53 rfl HI53.out ?_
            refine hK _ _ ?_
            clear hK K
            change wpAny _ _ _ _ _ _ (Act.put _ (some 21) _) _
            simp only [Act.put, List.setIfInBounds_toArray, List.set_cons_zero, List.set_cons_succ]
            refine wpAny_ready (rs := [4]) (by kernel_rfl) (by simp) ?_
            refine AllReady.cons rfl (fun K hK => ?_) AllReady.nil
            go_simp
            refine (adds_any m X _ (by have := HML.out; have := HXS.out; omega) (HT.out.keep HB4.out)).mono ?_
            rintro e w5 ⟨rfl, hb5⟩
            have HA5 := Lib.hid (HA4.out.keep hb5)
            have HO5 := Lib.hid (HO4.out.keep hb5)
            have HB5 := Lib.hid (bel_on HB4.out hb5)
            rw [HXL.out]
            clear HA4 HO4 HB4 hb5 hq
            refine hK _ _ ?_
            clear hK K
            refine wpAny_ready (rs := [5]) (by kernel_rfl) (by simp) ?_
            refine AllReady.cons rfl (fun K hK => ?_) AllReady.nil
            rw [if_pos (by rfl)]
            refine wp_store_mid 53 (.tmp 5) (.tmp 25) rfl g 0 (stm (m ++ encS s)).toArray rfl rfl (there_of HA5.out ?_) ?_ (all_oneCell_toArray HONE.out) ?_
            · rw [List.size_toArray, ← HLL.out]
            · rw [List.size_toArray]; exact HI53.out.trans (by rw [HLL.out])
            refine hK _ _ ?_
            clear hK K
            change wpAny _ _ _ _ _ _ (Act.put _ none _) _
            simp only [Act.put]
            refine wpAny_done (by kernel_rfl) ?_ _
            have hA6 := arr_over HA5.out HLL.out
            have hO6 : Arr (w5.setCells g 0 (stm (m ++ encS s))) w.heap.size 58 (bv Z58) := (heap_setCells g (stm (m ++ encS s)) 0 w5 _ (by omega)).trans HO5.out
            have hB6 := bel_setCells (B := w.heap.size) (b := g) (by omega) (stm (m ++ encS s)) 0 w5 HB5.out
            rw [← HTK.out] at hA6 hO6 hB6 ⊢
            generalize hm2 : tagB tag :: (ss.take (k + 1)).flatMap encS = m2 at *
            have HM2 := Lib.hid hm2
            clear hm2
            change Exit.inBlock _ _ _ _ (w5.setCells g 0 (stm m2))
            generalize w5.setCells g 0 (stm m2) = w6 at *
            clear HA5 HO5 HB5 HONE HLL
            go_wp2_with fail
            go_roundw
            case rel => exact ⟨k + 1, by go_num, by omega, Lib.hid (by rw [HM2.out]; exact ⟨hg, hA6, hO6, hB6⟩)⟩
            case measure => simp [intOf]; omega
      · obtain rfl : k = n := by omega
        have HM : Hid (tagB tag :: (ss.take k).flatMap encS = input tag ss) := Lib.hid (by rw [List.take_of_length_le (by rw [HN.out]; exact Nat.le_refl _)]; rfl)
        rw [HM.out] at HRL
        have HML : Hid ((input tag ss).length ≤ 5000) := Lib.hid (by
          have := flat_le ss HS.out
          have := HN.out
          unfold input
          rw [List.length_cons]
          omega)
        generalize hIN : input tag ss = m at *
        have HIN := Lib.hid hIN
        clear hIN
        obtain ⟨hg, HA, HO2, HB2⟩ := HRL.out
        have HA := Lib.hid HA
        have HO2 := Lib.hid HO2
        have HB2 := Lib.hid HB2
        have hml : (stm m).length = 73 := stm_len m
        have HI53 := Lib.hid (size53' hml)
        clear HRL
        go_wp2_with ((with_reducible refine arm_row 53 g 53 (stm m) HA.out _ Tryd.underlying53 rfl HI53.out rfl _ rfl ?_ ?_); focus rfl)
        refine (summ_any m _ (by have := HML.out; omega) (HT.out.keep HB2.out)).mono ?_
        rintro e w4 ⟨rfl, hb4⟩
        have hsl := sha_len m
        have HO4 := Lib.hid (HO2.out.keep hb4)
        have HB4 := Lib.hid (bel_on HB2.out hb4)
        have HSI := Lib.hid (size47' hsl)
        have HSL : Hid ((bv (sha m)).length = 32) := Lib.hid (by rw [bv_len, hsl])
        have HON := Lib.hid (bv_one (sha m))
        have HTL : Hid ((bv ((sha m).take 16)).length = 16) := Lib.hid (by rw [bv_len, List.length_take, hsl]; rfl)
        have HTI : Hid ((Tryd.prog.info? 58).map (·.size) = some (bv ((sha m).take 16)).length) := Lib.hid (by rw [size58, HTL.out])
        have HTO := Lib.hid (bv_one ((sha m).take 16))
        have HEQ : Hid (bv (sha m) = [] ++ (bv ((sha m).take 16) ++ bv ((sha m).drop 16))) := Lib.hid (by rw [List.nil_append, ← bv_append, List.take_append_drop])
        have HZL : Hid ((bv Z58).length = (bv ((sha m).take 16)).length) := Lib.hid (by rw [HTL.out, bv_len]; rfl)
        clear hsl HO2 HB2 hb4 HA HI53 hml HML
        have H47 := Lib.hid size47
        generalize hS : bv (sha m) = S at *
        generalize hT16 : bv ((sha m).take 16) = T at *
        have HT16 := Lib.hid hT16
        clear hS hT16
        have ha58 := at58 w4.heap.size
        go_wp2_with (first
          | ((with_reducible refine arm_new 47 S 32 HSL.out H47.out HON.out _ ?_ rfl _ _ rfl ?_ ?_ ?_); (focus rfl); (focus rfl); (focus rfl); (refine name_list ?_; intro W5 hW5; have hA5 : Arr W5 w4.heap.size 47 S := (by rw [hW5]; exact Arr.new _ _ _); have HO5 := Lib.hid (show Arr W5 w.heap.size 58 (bv Z58) by rw [hW5]; exact HO4.out.keep (bel_new _ _)); have HB5 := Lib.hid (show Below w.heap.size w W5 by rw [hW5]; exact bel_on HB4.out (bel_new _ _)); rw [HEQ.out] at hA5; have HA5 : Hid (W5.rangeAt w4.heap.size 0 T) := Lib.hid hA5.mid; clear hW5 hA5))
          | ((with_reducible refine arm_mid 58 w4.heap.size 0 T HA5.out _ Tryd.underlying58 rfl HTI.out rfl _ rfl ?_ ?_); focus rfl)
          | ((with_reducible refine arm_put 58 w.heap.size 58 (bv Z58) T HO5.out HTI.out HZL.out HTO.out rfl _ _ rfl ?_ ?_ ?_); (focus rfl); (focus rfl)))
        exact bodyPost_ret (v := .agg T.toArray) (ret_row Tryd.results34 _ _ w.heap.size 58 _ (HO5.out.row _) rfl _ Tryd.underlying58 rfl HTI.out) rfl ⟨by rw [HIN.out, HT16.out], bel_row HB5.out (Nat.le_refl _) _⟩
end Go.Proofs.YtkineafacekklaaDoor
