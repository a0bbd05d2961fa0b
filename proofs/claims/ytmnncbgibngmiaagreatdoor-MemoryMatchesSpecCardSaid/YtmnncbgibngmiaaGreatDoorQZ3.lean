/-
  What the reference's Shows does.
-/
import Derived.Test.YtmnncbgibngmiaaGreatDoorQZ1
import Derived.StillTailTactics
namespace Go.Proofs.YtmnncbgibngmiaaGreatDoor
open Go.RowKit Go.Maps
theorem size51 : (Tryz.prog.info? 51).map (·.size) = some 11 := by kernel_rfl
theorem lnR_one {x : PL × Value} (h : x.2.oneCell' = true) : ∀ v ∈ lnR x, v.oneCell' = true := fun v hv => by
  unfold lnR at hv
  rcases List.mem_append.1 hv with h1 | h1
  · exact iv_one _ v h1
  · simp only [List.mem_cons, List.not_mem_nil, or_false] at h1
    rcases h1 with rfl | rfl
    · exact h
    · rfl
theorem Sl.one {w : World} {e sz n : Nat} {v : Value} {xs : List Value} (h : Sl w e sz v n xs) : v.oneCell' = true := by
  obtain ⟨A, cap, rfl, _⟩ := h.shape
  rfl
theorem lnR_ws {w : World} {b o : Nat} {x : PL × Value} (h8 : x.1.ws.length = 8) (h : w.rangeAt b o (lnR x)) : w.rangeAt b o (iv x.1.ws) ∧ w.cell? ⟨b, o + 8, none⟩ = some (.int .i64 x.1.code) ∧ w.cell? ⟨b, o + 9, none⟩ = some x.2 ∧ w.cell? ⟨b, o + 10, none⟩ = some (.int .i64 (x.1.mark : Int)) := by
  have hlen : (iv (x.1.ws ++ [x.1.code])).length = 9 := by rw [iv_len, List.length_append, h8]; rfl
  refine ⟨fun j u hj => h j u ?_, h 8 _ ?_, h 9 _ ?_, h 10 _ ?_⟩
  · have hj8 : j < 8 := by
      have := (List.getElem?_eq_some_iff.1 hj).1
      rw [iv_len, h8] at this
      exact this
    unfold lnR
    rw [List.getElem?_append_left (by rw [hlen]; omega)]
    unfold iv at hj ⊢
    rw [List.map_append, List.getElem?_append_left (by rw [List.length_map, h8]; exact hj8)]
    exact hj
  · unfold lnR
    rw [List.getElem?_append_left (by rw [hlen]; omega)]
    unfold iv
    rw [List.map_append, List.getElem?_append_right (by rw [List.length_map, h8]; omega), List.length_map, h8]
    rfl
  · unfold lnR
    rw [List.getElem?_append_right (by rw [hlen]; omega), hlen]
    rfl
  · unfold lnR
    rw [List.getElem?_append_right (by rw [hlen]; omega), hlen]
    rfl
set_option maxRecDepth 100000 in
set_option maxHeartbeats 8000000 in
set_option linter.unusedSimpArgs false in
theorem rShows_any (p i : Nat) (m : PM) (F : Nat → Prop) (w : World) (hi : i < m.L.length) (hm : m.Ok) (h : Ref w p m F) :
    Calls Tryz.prog 65 #[.pointer (some ⟨p, 0, none⟩), .int .i64 (i : Int)] w fun e w' => e = .returned (.agg (iv (m.line i).shows).toArray) ∧ Below w.heap.size w w' := by
  obtain ⟨d, o, cap, ev, X, h⟩ := h
  have hlo := hm.line hi
  have c0 := h.c0
  obtain ⟨v, _, hr, _, _, _, _, hsl⟩ := h.at hm hi
  have hcp := h.cap_
  have h8 := hlo.len
  have r0 := fun ob => range_below (bel_new w ob) hr
  have c0A := fun ob => cell_below (bel_new w ob) c0
  have HL11 := Lib.hid (lnR_len (x := (m.line i, v)) h8)
  have hi51 : (Tryz.prog.info? 51).map (·.size) = some (lnR (m.line i, v)).length := by rw [size51, HL11.out]
  have HO11 := Lib.hid (lnR_one (x := (m.line i, v)) hsl.one)
  have hu51 := Tryz.underlying51
  have HF := Lib.hid fun w => rFix_any (m.line i).ws (m.line i).code w h8
  unfold fr at HF
  have hfw := hlo.fixW.1
  have hps := hlo.pend
  have HSL := Lib.hid hsl
  have HSH : Hid ((m.line i).shows = applyS (fixZ (m.line i).ws (m.line i).code).1 ((m.line i).pend.take (m.line i).pend.length)) := Lib.hid rfl
  have herr : (fixZ (m.line i).ws (m.line i).code).2.2 = 0 ∨ (fixZ (m.line i).ws (m.line i).code).2.2 ≠ 0 ∧ (m.line i).shows = Z8 := by
    rcases hlo.err with h1 | ⟨h1, h2, h3⟩
    · exact .inl h1.1
    · refine .inr ⟨by have : (m.line i).err = 9 := h1; unfold PL.err at this; omega, ?_⟩
      have h4 := hlo.rot h2
      show applyS (m.line i).fixW ((m.line i).pend.take (m.line i).pend.length) = Z8
      rw [h4, h3]
      rfl
  have HSZ := Lib.hid (lnR_ws (w := w) (b := d) (o := o + i * 11) (x := (m.line i, v)) h8 hr)
  have HWS := Lib.hid fun (W : World) (b : Nat) (hx : W.rangeAt b 0 (lnR (m.line i, v))) => lnR_ws (x := (m.line i, v)) h8 hx
  unfold PL.fixW at hfw
  have hi22 := size22' h8
  generalize (m.line i).shows = SH at *
  generalize lnR (m.line i, v) = LN at *
  simp only at HWS
  generalize (m.line i).ws = ws at *
  generalize (m.line i).code = c at *
  generalize (m.line i).pend = ss at *
  generalize (m.line i).mark = mk at *
  generalize m.L.length = N at *
  obtain ⟨⟨fw, fc, fe⟩, hfz⟩ : ∃ r, fixZ ws c = r := ⟨_, rfl⟩
  rw [hfz] at HF hfw HSH herr
  simp only at HF hfw HSH herr
  have HFW := Lib.hid hfw
  have HI8 := Lib.hid (size22' hfw)
  have HO8 := Lib.hid (iv_one fw)
  have HN8 : Hid ((iv fw).length = 8) := Lib.hid (by rw [iv_len, hfw])
  have HP := Lib.hid hps
  have hiI : (i : Int) < (N : Int) := by omega
  have H22 := Lib.hid Tryz.underlying39
  have H22s := Lib.hid size22
  have HS51 := Lib.hid size51
  have HZ22 := Lib.hid (size22' (l := Z8) rfl)
  have HOZ := Lib.hid (iv_one Z8)
  clear h hr hlo hm hfz hfw hps hsl HSZ
  go_enter Tryz.func65, Tryz.ntmps65
  go_wp2_with (first
    | ((with_reducible refine arm_range 51 d (o + i * 11) LN (r0 _) _ hu51 rfl hi51 rfl _ rfl ?_ ?_); (focus rfl); (refine nm_l ?_; intro W0 hW0; have HB0 : Hid (Below w.heap.size w W0) := Lib.hid (by rw [hW0]; exact bel_new _ _); have HZ0 : Hid (Arr W0 w.heap.size 39 (iv Z8)) := Lib.hid (by rw [hW0]; exact Arr.new w (iv Z8) _); clear hW0))
    | ((with_reducible refine arm_new 51 LN 11 HL11.out HS51.out HO11.out _ ?_ rfl _ _ rfl ?_ ?_ ?_); (focus rfl); (focus rfl); (focus rfl); (refine nm_l ?_; intro w1 hw1; have HX1 : Hid (Arr w1 W0.heap.size 51 LN) := Lib.hid (by rw [hw1]; exact Arr.new _ _ _); have HZ1 : Hid (Arr w1 w.heap.size 39 (iv Z8)) := Lib.hid (by rw [hw1]; exact HZ0.out.keep (bel_new _ _)); have HB1 : Hid (Below w.heap.size w w1) := Lib.hid (by rw [hw1]; exact bel_on HB0.out (bel_new _ _)); have hbz : w.heap.size < W0.heap.size := HZ0.out.lt; obtain ⟨a1, a2, a3, a4⟩ := HWS.out w1 W0.heap.size HX1.out.range; clear hw1; clear HB0 HZ0; generalize W0.heap.size = bx at *))
    | ((with_reducible refine arm_range 39 bx 0 (iv ws) a1 _ H22.out rfl hi22 rfl _ rfl ?_ ?_); focus rfl))
  refine (HF.out _).mono ?_
  rintro e w2 ⟨rfl, hb⟩
  have HZ2 := Lib.hid (HZ1.out.keep hb)
  have HX2 := Lib.hid (HX1.out.keep hb)
  have HB2 := Lib.hid (bel_on HB1.out hb)
  clear hb HZ1 HX1 HB1 a1 a2 a3 a4 r0 c0A
  by_cases hfe : fe = 0
  · subst hfe
    go_wp2_with ((with_reducible refine arm_new 39 (iv fw) 8 HN8.out H22s.out HO8.out _ ?_ rfl _ _ rfl ?_ ?_ ?_); (focus rfl); (focus rfl); (focus rfl); (refine nm_l ?_; intro w3 hw3; have HW3 : Hid (Arr w3 w2.heap.size 39 (iv (applyS fw (ss.take 0)))) := Lib.hid (by rw [hw3]; exact Arr.new _ _ _); have HZ3 : Hid (Arr w3 w.heap.size 39 (iv Z8)) := Lib.hid (by rw [hw3]; exact HZ2.out.keep (bel_new _ _)); have HX3 : Hid (Arr w3 bx 51 LN) := Lib.hid (by rw [hw3]; exact HX2.out.keep (bel_new _ _)); have HB3 : Hid (Below w.heap.size w w3) := Lib.hid (by rw [hw3]; exact bel_on HB2.out (bel_new _ _)); have hbx : bx < w2.heap.size := HX2.out.lt; clear hw3; clear HZ2 HX2; generalize w2.heap.size = bw at *))
    obtain ⟨A, gcap, rfl, hgc1, hgc2, _⟩ := HSL.out.shape
    obtain ⟨n, hn⟩ : ∃ n, ss.length = n := ⟨_, rfl⟩
    have HNN := Lib.hid hn
    have HRD := Lib.hid (Rd.of_sl HSL.out)
    rw [hn] at hgc1 HRD HWS HSH
    have hnm : n ≤ 9223372036854775807 := by unfold maxLen at hgc2; omega
    clear hn HSL HB2
    go_loopw [9] (fun u wr => ∃ k : Nat, u = .int .i64 (k : Int) ∧ k ≤ n ∧ Hid (Arr wr bw 39 (iv (applyS fw (ss.take k)))) ∧ Hid (Arr wr w.heap.size 39 (iv Z8)) ∧ Hid (Arr wr bx 51 LN) ∧ Hid (Below w.heap.size w wr)) (fun u _ => n - (intOf u).toNat)
    case atStart => exact ⟨0, rfl, by omega, HW3, HZ3, HX3, HB3⟩
    case round =>
      clear HW3 HZ3 HX3 HB3
      obtain ⟨k, rfl, hk, HW, HZ, HX, HB⟩ := hrel
      obtain ⟨_, _, a3, _⟩ := HWS.out wr bx HX.out.range
      rw [Nat.zero_add] at a3
      have hXl : (applyS fw (ss.take k)).length = 8 := by rw [applyS_len]; exact HFW.out
      by_cases hlt : k < n
      · have hks : k < ss.length := by rw [HNN.out]; exact hlt
        obtain ⟨_, _, hv9, _, _, hrr⟩ := HRD.out.below HB.out
        simp only [Value.slice.injEq, true_and] at hv9
        obtain ⟨rfl, rfl⟩ := hv9
        obtain ⟨gp, op, rfl, hgp, hsw⟩ := hrr (by omega)
        obtain ⟨d0, d1⟩ := rd_get hks hsw
        obtain ⟨s0, s8, _⟩ := HP.out _ (List.getElem_mem hks)
        have hnext : applyS fw (ss.take (k + 1)) = (applyS fw (ss.take k)).set ss[k].1.toNat ss[k].2 := by
          rw [take_snoc' ss k hks, applyS_snoc]
          rfl
        obtain ⟨a, ha⟩ : ∃ a : Nat, ss[k].1 = a := ⟨ss[k].1.toNat, by omega⟩
        rw [ha] at d0 s8 hnext
        rw [Int.toNat_natCast] at hnext
        generalize ss[k].2 = val at *
        have hfv := HW.out.free a
        have hcv := HW.out.cell (iv_at (l := applyS fw (ss.take k)) (k := a) (by omega))
        have HW2 : Hid (Arr (wr.drew.setCell ⟨bw, a, none⟩ (.int .i64 val)) bw 39 (iv (applyS fw (ss.take (k + 1))))) := Lib.hid (by
          rw [hnext, ← iv_set]
          exact (HW.out.keep (bel_drew wr)).set a _)
        have HZ2 : Hid (Arr (wr.drew.setCell ⟨bw, a, none⟩ (.int .i64 val)) w.heap.size 39 (iv Z8)) := Lib.hid ((HZ.out.keep (bel_drew wr)).other (by show w.heap.size ≠ bw; omega) _)
        have HX2 : Hid (Arr (wr.drew.setCell ⟨bw, a, none⟩ (.int .i64 val)) bx 51 LN) := Lib.hid ((HX.out.keep (bel_drew wr)).other (by show bx ≠ bw; omega) _)
        have HB2 : Hid (Below w.heap.size w (wr.drew.setCell ⟨bw, a, none⟩ (.int .i64 val))) := Lib.hid ((bel_on HB.out (bel_drew wr)).setCell (by show w.heap.size ≤ bw; omega) _)
        generalize (applyS fw (ss.take k)).getD a 0 = old at *
        have hknI : (k : Int) < (n : Int) := by omega
        have ha8 : (a : Int) < 8 := by omega
        clear hnext s0 ha hks hsw hrr hXl HW HZ HX HB
        go_wp2_with fail
        go_still_tail 13, (by kernel_rfl)
        change wpList _ _ _ _ _ wr.drew
        go_wp2_with fail
        go_roundw
        case rel => exact ⟨k + 1, by simp, by omega, HW2, HZ2, HX2, HB2⟩
        case measure => simp [intOf]; omega
      · obtain rfl : k = n := by omega
        have hsh : applyS fw (ss.take k) = SH := HSH.out.symm
        rw [hsh] at HW hXl
        have HL : Hid ((iv Z8).length = (iv SH).length) := Lib.hid (by rw [iv_len, iv_len, hXl]; rfl)
        have HI2 := Lib.hid (size22' (l := SH) hXl)
        have HOA := Lib.hid (iv_one SH)
        clear hXl hsh
        go_wp2_with (first
          | ((with_reducible refine arm_row 39 bw 39 _ HW.out _ H22.out rfl HI2.out rfl _ rfl ?_ ?_); focus rfl)
          | ((with_reducible refine arm_put 39 w.heap.size 39 _ _ HZ.out HI2.out HL.out HOA.out rfl _ _ rfl ?_ ?_ ?_); (focus rfl); (focus rfl)))
        refine bodyPost_ret (v := .agg (iv SH).toArray) (ret_row Tryz.results65 _ _ w.heap.size 39 (iv SH) (HZ.out.row _) rfl _ H22.out rfl HI2.out) rfl ?_
        exact ⟨rfl, bel_row HB.out (Nat.le_refl _) _⟩
  · have hSH : SH = Z8 := by
      rcases herr with h1 | h1
      · exact absurd h1 hfe
      · exact h1.2
    subst hSH
    clear herr HSH
    have hfeI : (fe == 0) = false := by simp; exact hfe
    go_wp2_with (first
      | ((with_reducible refine arm_new 39 (iv fw) 8 HN8.out H22s.out HO8.out _ ?_ rfl _ _ rfl ?_ ?_ ?_); (focus rfl); (focus rfl); (focus rfl); (refine nm_l ?_; intro w3 hw3; have HZ3 : Hid (Arr w3 w.heap.size 39 (iv Z8)) := Lib.hid (by rw [hw3]; exact HZ2.out.keep (bel_new _ _)); have HB3 : Hid (Below w.heap.size w w3) := Lib.hid (by rw [hw3]; exact bel_on HB2.out (bel_new _ _)); clear hw3; clear HZ2 HX2; generalize w2.heap.size = bw at *))
      | ((with_reducible refine arm_put 39 w.heap.size 39 _ _ HZ3.out HZ22.out rfl HOZ.out rfl _ _ rfl ?_ ?_ ?_); (focus rfl); (focus rfl)))
    refine bodyPost_ret (v := .agg (iv Z8).toArray) (ret_row Tryz.results65 _ _ w.heap.size 39 (iv Z8) (HZ3.out.row _) rfl _ H22.out rfl HZ22.out) rfl ?_
    exact ⟨rfl, bel_row HB3.out (Nat.le_refl _) _⟩
end Go.Proofs.YtmnncbgibngmiaaGreatDoor
