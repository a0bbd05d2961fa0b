/-
  What the reference's settle does. What the reference's Evict and Fence do.
-/
import Derived.Test.YtpojhplnhppcpaaGreatDoorQZ2
import Derived.Test.YtpojhplnhppcpaaGreatDoorQM5
namespace Go.Proofs.YtpojhplnhppcpaaGreatDoor
open Go.RowKit Go.Maps
theorem built_lnR {l : PL} (h8 : l.ws.length = 8) (A : Option Addr) (n c : Nat) (w : World) : (Instr.build 130 #[(0, .agg (iv l.ws).toArray), (1, .int .i64 l.code), (2, .slice A n c), (3, .int .i64 (l.mark : Int))]).run Tryz.prog w = .ok (.agg (lnR (l, .slice A n c)).toArray) w := by
  obtain ⟨ws, code, ps, mk⟩ := l
  obtain ⟨a0, a1, a2, a3, a4, a5, a6, a7, rfl⟩ := line8 h8
  kernel_rfl
theorem slice_from' (d o n len cap : Nat) (h : n ≤ len) (hc : len ≤ cap) : ∃ A', (n < len → A' = some ⟨d, o + n * 2, none⟩) ∧ ∀ w, (Instr.slice 44 (.slice (some ⟨d, o, none⟩) len cap) (some (.int .i64 (n : Int))) none none).run Tryz.prog w = .ok (.slice A' (len - n) (cap - n)) w := by
  by_cases hn : n < len
  · exact ⟨_, fun _ => rfl, fun w => slice_from d o n len cap hn hc w⟩
  · obtain rfl : n = len := by omega
    obtain ⟨i0, hi, hz0, hz1, hz2⟩ := info_parts infoStore
    by_cases h3 : cap = n
    · refine ⟨some ⟨d, o, none⟩, fun h => absurd h hn, fun w => ?_⟩
      simp [Instr.slice, run_underlying Tryz.underlying44, Instr.sliceBounds, Instr.sliceBound, asIntOf, sizeOf, typeInfo, hi, h3, Addr.add]
    · refine ⟨some ⟨d, o + n * 2, none⟩, fun h => absurd h hn, fun w => ?_⟩
      simp [Instr.slice, run_underlying Tryz.underlying44, Instr.sliceBounds, Instr.sliceBound, asIntOf, sizeOf, typeInfo, hi, hz1, h3, Addr.add]
set_option maxRecDepth 100000 in
set_option maxHeartbeats 8000000 in
set_option linter.unusedSimpArgs false in
theorem rSettle_any (p i n : Nat) (m : PM) (F : Nat → Prop) (w : World) (hi : i < m.L.length) (hn : n ≤ (m.line i).pend.length) (hm : m.Ok) (hs : m.Small 1000) (h : Ref w p m F) :
    Calls Tryz.prog 105 #[.pointer (some ⟨p, 0, none⟩), .int .i64 (i : Int), .int .i64 (n : Int)] w fun e w' => e = .returned (.tuple #[]) ∧ RStep F w p (m.upd i (·.settle n)) w' := by
  by_cases hn0 : n = 0
  · subst hn0
    have hid : m.upd i (·.settle 0) = m := PM.upd_id hi (by unfold PL.settle; rw [if_pos rfl])
    rw [hid]
    have HS := Lib.hid (RStep.refl h)
    clear hid hs hm h hn
    go_enter Tryz.func105, Tryz.ntmps105
    go_wp2_with fail
    refine bodyPost_ret (results_none rfl _ _ _) rfl ?_
    exact ⟨rfl, HS.out⟩
  obtain ⟨d, o, cap, ev, X, h⟩ := h
  have hlo := hm.line hi
  have c0 := h.c0
  obtain ⟨v, hXi, hr, _, _, _, _, hsl⟩ := h.at hm hi
  have hcp := h.cap_
  have h8 := hlo.len
  have r0 := fun ob => range_below (bel_new w ob) hr
  have HL11 := Lib.hid (lnR_len (x := (m.line i, v)) h8)
  have hi51 : (Tryz.prog.info? 130).map (·.size) = some (lnR (m.line i, v)).length := by rw [size51, HL11.out]
  have HO11 := Lib.hid (lnR_one (x := (m.line i, v)) hsl.one)
  have hu51 := Tryz.underlying130
  have HF := Lib.hid fun w => rFix_any (m.line i).ws (m.line i).code w h8
  unfold fr at HF
  have hfw := hlo.fixW.1
  have hps := hlo.pend
  have hpl80 := hs.pend _ (PM.line_mem hi)
  have HSL := Lib.hid hsl
  have hset : (m.line i).settle n = ⟨applyS (fixZ (m.line i).ws (m.line i).code).1 ((m.line i).pend.take n), encZ (applyS (fixZ (m.line i).ws (m.line i).code).1 ((m.line i).pend.take n)), (m.line i).pend.drop n, (m.line i).mark - n⟩ := by
    unfold PL.settle
    rw [if_neg hn0]
    rfl
  have hmk := hlo.mark
  have HWS := Lib.hid fun (W : World) (b : Nat) (hx : W.rangeAt b 0 (lnR (m.line i, v))) => lnR_ws (x := (m.line i, v)) h8 hx
  unfold PL.fixW at hfw
  have hi22 := size22' h8
  have HUP : Hid (m.upd i (·.settle n) = m.upd i fun _ => (m.line i).settle n) := Lib.hid rfl
  have HPUT := Lib.hid fun (W : World) (hb : Below w.heap.size w W) (l' : PL) (v' : Value) (h8' : l'.ws.length = 8) (hv : Sl W 105 2 v' l'.pend.length (iv (flatS l'.pend))) (ho : ∀ k, v'.ownBlock = some k → w.heap.size ≤ k) =>
    (h.below hb).putLine hm hi h8' hv (F' := Ex F w W) (fun _ h => .inl h) (fun k hk => .inr ⟨ho k hk, hv.lt hk⟩) (fun k hk => by
      rcases hk with h1 | h1
      · exact Nat.lt_of_lt_of_le (h.lt k h1) hb.size
      · exact h1.2)
  have HOD : Hid (F d) := Lib.hid h.ownD
  have hpd : p ≠ d := h.p_ne_d
  have hpw : p < w.heap.size := h.mem.lt
  have hdw : d < w.heap.size := h.lt d h.ownD
  rw [hset] at HUP
  have HC0 := Lib.hid c0
  generalize lnR (m.line i, v) = LN at *
  simp only at HWS
  generalize (m.line i).ws = ws at *
  generalize (m.line i).code = c at *
  generalize (m.line i).pend = ss at *
  generalize (m.line i).mark = mk at *
  generalize m.upd i (·.settle n) = MU at *
  generalize m.L.length = N at *
  obtain ⟨⟨fw, fc, fe⟩, hfz⟩ : ∃ r, fixZ ws c = r := ⟨_, rfl⟩
  rw [hfz] at HF hfw HUP
  simp only at HF hfw HUP
  have HFW := Lib.hid hfw
  have HI8 := Lib.hid (size22' hfw)
  have HO8 := Lib.hid (iv_one fw)
  have HN8 : Hid ((iv fw).length = 8) := Lib.hid (by rw [iv_len, hfw])
  have HP := Lib.hid hps
  have hiI : (i : Int) < (N : Int) := by omega
  have H22 := Lib.hid Tryz.underlying66
  have H22s := Lib.hid size22
  have HS51 := Lib.hid size51
  have hnI : ¬ (n : Int) = 0 := by omega
  obtain ⟨A, gcap, rfl, hgc1, hgc2, hnone, hsome⟩ := hsl.shape
  cases A with
  | none => have := (hnone rfl).1; omega
  | some ad =>
  obtain ⟨hsp, hown, _⟩ := hsome ad rfl
  obtain ⟨gp, op, sp⟩ := ad
  simp only at hsp
  subst hsp
  have hgm : gcap ≤ 9223372036854775807 := by unfold maxLen at hgc2; omega
  obtain ⟨A', hA', hslc⟩ := slice_from' gp op n ss.length gcap hn hgc1
  have HA' := Lib.hid hA'
  clear h hlo hm hfz hfw hps hsl hs hset hnone hsome hown hA' hXi
  go_enter Tryz.func105, Tryz.ntmps105
  go_wp2_with (first
    | ((with_reducible refine arm_range 130 d (o + i * 11) LN hr _ hu51 rfl hi51 rfl _ rfl ?_ ?_); (focus rfl))
    | ((with_reducible refine arm_new 130 LN 11 HL11.out HS51.out HO11.out _ ?_ rfl _ _ rfl ?_ ?_ ?_); (focus rfl); (focus rfl); (focus rfl); (refine nm_l ?_; intro w1 hw1; have HX1 : Hid (Arr w1 w.heap.size 130 LN) := Lib.hid (by rw [hw1]; exact Arr.new _ _ _); have HB1 : Hid (Below w.heap.size w w1) := Lib.hid (by rw [hw1]; exact bel_new _ _); obtain ⟨a1, a2, a3, a4⟩ := HWS.out w1 w.heap.size HX1.out.range; clear hw1))
    | ((with_reducible refine arm_range 66 w.heap.size 0 (iv ws) a1 _ H22.out rfl hi22 rfl _ rfl ?_ ?_); focus rfl))
  refine (HF.out _).mono ?_
  rintro e w2 ⟨rfl, hb⟩
  have HX2 := Lib.hid (HX1.out.keep hb)
  have HB2 := Lib.hid (bel_on HB1.out hb)
  clear hb HX1 HB1 a1 a2 a3 a4 r0
  go_wp2_with ((with_reducible refine arm_new 66 (iv fw) 8 HN8.out H22s.out HO8.out _ ?_ rfl _ _ rfl ?_ ?_ ?_); (focus rfl); (focus rfl); (focus rfl); (refine nm_l ?_; intro w3 hw3; have HW3 : Hid (Arr w3 w2.heap.size 66 (iv (applyS fw (ss.take 0)))) := Lib.hid (by rw [hw3]; exact Arr.new _ _ _); have HX3 : Hid (Arr w3 w.heap.size 130 LN) := Lib.hid (by rw [hw3]; exact HX2.out.keep (bel_new _ _)); have HB3 : Hid (Below w.heap.size w w3) := Lib.hid (by rw [hw3]; exact bel_on HB2.out (bel_new _ _)); have hbx : w.heap.size < w2.heap.size := HX2.out.lt; clear hw3; clear HX2; generalize w2.heap.size = bw at *))
  obtain ⟨pl, hpl⟩ : ∃ pl, ss.length = pl := ⟨_, rfl⟩
  have HPL := Lib.hid hpl
  have HRD := Lib.hid (Rd.of_sl HSL.out)
  rw [hpl] at hgc1 HRD HWS hslc hn hpl80 HA' hmk
  clear hpl HSL HB2
  go_loopw [10] (fun u wr => ∃ k : Nat, u = .int .i64 (k : Int) ∧ k ≤ n ∧ Hid (Arr wr bw 66 (iv (applyS fw (ss.take k)))) ∧ Hid (Arr wr w.heap.size 130 LN) ∧ Hid (Below w.heap.size w wr)) (fun u _ => n - (intOf u).toNat)
  case atStart => exact ⟨0, rfl, by omega, HW3, HX3, HB3⟩
  case round =>
    clear HW3 HX3 HB3
    obtain ⟨k, rfl, hk, HW, HX, HB⟩ := hrel
    obtain ⟨_, _, a3, a4⟩ := HWS.out wr w.heap.size HX.out.range
    rw [Nat.zero_add] at a3 a4
    have hXl : (applyS fw (ss.take k)).length = 8 := by rw [applyS_len]; exact HFW.out
    by_cases hlt : k < n
    · have hks : k < ss.length := by rw [HPL.out]; omega
      obtain ⟨_, _, hv9, _, _, hrr⟩ := HRD.out.below HB.out
      simp only [Value.slice.injEq, true_and] at hv9
      obtain ⟨rfl, rfl⟩ := hv9
      obtain ⟨b9, o9, he9, hgp, hsw⟩ := hrr (by omega)
      simp only [Option.some.injEq, Addr.mk.injEq, and_true] at he9
      obtain ⟨rfl, rfl⟩ := he9
      obtain ⟨d0, d1⟩ := rd_get hks hsw
      obtain ⟨s0, s8, _⟩ := HP.out _ (List.getElem_mem hks)
      have hnext : applyS fw (ss.take (k + 1)) = (applyS fw (ss.take k)).set ss[k].1.toNat ss[k].2 := by
        rw [take_snoc' ss k hks, applyS_snoc]
        rfl
      obtain ⟨a, ha⟩ : ∃ a : Nat, ss[k].1 = a := ⟨ss[k].1.toNat, by omega⟩
      rw [ha] at d0 s8 hnext
      rw [Int.toNat_natCast] at hnext
      generalize ss[k].2 = val at *
      have hfv := HW.out.free a
      have hcv := HW.out.cell (iv_at (l := applyS fw (ss.take k)) (k := a) (by omega))
      have HW2 : Hid (Arr (wr.drew.setCell ⟨bw, a, none⟩ (.int .i64 val)) bw 66 (iv (applyS fw (ss.take (k + 1))))) := Lib.hid (by
        rw [hnext, ← iv_set]
        exact (HW.out.keep (bel_drew wr)).set a _)
      have HX2 : Hid (Arr (wr.drew.setCell ⟨bw, a, none⟩ (.int .i64 val)) w.heap.size 130 LN) := Lib.hid ((HX.out.keep (bel_drew wr)).other (by show w.heap.size ≠ bw; omega) _)
      have HB2 : Hid (Below w.heap.size w (wr.drew.setCell ⟨bw, a, none⟩ (.int .i64 val))) := Lib.hid ((bel_on HB.out (bel_drew wr)).setCell (by show w.heap.size ≤ bw; omega) _)
      generalize (applyS fw (ss.take k)).getD a 0 = old at *
      have hknI : (k : Int) < (n : Int) := by omega
      have hkpI : (k : Int) < (pl : Int) := by omega
      have ha8 : (a : Int) < 8 := by omega
      clear hnext s0 ha hks hsw hrr hXl HW HX HB hslc
      go_wp2_with fail
      go_still_tail 13, (by kernel_rfl)
      change wpList _ _ _ _ _ wr.drew
      go_wp2_with fail
      go_roundw
      case rel => exact ⟨k + 1, by simp, by omega, HW2, HX2, HB2⟩
      case measure => simp [intOf]; omega
    · obtain rfl : k = n := by omega
      obtain ⟨AFT, hAFT⟩ : ∃ A, applyS fw (ss.take k) = A := ⟨_, rfl⟩
      rw [hAFT] at HW hXl HUP
      have HIA := Lib.hid (size22' hXl)
      have hE := HRD.out.below HB.out
      have hRK : Rd wr (.slice A' (pl - k) (gcap - k)) (pl - k) (iv (flatS (ss.drop k))) := by
        obtain ⟨_, _, hv9, h1, h2, hrr⟩ := hE
        simp only [Value.slice.injEq, true_and] at hv9
        obtain ⟨rfl, rfl⟩ := hv9
        refine ⟨A', gcap - k, rfl, by omega, by omega, fun h0 => ?_⟩
        obtain ⟨b9, o9, he9, hgp, hsw⟩ := hrr (by omega)
        simp only [Option.some.injEq, Addr.mk.injEq, and_true] at he9
        obtain ⟨rfl, rfl⟩ := he9
        refine ⟨gp, op + k * 2, HA'.out (by omega), hgp, fun j u hj => ?_⟩
        rw [← flatS_drop, List.getElem?_drop] at hj
        have := hsw _ _ hj
        rw [← Nat.add_assoc] at this
        exact this
      have HRK := Lib.hid (hRK.below (bel_new wr (.cells #[] 105)))
      have hlk : (iv (flatS (ss.drop k))).length = (pl - k) * 2 := by
        rw [iv_len, flatS_len, List.length_drop, HPL.out]
      have HLK := Lib.hid hlk
      have HEM := Lib.hid (Sl.empty wr 105 2)
      obtain ⟨i0, his, hz0, hz1, hz2⟩ := info_parts infoStore
      have HIS := Lib.hid his
      have HZ0 := Lib.hid hz0
      have HZ1 := Lib.hid hz1
      have HZ2 := Lib.hid hz2
      have a3A := fun ob => cell_below (bel_new wr ob) a3
      have HA4 := Lib.hid a4
      clear hRK hE hlk his hz0 hz1 hz2 HRD HA' HP a3 a4
      go_wp2_with (at_builtin; refine wpList_append_rd rfl _ _ 44 rfl 105 i0 _ 2 16 Tryz.underlying44 HIS.out HZ0.out HZ1.out HZ2.out rfl (by decide) _ 0 [] rfl HEM.out (.slice A' (pl - k) (gcap - k)) (pl - k) (iv (flatS (ss.drop k))) rfl HRK.out HLK.out (iv_one _) (by unfold maxLen; omega) (by omega) ?_)
      intro v' w3 hs3 hg3 ho3
      have hb3 : Below wr.heap.size wr w3 := (bel_new wr (.cells #[] 105)).grown hg3 (by simp) (fun q hq => by simp [Value.ownBlock] at hq; omega)
      have hs4 : Sl w3 105 2 v' (pl - k) (iv (flatS (ss.drop k))) := by simpa using hs3
      have hwr := HB.out.size
      have HO3 : Hid (∀ q, v'.ownBlock = some q → w.heap.size ≤ q) := Lib.hid fun q hq => by
        rcases ho3 with h5 | h5
        · rw [h5] at hq; simp [Value.ownBlock] at hq; omega
        · rw [h5] at hq; simp at hq; omega
      have HWd := Lib.hid ((HW.out.keep hb3).keep (bel_drew w3))
      have HB3 := Lib.hid (bel_on (bel_on HB.out hb3) (bel_drew w3))
      have HS4 : Hid (Sl w3.drew 105 2 v' (pl - k) (iv (flatS (ss.drop k)))) := Lib.hid (hs4.keep fun _ _ => rfl)
      obtain ⟨PA, pcap, rfl, _⟩ := hs4.shape
      have m1 : w3.drew.cell? ⟨p, 0, none⟩ = some (.slice (some ⟨d, o, none⟩) N cap) := cell_below HB3.out HC0.out
      have m2 : w3.drew.cell? ⟨w.heap.size, 10, none⟩ = some (.int .i64 (mk : Int)) := cell_below (bel_on hb3 (bel_drew w3)) HA4.out
      have m3 := HWd.out.range
      have hmkm : mk ≤ 9223372036854775807 := by omega
      have hsub : IntKind.i64.wrap ((mk : Int) - (k : Int)) = (mk : Int) - (k : Int) := by rw [wrapEq, w64 _ (by omega) (by omega)]
      have HENC := Lib.hid fun W => rEncode_any AFT W hXl
      have HBU := Lib.hid fun W => built_lnR (l := ⟨AFT, encZ AFT, ss.drop k, mk - k⟩) hXl PA (pl - k) pcap W
      have hdl : (ss.drop k).length = pl - k := by rw [List.length_drop, HPL.out]
      have HDL := Lib.hid hdl
      have H105 := Lib.hid hXl
      have HLL := Lib.hid (lnR_len (x := (⟨AFT, encZ AFT, ss.drop k, mk - k⟩, .slice PA (pl - k) pcap)) hXl)
      have HL1 := Lib.hid (lnR_one (x := (⟨AFT, encZ AFT, ss.drop k, mk - k⟩, .slice PA (pl - k) pcap)) rfl)
      have hdw2 : d ≠ w.heap.size := by omega
      have hdb : d ≠ bw := by omega
      clear hs3 hg3 ho3 hb3 hs4 hdl HW HX HB HRK HEM a3A HA4 hXl hslc hwr
      go_wp2_with fail
      refine wp_region_held_drew (S := fun W => W.cell? ⟨p, 0, none⟩ = some (.slice (some ⟨d, o, none⟩) N cap) ∧ W.cell? ⟨w.heap.size, 10, none⟩ = some (.int .i64 (mk : Int)) ∧ W.rangeAt bw 0 (iv AFT)) (by kernel_rfl) ⟨m1, m2, m3⟩ (fun hHeld => ?_)
      generalize w3.drew = w4 at *
      refine wpAnyH_take (i := 0) (v := .pointer (some ⟨p, 0, none⟩)) rfl (by kernel_rfl) (by kernel_rfl) (by kernel_rfl) (fun _ _ _ h => h) (Or.inl ⟨by rfl, fun w hSw => by obtain ⟨h1, h2, h3⟩ := hSw; go_simp⟩) (by assumption) ?_
      change wpAnyH _ _ _ _ _ _ _ (Act.put _ (some 54) _) _
      simp only [Act.put, List.setIfInBounds_toArray, List.set_cons_zero, List.set_cons_succ]
      refine wpAnyH_take (i := 1) (v := .pointer (some ⟨p, 0, none⟩)) rfl (by kernel_rfl) (by kernel_rfl) (by kernel_rfl) (fun _ _ _ h => h) (Or.inl ⟨by rfl, fun w hSw => by obtain ⟨h1, h2, h3⟩ := hSw; go_simp⟩) (by assumption) ?_
      change wpAnyH _ _ _ _ _ _ _ (Act.put _ (some 55) _) _
      simp only [Act.put, List.setIfInBounds_toArray, List.set_cons_zero, List.set_cons_succ]
      refine wpAnyH_take (i := 2) (v := .pointer (some ⟨p, 0, none⟩)) rfl (by kernel_rfl) (by kernel_rfl) (by kernel_rfl) (fun _ _ _ h => h) (Or.inl ⟨by rfl, fun w hSw => by obtain ⟨h1, h2, h3⟩ := hSw; go_simp⟩) (by assumption) ?_
      change wpAnyH _ _ _ _ _ _ _ (Act.put _ (some 56) _) _
      simp only [Act.put, List.setIfInBounds_toArray, List.set_cons_zero, List.set_cons_succ]
      refine wpAnyH_take (i := 3) (v := .slice (some ⟨d, o, none⟩) N cap) rfl (by kernel_rfl) (by kernel_rfl) (by kernel_rfl) (fun _ _ _ h => h) (Or.inl ⟨by rfl, fun w hSw => by obtain ⟨h1, h2, h3⟩ := hSw; go_simp⟩) (by assumption) ?_
      change wpAnyH _ _ _ _ _ _ _ (Act.put _ (some 57) _) _
      simp only [Act.put, List.setIfInBounds_toArray, List.set_cons_zero, List.set_cons_succ]
      refine wpAnyH_take (i := 4) (v := .int .i64 (i : Int)) rfl (by kernel_rfl) (by kernel_rfl) (by kernel_rfl) (fun _ _ _ h => h) (Or.inl ⟨by rfl, fun w hSw => by obtain ⟨h1, h2, h3⟩ := hSw; go_simp⟩) (by assumption) ?_
      change wpAnyH _ _ _ _ _ _ _ (Act.put _ (some 58) _) _
      simp only [Act.put, List.setIfInBounds_toArray, List.set_cons_zero, List.set_cons_succ]
      refine wpAnyH_take (i := 5) (v := .agg (iv AFT).toArray) rfl (by kernel_rfl) (by kernel_rfl) (by kernel_rfl) (fun _ _ _ h => h) (yieldsIf_load_mid (by rfl) _ _ rfl _ _ rfl _ _ (fun w h => h.2.2) H22.out rfl HIA.out) (by assumption) ?_
      change wpAnyH _ _ _ _ _ _ _ (Act.put _ (some 59) _) _
      simp only [Act.put, List.setIfInBounds_toArray, List.set_cons_zero, List.set_cons_succ]
      refine wpAnyH_take (i := 6) (v := .agg (iv AFT).toArray) rfl (by kernel_rfl) (by kernel_rfl) (by kernel_rfl) (fun _ _ _ h => h) (yieldsIf_load_mid (by rfl) _ _ rfl _ _ rfl _ _ (fun w h => h.2.2) H22.out rfl HIA.out) (by assumption) ?_
      change wpAnyH _ _ _ _ _ _ _ (Act.put _ (some 60) _) _
      simp only [Act.put, List.setIfInBounds_toArray, List.set_cons_zero, List.set_cons_succ]
      refine wpAnyH_take (i := 8) (v := .slice PA (pl - k) pcap) rfl (by kernel_rfl) (by kernel_rfl) (by kernel_rfl) (fun _ _ _ h => h) (Or.inl ⟨by rfl, fun w hSw => by obtain ⟨h1, h2, h3⟩ := hSw; go_simp⟩) (by assumption) ?_
      change wpAnyH _ _ _ _ _ _ _ (Act.put _ (some 62) _) _
      simp only [Act.put, List.setIfInBounds_toArray, List.set_cons_zero, List.set_cons_succ]
      refine wpAnyH_take (i := 9) (v := .pointer (some ⟨w.heap.size, 10, none⟩)) rfl (by kernel_rfl) (by kernel_rfl) (by kernel_rfl) (fun _ _ _ h => h) (Or.inl ⟨by rfl, fun w hSw => by obtain ⟨h1, h2, h3⟩ := hSw; go_simp⟩) (by assumption) ?_
      change wpAnyH _ _ _ _ _ _ _ (Act.put _ (some 63) _) _
      simp only [Act.put, List.setIfInBounds_toArray, List.set_cons_zero, List.set_cons_succ]
      refine wpAnyH_take (i := 10) (v := .int .i64 (mk : Int)) rfl (by kernel_rfl) (by kernel_rfl) (by kernel_rfl) (fun _ _ _ h => h) (Or.inl ⟨by rfl, fun w hSw => by obtain ⟨h1, h2, h3⟩ := hSw; go_simp⟩) (by assumption) ?_
      change wpAnyH _ _ _ _ _ _ _ (Act.put _ (some 64) _) _
      simp only [Act.put, List.setIfInBounds_toArray, List.set_cons_zero, List.set_cons_succ]
      refine wpAnyH_take (i := 11) (v := .int .i64 (k : Int)) rfl (by kernel_rfl) (by kernel_rfl) (by kernel_rfl) (fun _ _ _ h => h) (Or.inl ⟨by rfl, fun w hSw => by obtain ⟨h1, h2, h3⟩ := hSw; go_simp⟩) (by assumption) ?_
      change wpAnyH _ _ _ _ _ _ _ (Act.put _ (some 65) _) _
      simp only [Act.put, List.setIfInBounds_toArray, List.set_cons_zero, List.set_cons_succ]
      refine wpAnyH_take (i := 12) (v := .int .i64 ((mk : Int) - (k : Int))) rfl (by kernel_rfl) (by kernel_rfl) (by kernel_rfl) (fun _ _ _ h => h) (Or.inl ⟨by rfl, fun w hSw => by obtain ⟨h1, h2, h3⟩ := hSw; go_simp⟩) (by assumption) ?_
      change wpAnyH _ _ _ _ _ _ _ (Act.put _ (some 66) _) _
      simp only [Act.put, List.setIfInBounds_toArray, List.set_cons_zero, List.set_cons_succ]
      refine wpAnyH_take (i := 13) (v := .int .i64 ((mk - k : Nat) : Int)) rfl (by kernel_rfl) (by kernel_rfl) (by kernel_rfl) (fun _ _ _ h => h) (Or.inl ⟨by rfl, fun w hSw => by obtain ⟨h1, h2, h3⟩ := hSw; go_simp; omega⟩) (by assumption) ?_
      change wpAnyH _ _ _ _ _ _ _ (Act.put _ (some 67) _) _
      simp only [Act.put, List.setIfInBounds_toArray, List.set_cons_zero, List.set_cons_succ]
      refine wpAnyH_ready (rs := [7]) (by kernel_rfl) (by simp) ?_
      refine AllReadyH.cons rfl (fun K hK => ?_) AllReadyH.nil
      go_simp
      refine (HENC.out _).mono ?_
      rintro e w5 ⟨rfl, hb⟩
      refine hK.out _ _ ⟨cell_below hb m1, cell_below hb m2, range_below hb m3⟩ (fun hHeld1 => ?_)
      clear hK K hHeld
      have HB5 := Lib.hid (bel_on HB3.out hb)
      have HS5 : Hid (Sl w5 105 2 (.slice PA (pl - k) pcap) (ss.drop k).length (iv (flatS (ss.drop k)))) := Lib.hid (by rw [HDL.out]; exact HS4.out.keep fun q hq => hb.block q (HS4.out.lt hq))
      clear hb
      refine wpAnyH_take (i := 14) (v := .agg (lnR (⟨AFT, encZ AFT, ss.drop k, mk - k⟩, .slice PA (pl - k) pcap)).toArray) rfl (by kernel_rfl) (by kernel_rfl) (by kernel_rfl) (fun _ _ _ h => h) (yields_build (by rfl) _ _ rfl (fun w => by simpa [Act.eval] using HBU.out w)) (by assumption) ?_
      change wpAnyH _ _ _ _ _ _ _ (Act.put _ (some 68) _) _
      simp only [Act.put, List.setIfInBounds_toArray, List.set_cons_zero, List.set_cons_succ]
      refine wpAnyH_take (i := 15) (v := .pointer (some ⟨d, o + i * 11, none⟩)) rfl (by kernel_rfl) (by kernel_rfl) (by kernel_rfl) (fun _ _ _ h => h) (Or.inl ⟨by rfl, fun w hSw => by obtain ⟨h1, h2, h3⟩ := hSw; go_simp⟩) (by assumption) ?_
      change wpAnyH _ _ _ _ _ _ _ (Act.put _ (some 69) _) _
      simp only [Act.put, List.setIfInBounds_toArray, List.set_cons_zero, List.set_cons_succ]
      obtain ⟨hput, hthere⟩ := HPUT.out w5 HB5.out ⟨AFT, encZ AFT, ss.drop k, mk - k⟩ (.slice PA (pl - k) pcap) H105.out HS5.out HO3.out
      refine wpAnyH_ready (rs := [16]) (by kernel_rfl) (by simp) ?_
      refine AllReadyH.cons rfl (fun K hK => ?_) AllReadyH.nil
      refine wp_store_mid 130 _ _ rfl d (o + i * 11) (lnR (⟨AFT, encZ AFT, ss.drop k, mk - k⟩, .slice PA (pl - k) pcap)).toArray rfl rfl (by rw [List.size_toArray, HLL.out]; exact hthere) (by rw [List.size_toArray, HLL.out]; exact HS51.out) (all_oneCell_toArray HL1.out) ?_
      refine hK.out _ _ ⟨(cell_of_block (heap_setCells (by exact hpd) _ _ _)).trans hHeld1.1, (cell_of_block (heap_setCells (by exact hdw2.symm) _ _ _)).trans hHeld1.2.1, fun j v hv => (cell_of_block (heap_setCells (by exact hdb.symm) _ _ _)).trans (hHeld1.2.2 j v hv)⟩ (fun hHeld2 => ?_)
      clear hK K hHeld1
      have HFIN : Hid (RStep F w p MU (w5.setCells d (o + i * 11) (lnR (⟨AFT, encZ AFT, ss.drop k, mk - k⟩, .slice PA (pl - k) pcap)).toArray.toList)) := Lib.hid (by
        rw [HUP.out]
        refine ⟨⟨_, _, _, _, _, hput.keep (fun _ _ => rfl) (fun q hq => ?_) (fun q hq => ?_)⟩, (Kept.of_below HB5.out).then_ (Kept.setCells HOD.out _ _ _)⟩
        · rcases hq with h1 | h1
          · exact .inl h1
          · exact .inr ⟨h1.1, by rw [size_setCells]; exact h1.2⟩
        · rw [size_setCells] at *
          exact hput.lt q (by
            rcases hq with h1 | h1
            · exact .inl h1
            · exact .inr ⟨h1.1, by have := h1.2; rw [size_setCells] at this; exact this⟩) |> fun h => by rw [size_setCells] at h; exact h)
      refine wpAnyH_done (by kernel_rfl) ?_ _
      go_wp2_with fail
      refine bodyPost_end (results_none rfl _ _ _) rfl ?_
      exact ⟨rfl, HFIN.out⟩
end Go.Proofs.YtpojhplnhppcpaaGreatDoor
namespace Go.Proofs.YtpojhplnhppcpaaGreatDoor
open Go.RowKit Go.Maps
set_option maxRecDepth 100000 in
set_option maxHeartbeats 8000000 in
set_option linter.unusedSimpArgs false in
theorem rEvict_any (p : Nat) (z n : Int) (m : PM) (F : Nat → Prop) (w : World) (hm : m.Ok) (hs : m.Small 1000) (h : Ref w p m F) :
    Calls Tryz.prog 111 #[.pointer (some ⟨p, 0, none⟩), .int .i64 z, .int .i64 n] w fun e w' => e = .returned (.int .i64 (rec_ (evictP m z n) (evt 5 z n 0 Z8)).1) ∧ RStep F w p (rec_ (evictP m z n) (evt 5 z n 0 Z8)).2 w' := by
  have hha := rHas_any p z m F w h
  have HS := Lib.hid (RStep.refl h)
  obtain ⟨R, hR⟩ : ∃ R, rec_ (evictP m z n) (evt 5 z n 0 Z8) = R := ⟨_, rfl⟩
  rw [hR]
  unfold evictP at hR
  cases hh : m.has z with
  | false =>
    rw [hh, if_pos rfl, rec_1 (show (40 : Int) ≠ 0 by decide)] at hR
    subst hR
    rw [hh] at hha
    have HH := Lib.hid hha
    clear hha h hm hs
    go_enter Tryz.func111, Tryz.ntmps111
    go_wp2_with (go_at_call 134; refine HH.out.mono ?_; rintro e w' ⟨rfl, hw'⟩; obtain rfl := hw'.symm)
    go_ret
    exact ⟨rfl, HS.out⟩
  | true =>
    have hin : 0 ≤ z ∧ z < (m.L.length : Int) := by unfold PM.has at hh; simpa using hh
    obtain ⟨i, rfl⟩ : ∃ i : Nat, z = i := ⟨z.toNat, by omega⟩
    have hi : i < m.L.length := by omega
    rw [hh] at hha
    rw [hh, if_neg (by simp), Int.toNat_natCast] at hR
    have HH := Lib.hid hha
    have hrf := h
    obtain ⟨d, o, cap, ev, X, h⟩ := h
    obtain ⟨v, _, _, _, _, h9, _, hsl⟩ := h.at hm hi
    obtain ⟨VA, vcap, rfl, _⟩ := hsl.shape
    have c0 := h.c0
    have hcp := h.cap_
    have hiI : (i : Int) < (m.L.length : Int) := by omega
    by_cases hbad : n < 1 ∨ ((m.line i).pend.length : Int) < n
    · rw [if_pos hbad, rec_1 (show (1 : Int) ≠ 0 by decide)] at hR
      subst hR
      generalize (m.line i).pend.length = pl at *
      generalize m.L.length = N at *
      clear hha hh h hm hs hrf hsl
      by_cases hb1 : n < 1
      · clear hbad
        go_enter Tryz.func111, Tryz.ntmps111
        go_wp2_with (go_at_call 134; refine HH.out.mono ?_; rintro e w' ⟨rfl, hw'⟩; obtain rfl := hw'.symm)
        go_ret
        exact ⟨rfl, HS.out⟩
      · have hb2 : (pl : Int) < n := hbad.resolve_left hb1
        clear hbad
        go_enter Tryz.func111, Tryz.ntmps111
        go_wp2_with (go_at_call 134; refine HH.out.mono ?_; rintro e w' ⟨rfl, hw'⟩; obtain rfl := hw'.symm)
        go_ret
        exact ⟨rfl, HS.out⟩
    · have hb1 : ¬ n < 1 := fun h => hbad (.inl h)
      have hb2 : ¬ ((m.line i).pend.length : Int) < n := fun h => hbad (.inr h)
      obtain ⟨k, rfl⟩ : ∃ k : Nat, n = k := ⟨n.toNat, by omega⟩
      rw [if_neg hbad, rec_0 rfl, Int.toNat_natCast] at hR
      have HSE := Lib.hid (rSettle_any p i k m F w hi (by omega) hm hs hrf)
      have hne : (m.upd i (·.settle k)).ev.length ≤ 1000 := hs.ev
      generalize m.upd i (·.settle k) = m1 at *
      generalize (m.line i).pend.length = pl at *
      generalize m.L.length = N at *
      clear hha hh h hm hs hrf hsl hbad HS
      go_enter Tryz.func111, Tryz.ntmps111
      go_wp2_with (go_at_call 134; refine HH.out.mono ?_; rintro e w' ⟨rfl, hw'⟩; obtain rfl := hw'.symm)
      refine HSE.out.mono ?_
      rintro e w2 ⟨rfl, hst⟩
      obtain ⟨d2, o2, cap2, ev, X2, h2⟩ := hst.1
      obtain ⟨A, ecap, rfl, _⟩ := h2.evs.shape
      have HB1 := bel_new w2 (.cells (iv (evt 5 (i : Int) (k : Int) 0 Z8)).toArray 68)
      have HREC := Lib.hid fun (ev' : Value) (w3 : World) hsl hg ho => hst.trans (h2.recorded (evt 5 (i : Int) (k : Int) 0 Z8) HB1 (ev' := ev') (w3 := w3) hsl hg ho)
      have HC2 := Lib.hid fun (w3 : World) hg => h2.cells2 HB1 (w3 := w3) hg
      have HEV := Lib.hid (h2.evs.keep fun q hq => HB1.block q (h2.evs.lt hq))
      have HNW : Hid (∀ j u, (iv (evt 5 (i : Int) (k : Int) 0 Z8))[j]? = some u → (w2.alloc (.cells (iv (evt 5 (i : Int) (k : Int) 0 Z8)).toArray 68)).cell? ((⟨w2.heap.size, 0, none⟩ : Addr).add j) = some u) := Lib.hid (fun j u hu => by
        rw [Addr.add_lit, Nat.zero_add]
        exact (Arr.new w2 _ _).cell hu)
      have c2 := h2.c2
      obtain ⟨i0, his, hz0, hz1, hz2⟩ := info_parts infoEvent
      have HIS := Lib.hid his
      have HZ0 := Lib.hid hz0
      have HZ1 := Lib.hid hz1
      have HZ2 := Lib.hid hz2
      clear his hz0 hz1 hz2 HB1
      generalize hNE : m1.ev.length = NE at *
      subst hR
      clear hst h2 HSE c0 h9 hNE
      go_wp2_with (at_builtin; refine wpList_append_sl _ rfl _ _ 24 rfl 68 i0 _ 12 96 Tryz.underlying24 HIS.out HZ0.out HZ1.out HZ2.out rfl (by decide) (.slice A NE ecap) NE (iv m1.ev.flatten) rfl HEV.out ⟨w2.heap.size, 0, none⟩ 1 1 (iv (evt 5 (i : Int) (k : Int) 0 Z8)) rfl rfl HNW.out (iv_one _) (by unfold maxLen; omega) (by omega) ?_; intro ev' w3 hsl hg ho; obtain ⟨EA2, ecap2, rfl, _⟩ := hsl.shape; have HFIN := Lib.hid (HREC.out _ _ hsl hg ho); obtain ⟨e2, ef2⟩ := HC2.out _ hg; clear hsl hg ho)
      go_ret
      exact ⟨rfl, HFIN.out⟩
/-! ### the fence -/
def fenceTo (m : PM) : Nat → PM
  | 0 => m
  | k + 1 => (fenceTo m k).upd k fun l => l.settle l.mark
theorem fenceTo_len (m : PM) : ∀ k, (fenceTo m k).L.length = m.L.length
  | 0 => rfl
  | k + 1 => by unfold fenceTo; rw [PM.upd_len, fenceTo_len m k]
theorem fenceTo_line (m : PM) : ∀ k, k ≤ m.L.length → ∀ j, (fenceTo m k).line j = if j < k then (m.line j).settle (m.line j).mark else m.line j
  | 0, _, _ => rfl
  | k + 1, h, j => by
    unfold fenceTo
    rw [PM.upd_line _ (by rw [fenceTo_len]; omega), fenceTo_line m k (by omega), fenceTo_line m k (by omega)]
    by_cases e : j = k
    · subst e
      rw [if_pos rfl, if_neg (by omega), if_pos (by omega)]
    · rw [if_neg e]
      by_cases h2 : j < k
      · rw [if_pos h2, if_pos (by omega)]
      · rw [if_neg h2, if_neg (by omega)]
theorem fenceTo_rest (m : PM) : ∀ k, (fenceTo m k).span = m.span ∧ (fenceTo m k).ev = m.ev
  | 0 => ⟨rfl, rfl⟩
  | k + 1 => fenceTo_rest m k
theorem fenceTo_ok {m : PM} (hm : m.Ok) : ∀ k, k ≤ m.L.length → (fenceTo m k).Ok
  | 0, _ => hm
  | k + 1, h => by
    have ih := fenceTo_ok hm k (by omega)
    exact settle_ok ih (by rw [fenceTo_len]; omega)
theorem settle_pendR (l : PL) (n : Nat) : (l.settle n).pend.length ≤ l.pend.length := by
  unfold PL.settle
  split
  · exact Nat.le_refl _
  · rw [List.length_drop]
    omega
theorem fenceTo_small {m : PM} {n : Nat} (hs : m.Small n) : ∀ k, k ≤ m.L.length → (fenceTo m k).Small n
  | 0, _ => hs
  | k + 1, h => by
    have ih := fenceTo_small hs k (by omega)
    refine ih.upd (Nat.le_refl _) (Nat.le_trans (settle_pendR _ _) (ih.pend _ (PM.line_mem (by rw [fenceTo_len]; omega))))
theorem fenceTo_all (m : PM) : fenceTo m m.L.length = fenceP m := by
  have hL : (fenceTo m m.L.length).L = (fenceP m).L := by
    have hl : (fenceP m).L.length = m.L.length := by simp [fenceP]
    refine List.ext_getElem (by rw [fenceTo_len, hl]) fun i h1 h2 => ?_
    have hi : i < m.L.length := by rw [hl] at h2; exact h2
    rw [← PM.line_eq h1, fenceTo_line m _ (Nat.le_refl _), if_pos hi, PM.line_eq hi]
    exact (List.getElem_map (fun l : PL => l.settle l.mark)).symm
  obtain ⟨h1, h2⟩ := fenceTo_rest m m.L.length
  unfold fenceP at hL ⊢
  generalize fenceTo m m.L.length = T at *
  obtain ⟨L, sp, ev⟩ := T
  simp only at hL h1 h2
  rw [hL, h1, h2]
set_option maxRecDepth 100000 in
set_option maxHeartbeats 8000000 in
set_option linter.unusedSimpArgs false in
theorem rFence_any (p : Nat) (m : PM) (F : Nat → Prop) (w : World) (hm : m.Ok) (hs : m.Small 1000) (h : Ref w p m F) :
    Calls Tryz.prog 110 #[.pointer (some ⟨p, 0, none⟩)] w fun e w' => e = .returned (.tuple #[]) ∧ RStep F w p ((fenceP m).add (evt 4 0 0 0 Z8)) w' := by
  have HFA := Lib.hid (fenceTo_all m)
  have HOK := Lib.hid fun k hk => fenceTo_ok hm k hk
  have HSM := Lib.hid fun k hk => fenceTo_small hs k hk
  have HLN := Lib.hid fun k => fenceTo_len m k
  have HEVL := Lib.hid fun k => (fenceTo_rest m k).2
  have HS0 : Hid (RStep F w p (fenceTo m 0) w) := Lib.hid (RStep.refl h)
  have hne := hs.ev
  obtain ⟨N, hN⟩ : ∃ N, m.L.length = N := ⟨_, rfl⟩
  rw [hN] at HFA HOK HSM HLN
  have hN2 : N ≤ 4096 := by rw [← hN]; exact hm.few
  clear hm hs h hN
  go_enter Tryz.func110, Tryz.ntmps110
  go_wp2_with fail
  go_loopw [2] (fun u wr => ∃ k : Nat, u = .int .i64 (k : Int) ∧ k ≤ N ∧ Hid (RStep F w p (fenceTo m k) wr)) (fun u _ => N - (intOf u).toNat)
  case atStart => exact ⟨0, rfl, by omega, HS0⟩
  case round =>
    clear HS0
    obtain ⟨k, rfl, hk, HST⟩ := hrel
    have hrf := HST.out.1
    obtain ⟨d, o, cap, ev, X, h⟩ := hrf
    have c0 := h.c0
    rw [HLN.out k] at c0
    have hcp := h.cap_
    rw [HLN.out k] at hcp
    by_cases hlt : k < N
    · have hkl : k < (fenceTo m k).L.length := by rw [HLN.out]; exact hlt
      obtain ⟨v, _, _, _, _, _, h10, _⟩ := h.at (HOK.out k (by omega)) hkl
      have hse := rSettle_any p k ((fenceTo m k).line k).mark (fenceTo m k) _ wr hkl ((HOK.out k (by omega)).line hkl).mark (HOK.out k (by omega)) (HSM.out k (by omega)) HST.out.1
      have hup : (fenceTo m k).upd k (·.settle ((fenceTo m k).line k).mark) = fenceTo m (k + 1) := PM.upd_congr rfl
      rw [hup] at hse
      have HSE := Lib.hid hse
      generalize ((fenceTo m k).line k).mark = mk at *
      have hkI : (k : Int) < (N : Int) := by omega
      clear h hse hup hkl
      go_wp2_with fail
      refine HSE.out.mono ?_
      rintro e w2 ⟨rfl, hst⟩
      have HST2 := Lib.hid (HST.out.trans hst)
      clear hst HSE HST
      go_wp2_with fail
      go_roundw
      case rel => exact ⟨k + 1, by simp, by omega, HST2⟩
      case measure => simp [intOf]; omega
    · obtain rfl : k = N := by omega
      have hne1 : (fenceTo m k).ev.length ≤ 1000 := by rw [HEVL.out]; exact hne
      obtain ⟨A, ecap, rfl, _⟩ := h.evs.shape
      have HB1 := bel_new wr (.cells (iv (evt 4 0 0 0 Z8)).toArray 68)
      have HREC := Lib.hid fun (ev' : Value) (w3 : World) hsl hg ho => HST.out.trans (h.recorded (evt 4 0 0 0 Z8) HB1 (ev' := ev') (w3 := w3) hsl hg ho)
      have HC2 := Lib.hid fun (w3 : World) hg => h.cells2 HB1 (w3 := w3) hg
      have HEV := Lib.hid (h.evs.keep fun q hq => HB1.block q (h.evs.lt hq))
      have HNW : Hid (∀ j u, (iv (evt 4 0 0 0 Z8))[j]? = some u → (wr.alloc (.cells (iv (evt 4 0 0 0 Z8)).toArray 68)).cell? ((⟨wr.heap.size, 0, none⟩ : Addr).add j) = some u) := Lib.hid (fun j u hu => by
        rw [Addr.add_lit, Nat.zero_add]
        exact (Arr.new wr _ _).cell hu)
      have c2 := h.c2
      obtain ⟨i0, his, hz0, hz1, hz2⟩ := info_parts infoEvent
      have HIS := Lib.hid his
      have HZ0 := Lib.hid hz0
      have HZ1 := Lib.hid hz1
      have HZ2 := Lib.hid hz2
      clear his hz0 hz1 hz2 HB1
      rw [HFA.out] at HREC HEV HC2 hne1 c2
      obtain ⟨m1, hm1⟩ : ∃ m1, fenceP m = m1 := ⟨_, rfl⟩
      rw [hm1] at HREC HEV HC2 hne1 c2
      have HM1 := Lib.hid hm1
      clear hm1
      generalize hNE : m1.ev.length = NE at *
      clear h hNE
      go_wp2_with (at_builtin; refine wpList_append_sl _ rfl _ _ 24 rfl 68 i0 _ 12 96 Tryz.underlying24 HIS.out HZ0.out HZ1.out HZ2.out rfl (by decide) (.slice A NE ecap) NE (iv m1.ev.flatten) rfl HEV.out ⟨wr.heap.size, 0, none⟩ 1 1 (iv (evt 4 0 0 0 Z8)) rfl rfl HNW.out (iv_one _) (by unfold maxLen; omega) (by omega) ?_; intro ev' w3 hsl hg ho; obtain ⟨EA2, ecap2, rfl, _⟩ := hsl.shape; have HFIN := Lib.hid (HREC.out _ _ hsl hg ho); obtain ⟨e2, ef2⟩ := HC2.out _ hg; clear hsl hg ho)
      refine bodyPost_end (results_none rfl _ _ _) rfl ?_
      exact ⟨rfl, by rw [HM1.out]; exact HFIN.out⟩
end Go.Proofs.YtpojhplnhppcpaaGreatDoor
