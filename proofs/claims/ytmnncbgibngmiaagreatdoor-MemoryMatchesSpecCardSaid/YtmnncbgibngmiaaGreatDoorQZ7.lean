/-
  What the reference's settle does.
-/
import Derived.Test.YtmnncbgibngmiaaGreatDoorQZ4
import Derived.Test.YtmnncbgibngmiaaGreatDoorQM6
namespace Go.Proofs.YtmnncbgibngmiaaGreatDoor
open Go.RowKit Go.Maps
theorem built_lnR {l : PL} (h8 : l.ws.length = 8) (A : Option Addr) (n c : Nat) (w : World) : (Instr.build 51 #[(0, .agg (iv l.ws).toArray), (1, .int .i64 l.code), (2, .slice A n c), (3, .int .i64 (l.mark : Int))]).run Tryz.prog w = .ok (.agg (lnR (l, .slice A n c)).toArray) w := by
  obtain ⟨ws, code, ps, mk⟩ := l
  obtain ⟨a0, a1, a2, a3, a4, a5, a6, a7, rfl⟩ := line8 h8
  kernel_rfl
theorem slice_from' (d o n len cap : Nat) (h : n ≤ len) (hc : len ≤ cap) : ∃ A', (n < len → A' = some ⟨d, o + n * 2, none⟩) ∧ ∀ w, (Instr.slice 49 (.slice (some ⟨d, o, none⟩) len cap) (some (.int .i64 (n : Int))) none none).run Tryz.prog w = .ok (.slice A' (len - n) (cap - n)) w := by
  by_cases hn : n < len
  · exact ⟨_, fun _ => rfl, fun w => slice_from d o n len cap hn hc w⟩
  · obtain rfl : n = len := by omega
    obtain ⟨i0, hi, hz0, hz1, hz2⟩ := info_parts infoStore
    by_cases h3 : cap = n
    · refine ⟨some ⟨d, o, none⟩, fun h => absurd h hn, fun w => ?_⟩
      simp [Instr.slice, run_underlying Tryz.underlying49, Instr.sliceBounds, Instr.sliceBound, asIntOf, sizeOf, typeInfo, hi, h3, Addr.add]
    · refine ⟨some ⟨d, o + n * 2, none⟩, fun h => absurd h hn, fun w => ?_⟩
      simp [Instr.slice, run_underlying Tryz.underlying49, Instr.sliceBounds, Instr.sliceBound, asIntOf, sizeOf, typeInfo, hi, hz1, h3, Addr.add]
set_option maxRecDepth 100000 in
set_option maxHeartbeats 8000000 in
set_option linter.unusedSimpArgs false in
theorem rSettle_any (p i n : Nat) (m : PM) (F : Nat → Prop) (w : World) (hi : i < m.L.length) (hn : n ≤ (m.line i).pend.length) (hm : m.Ok) (hs : m.Small 1000) (h : Ref w p m F) :
    Calls Tryz.prog 74 #[.pointer (some ⟨p, 0, none⟩), .int .i64 (i : Int), .int .i64 (n : Int)] w fun e w' => e = .returned (.tuple #[]) ∧ RStep F w p (m.upd i (·.settle n)) w' := by
  by_cases hn0 : n = 0
  · subst hn0
    have hid : m.upd i (·.settle 0) = m := PM.upd_id hi (by unfold PL.settle; rw [if_pos rfl])
    rw [hid]
    have HS := Lib.hid (RStep.refl h)
    clear hid hs hm h hn
    go_enter Tryz.func74, Tryz.ntmps74
    go_wp2_with fail
    refine bodyPost_ret (results_none rfl _ _ _) rfl ?_
    exact ⟨rfl, HS.out⟩
  obtain ⟨d, o, cap, ev, X, h⟩ := h
  have hlo := hm.line hi
  have c0 := h.c0
  obtain ⟨v, hXi, hr, _, _, _, _, hsl⟩ := h.at hm hi
  have hcp := h.cap_
  have h8 := hlo.len
  have r0 := fun ob => range_below (bel_new w ob) hr
  have HL11 := Lib.hid (lnR_len (x := (m.line i, v)) h8)
  have hi51 : (Tryz.prog.info? 51).map (·.size) = some (lnR (m.line i, v)).length := by rw [size51, HL11.out]
  have HO11 := Lib.hid (lnR_one (x := (m.line i, v)) hsl.one)
  have hu51 := Tryz.underlying51
  have HF := Lib.hid fun w => rFix_any (m.line i).ws (m.line i).code w h8
  unfold fr at HF
  have hfw := hlo.fixW.1
  have hps := hlo.pend
  have hpl80 := hs.pend _ (PM.line_mem hi)
  have HSL := Lib.hid hsl
  have hset : (m.line i).settle n = ⟨applyS (fixZ (m.line i).ws (m.line i).code).1 ((m.line i).pend.take n), encZ (applyS (fixZ (m.line i).ws (m.line i).code).1 ((m.line i).pend.take n)), (m.line i).pend.drop n, (m.line i).mark - n⟩ := by
    unfold PL.settle
    rw [if_neg hn0]
    rfl
  have hmk := hlo.mark
  have HWS := Lib.hid fun (W : World) (b : Nat) (hx : W.rangeAt b 0 (lnR (m.line i, v))) => lnR_ws (x := (m.line i, v)) h8 hx
  unfold PL.fixW at hfw
  have hi22 := size22' h8
  have HUP : Hid (m.upd i (·.settle n) = m.upd i fun _ => (m.line i).settle n) := Lib.hid rfl
  have HPUT := Lib.hid fun (W : World) (hb : Below w.heap.size w W) (l' : PL) (v' : Value) (h8' : l'.ws.length = 8) (hv : Sl W 66 2 v' l'.pend.length (iv (flatS l'.pend))) (ho : ∀ k, v'.ownBlock = some k → w.heap.size ≤ k) =>
    (h.below hb).putLine hm hi h8' hv (F' := Ex F w W) (fun _ h => .inl h) (fun k hk => .inr ⟨ho k hk, hv.lt hk⟩) (fun k hk => by
      rcases hk with h1 | h1
      · exact Nat.lt_of_lt_of_le (h.lt k h1) hb.size
      · exact h1.2)
  have HOD : Hid (F d) := Lib.hid h.ownD
  have hpd : p ≠ d := h.p_ne_d
  have hpw : p < w.heap.size := h.mem.lt
  have hdw : d < w.heap.size := h.lt d h.ownD
  rw [hset] at HUP
  have HC0 := Lib.hid c0
  generalize lnR (m.line i, v) = LN at *
  simp only at HWS
  generalize (m.line i).ws = ws at *
  generalize (m.line i).code = c at *
  generalize (m.line i).pend = ss at *
  generalize (m.line i).mark = mk at *
  generalize m.upd i (·.settle n) = MU at *
  generalize m.L.length = N at *
  obtain ⟨⟨fw, fc, fe⟩, hfz⟩ : ∃ r, fixZ ws c = r := ⟨_, rfl⟩
  rw [hfz] at HF hfw HUP
  simp only at HF hfw HUP
  have HFW := Lib.hid hfw
  have HI8 := Lib.hid (size22' hfw)
  have HO8 := Lib.hid (iv_one fw)
  have HN8 : Hid ((iv fw).length = 8) := Lib.hid (by rw [iv_len, hfw])
  have HP := Lib.hid hps
  have hiI : (i : Int) < (N : Int) := by omega
  have H22 := Lib.hid Tryz.underlying39
  have H22s := Lib.hid size22
  have HS51 := Lib.hid size51
  have hnI : ¬ (n : Int) = 0 := by omega
  obtain ⟨A, gcap, rfl, hgc1, hgc2, hnone, hsome⟩ := hsl.shape
  cases A with
  | none => have := (hnone rfl).1; omega
  | some ad =>
  obtain ⟨hsp, hown, _⟩ := hsome ad rfl
  obtain ⟨gp, op, sp⟩ := ad
  simp only at hsp
  subst hsp
  have hgm : gcap ≤ 9223372036854775807 := by unfold maxLen at hgc2; omega
  obtain ⟨A', hA', hslc⟩ := slice_from' gp op n ss.length gcap hn hgc1
  have HA' := Lib.hid hA'
  clear h hlo hm hfz hfw hps hsl hs hset hnone hsome hown hA' hXi
  go_enter Tryz.func74, Tryz.ntmps74
  go_wp2_with (first
    | ((with_reducible refine arm_range 51 d (o + i * 11) LN hr _ hu51 rfl hi51 rfl _ rfl ?_ ?_); (focus rfl))
    | ((with_reducible refine arm_new 51 LN 11 HL11.out HS51.out HO11.out _ ?_ rfl _ _ rfl ?_ ?_ ?_); (focus rfl); (focus rfl); (focus rfl); (refine nm_l ?_; intro w1 hw1; have HX1 : Hid (Arr w1 w.heap.size 51 LN) := Lib.hid (by rw [hw1]; exact Arr.new _ _ _); have HB1 : Hid (Below w.heap.size w w1) := Lib.hid (by rw [hw1]; exact bel_new _ _); obtain ⟨a1, a2, a3, a4⟩ := HWS.out w1 w.heap.size HX1.out.range; clear hw1))
    | ((with_reducible refine arm_range 39 w.heap.size 0 (iv ws) a1 _ H22.out rfl hi22 rfl _ rfl ?_ ?_); focus rfl))
  refine (HF.out _).mono ?_
  rintro e w2 ⟨rfl, hb⟩
  have HX2 := Lib.hid (HX1.out.keep hb)
  have HB2 := Lib.hid (bel_on HB1.out hb)
  clear hb HX1 HB1 a1 a2 a3 a4 r0
  go_wp2_with ((with_reducible refine arm_new 39 (iv fw) 8 HN8.out H22s.out HO8.out _ ?_ rfl _ _ rfl ?_ ?_ ?_); (focus rfl); (focus rfl); (focus rfl); (refine nm_l ?_; intro w3 hw3; have HW3 : Hid (Arr w3 w2.heap.size 39 (iv (applyS fw (ss.take 0)))) := Lib.hid (by rw [hw3]; exact Arr.new _ _ _); have HX3 : Hid (Arr w3 w.heap.size 51 LN) := Lib.hid (by rw [hw3]; exact HX2.out.keep (bel_new _ _)); have HB3 : Hid (Below w.heap.size w w3) := Lib.hid (by rw [hw3]; exact bel_on HB2.out (bel_new _ _)); have hbx : w.heap.size < w2.heap.size := HX2.out.lt; clear hw3; clear HX2; generalize w2.heap.size = bw at *))
  obtain ⟨pl, hpl⟩ : ∃ pl, ss.length = pl := ⟨_, rfl⟩
  have HPL := Lib.hid hpl
  have HRD := Lib.hid (Rd.of_sl HSL.out)
  rw [hpl] at hgc1 HRD HWS hslc hn hpl80 HA' hmk
  clear hpl HSL HB2
  go_loopw [10] (fun u wr => ∃ k : Nat, u = .int .i64 (k : Int) ∧ k ≤ n ∧ Hid (Arr wr bw 39 (iv (applyS fw (ss.take k)))) ∧ Hid (Arr wr w.heap.size 51 LN) ∧ Hid (Below w.heap.size w wr)) (fun u _ => n - (intOf u).toNat)
  case atStart => exact ⟨0, rfl, by omega, HW3, HX3, HB3⟩
  case round =>
    clear HW3 HX3 HB3
    obtain ⟨k, rfl, hk, HW, HX, HB⟩ := hrel
    obtain ⟨_, _, a3, a4⟩ := HWS.out wr w.heap.size HX.out.range
    rw [Nat.zero_add] at a3 a4
    have hXl : (applyS fw (ss.take k)).length = 8 := by rw [applyS_len]; exact HFW.out
    by_cases hlt : k < n
    · have hks : k < ss.length := by rw [HPL.out]; omega
      obtain ⟨_, _, hv9, _, _, hrr⟩ := HRD.out.below HB.out
      simp only [Value.slice.injEq, true_and] at hv9
      obtain ⟨rfl, rfl⟩ := hv9
      obtain ⟨b9, o9, he9, hgp, hsw⟩ := hrr (by omega)
      simp only [Option.some.injEq, Addr.mk.injEq, and_true] at he9
      obtain ⟨rfl, rfl⟩ := he9
      obtain ⟨d0, d1⟩ := rd_get hks hsw
      obtain ⟨s0, s8, _⟩ := HP.out _ (List.getElem_mem hks)
      have hnext : applyS fw (ss.take (k + 1)) = (applyS fw (ss.take k)).set ss[k].1.toNat ss[k].2 := by
        rw [take_snoc' ss k hks, applyS_snoc]
        rfl
      obtain ⟨a, ha⟩ : ∃ a : Nat, ss[k].1 = a := ⟨ss[k].1.toNat, by omega⟩
      rw [ha] at d0 s8 hnext
      rw [Int.toNat_natCast] at hnext
      generalize ss[k].2 = val at *
      have hfv := HW.out.free a
      have hcv := HW.out.cell (iv_at (l := applyS fw (ss.take k)) (k := a) (by omega))
      have HW2 : Hid (Arr (wr.drew.setCell ⟨bw, a, none⟩ (.int .i64 val)) bw 39 (iv (applyS fw (ss.take (k + 1))))) := Lib.hid (by
        rw [hnext, ← iv_set]
        exact (HW.out.keep (bel_drew wr)).set a _)
      have HX2 : Hid (Arr (wr.drew.setCell ⟨bw, a, none⟩ (.int .i64 val)) w.heap.size 51 LN) := Lib.hid ((HX.out.keep (bel_drew wr)).other (by show w.heap.size ≠ bw; omega) _)
      have HB2 : Hid (Below w.heap.size w (wr.drew.setCell ⟨bw, a, none⟩ (.int .i64 val))) := Lib.hid ((bel_on HB.out (bel_drew wr)).setCell (by show w.heap.size ≤ bw; omega) _)
      generalize (applyS fw (ss.take k)).getD a 0 = old at *
      have hknI : (k : Int) < (n : Int) := by omega
      have hkpI : (k : Int) < (pl : Int) := by omega
      have ha8 : (a : Int) < 8 := by omega
      clear hnext s0 ha hks hsw hrr hXl HW HX HB hslc
      go_wp2_with fail
      go_still_tail 13, (by kernel_rfl)
      change wpList _ _ _ _ _ wr.drew
      go_wp2_with fail
      go_roundw
      case rel => exact ⟨k + 1, by simp, by omega, HW2, HX2, HB2⟩
      case measure => simp [intOf]; omega
    · obtain rfl : k = n := by omega
      obtain ⟨AFT, hAFT⟩ : ∃ A, applyS fw (ss.take k) = A := ⟨_, rfl⟩
      rw [hAFT] at HW hXl HUP
      have HIA := Lib.hid (size22' hXl)
      have hE := HRD.out.below HB.out
      have hRK : Rd wr (.slice A' (pl - k) (gcap - k)) (pl - k) (iv (flatS (ss.drop k))) := by
        obtain ⟨_, _, hv9, h1, h2, hrr⟩ := hE
        simp only [Value.slice.injEq, true_and] at hv9
        obtain ⟨rfl, rfl⟩ := hv9
        refine ⟨A', gcap - k, rfl, by omega, by omega, fun h0 => ?_⟩
        obtain ⟨b9, o9, he9, hgp, hsw⟩ := hrr (by omega)
        simp only [Option.some.injEq, Addr.mk.injEq, and_true] at he9
        obtain ⟨rfl, rfl⟩ := he9
        refine ⟨gp, op + k * 2, HA'.out (by omega), hgp, fun j u hj => ?_⟩
        rw [← flatS_drop, List.getElem?_drop] at hj
        have := hsw _ _ hj
        rw [← Nat.add_assoc] at this
        exact this
      have HRK := Lib.hid (hRK.below (bel_new wr (.cells #[] 66)))
      have hlk : (iv (flatS (ss.drop k))).length = (pl - k) * 2 := by
        rw [iv_len, flatS_len, List.length_drop, HPL.out]
      have HLK := Lib.hid hlk
      have HEM := Lib.hid (Sl.empty wr 66 2)
      obtain ⟨i0, his, hz0, hz1, hz2⟩ := info_parts infoStore
      have HIS := Lib.hid his
      have HZ0 := Lib.hid hz0
      have HZ1 := Lib.hid hz1
      have HZ2 := Lib.hid hz2
      have a3A := fun ob => cell_below (bel_new wr ob) a3
      have HA4 := Lib.hid a4
      clear hRK hE hlk his hz0 hz1 hz2 HRD HA' HP a3 a4
      go_wp2_with (at_builtin; refine wpList_append_rd rfl _ _ 49 rfl 66 i0 _ 2 16 Tryz.underlying49 HIS.out HZ0.out HZ1.out HZ2.out rfl (by decide) _ 0 [] rfl HEM.out (.slice A' (pl - k) (gcap - k)) (pl - k) (iv (flatS (ss.drop k))) rfl HRK.out HLK.out (iv_one _) (by unfold maxLen; omega) (by omega) ?_)
      intro v' w3 hs3 hg3 ho3
      have hb3 : Below wr.heap.size wr w3 := (bel_new wr (.cells #[] 66)).grown hg3 (by simp) (fun q hq => by simp [Value.ownBlock] at hq; omega)
      have hs4 : Sl w3 66 2 v' (pl - k) (iv (flatS (ss.drop k))) := by simpa using hs3
      have hwr := HB.out.size
      have HO3 : Hid (∀ q, v'.ownBlock = some q → w.heap.size ≤ q) := Lib.hid fun q hq => by
        rcases ho3 with h5 | h5
        · rw [h5] at hq; simp [Value.ownBlock] at hq; omega
        · rw [h5] at hq; simp at hq; omega
      have HWd := Lib.hid ((HW.out.keep hb3).keep (bel_drew w3))
      have HB3 := Lib.hid (bel_on (bel_on HB.out hb3) (bel_drew w3))
      have HS4 : Hid (Sl w3.drew 66 2 v' (pl - k) (iv (flatS (ss.drop k)))) := Lib.hid (hs4.keep fun _ _ => rfl)
      obtain ⟨PA, pcap, rfl, _⟩ := hs4.shape
      have m1 : w3.drew.cell? ⟨p, 0, none⟩ = some (.slice (some ⟨d, o, none⟩) N cap) := cell_below HB3.out HC0.out
      have m2 : w3.drew.cell? ⟨w.heap.size, 10, none⟩ = some (.int .i64 (mk : Int)) := cell_below (bel_on hb3 (bel_drew w3)) HA4.out
      have m3 := HWd.out.range
      have hmkm : mk ≤ 9223372036854775807 := by omega
      have hsub : IntKind.i64.wrap ((mk : Int) - (k : Int)) = (mk : Int) - (k : Int) := by rw [wrapEq, w64 _ (by omega) (by omega)]
      have HENC := Lib.hid fun W => rEncode_any AFT W hXl
      have HBU := Lib.hid fun W => built_lnR (l := ⟨AFT, encZ AFT, ss.drop k, mk - k⟩) hXl PA (pl - k) pcap W
      have hdl : (ss.drop k).length = pl - k := by rw [List.length_drop, HPL.out]
      have HDL := Lib.hid hdl
      have H74 := Lib.hid hXl
      have HLL := Lib.hid (lnR_len (x := (⟨AFT, encZ AFT, ss.drop k, mk - k⟩, .slice PA (pl - k) pcap)) hXl)
      have HL1 := Lib.hid (lnR_one (x := (⟨AFT, encZ AFT, ss.drop k, mk - k⟩, .slice PA (pl - k) pcap)) rfl)
      have hdw2 : d ≠ w.heap.size := by omega
      have hdb : d ≠ bw := by omega
      clear hs3 hg3 ho3 hb3 hs4 hdl HW HX HB HRK HEM a3A HA4 hXl hslc hwr
      go_wp2_with fail
      refine wp_region_held_drew (S := fun W => W.cell? ⟨p, 0, none⟩ = some (.slice (some ⟨d, o, none⟩) N cap) ∧ W.cell? ⟨w.heap.size, 10, none⟩ = some (.int .i64 (mk : Int)) ∧ W.rangeAt bw 0 (iv AFT)) (by kernel_rfl) ⟨m1, m2, m3⟩ (fun hHeld => ?_)
      generalize w3.drew = w4 at *
      refine wpAnyH_take (i := 0) (v := .pointer (some ⟨p, 0, none⟩)) rfl (by kernel_rfl) (by kernel_rfl) (by kernel_rfl) (fun _ _ _ h => h) (Or.inl ⟨by rfl, fun w hSw => by obtain ⟨h1, h2, h3⟩ := hSw; go_simp⟩) (by assumption) ?_
      change wpAnyH _ _ _ _ _ _ _ (Act.put _ (some 54) _) _
      simp only [Act.put, List.setIfInBounds_toArray, List.set_cons_zero, List.set_cons_succ]
      refine wpAnyH_take (i := 1) (v := .pointer (some ⟨p, 0, none⟩)) rfl (by kernel_rfl) (by kernel_rfl) (by kernel_rfl) (fun _ _ _ h => h) (Or.inl ⟨by rfl, fun w hSw => by obtain ⟨h1, h2, h3⟩ := hSw; go_simp⟩) (by assumption) ?_
      change wpAnyH _ _ _ _ _ _ _ (Act.put _ (some 55) _) _
      simp only [Act.put, List.setIfInBounds_toArray, List.set_cons_zero, List.set_cons_succ]
      refine wpAnyH_take (i := 2) (v := .pointer (some ⟨p, 0, none⟩)) rfl (by kernel_rfl) (by kernel_rfl) (by kernel_rfl) (fun _ _ _ h => h) (Or.inl ⟨by rfl, fun w hSw => by obtain ⟨h1, h2, h3⟩ := hSw; go_simp⟩) (by assumption) ?_
      change wpAnyH _ _ _ _ _ _ _ (Act.put _ (some 56) _) _
      simp only [Act.put, List.setIfInBounds_toArray, List.set_cons_zero, List.set_cons_succ]
      refine wpAnyH_take (i := 3) (v := .slice (some ⟨d, o, none⟩) N cap) rfl (by kernel_rfl) (by kernel_rfl) (by kernel_rfl) (fun _ _ _ h => h) (Or.inl ⟨by rfl, fun w hSw => by obtain ⟨h1, h2, h3⟩ := hSw; go_simp⟩) (by assumption) ?_
      change wpAnyH _ _ _ _ _ _ _ (Act.put _ (some 57) _) _
      simp only [Act.put, List.setIfInBounds_toArray, List.set_cons_zero, List.set_cons_succ]
      refine wpAnyH_take (i := 4) (v := .int .i64 (i : Int)) rfl (by kernel_rfl) (by kernel_rfl) (by kernel_rfl) (fun _ _ _ h => h) (Or.inl ⟨by rfl, fun w hSw => by obtain ⟨h1, h2, h3⟩ := hSw; go_simp⟩) (by assumption) ?_
      change wpAnyH _ _ _ _ _ _ _ (Act.put _ (some 58) _) _
      simp only [Act.put, List.setIfInBounds_toArray, List.set_cons_zero, List.set_cons_succ]
      refine wpAnyH_take (i := 5) (v := .agg (iv AFT).toArray) rfl (by kernel_rfl) (by kernel_rfl) (by kernel_rfl) (fun _ _ _ h => h) (yieldsIf_load_mid (by rfl) _ _ rfl _ _ rfl _ _ (fun w h => h.2.2) H22.out rfl HIA.out) (by assumption) ?_
      change wpAnyH _ _ _ _ _ _ _ (Act.put _ (some 59) _) _
      simp only [Act.put, List.setIfInBounds_toArray, List.set_cons_zero, List.set_cons_succ]
      refine wpAnyH_take (i := 6) (v := .agg (iv AFT).toArray) rfl (by kernel_rfl) (by kernel_rfl) (by kernel_rfl) (fun _ _ _ h => h) (yieldsIf_load_mid (by rfl) _ _ rfl _ _ rfl _ _ (fun w h => h.2.2) H22.out rfl HIA.out) (by assumption) ?_
      change wpAnyH _ _ _ _ _ _ _ (Act.put _ (some 60) _) _
      simp only [Act.put, List.setIfInBounds_toArray, List.set_cons_zero, List.set_cons_succ]
      refine wpAnyH_take (i := 8) (v := .slice PA (pl - k) pcap) rfl (by kernel_rfl) (by kernel_rfl) (by kernel_rfl) (fun _ _ _ h => h) (Or.inl ⟨by rfl, fun w hSw => by obtain ⟨h1, h2, h3⟩ := hSw; go_simp⟩) (by assumption) ?_
      change wpAnyH _ _ _ _ _ _ _ (Act.put _ (some 62) _) _
      simp only [Act.put, List.setIfInBounds_toArray, List.set_cons_zero, List.set_cons_succ]
      refine wpAnyH_take (i := 9) (v := .pointer (some ⟨w.heap.size, 10, none⟩)) rfl (by kernel_rfl) (by kernel_rfl) (by kernel_rfl) (fun _ _ _ h => h) (Or.inl ⟨by rfl, fun w hSw => by obtain ⟨h1, h2, h3⟩ := hSw; go_simp⟩) (by assumption) ?_
      change wpAnyH _ _ _ _ _ _ _ (Act.put _ (some 63) _) _
      simp only [Act.put, List.setIfInBounds_toArray, List.set_cons_zero, List.set_cons_succ]
      refine wpAnyH_take (i := 10) (v := .int .i64 (mk : Int)) rfl (by kernel_rfl) (by kernel_rfl) (by kernel_rfl) (fun _ _ _ h => h) (Or.inl ⟨by rfl, fun w hSw => by obtain ⟨h1, h2, h3⟩ := hSw; go_simp⟩) (by assumption) ?_
      change wpAnyH _ _ _ _ _ _ _ (Act.put _ (some 64) _) _
      simp only [Act.put, List.setIfInBounds_toArray, List.set_cons_zero, List.set_cons_succ]
      refine wpAnyH_take (i := 11) (v := .int .i64 (k : Int)) rfl (by kernel_rfl) (by kernel_rfl) (by kernel_rfl) (fun _ _ _ h => h) (Or.inl ⟨by rfl, fun w hSw => by obtain ⟨h1, h2, h3⟩ := hSw; go_simp⟩) (by assumption) ?_
      change wpAnyH _ _ _ _ _ _ _ (Act.put _ (some 65) _) _
      simp only [Act.put, List.setIfInBounds_toArray, List.set_cons_zero, List.set_cons_succ]
      refine wpAnyH_take (i := 12) (v := .int .i64 ((mk : Int) - (k : Int))) rfl (by kernel_rfl) (by kernel_rfl) (by kernel_rfl) (fun _ _ _ h => h) (Or.inl ⟨by rfl, fun w hSw => by obtain ⟨h1, h2, h3⟩ := hSw; go_simp⟩) (by assumption) ?_
      change wpAnyH _ _ _ _ _ _ _ (Act.put _ (some 66) _) _
      simp only [Act.put, List.setIfInBounds_toArray, List.set_cons_zero, List.set_cons_succ]
      refine wpAnyH_take (i := 13) (v := .int .i64 ((mk - k : Nat) : Int)) rfl (by kernel_rfl) (by kernel_rfl) (by kernel_rfl) (fun _ _ _ h => h) (Or.inl ⟨by rfl, fun w hSw => by obtain ⟨h1, h2, h3⟩ := hSw; go_simp; omega⟩) (by assumption) ?_
      change wpAnyH _ _ _ _ _ _ _ (Act.put _ (some 67) _) _
      simp only [Act.put, List.setIfInBounds_toArray, List.set_cons_zero, List.set_cons_succ]
      refine wpAnyH_ready (rs := [7]) (by kernel_rfl) (by simp) ?_
      refine AllReadyH.cons rfl (fun K hK => ?_) AllReadyH.nil
      go_simp
      refine (HENC.out _).mono ?_
      rintro e w5 ⟨rfl, hb⟩
      refine hK.out _ _ ⟨cell_below hb m1, cell_below hb m2, range_below hb m3⟩ (fun hHeld1 => ?_)
      clear hK K hHeld
      have HB5 := Lib.hid (bel_on HB3.out hb)
      have HS5 : Hid (Sl w5 66 2 (.slice PA (pl - k) pcap) (ss.drop k).length (iv (flatS (ss.drop k)))) := Lib.hid (by rw [HDL.out]; exact HS4.out.keep fun q hq => hb.block q (HS4.out.lt hq))
      clear hb
      refine wpAnyH_take (i := 14) (v := .agg (lnR (⟨AFT, encZ AFT, ss.drop k, mk - k⟩, .slice PA (pl - k) pcap)).toArray) rfl (by kernel_rfl) (by kernel_rfl) (by kernel_rfl) (fun _ _ _ h => h) (yields_build (by rfl) _ _ rfl (fun w => by simpa [Act.eval] using HBU.out w)) (by assumption) ?_
      change wpAnyH _ _ _ _ _ _ _ (Act.put _ (some 68) _) _
      simp only [Act.put, List.setIfInBounds_toArray, List.set_cons_zero, List.set_cons_succ]
      refine wpAnyH_take (i := 15) (v := .pointer (some ⟨d, o + i * 11, none⟩)) rfl (by kernel_rfl) (by kernel_rfl) (by kernel_rfl) (fun _ _ _ h => h) (Or.inl ⟨by rfl, fun w hSw => by obtain ⟨h1, h2, h3⟩ := hSw; go_simp⟩) (by assumption) ?_
      change wpAnyH _ _ _ _ _ _ _ (Act.put _ (some 69) _) _
      simp only [Act.put, List.setIfInBounds_toArray, List.set_cons_zero, List.set_cons_succ]
      obtain ⟨hput, hthere⟩ := HPUT.out w5 HB5.out ⟨AFT, encZ AFT, ss.drop k, mk - k⟩ (.slice PA (pl - k) pcap) H74.out HS5.out HO3.out
      refine wpAnyH_ready (rs := [16]) (by kernel_rfl) (by simp) ?_
      refine AllReadyH.cons rfl (fun K hK => ?_) AllReadyH.nil
      refine wp_store_mid 51 _ _ rfl d (o + i * 11) (lnR (⟨AFT, encZ AFT, ss.drop k, mk - k⟩, .slice PA (pl - k) pcap)).toArray rfl rfl (by rw [List.size_toArray, HLL.out]; exact hthere) (by rw [List.size_toArray, HLL.out]; exact HS51.out) (all_oneCell_toArray HL1.out) ?_
      refine hK.out _ _ ⟨(cell_of_block (heap_setCells (by exact hpd) _ _ _)).trans hHeld1.1, (cell_of_block (heap_setCells (by exact hdw2.symm) _ _ _)).trans hHeld1.2.1, fun j v hv => (cell_of_block (heap_setCells (by exact hdb.symm) _ _ _)).trans (hHeld1.2.2 j v hv)⟩ (fun hHeld2 => ?_)
      clear hK K hHeld1
      have HFIN : Hid (RStep F w p MU (w5.setCells d (o + i * 11) (lnR (⟨AFT, encZ AFT, ss.drop k, mk - k⟩, .slice PA (pl - k) pcap)).toArray.toList)) := Lib.hid (by
        rw [HUP.out]
        refine ⟨⟨_, _, _, _, _, hput.keep (fun _ _ => rfl) (fun q hq => ?_) (fun q hq => ?_)⟩, (Kept.of_below HB5.out).then_ (Kept.setCells HOD.out _ _ _)⟩
        · rcases hq with h1 | h1
          · exact .inl h1
          · exact .inr ⟨h1.1, by rw [size_setCells]; exact h1.2⟩
        · rw [size_setCells] at *
          exact hput.lt q (by
            rcases hq with h1 | h1
            · exact .inl h1
            · exact .inr ⟨h1.1, by have := h1.2; rw [size_setCells] at this; exact this⟩) |> fun h => by rw [size_setCells] at h; exact h)
      refine wpAnyH_done (by kernel_rfl) ?_ _
      go_wp2_with fail
      refine bodyPost_end (results_none rfl _ _ _) rfl ?_
      exact ⟨rfl, HFIN.out⟩
end Go.Proofs.YtmnncbgibngmiaaGreatDoor
