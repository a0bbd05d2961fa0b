/-
  MemoryKeepsPrefixes answers true: the walk.
-/
import Derived.Test.YtmnncbgibngmiaaDoorQN34
import Derived.StillTailTactics
namespace Go.Proofs.YtmnncbgibngmiaaDoor
open Go.RowKit Go.Maps
set_option maxRecDepth 100000 in
set_option maxHeartbeats 8000000 in
set_option linter.unusedSimpArgs false in
theorem lawKeeps (z : Int) (v kv : Value) (xs : List POp) (ks : List Int) (w : World) (hs : Script w v xs) (hk : Rd w kv ks.length (iv ks)) (hT : Tab w) :
    Calls Tryd.prog 5 #[.int .i64 z, v, kv] w fun e w' => e = .returned (.bool true) ∧ Below w.heap.size w w' := by
  have HBE := Lib.hid (begun_any z v xs w hs hT)
  have HK := Lib.hid hk
  clear hs hT hk
  go_enter Tryd.func5, Tryd.ntmps5
  go_wp2_with fail
  refine HBE.out.mono ?_
  rintro e w1 ⟨p, m, F, rfl, hh, hsm, hle⟩
  have H1 := Lib.hid hh
  have HSM := Lib.hid hsm
  have HL8 := Lib.hid hle
  have HCU := Lib.hid (cuts_any p ks kv m F w1 hh.ok (hsm.mono (by omega)) hh.rep (HK.out.below hh.below))
  clear HBE hh hsm hle HK
  go_wp2_with fail
  refine HCU.out.mono ?_
  rintro e w2 ⟨cv, g, rfl, hg, hsc, hso, hb⟩
  have H2 := Lib.hid (H1.out.stay hb)
  have HFL : Hid (∀ q, F q → q < w1.heap.size) := Lib.hid H1.out.rep.lt
  have h12 := hb.size
  obtain ⟨hc0, hc1, hc2, hc3⟩ := crash_at (K := ks.length) hg
  have hws := wants_seen H1.out.ok (K := ks.length) hg
  have hcf := cuts_are (K := ks.length) hg
  have hcp : ∀ i, i < m.L.length → ((crashP m (cutsTo m ks.length g m.L.length)).2.line i).pend = [] := fun i hi => by rw [hc3 i hi]; rfl
  have hgd := crash_good H1.out.ok HSM.out (cutsTo m ks.length g m.L.length)
  have hcn := cutsTo_len m ks.length g m.L.length
  obtain ⟨cs, hcs⟩ : ∃ cs, cutsTo m ks.length g m.L.length = cs := ⟨_, rfl⟩
  rw [hcs] at hsc hc0 hc1 hc2 hws hcf hcp hgd hcn
  have hci : ∀ c ∈ cs, I64 c.1 ∧ I64 c.2 := fun c hc => by
    obtain ⟨i, kp, h1, h2, rfl⟩ := hcf c hc
    have h3 := HSM.out.pend _ (PM.line_mem h1)
    have h4 := HL8.out
    exact ⟨small_i64 (show (0 : Int) ≤ (i : Int) ∧ (i : Int) < 100 by omega), small_i64 (show (0 : Int) ≤ (kp : Int) ∧ (kp : Int) < 100 by omega)⟩
  have HCI := Lib.hid hci
  have HC0 := Lib.hid hc0
  have HC1 := Lib.hid hc1
  have HC2 := Lib.hid hc2
  have HWS := Lib.hid hws
  have HCF := Lib.hid hcf
  have HCP := Lib.hid hcp
  have HGO := Lib.hid hgd.ok
  have HGS := Lib.hid hgd.small
  have HCR := Lib.hid (Rd.of_sl hsc)
  have HCO : Hid (∀ q, 0 < cs.length → cv.ownBlock = some q → w1.heap.size ≤ q ∧ q < w2.heap.size) := Lib.hid fun q hn hq => ⟨hso q hq, hsc.lt hq⟩
  obtain ⟨CA, ccap, rfl, hccp, hccm, _⟩ := hsc.shape
  have hcn8 : cs.length ≤ 8 := by have := HL8.out; omega
  clear hb hg hc0 hc1 hc2 hc3 hws hcf hcp hgd hcs hci hsc hso hcn H1 HCU
  go_wp2_with fail
  refine (image_any p m F w2 H2.out.ok.few H2.out.rep).mono ?_
  rintro e w3 ⟨va, rfl, hsa, _, hb⟩
  have H3 := Lib.hid (H2.out.stay hb)
  have himl : (imgOf m).length = m.L.length := List.length_map ..
  have hfr := from_any (imgOf m) va w3 (fun x hx => (imgOf_ok H2.out.ok x hx).1) (by rw [himl]; have := HL8.out; omega) (by rw [himl, imgOf_flat]; exact Rd.of_sl hsa)
  have HFR := Lib.hid hfr
  have HCR3 := Lib.hid (HCR.out.below hb)
  have h23 := hb.size
  clear hb hsa hfr himl H2 HCR
  go_wp2_with fail
  refine HFR.out.mono ?_
  rintro e w4 ⟨hp, hb⟩
  rcases hp with ⟨_, p2, rfl, hr2⟩ | ⟨h9, _⟩
  case inr => rw [rightI H3.out.ok] at h9; cases h9
  have H4 := Lib.hid (H3.out.stay hb)
  obtain ⟨f1, f2, f3⟩ := fromP_ok (fun x hx => (imgOf_ok H3.out.ok x hx).1) (rightI H3.out.ok)
  have HR2 := Lib.hid hr2
  have HO2 := Lib.hid f1
  have HCR4 := Lib.hid (HCR3.out.below hb)
  have h34 := hb.size
  clear hb hr2 f1 f2 f3 H3 HFR HCR3
  go_wp2_with fail
  refine (seen_any p2 (fromP (imgOf m)) _ w4 HO2.out HR2.out H4.out.tab).mono ?_
  rintro e w5 ⟨wv, rfl, hsw, hwo, hb⟩
  rw [fromI_len, fromI_seen] at hsw
  have H5 := Lib.hid (H4.out.stay hb)
  have HCR5 := Lib.hid (HCR4.out.below hb)
  have h45 := hb.size
  obtain ⟨N, hN⟩ : ∃ N, m.L.length = N := ⟨_, rfl⟩
  have hN1 : 1 ≤ N := by rw [← hN]; exact H4.out.ok.pos
  rw [hN] at hsw
  obtain ⟨WA, wcap, rfl, hwcp, hwcm, hnone, hsome⟩ := hsw.shape
  cases hWA : WA with
  | none => have := (hnone hWA).1; omega
  | some ad =>
  obtain ⟨hsp, hown, _⟩ := hsome ad hWA
  obtain ⟨bw, ow, sp⟩ := ad
  simp only at hsp
  subst hsp hWA
  have hbw0 : w4.heap.size ≤ bw := hwo bw rfl
  have hbw1 : bw < w5.heap.size := hsw.lt rfl
  have HNN := Lib.hid hN
  have HL8N : N ≤ 8 := by rw [← hN]; exact HL8.out
  have HLI := Lib.hid (lines_any p m F w5 H5.out.rep)
  rw [hN] at HLI
  have HW5 := Lib.hid hsw
  have H4t : Hid (1 < w4.heap.size) := Lib.hid H4.out.tab.lt
  have H4z : Hid (w.heap.size ≤ w4.heap.size) := Lib.hid H4.out.below.size
  clear hb hwo hsw hnone hsome hown hN HR2 HO2 H4 HCR4
  go_wp2_with (go_at_call 13; refine HLI.out.mono ?_; rintro e w' ⟨rfl, hw'⟩; obtain rfl := hw'.symm)
  have hS0 : wantSt m (baseS m) (cs.take 0) = baseS m := rfl
  have HW0 : Hid (Sl w5 47 8 (.slice (some ⟨bw, ow, none⟩) N wcap) N (iv (wantSt m (baseS m) (cs.take 0)).flatten)) := Lib.hid (by rw [hS0]; exact HW5.out)
  have HK0 : Hid (Kept (fun b => b = bw) w5 w5) := Lib.hid (Kept.refl _ _)
  have hu47 := Tryd.underlying47
  obtain ⟨n, hn⟩ : ∃ n, cs.length = n := ⟨_, rfl⟩
  have HN := Lib.hid hn
  rw [hn] at hccp hcn8 HCR5 HCO ⊢
  clear hS0 HW5 hn HLI
  go_loopw [38] (fun i wr => ∃ t : Nat, i = .int .i64 (t : Int) ∧ t ≤ n ∧ Hid (Sl wr 47 8 (.slice (some ⟨bw, ow, none⟩) N wcap) N (iv (wantSt m (baseS m) (cs.take t)).flatten)) ∧ Hid (Kept (fun b => b = bw) w5 wr)) (fun i _ => n - (intOf i).toNat)
  case atStart => exact ⟨0, rfl, by omega, HW0, HK0⟩
  case round =>
    clear HW0 HK0
    obtain ⟨t, rfl, ht, HW, HK⟩ := hrel
    by_cases hlt : t < n
    · have hkc : t < cs.length := by rw [HN.out]; exact hlt
      have htI : (t : Int) < (n : Int) := by omega
      obtain ⟨_, _, hv9, _, _, hrr⟩ := HCR5.out.stayK HK.out (fun q hn hq e => by have h1 := HCO.out q hn hq; omega)
      simp only [Value.slice.injEq, true_and] at hv9
      obtain ⟨rfl, rfl⟩ := hv9
      obtain ⟨bb, oo, rfl, hbb, hsw⟩ := hrr (by omega)
      obtain ⟨cl0, cl1⟩ := rd_get hkc hsw
      obtain ⟨i, kp, hi, hkp, hce⟩ := HCF.out _ (List.getElem_mem hkc)
      have hst := wantSt_take (m := m) (S := baseS m) hkc hce
      obtain ⟨hwl, hw8⟩ := wantSt_8 (m := m) (cs.take t) (baseS m) (baseS_8 H5.out.ok) (fun c hc => by
        obtain ⟨i, kp, hi, _, rfl⟩ := HCF.out c (List.mem_of_mem_take hc)
        rw [baseS_len]
        show (i : Int).toNat < _
        omega)
      rw [baseS_len, HNN.out] at hwl
      rw [hce] at cl0 cl1
      rw [HNN.out] at hi
      have hiI : (i : Int) < (N : Int) := by omega
      have hps := HSM.out.pend _ (PM.line_mem (by rw [HNN.out]; exact hi))
      have hsp := (H5.out.ok.line (by rw [HNN.out]; exact hi)).pend
      have hpk := pend_k (m := m) (k := i) (by rw [HNN.out]; exact hi)
      have HST := Lib.hid hst
      have HSP := Lib.hid hsp
      generalize wantSt m (baseS m) (cs.take t) = S at *
      have HB1 := Lib.hid (bel_new wr (.cells #[.int .i64 (i : Int), .int .i64 (kp : Int)] 52))
      have hA1 := Arr.new wr [.int .i64 (i : Int), .int .i64 (kp : Int)] 52
      have hH1 := (H5.out.other HK.out (fun k h1 h2 => by have h3 := HFL.out k h1; omega) (fun h => by have := H4t.out; omega) (fun k hk => by have := H5.out.below.size; subst hk; have := H4z.out; omega)).stay HB1.out
      have hpn := pending_any p (i : Int) m F _ (small_i64 (by omega)) H5.out.ok.few (by rw [hpk]; omega) hH1.rep
      rw [hpk] at hpn
      generalize (m.line i).pend = ps at *
      have HPN := Lib.hid hpn
      have HA1 := Lib.hid hA1
      have hbwr : bw < wr.heap.size := HW.out.lt rfl
      have HW8 := Lib.hid hw8
      have HWL := Lib.hid hwl
      have HPS := Lib.hid hps
      have HKP := Lib.hid hkp
      clear hsw hst hce hA1 hpn hpk hsp hw8 hwl hH1 hps hrr
      go_wp2_with fail
      refine HPN.out.mono ?_
      rintro e wo ⟨pv, rfl, hspv, hpo, hb⟩
      have x0 := cell_below hb (HA1.out.cell (j := 0) (u := .int .i64 (i : Int)) rfl)
      have x1 := cell_below hb (HA1.out.cell (j := 1) (u := .int .i64 (kp : Int)) rfl)
      have hwo : wr.heap.size < wo.heap.size := by have := hb.size; have h2 : (wr.alloc (.cells #[.int .i64 (i : Int), .int .i64 (kp : Int)] 52)).heap.size = wr.heap.size + 1 := by simp
                                                   omega
      have HBo := Lib.hid (bel_on HB1.out hb)
      have HWo := Lib.hid (HW.out.keep fun q hq => HBo.out.block q (HW.out.lt hq))
      have HKo := Lib.hid (HK.out.then_ (Kept.of_below HBo.out))
      have HPV := Lib.hid (Rd.of_sl hspv)
      have HPO : Hid (∀ q, pv.ownBlock = some q → q ≠ bw ∧ q < wo.heap.size) := Lib.hid fun q hq => ⟨by have h1 := hpo q hq; have h2 := HB1.out.size; omega, hspv.lt hq⟩
      obtain ⟨PA, pcap, rfl, hppc, hppm, _⟩ := hspv.shape
      have HX0 := Lib.hid x0
      have HX1 := Lib.hid x1
      obtain ⟨bx, hbx⟩ : ∃ bx, wr.heap.size = bx := ⟨_, rfl⟩
      rw [hbx] at HX0 HX1 hbwr hwo ⊢
      clear hb hspv hpo HW HK HB1 HA1 HPN x0 x1 HBo hbx
      obtain ⟨pl, hpl⟩ : ∃ pl, ps.length = pl := ⟨_, rfl⟩
      have HPL := Lib.hid hpl
      rw [hpl] at hkp hppc HPV HPO ⊢
      have hpl80 : pl ≤ 80 := by rw [← hpl]; exact HPS.out
      have hiS : i < S.length := by rw [HWL.out]; exact hi
      have HI := Lib.hid hiS
      have HWq : Hid (Sl wo 47 8 (.slice (some ⟨bw, ow, none⟩) N wcap) N (iv (wantIn S i ps 0).flatten)) := Lib.hid (by rw [wantIn_zero ps hiS]; exact HWo.out)
      have HKq : Hid (Kept (fun b => b = bw) wo wo) := Lib.hid (Kept.refl _ _)
      clear hpl HWo hiS HKP HPS
      go_wp2_with fail
      go_loopw [14] (fun u wr => ∃ q : Nat, u = .int .i64 (q : Int) ∧ q ≤ kp ∧ Hid (Sl wr 47 8 (.slice (some ⟨bw, ow, none⟩) N wcap) N (iv (wantIn S i ps q).flatten)) ∧ Hid (Kept (fun b => b = bw) wo wr)) (fun u _ => kp - (intOf u).toNat)
      case atStart => exact ⟨0, rfl, by omega, HWq, HKq⟩
      case round =>
        clear HWq HKq
        obtain ⟨q, rfl, hq, HWq, HKq⟩ := hrel
        have x0 : wr.cell? ⟨bx, 0, none⟩ = some (.int .i64 (i : Int)) := (cell_of_block (HKq.out.block bx hwo (by omega))).trans HX0.out
        have x1 : wr.cell? ⟨bx, 1, none⟩ = some (.int .i64 (kp : Int)) := (cell_of_block (HKq.out.block bx hwo (by omega))).trans HX1.out
        by_cases hlt2 : q < kp
        · have hqI : (q : Int) < (kp : Int) := by omega
          have hqp : (q : Int) < (pl : Int) := by omega
          have hql : q < ps.length := by rw [HPL.out]; omega
          obtain ⟨_, _, hv9, _, _, hrr⟩ := HPV.out.stayK HKq.out (fun k hn hk e => (HPO.out k hk).1 e)
          simp only [Value.slice.injEq, true_and] at hv9
          obtain ⟨rfl, rfl⟩ := hv9
          obtain ⟨bp, op, rfl, hbp, hsw⟩ := hrr (by omega)
          obtain ⟨pl0, pl1⟩ := rd_get hql hsw
          obtain ⟨s0, s1, s2⟩ := HSP.out _ (List.getElem_mem hql)
          obtain ⟨wd, hwd⟩ : ∃ wd : Nat, ps[q].1 = wd := ⟨ps[q].1.toNat, by omega⟩
          have hstep := wantIn_step (S := S) (ps := ps) HI.out hql
          rw [hwd] at pl0 s1
          rw [hwd, Int.toNat_natCast] at hstep
          have hand := and7 (d := wd) (by omega)
          have hw8 : (wd : Int) < 8 := by omega
          have hset := set_iv (z := ps[q].2) (j := wd) (wantIn_8 ps q HW8.out HI.out) (by rw [wantIn_len]; exact HI.out) (by omega)
          rw [hstep] at hset
          generalize ps[q].2 = val at *
          have hfree := HWq.out.free (ow + i * 8 + wd)
          have hW2 := HWq.out.set (i * 8 + wd) (.int .i64 val)
          rw [hset, ← Nat.add_assoc] at hW2
          have hcell : ∃ u, wr.cell? ⟨bw, ow + i * 8 + wd, none⟩ = some u := by
            have h9 : i * 8 + wd < (iv (wantIn S i ps q).flatten).length := by
              rw [HWq.out.1]
              omega
            have h10 := HWq.out.cells rfl (i * 8 + wd) _ (List.getElem?_eq_getElem h9)
            rw [← Nat.add_assoc] at h10
            exact ⟨_, h10⟩
          obtain ⟨old, hold⟩ := hcell
          have HW2 := Lib.hid hW2
          have HK2 : Hid (Kept (fun b => b = bw) wo (wr.drew.setCell ⟨bw, ow + i * 8 + wd, none⟩ (.int .i64 val))) := Lib.hid ((HKq.out.then_ (Kept.of_below (bel_drew wr))).then_ (Kept.setCell wr.drew _ rfl))
          clear hstep hset hwd s0 s1 s2 hsw hql hW2 hrr
          go_wp2_with fail
          go_still_tail 16, (by kernel_rfl)
          change wpList _ _ _ _ _ wr.drew
          go_wp2_with fail
          go_roundw
          case rel => exact ⟨q + 1, by simp, by omega, HW2, HK2⟩
          case measure => simp [intOf]; omega
        · obtain rfl : q = kp := by omega
          have HW2 : Hid (Sl wr 47 8 (.slice (some ⟨bw, ow, none⟩) N wcap) N (iv (wantSt m (baseS m) (cs.take (t + 1))).flatten)) := Lib.hid (by rw [HST.out]; exact HWq.out)
          have HK2 := Lib.hid (HKo.out.then_ HKq.out)
          go_wp2_with fail
          go_roundw
          case rel => exact ⟨t + 1, by simp, by omega, HW2, HK2⟩
          case measure => simp [intOf]; omega
    · obtain rfl : t = n := by omega
      have htk : cs.take t = cs := List.take_of_length_le (by rw [HN.out]; exact Nat.le_refl _)
      have H6 := Lib.hid (H5.out.other HK.out (fun k h1 h2 => by have h3 := HFL.out k h1; omega) (fun h => by have := H4t.out; omega) (fun k hk => by have := H5.out.below.size; subst hk; have := H4z.out; omega))
      have hsw := HW.out
      rw [htk, HWS.out] at hsw
      have HSW : Hid (Out wr F 47 8 (.slice (some ⟨bw, ow, none⟩) N wcap) N (iv (crashP m cs).2.seen.flatten)) := Lib.hid ⟨hsw, fun q hq hF => by
        have h1 := HFL.out q hF
        simp only [Value.ownBlock, Option.map_some, Option.some.injEq] at hq
        omega⟩
      have hrd := HCR5.out.stayK HK.out (fun q hn hq e => by have h1 := HCO.out q hn hq; omega)
      rw [← HN.out] at hrd HCO
      have hcr := crash_any p cs (.slice CA cs.length ccap) m F wr H6.out.ok H6.out.rep H6.out.tab H6.out.not1 hrd (fun q hn hq hF => by
        have h1 := HFL.out q hF
        have h2 := HCO.out q hn hq
        omega) HCI.out
      rw [HC0.out] at hcr
      rw [HNN.out] at HC1
      rw [HN.out] at hcr
      have HCR := Lib.hid hcr
      have HPE : Hid (∀ k, k < N → pendP (crashP m cs).2 (k : Int) = []) := Lib.hid fun k hk => by
        rw [pend_k (by rw [HC1.out]; exact hk)]
        exact HCP.out k (by rw [HNN.out]; exact hk)
      clear htk hsw hcr hrd HW HK HCO HWS HCP HCF HCI HC0 H5 HCR5
      generalize (crashP m cs).2 = m7 at *
      go_wp2_with fail
      refine HCR.out.mono ?_
      rintro e w6 ⟨rfl, hst⟩
      have H7 := Lib.hid (H6.out.step hst HGO.out)
      have HO7 := Lib.hid (HSW.out.step hst)
      obtain ⟨F7, hF7⟩ : ∃ F7, F7 = Ex F wr w6 := ⟨_, rfl⟩
      rw [← hF7] at H7 HO7
      clear hst hF7 H6 HSW HCR
      have hsl : m7.seen.length = N := by unfold PM.seen; rw [List.length_map]; exact HC1.out
      have HSL := Lib.hid hsl
      clear hsl
      go_wp2_with fail
      refine (seen_any p m7 F7 w6 H7.out.ok H7.out.rep H7.out.tab).mono ?_
      rintro e w7 ⟨sa, rfl, hsa, _, hb⟩
      rw [HC1.out] at hsa
      have H8 := Lib.hid (H7.out.stay hb)
      have HO8 := HO7.out.stay hb
      have HSS := Lib.hid (sameSeen_any m7.seen sa (.slice (some ⟨bw, ow, none⟩) N wcap) w7 (seen_ok HGO.out) (by rw [HSL.out]; omega) (by rw [HSL.out]; exact Rd.of_sl hsa) (by rw [HSL.out]; exact Rd.of_sl HO8.sl))
      clear hb hsa H7 HO7 HO8
      go_wp2_with fail
      refine HSS.out.mono ?_
      rintro e w8 ⟨rfl, hb⟩
      have H9 := Lib.hid (H8.out.stay hb)
      have hev := events_any p m7 F7 w8 (by rw [HC2.out]; decide) H9.out.rep
      rw [HC2.out] at hev
      have HEV := Lib.hid hev
      clear hb hev H8 HSS
      go_wp2_with fail
      refine HEV.out.mono ?_
      rintro e w9 ⟨ev, rfl, hse, _, hb⟩
      obtain ⟨EA, ecap, rfl, _⟩ := hse.shape
      have H10 := Lib.hid (H9.out.stay hb)
      have HLI := Lib.hid fun (W : World) (h : Rep W p m7 F7) => lines_any p m7 F7 W h
      rw [HC1.out] at HLI
      have h4096 := HGO.out.few
      have HFW := Lib.hid h4096
      clear hb hse H9 HEV h4096
      go_wp2_with fail
      go_loopw [15] (fun u wr => ∃ k : Nat, u = .int .i64 (k : Int) ∧ k ≤ N ∧ Hid (Has w wr p m7 F7)) (fun u _ => N - (intOf u).toNat)
      case atStart => exact ⟨0, rfl, by omega, H10⟩
      case round =>
        clear H10
        obtain ⟨k, rfl, hk, H⟩ := hrel
        have HL1 := Lib.hid (HLI.out _ H.out.rep)
        by_cases hlt3 : k < N
        · have hkI : (k : Int) < (N : Int) := by omega
          have hpn := pending_any p (k : Int) m7 F7 wr (small_i64 (by omega)) HFW.out (by rw [HPE.out k hlt3]; decide) H.out.rep
          rw [HPE.out k hlt3] at hpn
          have HPN := Lib.hid hpn
          clear hpn
          go_wp2_with (go_at_call 13; refine HL1.out.mono ?_; rintro e w' ⟨rfl, hw'⟩; obtain rfl := hw'.symm)
          refine HPN.out.mono ?_
          rintro e u1 ⟨pv, rfl, hs1, _, hb⟩
          obtain ⟨A9, cap9, rfl, _⟩ := hs1.shape
          have U1 := Lib.hid (H.out.stay hb)
          clear hb hs1 H HPN HL1
          go_wp2_with fail
          go_roundw
          case rel => exact ⟨k + 1, by simp, by omega, U1⟩
          case measure => simp [intOf]; omega
        · obtain rfl : k = N := by omega
          have HS := Lib.hid (sanity_any wr H.out.tab)
          go_wp2_with (go_at_call 13; refine HL1.out.mono ?_; rintro e w' ⟨rfl, hw'⟩; obtain rfl := hw'.symm)
          refine HS.out.mono ?_
          rintro e u1 ⟨rfl, hb⟩
          have U1 := Lib.hid (H.out.stay hb)
          clear hb HS
          go_wp2_with fail
          go_ret
          exact ⟨rfl, U1.out.below⟩
end Go.Proofs.YtmnncbgibngmiaaDoor
