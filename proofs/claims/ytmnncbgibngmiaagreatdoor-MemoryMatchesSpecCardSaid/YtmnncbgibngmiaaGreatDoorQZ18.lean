/-
  MemoryMatchesSpec answers true: the walk.
-/
import Derived.Test.YtmnncbgibngmiaaGreatDoorQZ17
namespace Go.Proofs.YtmnncbgibngmiaaGreatDoor
open Go.RowKit Go.Maps
set_option maxRecDepth 100000 in
set_option maxHeartbeats 8000000 in
set_option linter.unusedSimpArgs false in
theorem lawMatches (z : Int) (v : Value) (xs : List POp) (w : World) (hs : Script w v xs) (hT : Tab w) :
    Calls Tryz.prog 3 #[.int .i64 z, v] w fun e w' => e = .returned (.bool true) ∧ Below w.heap.size w w' := by
  have HS := Lib.hid hs
  have HT0 := Lib.hid hT
  have HNW := Lib.hid (new_any z w)
  obtain ⟨cvs, hc1, hc2, hc3, _⟩ := hs
  obtain ⟨A, cap, rfl, hcap, hcm, _⟩ := hc2
  have hxl : xs.length ≤ 9223372036854775807 := by unfold maxLen at hcm; omega
  have HX := Lib.hid hc3
  have hu61 := Tryz.underlying42
  obtain ⟨N, hN⟩ : ∃ N, xs.length = N := ⟨_, rfl⟩
  have HN := Lib.hid hN
  rw [hN] at hcap hxl ⊢
  clear hT hc1 hc3 hN
  go_enter Tryz.func3, Tryz.ntmps3
  go_wp2_with fail
  refine HNW.out.mono ?_
  rintro e w1 ⟨hp, hb⟩
  have HRN := Lib.hid (rNew_any z w1)
  have HB1 := Lib.hid hb
  rcases hp with ⟨n, rfl, hn1, hn2, p, rfl, hr⟩ | ⟨hz, rfl⟩
  case inr =>
    clear hb HNW
    go_wp2_with fail
    refine HRN.out.mono ?_
    rintro e w2 ⟨hp, hb⟩
    rcases hp with ⟨n, rfl, hn1, hn2, _⟩ | ⟨_, q, rfl, _, hq0⟩
    · omega
    have HB2 := Lib.hid (bel_on HB1.out hb)
    have HT2 := Lib.hid (HT0.out.keep HB2.out)
    clear hb HRN HB1
    by_cases hz12 : (12 : Int) < z
    · clear hz
      have HSA := Lib.hid (sanity_any _ HT2.out)
      go_wp2_with fail
      refine HSA.out.mono ?_
      rintro e u1 ⟨rfl, hb⟩
      have HU := Lib.hid (bel_on HB2.out hb)
      clear hb HSA
      go_wp2_with fail
      go_ret
      exact ⟨rfl, HU.out⟩
    · by_cases hN120 : (120 : Int) < (N : Int)
      · clear hz
        have HSA := Lib.hid (sanity_any _ HT2.out)
        go_wp2_with fail
        refine HSA.out.mono ?_
        rintro e u1 ⟨rfl, hb⟩
        have HU := Lib.hid (bel_on HB2.out hb)
        clear hb HSA
        go_wp2_with fail
        go_ret
        exact ⟨rfl, HU.out⟩
      · have HSA := Lib.hid (sanity_any _ HT2.out)
        clear hz
        go_wp2_with fail
        refine HSA.out.mono ?_
        rintro e u1 ⟨rfl, hb⟩
        have hq1 := cell_below hb hq0
        have HU := Lib.hid (bel_on HB2.out hb)
        clear hb HSA
        go_wp2_with fail
        go_ret
        exact ⟨rfl, HU.out⟩
  case inl =>
    have HP1 : Hid (Has w w1 p (newP n) (New w w1)) := Lib.hid (Has.begin HT0.out hb hr ⟨hn1, hn2⟩)
    clear hb HNW hr
    go_wp2_with fail
    refine HRN.out.mono ?_
    rintro e w2 ⟨hp, hb⟩
    rcases hp with ⟨n', hnn, _, _, q, rfl, hr⟩ | ⟨h9, _⟩
    case inr => exact absurd ⟨by omega, by omega⟩ h9
    obtain rfl : n = n' := by omega
    have HP2 := Lib.hid (HP1.out.stay hb)
    have RQ2 := Lib.hid hr
    have HDJ2 : Hid (∀ k, New w w1 k → ¬ New w1 w2 k) := Lib.hid fun k h1 h2 => by have h3 := h1.2; have h4 := h2.1; omega
    have HGN2 : Hid (∀ k, New w1 w2 k → w.heap.size ≤ k) := Lib.hid fun k h1 => by have h3 := h1.1; have h4 := HB1.out.size; omega
    clear hb hr HRN HP1 HB1 hnn
    by_cases hz12 : (12 : Int) < (n : Int)
    · have HSA := Lib.hid (sanity_any _ HP2.out.tab)
      go_wp2_with fail
      refine HSA.out.mono ?_
      rintro e u1 ⟨rfl, hb⟩
      have HU := Lib.hid (HP2.out.stay hb)
      clear hb HSA
      go_wp2_with fail
      go_ret
      exact ⟨rfl, HU.out.below⟩
    by_cases hN120 : (120 : Int) < (N : Int)
    · have HSA := Lib.hid (sanity_any _ HP2.out.tab)
      go_wp2_with fail
      refine HSA.out.mono ?_
      rintro e u1 ⟨rfl, hb⟩
      have HU := Lib.hid (HP2.out.stay hb)
      clear hb HSA
      go_wp2_with fail
      go_ret
      exact ⟨rfl, HU.out.below⟩
    have hN2 : N ≤ 120 := by omega
    obtain ⟨g1, g2, g3⟩ := newP_ok ⟨hn1, hn2⟩
    have HSM0 : Hid ((newP n).Small 0) := Lib.hid g2
    have HLE0 : Hid ((newP n).L.length ≤ 12) := Lib.hid (by rw [g3]; omega)
    have HMO0 := Lib.hid g1
    obtain ⟨d9, o9, cap9, ev9, X9, hat9⟩ := RQ2.out
    have q0 := hat9.c0
    rw [g3] at q0
    have hn0 : ¬ (n : Int) = 0 := by omega
    clear g1 g2 g3 hat9
    go_wp2_with fail
    clear q0 hn0 hz12 hN120
    obtain ⟨hf, hhf⟩ : ∃ hf : Nat, N / 2 = hf := ⟨_, rfl⟩
    have hqo : wrap64 (Int.tdiv (N : Int) 2) = (hf : Int) := by
      have h1 : Int.tdiv (N : Int) 2 = (N : Int) / 2 := Int.tdiv_eq_ediv_of_nonneg (by omega)
      rw [h1, w64 _ (by omega) (by omega)]
      omega
    have hqo2 : Int.tdiv (N : Int) 2 = (hf : Int) := by
      have h1 : Int.tdiv (N : Int) 2 = (N : Int) / 2 := Int.tdiv_eq_ediv_of_nonneg (by omega)
      rw [h1]
      omega
    have hwf : wrap64 (hf : Int) = (hf : Int) := w64 _ (by omega) (by omega)
    clear hhf
    generalize decide ((12 : Int) < (n : Int)) = b12
    generalize decide ((120 : Int) < (N : Int)) = b120
    generalize ((n : Int) == 0) = bn0
    go_loopw [50] (fun i wr => ∃ (j : Nat) (mj : PM) (F G : Nat → Prop), i = .int .i64 (j : Int) ∧ j ≤ N ∧ Hid (Has w wr p mj F) ∧ Hid (Ref wr q mj G) ∧ Hid (∀ k, F k → ¬ G k) ∧ Hid (∀ k, G k → w.heap.size ≤ k) ∧ Hid (mj.Small j) ∧ Hid (mj.L.length ≤ 12)) (fun i _ => N - (intOf i).toNat)
    case atStart => exact ⟨0, newP n, New w w1, New w1 w2, rfl, by omega, HP2, RQ2, HDJ2, HGN2, HSM0, HLE0⟩
    case round =>
      clear HP2 RQ2 HDJ2 HGN2 HSM0 HLE0 HMO0
      obtain ⟨j, mj, F, G, rfl, hj, HH, HR, HDJ, HGN, HSM, HLE⟩ := hrel
      have HMO := Lib.hid HH.out.ok
      by_cases hlt : j < N
      · have hjl : j < xs.length := by rw [HN.out]; exact hlt
        have hjI : (j : Int) < (N : Int) := by omega
        obtain ⟨bb, oo, c, rfl, hrow0, hcs0⟩ := HS.out.at hjl
        have hx := HX.out _ (List.getElem_mem hjl)
        have hi61 : (Tryz.prog.info? 42).map (·.size) = some (opV xs[j] c).length := by
          have := size61 (opV_len hx c)
          rwa [List.size_toArray] at this
        have HG := Lib.hid (doP_good HH.out.ok HSM.out xs[j] hx)
        have HX1 := Lib.hid hx
        generalize xs[j] = x at *
        clear hx hjl
        by_cases hjh : j = hf
        · subst hjh
          have hcp := copy_any p mj F wr HH.out.ok (HSM.out.mono (by omega)) HH.out.rep
          have HCP := Lib.hid hcp
          clear hcp
          go_wp2_with fail
          refine HCP.out.mono ?_
          rintro e w3 ⟨⟨pc, rfl, hrc⟩, hb⟩
          have HC3 := Lib.hid (copied HH.out hrc hb)
          have HH3 := Lib.hid (HH.out.stay hb)
          have HR3 := Lib.hid (HR.out.below hb)
          have HW3 : Hid (wr.heap.size ≤ w3.heap.size) := Lib.hid hb.size
          have HFL : Hid (∀ k, F k → k < wr.heap.size) := Lib.hid HH.out.rep.lt
          have HGL : Hid (∀ k, G k → k < wr.heap.size) := Lib.hid HR.out.lt
          have HSMM := Lib.hid (same_any pc q mj (New wr w3) G w3 HMO.out (HSM.out.mono (by omega)) (by have := HLE.out; omega) HC3.out.rep HR3.out HC3.out.tab)
          clear hb hrc HCP HH HR
          go_wp2_with fail
          refine HSMM.out.mono ?_
          rintro e w4 ⟨rfl, hb⟩
          have HC4 := Lib.hid (HC3.out.stay hb)
          have HH4 := Lib.hid (HH3.out.stay hb)
          have HR4 := Lib.hid (HR3.out.below hb)
          have HW34 : Hid (wr.heap.size ≤ w4.heap.size) := Lib.hid (Nat.le_trans HW3.out hb.size)
          have HSTO := Lib.hid (store_any pc 0 1 mj (New wr w3) w4 HMO.out (HSM.out.mono (by omega)) HC4.out.rep HC4.out.tab (small_i64 (by omega)))
          clear hb HC3 HH3 HR3 HSMM
          go_wp2_with fail
          refine HSTO.out.mono ?_
          rintro e w5 ⟨rfl, hst⟩
          have hgd := put_good HMO.out HSM.out 1 0 1 (by omega) (small_i64 (by omega))
          have HC5 := Lib.hid (HC4.out.step hst hgd.ok)
          have HH5 := Lib.hid (HH4.out.other hst.2 (fun k h1 h2 => by have h3 := HFL.out k h1; have h4 := h2.1; omega) HC4.out.not1 HC4.out.new)
          have HR5 := Lib.hid (HR4.out.kept hst.2 (fun k h1 h2 => by have h3 := HGL.out k h1; have h4 := h2.1; omega))
          have HE5 : Hid (∀ k, Ex (New wr w3) w4 w5 k → wr.heap.size ≤ k) := Lib.hid fun k h => by
            rcases h with h1 | h1
            · exact h1.1
            · have h2 := HC4.out.rep.lt
              have h3 := h1.1
              have h5 := HW34.out
              omega
          obtain ⟨F5, hF5⟩ : ∃ F5, F5 = Ex (New wr w3) w4 w5 := ⟨_, rfl⟩
          rw [← hF5] at HC5 HE5
          have HCRA := Lib.hid (crash_any pc [] (.slice none 0 0) _ F5 w5 hgd.ok HC5.out.rep HC5.out.tab HC5.out.not1 (Rd.of_sl (Sl.nil _ 81 2)) (fun q hq => by simp at hq) (fun c hc => by simp at hc))
          clear hst hF5 HC4 HH4 HR4 HSTO
          go_wp2_with fail
          refine HCRA.out.mono ?_
          rintro e w6 ⟨rfl, hst⟩
          have HH6 := Lib.hid (HH5.out.other hst.2 (fun k h1 h2 => by have h3 := HFL.out k h1; have h4 := HE5.out k h2; omega) HC5.out.not1 HC5.out.new)
          have HR6 := Lib.hid (HR5.out.kept hst.2 (fun k h1 h2 => by have h3 := HGL.out k h1; have h4 := HE5.out k h2; omega))
          clear hst hgd HC5 HH5 HR5 HCRA HE5 HFL HGL
          have hrow := range_below HH6.out.below hrow0
          have hcs := hcs0.below HH6.out.below
          have hoff : ∀ k, 0 < x.cs.length → c.ownBlock = some k → ¬ F k := fun k hn hq hF => by
            have h1 := HH6.out.new k hF
            have h2 := hcs0.lt hn hq
            omega
          have HDO := Lib.hid (do_any p x c mj F w6 HX1.out HH6.out.ok (HSM.out.mono (by omega)) HH6.out.rep HH6.out.tab HH6.out.not1 hcs hoff)
          clear hcs hoff
          go_wp2_with ((with_reducible refine arm_range 42 bb (oo + j * 12) (opV x c) hrow _ hu61 rfl hi61 rfl _ rfl ?_ ?_); focus rfl)
          refine HDO.out.mono ?_
          rintro e wa ⟨rfl, hst⟩
          have HA := Lib.hid (HH6.out.step hst HG.out.ok)
          have RA := Lib.hid (HR6.out.kept hst.2 (fun k hG hF => HDJ.out k hF hG))
          have HDA : Hid (∀ k, Ex F w6 wa k → ¬ G k) := Lib.hid fun k hF hG => by
            rcases hF with h1 | h1
            · exact HDJ.out k h1 hG
            · have := HR6.out.lt k hG
              omega
          have HNB : Hid (∀ k, G k → w.heap.size ≤ k) := HGN
          have hrow2 := range_below HA.out.below hrow0
          have hcs2 := hcs0.below HA.out.below
          have hoff2 : ∀ k, 0 < x.cs.length → c.ownBlock = some k → ¬ G k := fun k hn hq hG => by
            have h1 := HGN.out k hG
            have h2 := hcs0.lt hn hq
            omega
          have HDR := Lib.hid (rDo_any q x c mj G wa HX1.out HMO.out (HSM.out.mono (by omega)) RA.out hcs2 hoff2)
          have HG1 : Hid (¬ G 1) := Lib.hid fun h => by
            have h1 := HGN.out 1 h
            have h2 := HT0.out.lt
            omega
          obtain ⟨F1, hF1⟩ : ∃ F1, F1 = Ex F w6 wa := ⟨_, rfl⟩
          rw [← hF1] at HA HDA
          clear hst hcs2 hoff2 hF1 hrow HDO
          obtain ⟨⟨⟨ra, re⟩, mn⟩, hdp⟩ : ∃ r, doP mj x = r := ⟨_, rfl⟩
          rw [hdp] at HA HG HDR ⊢
          simp only at HA HG HDR ⊢
          go_wp2_with ((with_reducible refine arm_range 42 bb (oo + j * 12) (opV x c) hrow2 _ hu61 rfl hi61 rfl _ rfl ?_ ?_); focus rfl)
          refine HDR.out.mono ?_
          rintro e wb ⟨rfl, hst⟩
          have HBb := Lib.hid (HA.out.other hst.2 (fun k h1 h2 => HDA.out k h1 h2) HG1.out HNB.out)
          have RB := Lib.hid hst.1
          have HDB : Hid (∀ k, F1 k → ¬ Ex G wa wb k) := Lib.hid fun k h1 h2 => by
            rcases h2 with h3 | h3
            · exact HDA.out k h1 h3
            · have := HA.out.rep.lt k h1
              omega
          have HGB : Hid (∀ k, Ex G wa wb k → w.heap.size ≤ k) := Lib.hid fun k h => by
            rcases h with h3 | h3
            · exact HGN.out k h3
            · have := HA.out.below.size
              omega
          have HSN := Lib.hid HG.out.small
          have HLN := Lib.hid (show mn.L.length ≤ 12 by have h1 := HG.out.len; have h2 := HLE.out; omega)
          obtain ⟨G1, hG1⟩ : ∃ G1, G1 = Ex G wa wb := ⟨_, rfl⟩
          rw [← hG1] at RB HDB HGB
          clear hst hG1 hdp hrow2 HDR HA RA HDA HG
          go_wp2_with fail
          go_roundw
          case rel => exact ⟨j + 1, mn, F1, G1, by simp, by omega, HBb, RB, HDB, HGB, HSN, HLN⟩
          case measure => simp [intOf]; omega
        · have hjhI : ¬ (j : Int) = (hf : Int) := by omega
          have hrow := range_below HH.out.below hrow0
          have hcs := hcs0.below HH.out.below
          have hoff : ∀ k, 0 < x.cs.length → c.ownBlock = some k → ¬ F k := fun k hn hq hF => by
            have h1 := HH.out.new k hF
            have h2 := hcs0.lt hn hq
            omega
          have HDO := Lib.hid (do_any p x c mj F wr HX1.out HH.out.ok (HSM.out.mono (by omega)) HH.out.rep HH.out.tab HH.out.not1 hcs hoff)
          clear hcs hoff
          go_wp2_with ((with_reducible refine arm_range 42 bb (oo + j * 12) (opV x c) hrow _ hu61 rfl hi61 rfl _ rfl ?_ ?_); focus rfl)
          refine HDO.out.mono ?_
          rintro e wa ⟨rfl, hst⟩
          have HA := Lib.hid (HH.out.step hst HG.out.ok)
          have RA := Lib.hid (HR.out.kept hst.2 (fun k hG hF => HDJ.out k hF hG))
          have HDA : Hid (∀ k, Ex F wr wa k → ¬ G k) := Lib.hid fun k hF hG => by
            rcases hF with h1 | h1
            · exact HDJ.out k h1 hG
            · have := HR.out.lt k hG
              omega
          have HNB : Hid (∀ k, G k → w.heap.size ≤ k) := HGN
          have hrow2 := range_below HA.out.below hrow0
          have hcs2 := hcs0.below HA.out.below
          have hoff2 : ∀ k, 0 < x.cs.length → c.ownBlock = some k → ¬ G k := fun k hn hq hG => by
            have h1 := HGN.out k hG
            have h2 := hcs0.lt hn hq
            omega
          have HDR := Lib.hid (rDo_any q x c mj G wa HX1.out HMO.out (HSM.out.mono (by omega)) RA.out hcs2 hoff2)
          have HG1 : Hid (¬ G 1) := Lib.hid fun h => by
            have h1 := HGN.out 1 h
            have h2 := HT0.out.lt
            omega
          obtain ⟨F1, hF1⟩ : ∃ F1, F1 = Ex F wr wa := ⟨_, rfl⟩
          rw [← hF1] at HA HDA
          clear hst hcs2 hoff2 hF1 hrow HDO
          obtain ⟨⟨⟨ra, re⟩, mn⟩, hdp⟩ : ∃ r, doP mj x = r := ⟨_, rfl⟩
          rw [hdp] at HA HG HDR ⊢
          simp only at HA HG HDR ⊢
          go_wp2_with ((with_reducible refine arm_range 42 bb (oo + j * 12) (opV x c) hrow2 _ hu61 rfl hi61 rfl _ rfl ?_ ?_); focus rfl)
          refine HDR.out.mono ?_
          rintro e wb ⟨rfl, hst⟩
          have HBb := Lib.hid (HA.out.other hst.2 (fun k h1 h2 => HDA.out k h1 h2) HG1.out HNB.out)
          have RB := Lib.hid hst.1
          have HDB : Hid (∀ k, F1 k → ¬ Ex G wa wb k) := Lib.hid fun k h1 h2 => by
            rcases h2 with h3 | h3
            · exact HDA.out k h1 h3
            · have := HA.out.rep.lt k h1
              omega
          have HGB : Hid (∀ k, Ex G wa wb k → w.heap.size ≤ k) := Lib.hid fun k h => by
            rcases h with h3 | h3
            · exact HGN.out k h3
            · have := HA.out.below.size
              omega
          have HSN := Lib.hid HG.out.small
          have HLN := Lib.hid (show mn.L.length ≤ 12 by have h1 := HG.out.len; have h2 := HLE.out; omega)
          obtain ⟨G1, hG1⟩ : ∃ G1, G1 = Ex G wa wb := ⟨_, rfl⟩
          rw [← hG1] at RB HDB HGB
          clear hst hG1 hdp hrow2 HDR HA RA HDA HG
          go_wp2_with fail
          go_roundw
          case rel => exact ⟨j + 1, mn, F1, G1, by simp, by omega, HBb, RB, HDB, HGB, HSN, HLN⟩
          case measure => simp [intOf]; omega
      · obtain rfl : j = N := by omega
        have HSA := Lib.hid (sanity_any wr HH.out.tab)
        go_wp2_with fail
        refine HSA.out.mono ?_
        rintro e u1 ⟨rfl, hb⟩
        have HU := Lib.hid (HH.out.stay hb)
        have HSMM := Lib.hid (same_any p q mj F G u1 HMO.out (HSM.out.mono (by omega)) (by have := HLE.out; omega) HU.out.rep (HR.out.below hb) HU.out.tab)
        clear hb HSA
        go_wp2_with fail
        refine HSMM.out.mono ?_
        rintro e u2 ⟨rfl, hb⟩
        have HV := Lib.hid (HU.out.stay hb)
        clear hb HSMM
        go_wp2_with fail
        go_ret
        exact ⟨rfl, HV.out.below⟩
end Go.Proofs.YtmnncbgibngmiaaGreatDoor
