/- What the reference's Checked does. -/
import Derived.Test.YthidababplamgaaDoorR4
namespace Go.Proofs.YthidababplamgaaDoor
open Go.RowKit
theorem find_pow {s j : Nat} (hj : j < 9) (h : s = 2 ^ j) : findF s = (8, j, true) := by
  have h1 := find_psn (k := 8) (b := j) (by simp [okBit]; omega)
  have h2 : psn 8 j = 2 ^ j := by unfold psn; rw [if_neg (by decide), if_pos hj]
  rw [h2, ← h] at h1
  exact h1
theorem find_posn {s j : Nat} (hj : j < 320) (h : posn j = s) : findF s = (j / 40, j % 40, true) := by
  have h1 := find_psn (k := j / 40) (b := j % 40) (by simp [okBit]; omega)
  have h2 : psn (j / 40) (j % 40) = s := by
    unfold psn
    rw [if_pos (by omega), show 40 * (j / 40) + j % 40 = j by omega, h]
  rw [h2] at h1
  exact h1
theorem find_none {s : Nat} (hs : s < 512) (h0 : s ≠ 0) (hp : ∀ j, j < 9 → s ≠ 2 ^ j) (hd : ∀ j, j < 320 → posn j ≠ s) : (findF s).2.2 = false := by
  cases hf : (findF s).2.2 with
  | false => rfl
  | true =>
    exfalso
    obtain ⟨ok, hpsn⟩ := psn_find hs hf
    generalize (findF s).1 = k at *
    generalize (findF s).2.1 = b at *
    unfold okBit at ok
    simp at ok
    unfold psn at hpsn
    by_cases hk : k < 8
    · rw [if_pos hk] at hpsn
      exact hd (40 * k + b) (by omega) hpsn
    · rw [if_neg hk] at hpsn
      by_cases hb : b < 9
      · rw [if_pos hb] at hpsn
        exact hp b hb hpsn.symm
      · rw [if_neg hb] at hpsn
        exact h0 hpsn.symm
set_option maxRecDepth 100000 in
set_option maxHeartbeats 4000000 in
theorem rChecked_any (L : List Int) (c : Int) (w : World) (h8 : L.length = 8) :
    Calls Tryd.prog 17 #[.agg (iv L).toArray, .int .i64 c] w fun e w' => e = .returned (stV (chkZ L c)) ∧ Below w.heap.size w w' := by
  have HI := Lib.hid (size22' (l := L) h8)
  have H22 := Lib.hid Tryd.underlying22
  have H29 := Lib.hid Tryd.underlying29
  have HV := Lib.hid fun w => rvalid_any L c w h8
  obtain ⟨R, hR⟩ : ∃ R, chkZ L c = R := ⟨_, rfl⟩
  rw [hR]
  cases hv : validB L c with
  | false =>
    have HE : Hid (R = (2, 0, 0)) := Lib.hid (by rw [← hR]; unfold chkZ; rw [hv, if_neg (by decide)])
    have HIR := Lib.hid (size29' (2, 0, 0))
    have HOR := Lib.hid (iv_one (stI (2, 0, 0)))
    have HLR := Lib.hid (show (iv Z3).length = (iv (stI (2, 0, 0))).length from rfl)
    rw [hv] at HV
    clear hR hv
    go_enter Tryd.func17, Tryd.ntmps17
    go_wp2_with ((with_reducible refine arm_row 22 w.heap.size 22 _ (Arr2_0 w (iv L) 22 _) _ H22.out rfl HI.out rfl _ rfl ?_ ?_); focus rfl)
    refine (HV.out _).mono ?_
    rintro e w1 ⟨rfl, hb⟩
    have HZ : Hid (Arr w1 (w.heap.size + 1) 29 (iv Z3)) := Lib.hid (Arr.keep (a2_1 _ _ _) hb)
    have HB : Hid (Below w.heap.size w w1) := Lib.hid (bel_on (bel2 _ _ _) hb)
    clear hb
    go_wp2_with ((with_reducible refine arm_put 29 (w.heap.size + 1) 29 _ _ HZ.out HIR.out HLR.out HOR.out rfl _ _ rfl ?_ ?_ ?_); (focus rfl); (focus rfl))
    refine bodyPost_ret (v := stV (2, 0, 0)) (ret_row Tryd.results17 _ _ (w.heap.size + 1) 29 (iv (stI (2, 0, 0))) (HZ.out.row _) rfl _ H29.out rfl HIR.out) rfl ?_
    exact ⟨by rw [HE.out], bel_row HB.out (by omega) _⟩
  | true =>
    rw [hv] at HV
    have hR2 : chkF (synT (nw L) c.toNat) (popT (nw L) c.toNat % 2) = R := by rw [← hR]; unfold chkZ; rw [hv, if_pos rfl]
    have hv2 := hv
    unfold validB at hv2
    simp only [Bool.and_eq_true, decide_eq_true_eq] at hv2
    obtain ⟨ha, hc0, hc1⟩ := hv2
    obtain ⟨hL, hs⟩ := of_all ha
    have hlen : (nw L).length = 8 := by rw [nw_len, h8]
    generalize nw L = ws at *
    subst hL
    obtain ⟨m, rfl⟩ : ∃ m : Nat, c = m := ⟨c.toNat, by omega⟩
    rw [Int.toNat_natCast] at hR2
    have hm : m < 1024 := by omega
    have HS := Lib.hid fun w => rsyn_any ws m w hlen hs hm
    have hlt : synT ws m < 512 := synT_lt hlen hs hm
    have hq : popT ws m % 2 < 2 := by omega
    generalize popT ws m % 2 = q at *
    generalize synT ws m = s at *
    have HR2 := Lib.hid hR2
    clear hs hv ha hc0 hc1 hm hR hR2
    obtain ⟨rs, hrs⟩ : ∃ rs, stI R = rs := ⟨_, rfl⟩
    go_enter Tryd.func17, Tryd.ntmps17
    go_wp2_with ((with_reducible refine arm_row 22 w.heap.size 22 _ (Arr2_0 w (iv (ci ws)) 22 _) _ H22.out rfl HI.out rfl _ rfl ?_ ?_); focus rfl)
    refine (HV.out _).mono ?_
    rintro e w1 ⟨rfl, hb⟩
    have HA1 : Hid (Arr w1 w.heap.size 22 (iv (ci ws))) := Lib.hid (Arr.keep (a2_0 _ _ _) hb)
    have HZ1 : Hid (Arr w1 (w.heap.size + 1) 29 (iv Z3)) := Lib.hid (Arr.keep (a2_1 _ _ _) hb)
    have HB1 : Hid (Below w.heap.size w w1) := Lib.hid (bel_on (bel2 _ _ _) hb)
    clear hb
    go_wp2_with ((with_reducible refine arm_row 22 w.heap.size 22 _ HA1.out _ H22.out rfl HI.out rfl _ rfl ?_ ?_); focus rfl)
    refine (HS.out _).mono ?_
    rintro e w2 ⟨rfl, hb⟩
    have HZ2 := Lib.hid (HZ1.out.keep hb)
    have HB2 := Lib.hid (bel_on HB1.out hb)
    clear hb HA1 HZ1 HB1 hrs rs
    by_cases hq0 : q = 0
    · subst hq0
      by_cases hs0 : s = 0
      · subst hs0
        have HE : Hid (R = (0, 0, 0)) := Lib.hid (by rw [← HR2.out]; rfl)
        have HIR := Lib.hid (size29' (0, 0, 0))
        have HOR := Lib.hid (iv_one (stI (0, 0, 0)))
        have HLR := Lib.hid (show (iv Z3).length = (iv (stI (0, 0, 0))).length from rfl)
        go_wp2_with ((with_reducible refine arm_put 29 (w.heap.size + 1) 29 _ _ HZ2.out HIR.out HLR.out HOR.out rfl _ _ rfl ?_ ?_ ?_); (focus rfl); (focus rfl))
        refine bodyPost_ret (v := stV (0, 0, 0)) (ret_row Tryd.results17 _ _ (w.heap.size + 1) 29 (iv (stI (0, 0, 0))) (HZ2.out.row _) rfl _ H29.out rfl HIR.out) rfl ?_
        exact ⟨by rw [HE.out], bel_row HB2.out (by omega) _⟩
      · have HE : Hid (R = (2, 0, 0)) := Lib.hid (by rw [← HR2.out]; unfold chkF; rw [if_neg (by omega), if_pos rfl])
        have HIR := Lib.hid (size29' (2, 0, 0))
        have HOR := Lib.hid (iv_one (stI (2, 0, 0)))
        have HLR := Lib.hid (show (iv Z3).length = (iv (stI (2, 0, 0))).length from rfl)
        have hsp : 0 < (s : Int) := by omega
        have hsb : ((s : Int) == 0) = false := by simp; omega
        go_wp2_with ((with_reducible refine arm_put 29 (w.heap.size + 1) 29 _ _ HZ2.out HIR.out HLR.out HOR.out rfl _ _ rfl ?_ ?_ ?_); (focus rfl); (focus rfl))
        refine bodyPost_ret (v := stV (2, 0, 0)) (ret_row Tryd.results17 _ _ (w.heap.size + 1) 29 (iv (stI (2, 0, 0))) (HZ2.out.row _) rfl _ H29.out rfl HIR.out) rfl ?_
        exact ⟨by rw [HE.out], bel_row HB2.out (by omega) _⟩
    · have hq1 : q = 1 := by omega
      have HE1 := Lib.hid (HR2.out.symm.trans (chk_find hq1))
      subst hq1
      by_cases hs0 : s = 0
      · subst hs0
        have HE : Hid (R = (1, 8, 9)) := Lib.hid (by rw [← HR2.out]; rfl)
        have HIR := Lib.hid (size29' (1, 8, 9))
        have HOR := Lib.hid (iv_one (stI (1, 8, 9)))
        have HLR := Lib.hid (show (iv Z3).length = (iv (stI (1, 8, 9))).length from rfl)
        clear HE1
        go_wp2_with ((with_reducible refine arm_put 29 (w.heap.size + 1) 29 _ _ HZ2.out HIR.out HLR.out HOR.out rfl _ _ rfl ?_ ?_ ?_); (focus rfl); (focus rfl))
        refine bodyPost_ret (v := stV (1, 8, 9)) (ret_row Tryd.results17 _ _ (w.heap.size + 1) 29 (iv (stI (1, 8, 9))) (HZ2.out.row _) rfl _ H29.out rfl HIR.out) rfl ?_
        exact ⟨by rw [HE.out], bel_row HB2.out (by omega) _⟩
      · have hsb : ((s : Int) == 0) = false := by simp; omega
        have hsp : 0 < (s : Int) := by omega
        go_wp2_with fail
        go_loopw [8] (fun bv wr => ∃ b : Nat, bv = .int .i64 (b : Int) ∧ b ≤ 9 ∧ Hid (∀ j, j < b → s ≠ 2 ^ j) ∧ wr = w2) (fun bv _ => 9 - (intOf bv).toNat)
        case atStart => exact ⟨0, rfl, by omega, Lib.hid (fun j hj => by omega), rfl⟩
        case round =>
          obtain ⟨b, rfl, hb, HNP, rfl⟩ := hrel
          by_cases hlt9 : b < 9
          · have hw := pow_n b (by omega)
            have hbI : (b : Int) < 9 := by omega
            by_cases hsb2 : s = 2 ^ b
            · have HE : Hid (R = (1, 8, b)) := Lib.hid (by rw [HE1.out, find_pow hlt9 hsb2]; rfl)
              have HIR := Lib.hid (size29' (1, 8, b))
              have HOR := Lib.hid (iv_one (stI (1, 8, b)))
              have HLR := Lib.hid (show (iv Z3).length = (iv (stI (1, 8, b))).length from rfl)
              rw [← hsb2] at hw
              clear hsb2 HE1
              go_wp2_with ((with_reducible refine arm_put 29 (w.heap.size + 1) 29 _ _ HZ2.out HIR.out HLR.out HOR.out rfl _ _ rfl ?_ ?_ ?_); (focus rfl); (focus rfl))
              refine bodyPost_ret (v := stV (1, 8, b)) (ret_row Tryd.results17 _ _ (w.heap.size + 1) 29 (iv (stI (1, 8, b))) (HZ2.out.row _) rfl _ H29.out rfl HIR.out) rfl ?_
              exact ⟨by rw [HE.out], bel_row HB2.out (by omega) _⟩
            · have HNP2 : Hid (∀ j, j < b + 1 → s ≠ 2 ^ j) := Lib.hid (fun j hj => by
                rcases Nat.lt_succ_iff_lt_or_eq.1 hj with h1 | h1
                · exact HNP.out j h1
                · subst h1; exact hsb2)
              generalize 2 ^ b = pp at *
              have hne : ((s : Int) == (pp : Int)) = false := by simp; omega
              have hne2 : (s == pp) = false := by simp; omega
              clear hsb2
              go_wp2_with fail
              go_roundw
              case rel => exact ⟨b + 1, by simp, by omega, HNP2, by first | rfl | trivial⟩
              case measure => simp [intOf]; omega
          · have hbI : ¬ (b : Int) < 9 := by omega
            have HNP9 : Hid (∀ j, j < 9 → s ≠ 2 ^ j) := Lib.hid (fun j hj => HNP.out j (by omega))
            clear HNP
            go_wp2_with fail
            obtain ⟨wo, rfl⟩ : ∃ wo : World, wo = wr := ⟨_, rfl⟩
            go_loopw [9] (fun bv wr => ∃ i : Nat, bv = .int .i64 (i : Int) ∧ i ≤ 320 ∧ Hid (∀ j, j < i → posn j ≠ s) ∧ wr = wo) (fun bv _ => 320 - (intOf bv).toNat)
            case atStart => exact ⟨0, rfl, by omega, Lib.hid (fun j hj => by omega), rfl⟩
            case round =>
              obtain ⟨i, rfl, hi, HND, rfl⟩ := hrel
              by_cases hlti : i < 320
              · have HPL := Lib.hid fun z w hz => place_any z i w hz hlti
                have hiI : (i : Int) < 320 := by omega
                by_cases hpi : posn i = s
                · have HE : Hid (R = (1, i / 40, i % 40)) := Lib.hid (by rw [HE1.out, find_posn hlti hpi]; rfl)
                  have HIR := Lib.hid (size29' (1, i / 40, i % 40))
                  have HOR := Lib.hid (iv_one (stI (1, i / 40, i % 40)))
                  have HLR := Lib.hid (show (iv Z3).length = (iv (stI (1, i / 40, i % 40))).length from rfl)
                  rw [hpi] at HPL
                  clear hpi HE1
                  go_wp2_with fail
                  refine (HPL.out _ _ rfl).mono ?_
                  rintro e w5 ⟨rfl, rfl⟩
                  go_wp2_with ((with_reducible refine arm_put 29 (w.heap.size + 1) 29 _ _ HZ2.out HIR.out HLR.out HOR.out rfl _ _ rfl ?_ ?_ ?_); (focus rfl); (focus rfl))
                  refine bodyPost_ret (v := stV (1, i / 40, i % 40)) (ret_row Tryd.results17 _ _ (w.heap.size + 1) 29 (iv (stI (1, i / 40, i % 40))) (HZ2.out.row _) rfl _ H29.out rfl HIR.out) rfl ?_
                  exact ⟨by rw [HE.out], bel_row HB2.out (by omega) _⟩
                · have HND2 : Hid (∀ j, j < i + 1 → posn j ≠ s) := Lib.hid (fun j hj => by
                    rcases Nat.lt_succ_iff_lt_or_eq.1 hj with h1 | h1
                    · exact HND.out j h1
                    · subst h1; exact hpi)
                  generalize posn i = pp at *
                  have hne : ((pp : Int) == (s : Int)) = false := by simp; omega
                  have hne2 : (pp == s) = false := by simp; omega
                  clear hpi
                  go_wp2_with fail
                  refine (HPL.out _ _ rfl).mono ?_
                  rintro e w5 ⟨rfl, rfl⟩
                  go_wp2_with fail
                  go_roundw
                  case rel => exact ⟨i + 1, by simp, by omega, HND2, by first | rfl | trivial⟩
                  case measure => simp [intOf]; omega
              · have hiI : ¬ (i : Int) < 320 := by omega
                have HE : Hid (R = (2, 0, 0)) := Lib.hid (by
                  rw [HE1.out, find_none hlt hs0 HNP9.out (fun j hj => HND.out j (by omega))]
                  rfl)
                have HIR := Lib.hid (size29' (2, 0, 0))
                have HOR := Lib.hid (iv_one (stI (2, 0, 0)))
                have HLR := Lib.hid (show (iv Z3).length = (iv (stI (2, 0, 0))).length from rfl)
                clear HE1
                go_wp2_with ((with_reducible refine arm_put 29 (w.heap.size + 1) 29 _ _ HZ2.out HIR.out HLR.out HOR.out rfl _ _ rfl ?_ ?_ ?_); (focus rfl); (focus rfl))
                refine bodyPost_ret (v := stV (2, 0, 0)) (ret_row Tryd.results17 _ _ (w.heap.size + 1) 29 (iv (stI (2, 0, 0))) (HZ2.out.row _) rfl _ H29.out rfl HIR.out) rfl ?_
                exact ⟨by rw [HE.out], bel_row HB2.out (by omega) _⟩
end Go.Proofs.YthidababplamgaaDoor
