/-
  What the reference's Checked does. Which bits exist, by the reference. What the reference's Flip does. What the reference's Fix does.
-/
import Derived.Test.YtmnncbgibngmiaaGreatDoorQR1
import Derived.Test.YtmnncbgibngmiaaGreatDoorQC5
import Derived.Deep.RegionHeld3
import Derived.StillTailTactics
namespace Go.Proofs.YtmnncbgibngmiaaGreatDoor
open Go.RowKit
theorem size29 : (Tryz.prog.info? 115).map (·.size) = some 3 := by kernel_rfl
/-- A state as three numbers. -/
def stI (r : Nat × Nat × Nat) : List Int := [(r.1 : Int), (r.2.1 : Int), (r.2.2 : Int)]
def stV (r : Nat × Nat × Nat) : Value := .agg (iv (stI r)).toArray
def Z3 : List Int := [0, 0, 0]
theorem size29' (r : Nat × Nat × Nat) : (Tryz.prog.info? 115).map (·.size) = some (iv (stI r)).length := size29
theorem find_pow {s j : Nat} (hj : j < 9) (h : s = 2 ^ j) : findF s = (8, j, true) := by
  have h1 := find_psn (k := 8) (b := j) (by simp [okBit]; omega)
  have h2 : psn 8 j = 2 ^ j := by unfold psn; rw [if_neg (by decide), if_pos hj]
  rw [h2, ← h] at h1
  exact h1
theorem find_posn {s j : Nat} (hj : j < 320) (h : posn j = s) : findF s = (j / 40, j % 40, true) := by
  have h1 := find_psn (k := j / 40) (b := j % 40) (by simp [okBit]; omega)
  have h2 : psn (j / 40) (j % 40) = s := by
    unfold psn
    rw [if_pos (by omega), show 40 * (j / 40) + j % 40 = j by omega, h]
  rw [h2] at h1
  exact h1
theorem find_none {s : Nat} (hs : s < 512) (h0 : s ≠ 0) (hp : ∀ j, j < 9 → s ≠ 2 ^ j) (hd : ∀ j, j < 320 → posn j ≠ s) : (findF s).2.2 = false := by
  cases hf : (findF s).2.2 with
  | false => rfl
  | true =>
    exfalso
    obtain ⟨ok, hpsn⟩ := psn_find hs hf
    generalize (findF s).1 = k at *
    generalize (findF s).2.1 = b at *
    unfold okBit at ok
    simp at ok
    unfold psn at hpsn
    by_cases hk : k < 8
    · rw [if_pos hk] at hpsn
      exact hd (40 * k + b) (by omega) hpsn
    · rw [if_neg hk] at hpsn
      by_cases hb : b < 9
      · rw [if_pos hb] at hpsn
        exact hp b hb hpsn.symm
      · rw [if_neg hb] at hpsn
        exact h0 hpsn.symm
set_option maxRecDepth 100000 in
set_option maxHeartbeats 4000000 in
theorem rChecked_any (L : List Int) (c : Int) (w : World) (h8 : L.length = 8) :
    Calls Tryz.prog 86 #[.agg (iv L).toArray, .int .i64 c] w fun e w' => e = .returned (stV (chkZ L c)) ∧ Below w.heap.size w w' := by
  have HI := Lib.hid (size22' (l := L) h8)
  have H22 := Lib.hid Tryz.underlying39
  have H29 := Lib.hid Tryz.underlying115
  have HV := Lib.hid fun w => rvalid_any L c w h8
  obtain ⟨R, hR⟩ : ∃ R, chkZ L c = R := ⟨_, rfl⟩
  rw [hR]
  cases hv : validB L c with
  | false =>
    have HE : Hid (R = (2, 0, 0)) := Lib.hid (by rw [← hR]; unfold chkZ; rw [hv, if_neg (by decide)])
    have HIR := Lib.hid (size29' (2, 0, 0))
    have HOR := Lib.hid (iv_one (stI (2, 0, 0)))
    have HLR := Lib.hid (show (iv Z3).length = (iv (stI (2, 0, 0))).length from rfl)
    rw [hv] at HV
    clear hR hv
    go_enter Tryz.func86, Tryz.ntmps86
    go_wp2_with ((with_reducible refine arm_row 39 w.heap.size 39 _ (Arr2_0 w (iv L) 39 _) _ H22.out rfl HI.out rfl _ rfl ?_ ?_); focus rfl)
    refine (HV.out _).mono ?_
    rintro e w1 ⟨rfl, hb⟩
    have HZ : Hid (Arr w1 (w.heap.size + 1) 115 (iv Z3)) := Lib.hid (Arr.keep (a2_1 _ _ _) hb)
    have HB : Hid (Below w.heap.size w w1) := Lib.hid (bel_on (bel2 _ _ _) hb)
    clear hb
    go_wp2_with ((with_reducible refine arm_put 115 (w.heap.size + 1) 115 _ _ HZ.out HIR.out HLR.out HOR.out rfl _ _ rfl ?_ ?_ ?_); (focus rfl); (focus rfl))
    refine bodyPost_ret (v := stV (2, 0, 0)) (ret_row Tryz.results86 _ _ (w.heap.size + 1) 115 (iv (stI (2, 0, 0))) (HZ.out.row _) rfl _ H29.out rfl HIR.out) rfl ?_
    exact ⟨by rw [HE.out], bel_row HB.out (by omega) _⟩
  | true =>
    rw [hv] at HV
    have hR2 : chkF (synT (nw L) c.toNat) (popT (nw L) c.toNat % 2) = R := by rw [← hR]; unfold chkZ; rw [hv, if_pos rfl]
    have hv2 := hv
    unfold validB at hv2
    simp only [Bool.and_eq_true, decide_eq_true_eq] at hv2
    obtain ⟨ha, hc0, hc1⟩ := hv2
    obtain ⟨hL, hs⟩ := of_all ha
    have hlen : (nw L).length = 8 := by rw [nw_len, h8]
    generalize nw L = ws at *
    subst hL
    obtain ⟨m, rfl⟩ : ∃ m : Nat, c = m := ⟨c.toNat, by omega⟩
    rw [Int.toNat_natCast] at hR2
    have hm : m < 1024 := by omega
    have HS := Lib.hid fun w => rsyn_any ws m w hlen hs hm
    have hlt : synT ws m < 512 := synT_lt hlen hs hm
    have hq : popT ws m % 2 < 2 := by omega
    generalize popT ws m % 2 = q at *
    generalize synT ws m = s at *
    have HR2 := Lib.hid hR2
    clear hs hv ha hc0 hc1 hm hR hR2
    obtain ⟨rs, hrs⟩ : ∃ rs, stI R = rs := ⟨_, rfl⟩
    go_enter Tryz.func86, Tryz.ntmps86
    go_wp2_with ((with_reducible refine arm_row 39 w.heap.size 39 _ (Arr2_0 w (iv (ci ws)) 39 _) _ H22.out rfl HI.out rfl _ rfl ?_ ?_); focus rfl)
    refine (HV.out _).mono ?_
    rintro e w1 ⟨rfl, hb⟩
    have HA1 : Hid (Arr w1 w.heap.size 39 (iv (ci ws))) := Lib.hid (Arr.keep (a2_0 _ _ _) hb)
    have HZ1 : Hid (Arr w1 (w.heap.size + 1) 115 (iv Z3)) := Lib.hid (Arr.keep (a2_1 _ _ _) hb)
    have HB1 : Hid (Below w.heap.size w w1) := Lib.hid (bel_on (bel2 _ _ _) hb)
    clear hb
    go_wp2_with ((with_reducible refine arm_row 39 w.heap.size 39 _ HA1.out _ H22.out rfl HI.out rfl _ rfl ?_ ?_); focus rfl)
    refine (HS.out _).mono ?_
    rintro e w2 ⟨rfl, hb⟩
    have HZ2 := Lib.hid (HZ1.out.keep hb)
    have HB2 := Lib.hid (bel_on HB1.out hb)
    clear hb HA1 HZ1 HB1 hrs rs
    by_cases hq0 : q = 0
    · subst hq0
      by_cases hs0 : s = 0
      · subst hs0
        have HE : Hid (R = (0, 0, 0)) := Lib.hid (by rw [← HR2.out]; rfl)
        have HIR := Lib.hid (size29' (0, 0, 0))
        have HOR := Lib.hid (iv_one (stI (0, 0, 0)))
        have HLR := Lib.hid (show (iv Z3).length = (iv (stI (0, 0, 0))).length from rfl)
        go_wp2_with ((with_reducible refine arm_put 115 (w.heap.size + 1) 115 _ _ HZ2.out HIR.out HLR.out HOR.out rfl _ _ rfl ?_ ?_ ?_); (focus rfl); (focus rfl))
        refine bodyPost_ret (v := stV (0, 0, 0)) (ret_row Tryz.results86 _ _ (w.heap.size + 1) 115 (iv (stI (0, 0, 0))) (HZ2.out.row _) rfl _ H29.out rfl HIR.out) rfl ?_
        exact ⟨by rw [HE.out], bel_row HB2.out (by omega) _⟩
      · have HE : Hid (R = (2, 0, 0)) := Lib.hid (by rw [← HR2.out]; unfold chkF; rw [if_neg (by omega), if_pos rfl])
        have HIR := Lib.hid (size29' (2, 0, 0))
        have HOR := Lib.hid (iv_one (stI (2, 0, 0)))
        have HLR := Lib.hid (show (iv Z3).length = (iv (stI (2, 0, 0))).length from rfl)
        have hsp : 0 < (s : Int) := by omega
        have hsb : ((s : Int) == 0) = false := by simp; omega
        go_wp2_with ((with_reducible refine arm_put 115 (w.heap.size + 1) 115 _ _ HZ2.out HIR.out HLR.out HOR.out rfl _ _ rfl ?_ ?_ ?_); (focus rfl); (focus rfl))
        refine bodyPost_ret (v := stV (2, 0, 0)) (ret_row Tryz.results86 _ _ (w.heap.size + 1) 115 (iv (stI (2, 0, 0))) (HZ2.out.row _) rfl _ H29.out rfl HIR.out) rfl ?_
        exact ⟨by rw [HE.out], bel_row HB2.out (by omega) _⟩
    · have hq1 : q = 1 := by omega
      have HE1 := Lib.hid (HR2.out.symm.trans (chk_find hq1))
      subst hq1
      by_cases hs0 : s = 0
      · subst hs0
        have HE : Hid (R = (1, 8, 9)) := Lib.hid (by rw [← HR2.out]; rfl)
        have HIR := Lib.hid (size29' (1, 8, 9))
        have HOR := Lib.hid (iv_one (stI (1, 8, 9)))
        have HLR := Lib.hid (show (iv Z3).length = (iv (stI (1, 8, 9))).length from rfl)
        clear HE1
        go_wp2_with ((with_reducible refine arm_put 115 (w.heap.size + 1) 115 _ _ HZ2.out HIR.out HLR.out HOR.out rfl _ _ rfl ?_ ?_ ?_); (focus rfl); (focus rfl))
        refine bodyPost_ret (v := stV (1, 8, 9)) (ret_row Tryz.results86 _ _ (w.heap.size + 1) 115 (iv (stI (1, 8, 9))) (HZ2.out.row _) rfl _ H29.out rfl HIR.out) rfl ?_
        exact ⟨by rw [HE.out], bel_row HB2.out (by omega) _⟩
      · have hsb : ((s : Int) == 0) = false := by simp; omega
        have hsp : 0 < (s : Int) := by omega
        go_wp2_with fail
        go_loopw [8] (fun bv wr => ∃ b : Nat, bv = .int .i64 (b : Int) ∧ b ≤ 9 ∧ Hid (∀ j, j < b → s ≠ 2 ^ j) ∧ wr = w2) (fun bv _ => 9 - (intOf bv).toNat)
        case atStart => exact ⟨0, rfl, by omega, Lib.hid (fun j hj => by omega), rfl⟩
        case round =>
          obtain ⟨b, rfl, hb, HNP, rfl⟩ := hrel
          by_cases hlt9 : b < 9
          · have hw := pow_n b (by omega)
            have hbI : (b : Int) < 9 := by omega
            by_cases hsb2 : s = 2 ^ b
            · have HE : Hid (R = (1, 8, b)) := Lib.hid (by rw [HE1.out, find_pow hlt9 hsb2]; rfl)
              have HIR := Lib.hid (size29' (1, 8, b))
              have HOR := Lib.hid (iv_one (stI (1, 8, b)))
              have HLR := Lib.hid (show (iv Z3).length = (iv (stI (1, 8, b))).length from rfl)
              rw [← hsb2] at hw
              clear hsb2 HE1
              go_wp2_with ((with_reducible refine arm_put 115 (w.heap.size + 1) 115 _ _ HZ2.out HIR.out HLR.out HOR.out rfl _ _ rfl ?_ ?_ ?_); (focus rfl); (focus rfl))
              refine bodyPost_ret (v := stV (1, 8, b)) (ret_row Tryz.results86 _ _ (w.heap.size + 1) 115 (iv (stI (1, 8, b))) (HZ2.out.row _) rfl _ H29.out rfl HIR.out) rfl ?_
              exact ⟨by rw [HE.out], bel_row HB2.out (by omega) _⟩
            · have HNP2 : Hid (∀ j, j < b + 1 → s ≠ 2 ^ j) := Lib.hid (fun j hj => by
                rcases Nat.lt_succ_iff_lt_or_eq.1 hj with h1 | h1
                · exact HNP.out j h1
                · subst h1; exact hsb2)
              generalize 2 ^ b = pp at *
              have hne : ((s : Int) == (pp : Int)) = false := by simp; omega
              have hne2 : (s == pp) = false := by simp; omega
              clear hsb2
              go_wp2_with fail
              go_roundw
              case rel => exact ⟨b + 1, by simp, by omega, HNP2, by first | rfl | trivial⟩
              case measure => simp [intOf]; omega
          · have hbI : ¬ (b : Int) < 9 := by omega
            have HNP9 : Hid (∀ j, j < 9 → s ≠ 2 ^ j) := Lib.hid (fun j hj => HNP.out j (by omega))
            clear HNP
            go_wp2_with fail
            obtain ⟨wo, rfl⟩ : ∃ wo : World, wo = wr := ⟨_, rfl⟩
            go_loopw [9] (fun bv wr => ∃ i : Nat, bv = .int .i64 (i : Int) ∧ i ≤ 320 ∧ Hid (∀ j, j < i → posn j ≠ s) ∧ wr = wo) (fun bv _ => 320 - (intOf bv).toNat)
            case atStart => exact ⟨0, rfl, by omega, Lib.hid (fun j hj => by omega), rfl⟩
            case round =>
              obtain ⟨i, rfl, hi, HND, rfl⟩ := hrel
              by_cases hlti : i < 320
              · have HPL := Lib.hid fun z w hz => place_any z i w hz hlti
                have hiI : (i : Int) < 320 := by omega
                by_cases hpi : posn i = s
                · have HE : Hid (R = (1, i / 40, i % 40)) := Lib.hid (by rw [HE1.out, find_posn hlti hpi]; rfl)
                  have HIR := Lib.hid (size29' (1, i / 40, i % 40))
                  have HOR := Lib.hid (iv_one (stI (1, i / 40, i % 40)))
                  have HLR := Lib.hid (show (iv Z3).length = (iv (stI (1, i / 40, i % 40))).length from rfl)
                  rw [hpi] at HPL
                  clear hpi HE1
                  go_wp2_with fail
                  refine (HPL.out _ _ rfl).mono ?_
                  rintro e w5 ⟨rfl, rfl⟩
                  go_wp2_with ((with_reducible refine arm_put 115 (w.heap.size + 1) 115 _ _ HZ2.out HIR.out HLR.out HOR.out rfl _ _ rfl ?_ ?_ ?_); (focus rfl); (focus rfl))
                  refine bodyPost_ret (v := stV (1, i / 40, i % 40)) (ret_row Tryz.results86 _ _ (w.heap.size + 1) 115 (iv (stI (1, i / 40, i % 40))) (HZ2.out.row _) rfl _ H29.out rfl HIR.out) rfl ?_
                  exact ⟨by rw [HE.out], bel_row HB2.out (by omega) _⟩
                · have HND2 : Hid (∀ j, j < i + 1 → posn j ≠ s) := Lib.hid (fun j hj => by
                    rcases Nat.lt_succ_iff_lt_or_eq.1 hj with h1 | h1
                    · exact HND.out j h1
                    · subst h1; exact hpi)
                  generalize posn i = pp at *
                  have hne : ((pp : Int) == (s : Int)) = false := by simp; omega
                  have hne2 : (pp == s) = false := by simp; omega
                  clear hpi
                  go_wp2_with fail
                  refine (HPL.out _ _ rfl).mono ?_
                  rintro e w5 ⟨rfl, rfl⟩
                  go_wp2_with fail
                  go_roundw
                  case rel => exact ⟨i + 1, by simp, by omega, HND2, by first | rfl | trivial⟩
                  case measure => simp [intOf]; omega
              · have hiI : ¬ (i : Int) < 320 := by omega
                have HE : Hid (R = (2, 0, 0)) := Lib.hid (by
                  rw [HE1.out, find_none hlt hs0 HNP9.out (fun j hj => HND.out j (by omega))]
                  rfl)
                have HIR := Lib.hid (size29' (2, 0, 0))
                have HOR := Lib.hid (iv_one (stI (2, 0, 0)))
                have HLR := Lib.hid (show (iv Z3).length = (iv (stI (2, 0, 0))).length from rfl)
                clear HE1
                go_wp2_with ((with_reducible refine arm_put 115 (w.heap.size + 1) 115 _ _ HZ2.out HIR.out HLR.out HOR.out rfl _ _ rfl ?_ ?_ ?_); (focus rfl); (focus rfl))
                refine bodyPost_ret (v := stV (2, 0, 0)) (ret_row Tryz.results86 _ _ (w.heap.size + 1) 115 (iv (stI (2, 0, 0))) (HZ2.out.row _) rfl _ H29.out rfl HIR.out) rfl ?_
                exact ⟨by rw [HE.out], bel_row HB2.out (by omega) _⟩
end Go.Proofs.YtmnncbgibngmiaaGreatDoor
namespace Go.Proofs.YtmnncbgibngmiaaGreatDoor
open Go.RowKit
set_option maxRecDepth 100000 in
set_option maxHeartbeats 400000 in
theorem exists_any (k b : Int) (w : World) :
    Calls Tryz.prog 108 #[.int .i64 k, .int .i64 b] w fun e w' => e = .returned (.bool (dataB k b || codeB k b)) ∧ w' = w := by
  obtain ⟨R, hR⟩ : ∃ R, (dataB k b || codeB k b) = R := ⟨_, rfl⟩
  rw [hR]
  unfold dataB codeB at hR
  have HR := Lib.hid hR
  clear hR
  by_cases h8 : k = 8
  · subst h8
    by_cases h3 : 0 ≤ b
    · by_cases h4 : b ≤ 9
      · go_enter Tryz.func108, Tryz.ntmps108
        go_wp2_with fail
        go_ret
        exact ⟨ret_bool (by rw [← HR.out]; simp; try omega), rfl⟩
      · go_enter Tryz.func108, Tryz.ntmps108
        go_wp2_with fail
        go_ret
        exact ⟨ret_bool (by rw [← HR.out]; simp; try omega), rfl⟩
    · go_enter Tryz.func108, Tryz.ntmps108
      go_wp2_with fail
      go_ret
      exact ⟨ret_bool (by rw [← HR.out]; simp; try omega), rfl⟩
  · have h8' : (k == 8) = false := by simp; omega
    by_cases h1 : 0 ≤ k
    · by_cases h2 : k < 8
      · by_cases h3 : 0 ≤ b
        · by_cases h4 : b < 40
          · go_enter Tryz.func108, Tryz.ntmps108
            go_wp2_with fail
            go_ret
            exact ⟨ret_bool (by rw [← HR.out]; simp; try omega), rfl⟩
          · go_enter Tryz.func108, Tryz.ntmps108
            go_wp2_with fail
            go_ret
            exact ⟨ret_bool (by rw [← HR.out]; simp; try omega), rfl⟩
        · go_enter Tryz.func108, Tryz.ntmps108
          go_wp2_with fail
          go_ret
          exact ⟨ret_bool (by rw [← HR.out]; simp; try omega), rfl⟩
      · go_enter Tryz.func108, Tryz.ntmps108
        go_wp2_with fail
        go_ret
        exact ⟨ret_bool (by rw [← HR.out]; simp; try omega), rfl⟩
    · go_enter Tryz.func108, Tryz.ntmps108
      go_wp2_with fail
      go_ret
      exact ⟨ret_bool (by rw [← HR.out]; simp; try omega), rfl⟩
end Go.Proofs.YtmnncbgibngmiaaGreatDoor
namespace Go.Proofs.YtmnncbgibngmiaaGreatDoor
open Go.RowKit
set_option maxRecDepth 100000 in
set_option maxHeartbeats 1000000 in
theorem rFlip_any (ws : List Nat) (c : Nat) (k b : Int) (w : World) (h8 : ws.length = 8) (hs : ∀ x ∈ ws, x < 1099511627776) (hc : c < 1024) :
    Calls Tryz.prog 97 #[.agg (iv (ci ws)).toArray, .int .i64 (c : Int), .int .i64 k, .int .i64 b] w fun e w' => e = .returned (pr (flipR ws c k b)) ∧ Below w.heap.size w w' := by
  have hl : (ci ws).length = 8 := by rw [ci_len, h8]
  have HI := Lib.hid (size22' hl)
  have HO := Lib.hid (iv_one (ci ws))
  have HL := Lib.hid (show (iv Z8).length = (iv (ci ws)).length by rw [iv_len, iv_len, hl]; rfl)
  have HX := Lib.hid fun w => exists_any k b w
  have H22 := Lib.hid Tryz.underlying39
  obtain ⟨R, hR⟩ : ∃ R, flipR ws c k b = R := ⟨_, rfl⟩
  rw [hR]
  cases hd : dataB k b with
  | true =>
    have e : R = (ws.set k.toNat (ws.getD k.toNat 0 ^^^ 2 ^ b.toNat), c) := by rw [← hR]; unfold flipR; rw [hd, if_pos rfl]
    rw [hd, Bool.true_or] at HX
    obtain ⟨h1, h2, h3, h4⟩ := dataB_of hd
    have hkn : k.toNat < ws.length := by omega
    obtain ⟨g1, g2, g3⟩ := set_lt hs k.toNat b.toNat hkn (by omega)
    have hp := pow_le39 b.toNat (by omega)
    have hx := i64_xor_nat (ws.getD k.toNat 0) (2 ^ b.toNat) (by omega) (by omega)
    have hw := pow_w b h3 (by omega)
    have hwi : IntKind.i64.wrap (2 ^ b.toNat) = ((2 ^ b.toNat : Nat) : Int) := by rw [wrapEq, hw]
    have hk8 : (k == 8) = false := by simp; omega
    obtain ⟨kn, rfl⟩ : ∃ kn : Nat, k = kn := ⟨k.toNat, by omega⟩
    rw [Int.toNat_natCast] at *
    have hset := ci_set ws kn (ws.getD kn 0 ^^^ 2 ^ b.toNat)
    have hcg := iv_at (l := ci ws) (k := kn) (by omega)
    rw [ci_get] at hcg
    have hst := iv_set (ci ws) kn ((ws.getD kn 0 ^^^ 2 ^ b.toNat : Nat) : Int)
    rw [hset] at hst
    have hl2 : (ws.set kn (ws.getD kn 0 ^^^ 2 ^ b.toNat)).length = 8 := by simp [h8]
    have HI2 := Lib.hid (size22' (l := ci (ws.set kn (ws.getD kn 0 ^^^ 2 ^ b.toNat))) (by rw [ci_len, hl2]))
    have HO2 := Lib.hid (iv_one (ci (ws.set kn (ws.getD kn 0 ^^^ 2 ^ b.toNat))))
    have HL2 := Lib.hid (show (iv Z8).length = (iv (ci (ws.set kn (ws.getD kn 0 ^^^ 2 ^ b.toNat)))).length by rw [iv_len, iv_len, ci_len, hl2]; rfl)
    generalize ws.set kn (ws.getD kn 0 ^^^ 2 ^ b.toNat) = ws2 at *
    generalize ws.getD kn 0 ^^^ 2 ^ b.toNat = y at *
    generalize ws.getD kn 0 = x at *
    generalize 2 ^ b.toNat = p at *
    have HE := Lib.hid e
    have HST := Lib.hid hst
    have HCG := Lib.hid hcg
    clear e hst hcg hset hR hd g1 g2 g3 hp hs hl2 hc
    go_enter Tryz.func97, Tryz.ntmps97
    go_wp2_with fail
    refine (HX.out _).mono ?_
    rintro e w1 ⟨rfl, hw1⟩
    have HA : Hid (Arr w1 w.heap.size 39 (iv (ci ws))) := Lib.hid (by rw [hw1]; exact a2_0 _ _ _)
    have HZ : Hid (Arr w1 (w.heap.size + 1) 39 (iv Z8)) := Lib.hid (by rw [hw1]; exact a2_1 _ _ _)
    have HB : Hid (Below w.heap.size w w1) := Lib.hid (by rw [hw1]; exact bel2 _ _ _)
    clear hw1
    have hcell := HA.out.cell HCG.out
    have hfree := HA.out.free kn
    go_wp2_with fail
    go_still_tail 8, (by kernel_rfl)
    change wpList _ _ _ _ _ w1.drew
    have hbd := bel_drew w1
    have HA2 := Lib.hid (HA.out.keep hbd)
    have HZ2 := Lib.hid (HZ.out.keep hbd)
    have HB2 := Lib.hid (bel_on HB.out hbd)
    generalize w1.drew = w2 at *
    clear hbd hcell hfree HA HZ HB
    have hcell := HA2.out.cell HCG.out
    have hfree := HA2.out.free kn
    have hA3 : Arr (w2.setCell ⟨w.heap.size, kn, none⟩ (.int .i64 (y : Int))) w.heap.size 39 (iv (ci ws2)) := by
      have := HA2.out.set kn (.int .i64 (y : Int))
      rwa [HST.out] at this
    have HA3 := Lib.hid hA3
    have HZ3 : Hid (Arr (w2.setCell ⟨w.heap.size, kn, none⟩ (.int .i64 (y : Int))) (w.heap.size + 1) 39 (iv Z8)) := Lib.hid (HZ2.out.other (by simp) _)
    have HB3 : Hid (Below w.heap.size w (w2.setCell ⟨w.heap.size, kn, none⟩ (.int .i64 (y : Int)))) := Lib.hid (HB2.out.setCell (Nat.le_refl _) _)
    clear hA3
    go_wp2_with (first
      | ((with_reducible refine arm_row 39 w.heap.size 39 _ HA3.out _ H22.out rfl HI2.out rfl _ rfl ?_ ?_); focus rfl)
      | ((with_reducible refine arm_put 39 (w.heap.size + 1) 39 _ _ HZ3.out HI2.out HL2.out HO2.out rfl _ _ rfl ?_ ?_ ?_); (focus rfl); (focus rfl)))
    refine bodyPost_ret (v := pr (ws2, c)) (ret_row2 Tryz.results97 _ _ (w.heap.size + 1) 39 (iv (ci ws2)) (HZ3.out.row _) rfl _ H22.out rfl HI2.out _ rfl) rfl ?_
    exact ⟨by rw [HE.out], bel_row HB3.out (by omega) _⟩
  | false =>
    cases hcd : codeB k b with
    | true =>
      have e : R = (ws, c ^^^ 2 ^ b.toNat) := by rw [← hR]; unfold flipR; rw [hd, hcd, if_neg (by decide), if_pos rfl]
      rw [hd, hcd] at HX
      obtain ⟨rfl, h3, h4⟩ := codeB_of hcd
      have hp := pow_le39 b.toNat (by omega)
      have hx := i64_xor_nat c (2 ^ b.toNat) (by omega) (by omega)
      have hw := pow_w b h3 (by omega)
      have hwi : IntKind.i64.wrap (2 ^ b.toNat) = ((2 ^ b.toNat : Nat) : Int) := by rw [wrapEq, hw]
      generalize c ^^^ 2 ^ b.toNat = y at *
      generalize 2 ^ b.toNat = p at *
      have HE := Lib.hid e
      clear e hR hd hcd hp hs hc
      go_enter Tryz.func97, Tryz.ntmps97
      go_wp2_with fail
      refine (HX.out _).mono ?_
      rintro e w1 ⟨rfl, hw1⟩
      have HA : Hid (Arr w1 w.heap.size 39 (iv (ci ws))) := Lib.hid (by rw [hw1]; exact a2_0 _ _ _)
      have HZ : Hid (Arr w1 (w.heap.size + 1) 39 (iv Z8)) := Lib.hid (by rw [hw1]; exact a2_1 _ _ _)
      have HB : Hid (Below w.heap.size w w1) := Lib.hid (by rw [hw1]; exact bel2 _ _ _)
      clear hw1
      go_wp2_with fail
      have hbd := bel_drew w1
      have HA2 := Lib.hid (HA.out.keep hbd)
      have HZ2 := Lib.hid (HZ.out.keep hbd)
      have HB2 := Lib.hid (bel_on HB.out hbd)
      have hr2 : w1.drew.rangeAt w.heap.size 0 (iv (ci ws)) := HA2.out.range
      have hu22 := Tryz.underlying39
      have hi22 := HI.out
      clear hbd
      refine wp_region_held_drew (S := fun W' => W'.rangeAt w.heap.size 0 (iv (ci ws))) (by kernel_rfl) hr2 (fun hHeld => ?_)
      refine wpAnyH_take (i := 0) (v := .agg (iv (ci ws)).toArray) rfl (by kernel_rfl) (by kernel_rfl) (by kernel_rfl) (fun _ _ _ h => h) (yieldsIf_load_mid (by rfl) _ _ rfl _ _ rfl _ _ (fun w h => h) hu22 rfl hi22) (by assumption) ?_
      change wpAnyH _ _ _ _ _ _ _ (Act.put _ (some 20) _) _
      simp only [Act.put, List.setIfInBounds_toArray, List.set_cons_zero, List.set_cons_succ]
      refine wpAnyH_take (i := 1) (v := .int .i64 (c : Int)) rfl (by kernel_rfl) (by kernel_rfl) (by kernel_rfl) (fun _ _ _ h => h) (Or.inl ⟨by rfl, fun w hSw => by go_simp⟩) (by assumption) ?_
      change wpAnyH _ _ _ _ _ _ _ (Act.put _ (some 21) _) _
      simp only [Act.put, List.setIfInBounds_toArray, List.set_cons_zero, List.set_cons_succ]
      refine wpAnyH_take (i := 2) (v := .int .i64 b) rfl (by kernel_rfl) (by kernel_rfl) (by kernel_rfl) (fun _ _ _ h => h) (Or.inl ⟨by rfl, fun w hSw => by go_simp⟩) (by assumption) ?_
      change wpAnyH _ _ _ _ _ _ _ (Act.put _ (some 22) _) _
      simp only [Act.put, List.setIfInBounds_toArray, List.set_cons_zero, List.set_cons_succ]
      refine wpAnyH_take (i := 3) (v := .int .i64 (p : Int)) rfl (by kernel_rfl) (by kernel_rfl) (by kernel_rfl) (fun _ _ _ h => h) (Or.inl ⟨by rfl, fun w hSw => by go_simp⟩) (by assumption) ?_
      change wpAnyH _ _ _ _ _ _ _ (Act.put _ (some 23) _) _
      simp only [Act.put, List.setIfInBounds_toArray, List.set_cons_zero, List.set_cons_succ]
      refine wpAnyH_take (i := 4) (v := .int .i64 (y : Int)) rfl (by kernel_rfl) (by kernel_rfl) (by kernel_rfl) (fun _ _ _ h => h) (Or.inl ⟨by rfl, fun w hSw => by go_simp⟩) (by assumption) ?_
      change wpAnyH _ _ _ _ _ _ _ (Act.put _ (some 24) _) _
      simp only [Act.put, List.setIfInBounds_toArray, List.set_cons_zero, List.set_cons_succ]
      refine wpAnyH_ready (rs := [5]) (by kernel_rfl) (by simp) ?_
      refine AllReadyH.cons rfl (fun K hK => ?_) AllReadyH.nil
      rw [if_pos (by rfl)]
      refine wp_store_row 39 (.tmp 8) (.tmp 20) rfl (w.heap.size + 1) (iv (ci ws)).toArray rfl rfl 39 (iv Z8).toArray HZ2.out (by simpa using HI.out) (by simpa using HL.out) (all_oneCell_toArray HO.out) ?_
      have HA3 : Hid (Arr (w1.drew.setRow (w.heap.size + 1) (iv (ci ws)).toArray) w.heap.size 39 (iv (ci ws))) := Lib.hid (HA2.out.row_other (by omega) _)
      have HZ3 : Hid (Arr (w1.drew.setRow (w.heap.size + 1) (iv (ci ws)).toArray) (w.heap.size + 1) 39 (iv (ci ws))) := Lib.hid (HZ2.out.row _)
      have HB3 : Hid (Below w.heap.size w (w1.drew.setRow (w.heap.size + 1) (iv (ci ws)).toArray)) := Lib.hid (bel_row HB2.out (by omega) _)
      refine hK.out _ _ HA3.out.range (fun hHeld3 => ?_)
      clear hK K hHeld hr2
      generalize w1.drew.setRow (w.heap.size + 1) (iv (ci ws)).toArray = w3 at *
      change wpAnyH _ _ _ _ _ _ _ (Act.put _ none _) _
      simp only [Act.put]
      refine wpAnyH_take (i := 6) (v := .int .i64 (y : Int)) rfl (by kernel_rfl) (by kernel_rfl) (by kernel_rfl) (fun _ _ _ h => h) (Or.inl ⟨by rfl, fun w hSw => by go_simp⟩) (by assumption) ?_
      change wpAnyH _ _ _ _ _ _ _ (Act.put _ (some 9) _) _
      simp only [Act.put, List.setIfInBounds_toArray, List.set_cons_zero, List.set_cons_succ]
      refine wpAnyH_done (by kernel_rfl) ?_ _
      clear HA HZ HB HA2 HZ2 HB2 hHeld3
      go_wp2_with fail
      refine bodyPost_ret (v := pr (ws, y)) (ret_row2 Tryz.results97 _ _ (w.heap.size + 1) 39 (iv (ci ws)) HZ3.out rfl _ H22.out rfl HI.out _ rfl) rfl ?_
      exact ⟨by rw [HE.out], HB3.out⟩
    | false =>
      have e : R = (ws, c) := by rw [← hR]; unfold flipR; rw [hd, hcd, if_neg (by decide), if_neg (by decide)]
      rw [hd, hcd] at HX
      have HE := Lib.hid e
      clear e hR hd hcd hs hc
      go_enter Tryz.func97, Tryz.ntmps97
      go_wp2_with fail
      refine (HX.out _).mono ?_
      rintro e w1 ⟨rfl, hw1⟩
      have HA : Hid (Arr w1 w.heap.size 39 (iv (ci ws))) := Lib.hid (by rw [hw1]; exact a2_0 _ _ _)
      have HZ : Hid (Arr w1 (w.heap.size + 1) 39 (iv Z8)) := Lib.hid (by rw [hw1]; exact a2_1 _ _ _)
      have HB : Hid (Below w.heap.size w w1) := Lib.hid (by rw [hw1]; exact bel2 _ _ _)
      clear hw1
      go_wp2_with (first
        | ((with_reducible refine arm_row 39 w.heap.size 39 _ HA.out _ H22.out rfl HI.out rfl _ rfl ?_ ?_); focus rfl)
        | ((with_reducible refine arm_put 39 (w.heap.size + 1) 39 _ _ HZ.out HI.out HL.out HO.out rfl _ _ rfl ?_ ?_ ?_); (focus rfl); (focus rfl)))
      refine bodyPost_ret (v := pr (ws, c)) (ret_row2 Tryz.results97 _ _ (w.heap.size + 1) 39 (iv (ci ws)) (HZ.out.row _) rfl _ H22.out rfl HI.out _ rfl) rfl ?_
      exact ⟨by rw [HE.out], bel_row HB.out (by omega) _⟩
end Go.Proofs.YtmnncbgibngmiaaGreatDoor
namespace Go.Proofs.YtmnncbgibngmiaaGreatDoor
open Go.RowKit
set_option maxRecDepth 100000 in
set_option maxHeartbeats 1000000 in
theorem rFix_any (L : List Int) (c : Int) (w : World) (h8 : L.length = 8) :
    Calls Tryz.prog 85 #[.agg (iv L).toArray, .int .i64 c] w fun e w' => e = .returned (fr (fixZ L c)) ∧ Below w.heap.size w w' := by
  have HI := Lib.hid (size22' (l := L) h8)
  have HIZ := Lib.hid (size22' (l := Z8) rfl)
  have HOZ := Lib.hid (iv_one Z8)
  have HO := Lib.hid (iv_one L)
  have HL := Lib.hid (show (iv Z8).length = (iv L).length by rw [iv_len, iv_len, h8]; rfl)
  have H22 := Lib.hid Tryz.underlying39
  have H22s := Lib.hid size22
  have H29s := Lib.hid size29
  have HV := Lib.hid fun w => rvalid_any L c w h8
  have HC := Lib.hid fun w => rChecked_any L c w h8
  obtain ⟨R, hR⟩ : ∃ R, fixZ L c = R := ⟨_, rfl⟩
  rw [hR]
  cases hv : validB L c with
  | false =>
    have HE : Hid (R = (Z8, 0, 1)) := Lib.hid (by rw [← hR]; unfold fixZ; rw [hv, if_neg (by decide)])
    rw [hv] at HV
    clear hR HC hv
    go_enter Tryz.func85, Tryz.ntmps85
    go_wp2_with ((with_reducible refine arm_row 39 w.heap.size 39 _ (Arr2_0 w (iv L) 39 _) _ H22.out rfl HI.out rfl _ rfl ?_ ?_); focus rfl)
    refine (HV.out _).mono ?_
    rintro e w1 ⟨rfl, hb⟩
    have HZ : Hid (Arr w1 (w.heap.size + 1) 39 (iv Z8)) := Lib.hid (Arr.keep (a2_1 _ _ _) hb)
    have HB : Hid (Below w.heap.size w w1) := Lib.hid (bel_on (bel2 _ _ _) hb)
    clear hb
    go_wp2_with ((with_reducible refine arm_put 39 (w.heap.size + 1) 39 _ _ HZ.out HIZ.out rfl HOZ.out rfl _ _ rfl ?_ ?_ ?_); (focus rfl); (focus rfl))
    refine bodyPost_ret (v := fr (Z8, 0, 1)) (ret_row3 Tryz.results85 _ _ (w.heap.size + 1) 39 (iv Z8) (HZ.out.row _) rfl _ H22.out rfl HIZ.out _ _ rfl rfl) rfl ?_
    exact ⟨by rw [HE.out], bel_row HB.out (by omega) _⟩
  | true =>
    rw [hv] at HV
    have hst := chkZ_state L c
    have HR0 : (chkZ L c).1 = 0 → R = (L, c, 0) := fun h => by rw [← hR]; unfold fixZ; rw [hv, if_pos rfl, if_neg (by omega), if_neg (by omega)]
    have HR2 : (chkZ L c).1 = 2 → R = (Z8, 0, 9) := fun h => by rw [← hR]; unfold fixZ; rw [hv, if_pos rfl, if_pos h]
    have HR1 : (chkZ L c).1 = 1 → R = (ci (flipR (nw L) c.toNat ((chkZ L c).2.1 : Nat) ((chkZ L c).2.2 : Nat)).1, (((flipR (nw L) c.toNat ((chkZ L c).2.1 : Nat) ((chkZ L c).2.2 : Nat)).2 : Nat) : Int), 0) := fun h => by rw [← hR]; unfold fixZ; rw [hv, if_pos rfl, if_neg (by omega), if_pos h]
    unfold validB at hv
    simp only [Bool.and_eq_true, decide_eq_true_eq] at hv
    obtain ⟨ha, hc0, hc1⟩ := hv
    obtain ⟨hL, hs⟩ := of_all ha
    have hlen : (nw L).length = 8 := by rw [nw_len, h8]
    obtain ⟨m, rfl⟩ : ∃ m : Nat, c = m := ⟨c.toNat, by omega⟩
    rw [Int.toNat_natCast] at HR1
    generalize chkZ L (m : Int) = r at *
    obtain ⟨st, kk, bb⟩ := r
    simp only at hst HR0 HR1 HR2
    have HIR : Hid ((iv (stI (st, kk, bb))).length = 3) := Lib.hid rfl
    have HOR := Lib.hid (iv_one (stI (st, kk, bb)))
    have HF := Lib.hid fun w => rFlip_any (nw L) m kk bb w hlen hs (by omega)
    have hfl : (flipR (nw L) m kk bb).1.length = 8 := by rw [flipR_len, hlen]
    rw [← hL] at HF
    have HIF := Lib.hid (size22' (l := ci (flipR (nw L) m kk bb).1) (by rw [ci_len, hfl]))
    have HOF := Lib.hid (iv_one (ci (flipR (nw L) m kk bb).1))
    have HNF : Hid ((iv (ci (flipR (nw L) m kk bb).1)).length = 8) := Lib.hid (by rw [iv_len, ci_len, hfl])
    have HLF2 := Lib.hid (show (iv Z8).length = (iv (ci (flipR (nw L) m kk bb).1)).length by rw [iv_len, iv_len, ci_len, hfl]; rfl)
    generalize flipR (nw L) m kk bb = f at *
    obtain ⟨fw, fc⟩ := f
    simp only at HIF HOF HNF HLF2 HR1
    clear ha hL hs hlen hfl hc0 hc1 hR
    have HR0' := Lib.hid HR0
    have HR1' := Lib.hid HR1
    have HR2' := Lib.hid HR2
    clear HR0 HR1 HR2
    obtain ⟨V, hV⟩ : ∃ V, iv (stI (st, kk, bb)) = V := ⟨_, rfl⟩
    have HV0 : Hid (V[0]? = some (.int .i64 (st : Int))) := Lib.hid (by rw [← hV]; rfl)
    have HV1 : Hid (V[1]? = some (.int .i64 (kk : Int))) := Lib.hid (by rw [← hV]; rfl)
    have HV2 : Hid (V[2]? = some (.int .i64 (bb : Int))) := Lib.hid (by rw [← hV]; rfl)
    have HC2 : Hid (∀ w, Calls Tryz.prog 86 #[.agg (iv L).toArray, .int .i64 (m : Int)] w fun e w' => e = .returned (.agg V.toArray) ∧ Below w.heap.size w w') := Lib.hid (by rw [← hV]; exact HC.out)
    rw [hV] at HIR HOR
    clear hV HC
    rcases hst with rfl | rfl | rfl
    · go_enter Tryz.func85, Tryz.ntmps85
      go_wp2_with ((with_reducible refine arm_row 39 w.heap.size 39 _ (Arr2_0 w (iv L) 39 _) _ H22.out rfl HI.out rfl _ rfl ?_ ?_); focus rfl)
      refine (HV.out _).mono ?_
      rintro e w1 ⟨rfl, hb⟩
      have HA : Hid (Arr w1 w.heap.size 39 (iv L)) := Lib.hid (Arr.keep (a2_0 _ _ _) hb)
      have HZ : Hid (Arr w1 (w.heap.size + 1) 39 (iv Z8)) := Lib.hid (Arr.keep (a2_1 _ _ _) hb)
      have HB : Hid (Below w.heap.size w w1) := Lib.hid (bel_on (bel2 _ _ _) hb)
      clear hb
      go_wp2_with ((with_reducible refine arm_row 39 w.heap.size 39 _ HA.out _ H22.out rfl HI.out rfl _ rfl ?_ ?_); focus rfl)
      refine (HC2.out _).mono ?_
      rintro e w2 ⟨rfl, hb⟩
      have HA2 := Lib.hid (HA.out.keep hb)
      have HZ2 := Lib.hid (HZ.out.keep hb)
      have HB2 := Lib.hid (bel_on HB.out hb)
      clear hb HA HZ HB
      go_wp2_with (first
        | ((with_reducible refine arm_new 115 V 3 HIR.out H29s.out HOR.out _ ?_ rfl _ _ rfl ?_ ?_ ?_); (focus rfl); (focus rfl); (focus rfl); (refine nm_l ?_; intro w3 hw3; have HA3 : Hid (Arr w3 w.heap.size 39 (iv L)) := Lib.hid (by rw [hw3]; exact HA2.out.keep (bel_new _ _)); have HZ3 : Hid (Arr w3 (w.heap.size + 1) 39 (iv Z8)) := Lib.hid (by rw [hw3]; exact HZ2.out.keep (bel_new _ _)); have HS3 : Hid (Arr w3 w2.heap.size 115 V) := Lib.hid (by rw [hw3]; exact Arr.new _ _ _); have HB3 : Hid (Below w.heap.size w w3) := Lib.hid (by rw [hw3]; exact bel_on HB2.out (bel_new _ _)); clear hw3 HB2 HA2 HZ2; generalize w2.heap.size = b2 at *; have hc0 := HS3.out.cell HV0.out))
        | ((with_reducible refine arm_row 39 w.heap.size 39 _ HA3.out _ H22.out rfl HI.out rfl _ rfl ?_ ?_); focus rfl)
        | ((with_reducible refine arm_put 39 (w.heap.size + 1) 39 _ _ HZ3.out HI.out HL.out HO.out rfl _ _ rfl ?_ ?_ ?_); (focus rfl); (focus rfl)))
      refine bodyPost_ret (v := fr (L, m, 0)) (ret_row3 Tryz.results85 _ _ (w.heap.size + 1) 39 (iv L) (HZ3.out.row _) rfl _ H22.out rfl HI.out _ _ rfl rfl) rfl ?_
      exact ⟨by rw [HR0'.out (by first | exact rfl | trivial)], bel_row HB3.out (by omega) _⟩
    · go_enter Tryz.func85, Tryz.ntmps85
      go_wp2_with ((with_reducible refine arm_row 39 w.heap.size 39 _ (Arr2_0 w (iv L) 39 _) _ H22.out rfl HI.out rfl _ rfl ?_ ?_); focus rfl)
      refine (HV.out _).mono ?_
      rintro e w1 ⟨rfl, hb⟩
      have HA : Hid (Arr w1 w.heap.size 39 (iv L)) := Lib.hid (Arr.keep (a2_0 _ _ _) hb)
      have HZ : Hid (Arr w1 (w.heap.size + 1) 39 (iv Z8)) := Lib.hid (Arr.keep (a2_1 _ _ _) hb)
      have HB : Hid (Below w.heap.size w w1) := Lib.hid (bel_on (bel2 _ _ _) hb)
      clear hb
      go_wp2_with ((with_reducible refine arm_row 39 w.heap.size 39 _ HA.out _ H22.out rfl HI.out rfl _ rfl ?_ ?_); focus rfl)
      refine (HC2.out _).mono ?_
      rintro e w2 ⟨rfl, hb⟩
      have HA2 := Lib.hid (HA.out.keep hb)
      have HZ2 := Lib.hid (HZ.out.keep hb)
      have HB2 := Lib.hid (bel_on HB.out hb)
      clear hb HA HZ HB
      go_wp2_with (first
        | ((with_reducible refine arm_new 115 V 3 HIR.out H29s.out HOR.out _ ?_ rfl _ _ rfl ?_ ?_ ?_); (focus rfl); (focus rfl); (focus rfl); (refine nm_l ?_; intro w3 hw3; have HA3 : Hid (Arr w3 w.heap.size 39 (iv L)) := Lib.hid (by rw [hw3]; exact HA2.out.keep (bel_new _ _)); have HZ3 : Hid (Arr w3 (w.heap.size + 1) 39 (iv Z8)) := Lib.hid (by rw [hw3]; exact HZ2.out.keep (bel_new _ _)); have HS3 : Hid (Arr w3 w2.heap.size 115 V) := Lib.hid (by rw [hw3]; exact Arr.new _ _ _); have HB3 : Hid (Below w.heap.size w w3) := Lib.hid (by rw [hw3]; exact bel_on HB2.out (bel_new _ _)); clear hw3 HB2 HA2 HZ2; generalize w2.heap.size = b2 at *; have hc0 := HS3.out.cell HV0.out; have hc1 := HS3.out.cell HV1.out; have hc2 := HS3.out.cell HV2.out))
        | ((with_reducible refine arm_row 39 w.heap.size 39 _ HA3.out _ H22.out rfl HI.out rfl _ rfl ?_ ?_); focus rfl))
      refine (HF.out _).mono ?_
      rintro e w4 ⟨rfl, hb⟩
      have HZ4 := Lib.hid (HZ3.out.keep hb)
      have HB4 := Lib.hid (bel_on HB3.out hb)
      clear hb HA3 HZ3 HB3 hc0 hc1 hc2 HS3
      unfold pr
      go_wp2_with (first
        | ((with_reducible refine arm_new 39 (iv (ci fw)) 8 HNF.out H22s.out HOF.out _ ?_ rfl _ _ rfl ?_ ?_ ?_); (focus rfl); (focus rfl); (focus rfl); (refine nm_l ?_; intro w5 hw5; have HZ5 : Hid (Arr w5 (w.heap.size + 1) 39 (iv Z8)) := Lib.hid (by rw [hw5]; exact HZ4.out.keep (bel_new _ _)); have HF5 : Hid (Arr w5 w4.heap.size 39 (iv (ci fw))) := Lib.hid (by rw [hw5]; exact Arr.new _ _ _); have HB5 : Hid (Below w.heap.size w w5) := Lib.hid (by rw [hw5]; exact bel_on HB4.out (bel_new _ _)); clear hw5 HB4 HZ4; generalize w4.heap.size = b3 at *))
        | ((with_reducible refine arm_row 39 b3 39 _ HF5.out _ H22.out rfl HIF.out rfl _ rfl ?_ ?_); focus rfl)
        | ((with_reducible refine arm_put 39 (w.heap.size + 1) 39 _ _ HZ5.out HIF.out HLF2.out HOF.out rfl _ _ rfl ?_ ?_ ?_); (focus rfl); (focus rfl)))
      refine bodyPost_ret (v := fr (ci fw, fc, 0)) (ret_row3 Tryz.results85 _ _ (w.heap.size + 1) 39 (iv (ci fw)) (HZ5.out.row _) rfl _ H22.out rfl HIF.out _ _ rfl rfl) rfl ?_
      exact ⟨by rw [HR1'.out (by first | exact rfl | trivial)], bel_row HB5.out (by omega) _⟩
    · go_enter Tryz.func85, Tryz.ntmps85
      go_wp2_with ((with_reducible refine arm_row 39 w.heap.size 39 _ (Arr2_0 w (iv L) 39 _) _ H22.out rfl HI.out rfl _ rfl ?_ ?_); focus rfl)
      refine (HV.out _).mono ?_
      rintro e w1 ⟨rfl, hb⟩
      have HA : Hid (Arr w1 w.heap.size 39 (iv L)) := Lib.hid (Arr.keep (a2_0 _ _ _) hb)
      have HZ : Hid (Arr w1 (w.heap.size + 1) 39 (iv Z8)) := Lib.hid (Arr.keep (a2_1 _ _ _) hb)
      have HB : Hid (Below w.heap.size w w1) := Lib.hid (bel_on (bel2 _ _ _) hb)
      clear hb
      go_wp2_with ((with_reducible refine arm_row 39 w.heap.size 39 _ HA.out _ H22.out rfl HI.out rfl _ rfl ?_ ?_); focus rfl)
      refine (HC2.out _).mono ?_
      rintro e w2 ⟨rfl, hb⟩
      have HZ2 := Lib.hid (HZ.out.keep hb)
      have HB2 := Lib.hid (bel_on HB.out hb)
      clear hb HA HZ HB
      go_wp2_with (first
        | ((with_reducible refine arm_new 115 V 3 HIR.out H29s.out HOR.out _ ?_ rfl _ _ rfl ?_ ?_ ?_); (focus rfl); (focus rfl); (focus rfl); (refine nm_l ?_; intro w3 hw3; have HZ3 : Hid (Arr w3 (w.heap.size + 1) 39 (iv Z8)) := Lib.hid (by rw [hw3]; exact HZ2.out.keep (bel_new _ _)); have HS3 : Hid (Arr w3 w2.heap.size 115 V) := Lib.hid (by rw [hw3]; exact Arr.new _ _ _); have HB3 : Hid (Below w.heap.size w w3) := Lib.hid (by rw [hw3]; exact bel_on HB2.out (bel_new _ _)); clear hw3 HB2 HZ2; generalize w2.heap.size = b2 at *; have hc0 := HS3.out.cell HV0.out))
        | ((with_reducible refine arm_put 39 (w.heap.size + 1) 39 _ _ HZ3.out HIZ.out rfl HOZ.out rfl _ _ rfl ?_ ?_ ?_); (focus rfl); (focus rfl)))
      refine bodyPost_ret (v := fr (Z8, 0, 9)) (ret_row3 Tryz.results85 _ _ (w.heap.size + 1) 39 (iv Z8) (HZ3.out.row _) rfl _ H22.out rfl HIZ.out _ _ rfl rfl) rfl ?_
      exact ⟨by rw [HR2'.out (by first | exact rfl | trivial)], bel_row HB3.out (by omega) _⟩
end Go.Proofs.YtmnncbgibngmiaaGreatDoor
