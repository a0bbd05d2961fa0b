/- What the reference's Position and one do. -/
import Derived.Test.YthidababplamgaaDoorR1
namespace Go.Proofs.YthidababplamgaaDoor
open Go.RowKit
set_option maxRecDepth 100000 in
set_option maxHeartbeats 400000 in
theorem rPosition_any (k b : Int) (w : World) :
    Calls Tryd.prog 13 #[.int .i64 k, .int .i64 b] w fun e w' => e = .returned (.int .i64 (posZ k b)) ∧ w' = w := by
  have HX := Lib.hid fun w => exists_any k b w
  obtain ⟨R, hR⟩ : ∃ R, posZ k b = R := ⟨_, rfl⟩
  rw [hR]
  cases h : dataB k b with
  | true =>
    have HE : Hid (R = ((posn (40 * k + b).toNat : Nat) : Int)) := Lib.hid (by rw [← hR, posZ_data h])
    rw [h, Bool.true_or] at HX
    unfold dataB at h
    simp only [decide_eq_true_eq] at h
    obtain ⟨h1, h2, h3, h4⟩ := h
    have HP := Lib.hid fun z w hz => place_any z (40 * k + b).toNat w hz (by omega)
    have e : 40 * k + b = ((40 * k + b).toNat : Nat) := by omega
    have h8 : (k == 8) = false := by simp; omega
    clear hR
    generalize posn (40 * k + b).toNat = p at *
    go_enter Tryd.func13, Tryd.ntmps13
    go_wp2_with fail
    refine (HX.out _).mono ?_
    rintro e w1 ⟨rfl, rfl⟩
    clear e
    go_wp2_with fail
    refine (HP.out _ _ (by omega)).mono ?_
    rintro e w1 ⟨rfl, rfl⟩
    go_wp2_with fail
    go_ret
    exact ⟨ret_i64 HE.out.symm, rfl⟩
  | false =>
    cases h2 : codeB k b with
    | true =>
      rw [h, h2] at HX
      by_cases h9 : b < 9
      · have HE : Hid (R = ((2 ^ b.toNat : Nat) : Int)) := Lib.hid (by rw [← hR, posZ_code h h2 h9])
        unfold codeB at h2
        simp only [decide_eq_true_eq] at h2
        obtain ⟨rfl, h3, h4⟩ := h2
        have hb := Lib.hid (pow_w b h3 (by omega))
        have hne : (b == 9) = false := by simp; omega
        clear hR h
        go_enter Tryd.func13, Tryd.ntmps13
        go_wp2_with fail
        refine (HX.out _).mono ?_
        rintro e w1 ⟨rfl, rfl⟩
        go_wp2_with fail
        go_ret
        exact ⟨ret_i64 (hb.out.trans HE.out.symm), rfl⟩
      · have HE : Hid (R = 0) := Lib.hid (by rw [← hR, posZ_last h h9])
        unfold codeB at h2
        simp only [decide_eq_true_eq] at h2
        obtain ⟨rfl, h3, h4⟩ := h2
        obtain rfl : b = 9 := by omega
        clear hR h
        go_enter Tryd.func13, Tryd.ntmps13
        go_wp2_with fail
        refine (HX.out _).mono ?_
        rintro e w1 ⟨rfl, rfl⟩
        go_wp2_with fail
        go_ret
        exact ⟨ret_i64 HE.out.symm, rfl⟩
    | false =>
      rw [h, h2] at HX
      have HE : Hid (R = 0) := Lib.hid (by rw [← hR, posZ_not h h2])
      clear hR h h2
      go_enter Tryd.func13, Tryd.ntmps13
      go_wp2_with fail
      refine (HX.out _).mono ?_
      rintro e w1 ⟨rfl, rfl⟩
      go_wp2_with fail
      go_ret
      exact ⟨ret_i64 HE.out.symm, rfl⟩
theorem bit_one (x b : Nat) : (((x / 2 ^ b % 2 : Nat) : Int) == 1) = x.testBit b := by
  rw [Nat.testBit_eq_decide_div_mod_eq]
  generalize x / 2 ^ b % 2 = q
  by_cases h : q = 1
  · subst h; rfl
  · have : ¬ (q : Int) = 1 := by omega
    simp [h, this]
theorem shr_one (x b : Nat) : bits .and .i64 ((x : Int) / 2 ^ b) 1 = ((x / 2 ^ b % 2 : Nat) : Int) := by
  rw [i64_and1]
  have e : (x : Int) / 2 ^ b = ((x / 2 ^ b : Nat) : Int) := by
    rw [show ((2 : Int) ^ b) = ((2 ^ b : Nat) : Int) by simp]
    rfl
  rw [e]
  omega
set_option maxRecDepth 100000 in
set_option maxHeartbeats 400000 in
theorem one_any (ws : List Nat) (c k b : Nat) (w : World) (h8 : ws.length = 8) (hk : k ≤ 8) (hb : b < 40) :
    Calls Tryd.prog 37 #[.agg (iv (ci ws)).toArray, .int .i64 (c : Int), .int .i64 (k : Int), .int .i64 (b : Int)] w fun e w' => e = .returned (.bool (((ws ++ [c]).getD k 0).testBit b)) ∧ Below w.heap.size w w' := by
  have HA := Lib.hid (Arr.new w (iv (ci ws)) 22)
  have HB := Lib.hid (bel_new w (.cells (iv (ci ws)).toArray 22))
  obtain ⟨R, hR⟩ : ∃ R, ((ws ++ [c]).getD k 0).testBit b = R := ⟨_, rfl⟩
  rw [hR]
  have hb40 : (b : Int) < 40 := by omega
  rcases Nat.lt_or_ge k 8 with hlt | hge
  · have e1 : (ws ++ [c]).getD k 0 = ws.getD k 0 := by
      rw [List.getD_eq_getElem?_getD, List.getD_eq_getElem?_getD, List.getElem?_append_left (by omega)]
    rw [e1] at hR
    have hcell := HA.out.cell (iv_at (l := ci ws) (k := k) (by rw [ci_len]; omega))
    rw [ci_get] at hcell
    generalize ws.getD k 0 = x at *
    have h1 := shr_one x b
    have h2 := bit_one x b
    rw [hR] at h2
    generalize x / 2 ^ b % 2 = q at *
    have HR := Lib.hid h2
    have hk8 : ((k : Int) == 8) = false := by simp; omega
    have hk2 : (k : Int) < 8 := by omega
    clear hR h2
    go_enter Tryd.func37, Tryd.ntmps37
    go_wp2_with fail
    go_ret
    exact ⟨ret_bool HR.out, HB.out⟩
  · obtain rfl : k = 8 := by omega
    rw [show (ws ++ [c]).getD 8 0 = c by rw [List.getD_eq_getElem?_getD, List.getElem?_append_right (by omega), h8]; rfl] at hR
    have h1 := shr_one c b
    have h2 := bit_one c b
    rw [hR] at h2
    generalize c / 2 ^ b % 2 = q at *
    have HR := Lib.hid h2
    clear hR h2
    go_enter Tryd.func37, Tryd.ntmps37
    go_wp2_with fail
    go_ret
    exact ⟨ret_bool HR.out, HB.out⟩
end Go.Proofs.YthidababplamgaaDoor
