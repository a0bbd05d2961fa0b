/- What the reference's Distance does. -/
import Derived.Test.YthidababplamgaaDoorR7
namespace Go.Proofs.YthidababplamgaaDoor
open Go.RowKit
theorem exists_nat (k b : Nat) (hk : k ≤ 8) (hb : b < 40) : (dataB (k : Int) (b : Int) || codeB (k : Int) (b : Int)) = decide (k < 8 ∨ b < 10) := by
  unfold dataB codeB
  rw [← Bool.decide_or, decide_eq_decide]
  omega
set_option maxRecDepth 100000 in
set_option maxHeartbeats 4000000 in
theorem rDist_any (V : List Int) (a : Int) (U : List Int) (b : Int) (w : World) (h8 : V.length = 8) (h8' : U.length = 8) :
    Calls Tryd.prog 19 #[.agg (iv V).toArray, .int .i64 a, .agg (iv U).toArray, .int .i64 b] w fun e w' => e = .returned (.int .i64 (distZ V a U b)) ∧ Below w.heap.size w w' := by
  have HI := Lib.hid (size22' (l := V) h8)
  have HIU := Lib.hid (size22' (l := U) h8')
  have H22 := Lib.hid Tryd.underlying22
  have HV := Lib.hid fun w => rvalid_any V a w h8
  have HU := Lib.hid fun w => rvalid_any U b w h8'
  obtain ⟨R, hR⟩ : ∃ R, distZ V a U b = R := ⟨_, rfl⟩
  rw [hR]
  by_cases hboth : validB V a = true ∧ validB U b = true
  · obtain ⟨hv, hu⟩ := hboth
    rw [hv] at HV
    rw [hu] at HU
    have HE0 : R = ((popT (xorL (nw V) (nw U)) (a.toNat ^^^ b.toNat) : Nat) : Int) := by rw [← hR]; unfold distZ; rw [hv, hu, if_pos ⟨rfl, rfl⟩]
    unfold validB at hv hu
    simp only [Bool.and_eq_true, decide_eq_true_eq] at hv hu
    obtain ⟨ha, hc0, hc1⟩ := hv
    obtain ⟨hL, hs⟩ := of_all ha
    have hlen : (nw V).length = 8 := by rw [nw_len, h8]
    obtain ⟨ha', hc0', hc1'⟩ := hu
    obtain ⟨hL', hs'⟩ := of_all ha'
    have hlen' : (nw U).length = 8 := by rw [nw_len, h8']
    generalize nw V = vs at *
    generalize nw U = us at *
    subst hL hL'
    obtain ⟨m, rfl⟩ : ∃ m : Nat, a = m := ⟨a.toNat, by omega⟩
    obtain ⟨n, rfl⟩ : ∃ n : Nat, b = n := ⟨b.toNat, by omega⟩
    rw [Int.toNat_natCast, Int.toNat_natCast, popT_xor _ _ _ _ (by omega)] at HE0
    have hmn : m ^^^ n < 2 ^ 10 := Nat.xor_lt_two_pow (n := 10) (by omega) (by omega)
    have hXl : (xorL (vs ++ [m]) (us ++ [n])).length = 9 := by rw [xorL_len _ _ (by simp; omega)]; simp; omega
    have HG := Lib.hid fun k (hk : k ≤ 8) => xorL_get (vs ++ [m]) (us ++ [n]) (by simp; omega) k (by simp; omega)
    have H8G : Hid ((xorL (vs ++ [m]) (us ++ [n])).getD 8 0 < 1024) := Lib.hid (by
      rw [xorL_get (vs ++ [m]) (us ++ [n]) (by simp; omega) 8 (by simp; omega), nine_get8' vs m hlen, nine_get8' us n hlen']
      exact hmn)
    have HO1 := Lib.hid fun k b w hk hb => one_any vs m k b w hlen hk hb
    have HO2 := Lib.hid fun k b w hk hb => one_any us n k b w hlen' hk hb
    generalize hXX : xorL (vs ++ [m]) (us ++ [n]) = X at *
    have HTAKE := Lib.hid fun k (hk : k < 9) => (take_step X k (by omega)).2
    have HALL : Hid (X.take 9 = X) := Lib.hid (List.take_of_length_le (by omega))
    have HPS := Lib.hid fun k => pop_small (X.take k)
    have HEX := Lib.hid fun k b w => exists_any k b w
    have HE := Lib.hid HE0
    have HXL := Lib.hid hXl
    clear hR ha ha' hc0 hc1 hc0' hc1' hmn HE0 hs hs' hXX hXl hlen hlen' h8 h8'
    go_enter Tryd.func19, Tryd.ntmps19
    go_wp2_with ((with_reducible refine arm_row 22 w.heap.size 22 _ (Arr2_0 w (iv (ci vs)) 22 _) _ H22.out rfl HI.out rfl _ rfl ?_ ?_); focus rfl)
    refine (HV.out _).mono ?_
    rintro e w1 ⟨rfl, hb⟩
    have HAV : Hid (Arr w1 w.heap.size 22 (iv (ci vs))) := Lib.hid (Arr.keep (a2_0 _ _ _) hb)
    have HAU : Hid (Arr w1 (w.heap.size + 1) 22 (iv (ci us))) := Lib.hid (Arr.keep (a2_1 _ _ _) hb)
    have HB : Hid (Below w.heap.size w w1) := Lib.hid (bel_on (bel2 _ _ _) hb)
    clear hb
    go_wp2_with ((with_reducible refine arm_row 22 (w.heap.size + 1) 22 _ HAU.out _ H22.out rfl HIU.out rfl _ rfl ?_ ?_); focus rfl)
    refine (HU.out _).mono ?_
    rintro e w2 ⟨rfl, hb⟩
    have HAV2 := Lib.hid (HAV.out.keep hb)
    have HAU2 := Lib.hid (HAU.out.keep hb)
    have HB2 : Hid (Below w.heap.size w w2) := Lib.hid (bel_on HB.out hb)
    clear hb HAV HAU HB
    go_wp2_with fail
    go_loopw [11, 12] (fun nv kv wr => ∃ c k : Nat, nv = .int .i64 (c : Int) ∧ kv = .int .i64 (k : Int) ∧ k ≤ 9 ∧ Hid (c = popL (X.take k)) ∧ Hid (Arr wr w.heap.size 22 (iv (ci vs))) ∧ Hid (Arr wr (w.heap.size + 1) 22 (iv (ci us))) ∧ Hid (Below w.heap.size w wr)) (fun _ kv _ => 9 - (intOf kv).toNat)
    case atStart => exact ⟨0, 0, rfl, rfl, by omega, Lib.hid rfl, HAV2, HAU2, HB2⟩
    case round =>
      clear HAV2 HAU2 HB2
      obtain ⟨c0, k, rfl, rfl, hk, HN0, HA, HU2, HB⟩ := hrel
      by_cases hlt : k < 9
      · have hkI : (k : Int) < 9 := by omega
        have HTK := Lib.hid (HTAKE.out k hlt)
        have HGK := Lib.hid (HG.out k (by omega))
        obtain ⟨x, hxe⟩ : ∃ x, X.getD k 0 = x := ⟨_, rfl⟩
        have H8K : Hid (k = 8 → x < 1024) := Lib.hid (fun h => by rw [← hxe, h]; exact H8G.out)
        rw [hxe] at HTK HGK
        clear hxe
        go_wp2_with fail
        obtain ⟨wo, rfl⟩ : ∃ wo : World, wo = wr := ⟨_, rfl⟩
        go_loopw [11, 13] (fun nv bv wr => ∃ c b : Nat, nv = .int .i64 (c : Int) ∧ bv = .int .i64 (b : Int) ∧ b ≤ 40 ∧ Hid (c = popL (X.take k) + popW x b) ∧ Hid (Arr wr w.heap.size 22 (iv (ci vs))) ∧ Hid (Arr wr (w.heap.size + 1) 22 (iv (ci us))) ∧ Hid (Below w.heap.size w wr)) (fun _ bv _ => 40 - (intOf bv).toNat)
        case atStart => exact ⟨c0, 0, rfl, rfl, by omega, Lib.hid (by rw [HN0.out]; rfl), HA, HU2, HB⟩
        case round =>
          clear HA HU2 HB
          obtain ⟨c, b, rfl, rfl, hb, HNN, HA, HU2, HB⟩ := hrel
          by_cases hb40 : b < 40
          · have hbI : (b : Int) < 40 := by omega
            have hc1000 : (c : Int) ≤ 1000 := by
              have h1 := HPS.out k
              have h2 := popW_le x b
              have h3 := HNN.out
              rw [List.length_take] at h1
              omega
            have HX1 := Lib.hid fun w => HEX.out (k : Int) (b : Int) w
            rw [exists_nat k b (by omega) hb40] at HX1
            have HST := Lib.hid (pop_step x b)
            by_cases hok : k < 8 ∨ b < 10
            · rw [decide_eq_true hok] at HX1
              have HP1 := Lib.hid fun w => HO1.out k b w (by omega) hb40
              have HP2 := Lib.hid fun w => HO2.out k b w (by omega) hb40
              have htb : x.testBit b = (((vs ++ [m]).getD k 0).testBit b ^^ ((us ++ [n]).getD k 0).testBit b) := by rw [HGK.out, Nat.testBit_xor]
              rw [htb] at HST
              clear htb hok
              generalize ((vs ++ [m]).getD k 0).testBit b = t1 at *
              generalize ((us ++ [n]).getD k 0).testBit b = t2 at *
              cases t1 <;> cases t2
              · have HN2 : Hid (c = popL (X.take k) + popW x (b + 1)) := Lib.hid (by rw [HST.out]; exact HNN.out)
                clear HST
                go_wp2_with fail
                refine (HX1.out _).mono ?_
                rintro e w3 ⟨rfl, rfl⟩
                go_wp2_with ((with_reducible refine arm_row 22 w.heap.size 22 _ HA.out _ H22.out rfl HI.out rfl _ rfl ?_ ?_); focus rfl)
                refine (HP1.out _).mono ?_
                rintro e w4 ⟨rfl, hbl⟩
                have HA4 := Lib.hid (HA.out.keep hbl)
                have HU4 := Lib.hid (HU2.out.keep hbl)
                have HB4 := Lib.hid (bel_on HB.out hbl)
                clear hbl HA HU2 HB
                go_wp2_with ((with_reducible refine arm_row 22 (w.heap.size + 1) 22 _ HU4.out _ H22.out rfl HIU.out rfl _ rfl ?_ ?_); focus rfl)
                refine (HP2.out _).mono ?_
                rintro e w5 ⟨rfl, hbl⟩
                have HA5 := Lib.hid (HA4.out.keep hbl)
                have HU5 := Lib.hid (HU4.out.keep hbl)
                have HB5 := Lib.hid (bel_on HB4.out hbl)
                clear hbl HA4 HU4 HB4
                go_wp2_with fail
                go_roundw
                case rel => exact ⟨c, b + 1, rfl, by simp, by omega, HN2, HA5, HU5, HB5⟩
                case measure => simp [intOf]; omega
              · have HN2 : Hid (c + 1 = popL (X.take k) + popW x (b + 1)) := Lib.hid (by rw [HST.out, HNN.out]; simp; omega)
                clear HST
                go_wp2_with fail
                refine (HX1.out _).mono ?_
                rintro e w3 ⟨rfl, rfl⟩
                go_wp2_with ((with_reducible refine arm_row 22 w.heap.size 22 _ HA.out _ H22.out rfl HI.out rfl _ rfl ?_ ?_); focus rfl)
                refine (HP1.out _).mono ?_
                rintro e w4 ⟨rfl, hbl⟩
                have HA4 := Lib.hid (HA.out.keep hbl)
                have HU4 := Lib.hid (HU2.out.keep hbl)
                have HB4 := Lib.hid (bel_on HB.out hbl)
                clear hbl HA HU2 HB
                go_wp2_with ((with_reducible refine arm_row 22 (w.heap.size + 1) 22 _ HU4.out _ H22.out rfl HIU.out rfl _ rfl ?_ ?_); focus rfl)
                refine (HP2.out _).mono ?_
                rintro e w5 ⟨rfl, hbl⟩
                have HA5 := Lib.hid (HA4.out.keep hbl)
                have HU5 := Lib.hid (HU4.out.keep hbl)
                have HB5 := Lib.hid (bel_on HB4.out hbl)
                clear hbl HA4 HU4 HB4
                go_wp2_with fail
                go_roundw
                case rel => exact ⟨c + 1, b + 1, by simp, by simp, by omega, HN2, HA5, HU5, HB5⟩
                case measure => simp [intOf]; omega
              · have HN2 : Hid (c + 1 = popL (X.take k) + popW x (b + 1)) := Lib.hid (by rw [HST.out, HNN.out]; simp; omega)
                clear HST
                go_wp2_with fail
                refine (HX1.out _).mono ?_
                rintro e w3 ⟨rfl, rfl⟩
                go_wp2_with ((with_reducible refine arm_row 22 w.heap.size 22 _ HA.out _ H22.out rfl HI.out rfl _ rfl ?_ ?_); focus rfl)
                refine (HP1.out _).mono ?_
                rintro e w4 ⟨rfl, hbl⟩
                have HA4 := Lib.hid (HA.out.keep hbl)
                have HU4 := Lib.hid (HU2.out.keep hbl)
                have HB4 := Lib.hid (bel_on HB.out hbl)
                clear hbl HA HU2 HB
                go_wp2_with ((with_reducible refine arm_row 22 (w.heap.size + 1) 22 _ HU4.out _ H22.out rfl HIU.out rfl _ rfl ?_ ?_); focus rfl)
                refine (HP2.out _).mono ?_
                rintro e w5 ⟨rfl, hbl⟩
                have HA5 := Lib.hid (HA4.out.keep hbl)
                have HU5 := Lib.hid (HU4.out.keep hbl)
                have HB5 := Lib.hid (bel_on HB4.out hbl)
                clear hbl HA4 HU4 HB4
                go_wp2_with fail
                go_roundw
                case rel => exact ⟨c + 1, b + 1, by simp, by simp, by omega, HN2, HA5, HU5, HB5⟩
                case measure => simp [intOf]; omega
              · have HN2 : Hid (c = popL (X.take k) + popW x (b + 1)) := Lib.hid (by rw [HST.out]; exact HNN.out)
                clear HST
                go_wp2_with fail
                refine (HX1.out _).mono ?_
                rintro e w3 ⟨rfl, rfl⟩
                go_wp2_with ((with_reducible refine arm_row 22 w.heap.size 22 _ HA.out _ H22.out rfl HI.out rfl _ rfl ?_ ?_); focus rfl)
                refine (HP1.out _).mono ?_
                rintro e w4 ⟨rfl, hbl⟩
                have HA4 := Lib.hid (HA.out.keep hbl)
                have HU4 := Lib.hid (HU2.out.keep hbl)
                have HB4 := Lib.hid (bel_on HB.out hbl)
                clear hbl HA HU2 HB
                go_wp2_with ((with_reducible refine arm_row 22 (w.heap.size + 1) 22 _ HU4.out _ H22.out rfl HIU.out rfl _ rfl ?_ ?_); focus rfl)
                refine (HP2.out _).mono ?_
                rintro e w5 ⟨rfl, hbl⟩
                have HA5 := Lib.hid (HA4.out.keep hbl)
                have HU5 := Lib.hid (HU4.out.keep hbl)
                have HB5 := Lib.hid (bel_on HB4.out hbl)
                clear hbl HA4 HU4 HB4
                go_wp2_with fail
                go_roundw
                case rel => exact ⟨c, b + 1, rfl, by simp, by omega, HN2, HA5, HU5, HB5⟩
                case measure => simp [intOf]; omega
            · rw [decide_eq_false hok] at HX1
              have hk8 : k = 8 := by omega
              have htb : x.testBit b = false := Nat.testBit_lt_two_pow (Nat.lt_of_lt_of_le (H8K.out hk8) (Nat.pow_le_pow_right (n := 2) (i := 10) (by decide) (by omega)))
              rw [htb] at HST
              have HN2 : Hid (c = popL (X.take k) + popW x (b + 1)) := Lib.hid (by rw [HST.out]; exact HNN.out)
              clear HST hk8 htb hok
              go_wp2_with fail
              refine (HX1.out _).mono ?_
              rintro e w3 ⟨rfl, rfl⟩
              go_wp2_with fail
              go_roundw
              case rel => exact ⟨c, b + 1, rfl, by simp, by omega, HN2, HA, HU2, HB⟩
              case measure => simp [intOf]; omega
          · have hbe : b = 40 := by omega
            have hbI : ¬ (b : Int) < 40 := by omega
            have HN2 : Hid (c = popL (X.take (k + 1))) := Lib.hid (by rw [HTK.out, ← hbe]; exact HNN.out)
            clear hbe
            go_wp2_with fail
            go_roundw
            case rel => exact ⟨c, k + 1, rfl, by simp, by omega, HN2, HA, HU2, HB⟩
            case measure => simp [intOf]; omega
      · have hkI : ¬ (k : Int) < 9 := by omega
        have hke : k = 9 := by omega
        have HN2 : Hid ((c0 : Int) = R) := Lib.hid (by rw [HE.out, HN0.out, hke, HALL.out])
        clear hke
        go_wp2_with fail
        go_ret
        exact ⟨ret_i64 HN2.out, HB.out⟩
  · have HE : Hid (R = -1) := Lib.hid (by rw [← hR]; unfold distZ; rw [if_neg hboth])
    cases hv : validB V a with
    | false =>
      rw [hv] at HV
      cases hu : validB U b with
      | false =>
        rw [hu] at HU
        clear hR hboth hv hu
        go_enter Tryd.func19, Tryd.ntmps19
        go_wp2_with ((with_reducible refine arm_row 22 w.heap.size 22 _ (Arr2_0 w (iv V) 22 _) _ H22.out rfl HI.out rfl _ rfl ?_ ?_); focus rfl)
        refine (HV.out _).mono ?_
        rintro e w1 ⟨rfl, hb⟩
        have HAU : Hid (Arr w1 (w.heap.size + 1) 22 (iv U)) := Lib.hid (Arr.keep (a2_1 _ _ _) hb)
        have HB : Hid (Below w.heap.size w w1) := Lib.hid (bel_on (bel2 _ _ _) hb)
        clear hb
        go_wp2_with ((with_reducible refine arm_row 22 (w.heap.size + 1) 22 _ HAU.out _ H22.out rfl HIU.out rfl _ rfl ?_ ?_); focus rfl)
        refine (HU.out _).mono ?_
        rintro e w2 ⟨rfl, hb⟩
        have HB2 : Hid (Below w.heap.size w w2) := Lib.hid (bel_on HB.out hb)
        clear hb
        go_wp2_with fail
        go_ret
        exact ⟨ret_i64 HE.out.symm, HB2.out⟩
      | true =>
        rw [hu] at HU
        clear hR hboth hv hu
        go_enter Tryd.func19, Tryd.ntmps19
        go_wp2_with ((with_reducible refine arm_row 22 w.heap.size 22 _ (Arr2_0 w (iv V) 22 _) _ H22.out rfl HI.out rfl _ rfl ?_ ?_); focus rfl)
        refine (HV.out _).mono ?_
        rintro e w1 ⟨rfl, hb⟩
        have HAU : Hid (Arr w1 (w.heap.size + 1) 22 (iv U)) := Lib.hid (Arr.keep (a2_1 _ _ _) hb)
        have HB : Hid (Below w.heap.size w w1) := Lib.hid (bel_on (bel2 _ _ _) hb)
        clear hb
        go_wp2_with ((with_reducible refine arm_row 22 (w.heap.size + 1) 22 _ HAU.out _ H22.out rfl HIU.out rfl _ rfl ?_ ?_); focus rfl)
        refine (HU.out _).mono ?_
        rintro e w2 ⟨rfl, hb⟩
        have HB2 : Hid (Below w.heap.size w w2) := Lib.hid (bel_on HB.out hb)
        clear hb
        go_wp2_with fail
        go_ret
        exact ⟨ret_i64 HE.out.symm, HB2.out⟩
    | true =>
      rw [hv] at HV
      cases hu : validB U b with
      | false =>
        rw [hu] at HU
        clear hR hboth hv hu
        go_enter Tryd.func19, Tryd.ntmps19
        go_wp2_with ((with_reducible refine arm_row 22 w.heap.size 22 _ (Arr2_0 w (iv V) 22 _) _ H22.out rfl HI.out rfl _ rfl ?_ ?_); focus rfl)
        refine (HV.out _).mono ?_
        rintro e w1 ⟨rfl, hb⟩
        have HAU : Hid (Arr w1 (w.heap.size + 1) 22 (iv U)) := Lib.hid (Arr.keep (a2_1 _ _ _) hb)
        have HB : Hid (Below w.heap.size w w1) := Lib.hid (bel_on (bel2 _ _ _) hb)
        clear hb
        go_wp2_with ((with_reducible refine arm_row 22 (w.heap.size + 1) 22 _ HAU.out _ H22.out rfl HIU.out rfl _ rfl ?_ ?_); focus rfl)
        refine (HU.out _).mono ?_
        rintro e w2 ⟨rfl, hb⟩
        have HB2 : Hid (Below w.heap.size w w2) := Lib.hid (bel_on HB.out hb)
        clear hb
        go_wp2_with fail
        go_ret
        exact ⟨ret_i64 HE.out.symm, HB2.out⟩
      | true => exact absurd ⟨hv, hu⟩ hboth
end Go.Proofs.YthidababplamgaaDoor
