/- CodeDistance answers true. -/
import Derived.Test.YthidababplamgaaDoorAlg3
import Derived.Test.YthidababplamgaaDoorLC
import Derived.Deep.CutRange
import Derived.Deep.DeepCutAuto
namespace Go.Proofs.YthidababplamgaaDoor
open Go.RowKit
set_option maxRecDepth 100000 in
set_option maxHeartbeats 4000000 in
theorem lawD (L M : List Int) (w : World) (hL : L.length = 8) (hM : M.length = 8) (hT : Tab w) :
    Calls Tryd.prog 7 #[.agg (iv L).toArray, .agg (iv M).toArray] w fun e w' => e = .returned (.bool true) ∧ Below w.heap.size w w' := by
  have HT := Lib.hid hT
  have HSAN := Lib.hid fun w hT => san_any w hT
  have HIL := Lib.hid (size22' hL)
  have HIM := Lib.hid (size22' hM)
  have H22 := Lib.hid Tryd.underlying22
  have H22s := Lib.hid size22
  have HMADE := Lib.hid fun w => made_any L w hL
  have HMADE2 := Lib.hid fun w => made_any M w hM
  have h8 : (made L).length = 8 := by rw [made_len, hL]
  have hv := made_lt L
  have h8' : (made M).length = 8 := by rw [made_len, hM]
  have hu := made_lt M
  generalize made L = vs at *
  generalize made M = us at *
  have hlv : (ci vs).length = 8 := by rw [ci_len, h8]
  have hlu : (ci us).length = 8 := by rw [ci_len, h8']
  have hx := xorL_lt (by omega) hv hu
  have hlx : (xorL vs us).length = 8 := by rw [xorL_len vs us (by omega), h8]
  have HENC := Lib.hid fun w hT => encode_any (ci vs) w hlv hT
  rw [encZ_ci hv] at HENC
  have HENC2 := Lib.hid fun w hT => encode_any (ci us) w hlu hT
  rw [encZ_ci hu] at HENC2
  have HENCX := Lib.hid fun w hT => encode_any (ci (xorL vs us)) w (by rw [ci_len, hlx]) hT
  rw [encZ_ci hx, enc_xor h8 h8' hv hu] at HENCX
  have hxor := i64_xor_nat (encN vs) (encN us) (by have := encN_lt h8 hv; omega) (by have := encN_lt h8' hu; omega)
  have HDIST := Lib.hid fun w => dist_any (ci vs) ((encN vs : Nat) : Int) (ci us) ((encN us : Nat) : Int) w hlv hlu
  obtain ⟨n, hn, hfar⟩ := dist_far h8 h8' hv hu
  rw [hn] at HDIST
  have HIV := Lib.hid (size22' hlv)
  have HOV := Lib.hid (iv_one (ci vs))
  have HLV : Hid ((iv (ci vs)).length = 8) := Lib.hid (by rw [iv_len, hlv])
  have HIU := Lib.hid (size22' hlu)
  have HOU := Lib.hid (iv_one (ci us))
  have HLU : Hid ((iv (ci us)).length = 8) := Lib.hid (by rw [iv_len, hlu])
  have HIX := Lib.hid (size22' (l := ci (xorL vs us)) (by rw [ci_len, hlx]))
  have HEQ := Lib.hid fun w => eq_same (ci vs) hlv (ci_i64 hv) w
  have HF := Lib.hid (fil_all vs us h8 h8')
  have HVL := Lib.hid hv
  have HUL := Lib.hid hu
  have HLV8 := Lib.hid h8
  have HLU8 := Lib.hid h8'
  have HFAR := Lib.hid hfar
  generalize encN vs ^^^ encN us = ab at *
  generalize encN vs = a at *
  generalize encN us = b at *
  have HXOR := Lib.hid hxor
  clear hT h8 h8' hv hu hx hlx hlv hlu hn hfar hxor
  go_enter Tryd.func7, Tryd.ntmps7
  go_wp2_with ((with_reducible refine arm_row 22 w.heap.size 22 _ (Arr2_0 w (iv L) 22 _) _ H22.out rfl HIL.out rfl _ rfl ?_ ?_); focus rfl)
  refine (HMADE.out _).mono ?_
  rintro e w1 ⟨rfl, hb⟩
  have HM1 : Hid (Arr w1 (w.heap.size + 1) 22 (iv M)) := Lib.hid (Arr.keep (a2_1 _ _ _) hb)
  have HB1 := Lib.hid (bel_on (bel2 _ _ _) hb)
  clear hb
  go_wp2_with (first
    | ((with_reducible refine arm_new 22 (iv (ci vs)) 8 HLV.out H22s.out HOV.out _ ?_ rfl _ _ rfl ?_ ?_ ?_); (focus rfl); (focus rfl); (focus rfl); (refine nm_l ?_; intro w2 hw2; have HA2 : Hid (Arr w2 w1.heap.size 22 (iv (ci vs))) := Lib.hid (by rw [hw2]; exact Arr.new _ _ _); have HM2 : Hid (Arr w2 (w.heap.size + 1) 22 (iv M)) := Lib.hid (by rw [hw2]; exact HM1.out.keep (bel_new _ _)); have HB2 : Hid (Below w.heap.size w w2) := Lib.hid (by rw [hw2]; exact bel_on HB1.out (bel_new _ _)); clear hw2 HB1 HM1; generalize w1.heap.size = b1 at *))
    | ((with_reducible refine arm_row 22 (w.heap.size + 1) 22 _ HM2.out _ H22.out rfl HIM.out rfl _ rfl ?_ ?_); focus rfl))
  refine (HMADE2.out _).mono ?_
  rintro e w3 ⟨rfl, hb⟩
  have HA3 := Lib.hid (HA2.out.keep hb)
  have HB3 := Lib.hid (bel_on HB2.out hb)
  clear hb HA2 HB2 HM2
  go_upto_region 4 with ((with_reducible refine arm_new 22 (iv (ci us)) 8 HLU.out H22s.out HOU.out _ ?_ rfl _ _ rfl ?_ ?_ ?_); (focus rfl); (focus rfl); (focus rfl); (refine nm_l ?_; intro w4 hw4; have HA4 : Hid (Arr w4 b1 22 (iv (ci vs))) := Lib.hid (by rw [hw4]; exact HA3.out.keep (bel_new _ _)); have HC4 : Hid (Arr w4 w3.heap.size 22 (iv (ci us))) := Lib.hid (by rw [hw4]; exact Arr.new _ _ _); have HB4 : Hid (Below w.heap.size w w4) := Lib.hid (by rw [hw4]; exact bel_on HB3.out (bel_new _ _)); clear hw4 HA3 HB3; generalize w3.heap.size = b2 at *))
  refine name_world ?_
  intro w5 hw5
  have HA5 : Hid (Arr w5 b1 22 (iv (ci vs))) := Lib.hid (by rw [hw5]; exact HA4.out.keep (bel_new _ _))
  have HC5 : Hid (Arr w5 b2 22 (iv (ci us))) := Lib.hid (by rw [hw5]; exact HC4.out.keep (bel_new _ _))
  have HX5 : Hid (Arr w5 w4.heap.size 22 (iv (ci (fil vs us 0)))) := Lib.hid (by rw [hw5]; exact Arr.new _ (iv Z8) 22)
  have HB5 : Hid (Below w.heap.size w w5) := Lib.hid (by rw [hw5]; exact bel_on HB4.out (bel_new _ _))
  have HNA : Hid (b1 ≠ w4.heap.size) := Lib.hid (Nat.ne_of_lt HA4.out.lt)
  have HNC : Hid (b2 ≠ w4.heap.size) := Lib.hid (Nat.ne_of_lt HC4.out.lt)
  have HMX : Hid (w.heap.size ≤ w4.heap.size) := Lib.hid HB4.out.size
  clear hw5 HA4 HC4 HB4
  generalize w4.heap.size = b3 at *
  go_wp2_with fail
  go_loopw [8] (fun i wr => ∃ k : Nat, i = .int .i64 (k : Int) ∧ k ≤ 8 ∧ Hid (Arr wr b1 22 (iv (ci vs))) ∧ Hid (Arr wr b2 22 (iv (ci us))) ∧ Hid (Arr wr b3 22 (iv (ci (fil vs us k)))) ∧ Hid (Below w.heap.size w wr)) (fun i _ => 8 - (intOf i).toNat)
  case atStart => exact ⟨0, rfl, by omega, HA5, HC5, HX5, HB5⟩
  case round =>
    clear HA5 HC5 HX5 HB5
    obtain ⟨k, rfl, hk, HA, HC, HX, HB⟩ := hrel
    by_cases hlt : k < 8
    · have hcv := HA.out.cell (iv_at (l := ci vs) (k := k) (by rw [ci_len, HLV8.out]; omega))
      have hcu := HC.out.cell (iv_at (l := ci us) (k := k) (by rw [ci_len, HLU8.out]; omega))
      rw [ci_get] at hcv hcu
      have hfx := HX.out.free k
      have hcx := HX.out.cell (iv_at (l := ci (fil vs us k)) (k := k) (by rw [ci_len, fil_len]; omega))
      have hx := i64_xor_nat (vs.getD k 0) (us.getD k 0) (by have := get_lt HVL.out k; omega) (by have := get_lt HUL.out k; omega)
      have hst : (iv (ci (fil vs us k))).set k (.int .i64 ((vs.getD k 0 ^^^ us.getD k 0 : Nat) : Int)) = iv (ci (fil vs us (k + 1))) := by
        rw [iv_set, ci_set]
        rfl
      have HST := Lib.hid hst
      clear hst
      generalize vs.getD k 0 ^^^ us.getD k 0 = y at *
      generalize vs.getD k 0 = x1 at *
      generalize us.getD k 0 = x2 at *
      go_wp2_with fail
      go_still_tail 9, (by kernel_rfl)
      change wpList _ _ _ _ _ wr.drew
      have hbd := bel_drew wr
      have HA2 := Lib.hid (HA.out.keep hbd)
      have HC2 := Lib.hid (HC.out.keep hbd)
      have HX2 := Lib.hid (HX.out.keep hbd)
      have HB2 := Lib.hid (bel_on HB.out hbd)
      have hcx2 : wr.drew.cell? ⟨b3, k, none⟩ = _ := hcx
      have hfx2 := HX2.out.free k
      generalize wr.drew = w4 at *
      clear hbd hcv hcu hfx hcx HA HC HX HB
      have HA4 : Hid (Arr (w4.setCell ⟨b3, k, none⟩ (.int .i64 (y : Int))) b1 22 (iv (ci vs))) := Lib.hid (HA2.out.other HNA.out _)
      have HC4 : Hid (Arr (w4.setCell ⟨b3, k, none⟩ (.int .i64 (y : Int))) b2 22 (iv (ci us))) := Lib.hid (HC2.out.other HNC.out _)
      have HX4 : Hid (Arr (w4.setCell ⟨b3, k, none⟩ (.int .i64 (y : Int))) b3 22 (iv (ci (fil vs us (k + 1))))) := Lib.hid (by rw [← HST.out]; exact HX2.out.set k _)
      have HB4 : Hid (Below w.heap.size w (w4.setCell ⟨b3, k, none⟩ (.int .i64 (y : Int)))) := Lib.hid (HB2.out.setCell HMX.out _)
      go_wp2_with fail
      go_roundw
      case rel => exact ⟨k + 1, by simp, by omega, HA4, HC4, HX4, HB4⟩
      case measure => simp [intOf]; omega
    · obtain rfl : k = 8 := by omega
      rw [HF.out] at HX
      go_wp2_with ((with_reducible refine arm_row 22 b1 22 _ HA.out _ H22.out rfl HIV.out rfl _ rfl ?_ ?_); focus rfl)
      refine (HENC.out _ (HT.out.keep HB.out)).mono ?_
      rintro e w6 ⟨rfl, hb⟩
      have HA6 := Lib.hid (HA.out.keep hb)
      have HC6 := Lib.hid (HC.out.keep hb)
      have HX6 := Lib.hid (HX.out.keep hb)
      have HB6 := Lib.hid (bel_on HB.out hb)
      clear hb HA HC HX HB
      go_wp2_with ((with_reducible refine arm_row 22 b2 22 _ HC6.out _ H22.out rfl HIU.out rfl _ rfl ?_ ?_); focus rfl)
      refine (HENC2.out _ (HT.out.keep HB6.out)).mono ?_
      rintro e w7 ⟨rfl, hb⟩
      have HA7 := Lib.hid (HA6.out.keep hb)
      have HC7 := Lib.hid (HC6.out.keep hb)
      have HX7 := Lib.hid (HX6.out.keep hb)
      have HB7 := Lib.hid (bel_on HB6.out hb)
      clear hb HA6 HC6 HX6 HB6
      go_wp2_with (first
        | ((with_reducible refine arm_row 22 b1 22 _ HA7.out _ H22.out rfl HIV.out rfl _ rfl ?_ ?_); focus rfl)
        | ((with_reducible refine arm_row 22 b2 22 _ HC7.out _ H22.out rfl HIU.out rfl _ rfl ?_ ?_); focus rfl))
      refine (HDIST.out _).mono ?_
      rintro e w8 ⟨rfl, hb⟩
      have HA8 := Lib.hid (HA7.out.keep hb)
      have HC8 := Lib.hid (HC7.out.keep hb)
      have HX8 := Lib.hid (HX7.out.keep hb)
      have HB8 := Lib.hid (bel_on HB7.out hb)
      clear hb HA7 HC7 HX7 HB7
      go_wp2_with fail
      refine (HSAN.out _ (HT.out.keep HB8.out)).mono ?_
      rintro e w9 ⟨rfl, hb⟩
      have HA9 := Lib.hid (HA8.out.keep hb)
      have HC9 := Lib.hid (HC8.out.keep hb)
      have HX9 := Lib.hid (HX8.out.keep hb)
      have HB9 := Lib.hid (bel_on HB8.out hb)
      clear hb HA8 HC8 HX8 HB8
      rcases HFAR.out with ⟨hn0, huv⟩ | hn4
      · have heq : (Op.equalIn 10000 22 (.agg (iv (ci vs)).toArray) (.agg (iv (ci us)).toArray)).run Tryd.prog w9 = .ok true w9 := by rw [← huv]; exact HEQ.out w9
        have e1 : decide (4 ≤ (n : Int)) = false := by simp; omega
        have e2 : ((n : Int) == 0) = true := by simp; omega
        have e3 : decide (4 ≤ n) = false := by simp; omega
        clear hn0 huv
        go_wp2_with (first
          | ((with_reducible refine arm_rowg 22 b1 22 _ HA9.out _ H22.out rfl HIV.out ?_ _ rfl ?_ ?_); (focus rfl); (focus rfl))
          | ((with_reducible refine arm_rowg 22 b2 22 _ HC9.out _ H22.out rfl HIU.out ?_ _ rfl ?_ ?_); (focus rfl); (focus rfl))
          | ((with_reducible refine arm_rowg 22 b3 22 _ HX9.out _ H22.out rfl HIX.out ?_ _ rfl ?_ ?_); (focus rfl); (focus rfl)))
        refine (HENCX.out _ (HT.out.keep HB9.out)).mono ?_
        rintro e w10 ⟨rfl, hb⟩
        have HB10 := Lib.hid (bel_on HB9.out hb)
        clear hb HB9
        have hxor := HXOR.out
        go_wp2_with fail
        go_ret
        exact ⟨rfl, HB10.out⟩
      · have e1 : decide (4 ≤ (n : Int)) = true := by simp; omega
        have e3 : decide (4 ≤ n) = true := by simp; omega
        clear hn4
        go_wp2_with ((with_reducible refine arm_rowg 22 b3 22 _ HX9.out _ H22.out rfl HIX.out ?_ _ rfl ?_ ?_); (focus rfl); (focus rfl))
        refine (HENCX.out _ (HT.out.keep HB9.out)).mono ?_
        rintro e w10 ⟨rfl, hb⟩
        have HB10 := Lib.hid (bel_on HB9.out hb)
        clear hb HB9
        have hxor := HXOR.out
        go_wp2_with fail
        go_ret
        exact ⟨rfl, HB10.out⟩
end Go.Proofs.YthidababplamgaaDoor
