/- CodeCorrectsOne answers true. -/
import Derived.Test.YthidababplamgaaDoorAlg2
import Derived.Test.YthidababplamgaaDoorLC
namespace Go.Proofs.YthidababplamgaaDoor
open Go.RowKit
set_option maxRecDepth 100000 in
set_option maxHeartbeats 4000000 in
theorem lawO (L : List Int) (z : Int) (w : World) (hL : L.length = 8) (hz : 0 ≤ z ∧ z < 65536) (hT : Tab w) :
    Calls Tryd.prog 5 #[.agg (iv L).toArray, .int .u16 z] w fun e w' => e = .returned (.bool true) ∧ Below w.heap.size w w' := by
  have HT := Lib.hid hT
  have HSAN := Lib.hid fun w hT => san_any w hT
  have HIL := Lib.hid (size22' hL)
  have H22 := Lib.hid Tryd.underlying22
  have H22s := Lib.hid size22
  have HMADE := Lib.hid fun w => made_any L w hL
  have h8 : (made L).length = 8 := by rw [made_len, hL]
  have hs := made_lt L
  generalize made L = ws at *
  have hl : (ci ws).length = 8 := by rw [ci_len, h8]
  have HENC := Lib.hid fun w hT => encode_any (ci ws) w hl hT
  rw [encZ_ci hs] at HENC
  obtain ⟨n, rfl⟩ : ∃ n : Nat, z = n := ⟨z.toNat, by omega⟩
  have HBIT := Lib.hid fun w => bit_any (n : Int) n w rfl (by omega)
  have ok := bitF_ok n
  generalize bitF n = r at *
  obtain ⟨k, b⟩ := r
  simp only at HBIT ok
  have HFLIP := Lib.hid fun w => flip_any ws (encN ws) (k : Int) (b : Int) w h8 hs (encN_lt h8 hs)
  obtain ⟨hl1, hs1, hc1⟩ := flip_nine h8 hs (encN_lt h8 hs) ok
  have hlv : (ci (flipR ws (encN ws) k b).1).length = 8 := by rw [ci_len, hl1]
  have HFIX := Lib.hid fun w hT => fix_any (ci (flipR ws (encN ws) k b).1) (((flipR ws (encN ws) k b).2 : Nat) : Int) w hlv hT
  rw [fix_one h8 hs ok] at HFIX
  have HCHK := Lib.hid fun w hT => checked_lit (ci (flipR ws (encN ws) k b).1) (((flipR ws (encN ws) k b).2 : Nat) : Int) 1 k b w hlv hT (chk_one h8 hs ok)
  have HDIST := Lib.hid fun w => dist_any (ci ws) ((encN ws : Nat) : Int) (ci (flipR ws (encN ws) k b).1) (((flipR ws (encN ws) k b).2 : Nat) : Int) w hl hlv
  rw [dist_flip h8 hs (encN_lt h8 hs) ok] at HDIST
  have HEQ := Lib.hid fun w => eq_same (ci ws) hl (ci_i64 hs) w
  have HI := Lib.hid (size22' hl)
  have HO := Lib.hid (iv_one (ci ws))
  have HIV : Hid ((iv (ci ws)).length = 8) := Lib.hid (by rw [iv_len, hl])
  have HI2 := Lib.hid (size22' hlv)
  have HO2 := Lib.hid (iv_one (ci (flipR ws (encN ws) k b).1))
  have HIV2 : Hid ((iv (ci (flipR ws (encN ws) k b).1)).length = 8) := Lib.hid (by rw [iv_len, hlv])
  generalize flipR ws (encN ws) k b = f at *
  obtain ⟨vs, d⟩ := f
  simp only at HFIX HCHK HDIST HI2 HO2 HIV2
  generalize encN ws = c at *
  clear hs hT hz hl1 hs1 hc1 ok hlv
  go_enter Tryd.func5, Tryd.ntmps5
  go_wp2_with ((with_reducible refine arm_row 22 w.heap.size 22 _ (Arr1_0 w (iv L) 22) _ H22.out rfl HIL.out rfl _ rfl ?_ ?_); focus rfl)
  refine (HMADE.out _).mono ?_
  rintro e w1 ⟨rfl, hb⟩
  have HB1 := Lib.hid (bel_on (bel_new _ _) hb)
  clear hb
  go_wp2_with (first
    | ((with_reducible refine arm_new 22 (iv (ci ws)) 8 HIV.out H22s.out HO.out _ ?_ rfl _ _ rfl ?_ ?_ ?_); (focus rfl); (focus rfl); (focus rfl); (refine nm_l ?_; intro w2 hw2; have HA2 : Hid (Arr w2 w1.heap.size 22 (iv (ci ws))) := Lib.hid (by rw [hw2]; exact Arr.new _ _ _); have HB2 : Hid (Below w.heap.size w w2) := Lib.hid (by rw [hw2]; exact bel_on HB1.out (bel_new _ _)); clear hw2 HB1; generalize w1.heap.size = b1 at *))
    | ((with_reducible refine arm_row 22 b1 22 _ HA2.out _ H22.out rfl HI.out rfl _ rfl ?_ ?_); focus rfl))
  refine (HENC.out _ (HT.out.keep HB2.out)).mono ?_
  rintro e w3 ⟨rfl, hb⟩
  have HA3 := Lib.hid (HA2.out.keep hb)
  have HB3 := Lib.hid (bel_on HB2.out hb)
  clear hb HA2 HB2
  go_wp2_with fail
  refine (HBIT.out _).mono ?_
  rintro e w3' ⟨rfl, rfl⟩
  go_wp2_with ((with_reducible refine arm_row 22 b1 22 _ HA3.out _ H22.out rfl HI.out rfl _ rfl ?_ ?_); focus rfl)
  refine (HFLIP.out _).mono ?_
  rintro e w4 ⟨rfl, hb⟩
  have HA4 := Lib.hid (HA3.out.keep hb)
  have HB4 := Lib.hid (bel_on HB3.out hb)
  clear hb HA3 HB3
  unfold pr
  go_wp2_with (first
    | ((with_reducible refine arm_new 22 (iv (ci vs)) 8 HIV2.out H22s.out HO2.out _ ?_ rfl _ _ rfl ?_ ?_ ?_); (focus rfl); (focus rfl); (focus rfl); (refine nm_l ?_; intro w5 hw5; have HA5 : Hid (Arr w5 b1 22 (iv (ci ws))) := Lib.hid (by rw [hw5]; exact HA4.out.keep (bel_new _ _)); have HC5 : Hid (Arr w5 w4.heap.size 22 (iv (ci vs))) := Lib.hid (by rw [hw5]; exact Arr.new _ _ _); have HB5 : Hid (Below w.heap.size w w5) := Lib.hid (by rw [hw5]; exact bel_on HB4.out (bel_new _ _)); clear hw5 HB4 HA4; generalize w4.heap.size = b2 at *))
    | ((with_reducible refine arm_row 22 b2 22 _ HC5.out _ H22.out rfl HI2.out rfl _ rfl ?_ ?_); focus rfl))
  refine (HFIX.out _ (HT.out.keep HB5.out)).mono ?_
  rintro e w6 ⟨rfl, hb⟩
  have HA6 := Lib.hid (HA5.out.keep hb)
  have HC6 := Lib.hid (HC5.out.keep hb)
  have HB6 := Lib.hid (bel_on HB5.out hb)
  clear hb HA5 HB5 HC5
  unfold fr
  go_wp2_with ((with_reducible refine arm_new 22 (iv (ci ws)) 8 HIV.out H22s.out HO.out _ ?_ rfl _ _ rfl ?_ ?_ ?_); (focus rfl); (focus rfl); (focus rfl); (refine nm_l ?_; intro w7 hw7; have HA7 : Hid (Arr w7 b1 22 (iv (ci ws))) := Lib.hid (by rw [hw7]; exact HA6.out.keep (bel_new _ _)); have HC7 : Hid (Arr w7 b2 22 (iv (ci vs))) := Lib.hid (by rw [hw7]; exact HC6.out.keep (bel_new _ _)); have HD7 : Hid (Arr w7 w6.heap.size 22 (iv (ci ws))) := Lib.hid (by rw [hw7]; exact Arr.new _ _ _); have HB7 : Hid (Below w.heap.size w w7) := Lib.hid (by rw [hw7]; exact bel_on HB6.out (bel_new _ _)); clear hw7 HB6 HA6 HC6; generalize w6.heap.size = b3 at *))
  refine (HSAN.out _ (HT.out.keep HB7.out)).mono ?_
  rintro e w8 ⟨rfl, hb⟩
  have HA8 := Lib.hid (HA7.out.keep hb)
  have HC8 := Lib.hid (HC7.out.keep hb)
  have HD8 := Lib.hid (HD7.out.keep hb)
  have HB8 := Lib.hid (bel_on HB7.out hb)
  clear hb HA7 HB7 HC7 HD7
  go_wp2_with (first
    | ((with_reducible refine arm_rowg 22 b1 22 _ HA8.out _ H22.out rfl HI.out ?_ _ rfl ?_ ?_); (focus rfl); (focus rfl))
    | ((with_reducible refine arm_rowg 22 b2 22 _ HC8.out _ H22.out rfl HI2.out ?_ _ rfl ?_ ?_); (focus rfl); (focus rfl)))
  refine (HDIST.out _).mono ?_
  rintro e w9 ⟨rfl, hb⟩
  have HA9 := Lib.hid (HA8.out.keep hb)
  have HC9 := Lib.hid (HC8.out.keep hb)
  have HD9 := Lib.hid (HD8.out.keep hb)
  have HB9 := Lib.hid (bel_on HB8.out hb)
  clear hb HA8 HB8 HC8 HD8
  go_wp2_with ((with_reducible refine arm_rowg 22 b2 22 _ HC9.out _ H22.out rfl HI2.out ?_ _ rfl ?_ ?_); (focus rfl); (focus rfl))
  refine (HCHK.out _ (HT.out.keep HB9.out)).mono ?_
  rintro e w10 ⟨rfl, hb⟩
  have HA10 := Lib.hid (HA9.out.keep hb)
  have HD10 := Lib.hid (HD9.out.keep hb)
  have HB10 := Lib.hid (bel_on HB9.out hb)
  clear hb HA9 HB9 HC9 HD9
  have heq := HEQ.out w10
  go_wp2_with (first
    | ((with_reducible refine arm_rowg 22 b1 22 _ HA10.out _ H22.out rfl HI.out ?_ _ rfl ?_ ?_); (focus rfl); (focus rfl))
    | ((with_reducible refine arm_rowg 22 b3 22 _ HD10.out _ H22.out rfl HI.out ?_ _ rfl ?_ ?_); (focus rfl); (focus rfl)))
  go_ret
  exact ⟨rfl, HB10.out⟩
end Go.Proofs.YthidababplamgaaDoor
