/- CodeFindsTwo answers true. -/
import Derived.Test.YthidababplamgaaDoorAlg2
import Derived.Test.YthidababplamgaaDoorLC
namespace Go.Proofs.YthidababplamgaaDoor
open Go.RowKit
set_option maxRecDepth 100000 in
set_option maxHeartbeats 4000000 in
theorem lawW (L : List Int) (z z' : Int) (w : World) (hL : L.length = 8) (hz : 0 ≤ z ∧ z < 65536) (hz' : 0 ≤ z' ∧ z' < 65536) (hT : Tab w) :
    Calls Tryd.prog 6 #[.agg (iv L).toArray, .int .u16 z, .int .u16 z'] w fun e w' => e = .returned (.bool true) ∧ Below w.heap.size w w' := by
  have HT := Lib.hid hT
  have HSAN := Lib.hid fun w hT => san_any w hT
  have HIL := Lib.hid (size22' hL)
  have H22 := Lib.hid Tryd.underlying22
  have H22s := Lib.hid size22
  have HMADE := Lib.hid fun w => made_any L w hL
  have h8 : (made L).length = 8 := by rw [made_len, hL]
  have hs := made_lt L
  generalize made L = ws at *
  have hl : (ci ws).length = 8 := by rw [ci_len, h8]
  have HENC := Lib.hid fun w hT => encode_any (ci ws) w hl hT
  rw [encZ_ci hs] at HENC
  obtain ⟨n, rfl⟩ : ∃ n : Nat, z = n := ⟨z.toNat, by omega⟩
  obtain ⟨n', rfl⟩ : ∃ n : Nat, z' = n := ⟨z'.toNat, by omega⟩
  have HBIT := Lib.hid fun w => bit_any (n : Int) n w rfl (by omega)
  have HBIT' := Lib.hid fun w => bit_any (n' : Int) n' w rfl (by omega)
  have ok := bitF_ok n
  have ok' := bitF_ok n'
  generalize bitF n = r at *
  generalize bitF n' = r' at *
  obtain ⟨k, b⟩ := r
  obtain ⟨k', b'⟩ := r'
  simp only at HBIT ok HBIT' ok'
  have HI := Lib.hid (size22' hl)
  have HO := Lib.hid (iv_one (ci ws))
  have HIV : Hid ((iv (ci ws)).length = 8) := Lib.hid (by rw [iv_len, hl])
  by_cases hsame : k = k' ∧ b = b'
  · obtain ⟨rfl, rfl⟩ := hsame
    generalize encN ws = c at *
    clear hs hT hz hz' ok ok'
    go_enter Tryd.func6, Tryd.ntmps6
    go_wp2_with ((with_reducible refine arm_row 22 w.heap.size 22 _ (Arr1_0 w (iv L) 22) _ H22.out rfl HIL.out rfl _ rfl ?_ ?_); focus rfl)
    refine (HMADE.out _).mono ?_
    rintro e w1 ⟨rfl, hb⟩
    have HB1 := Lib.hid (bel_on (bel_new _ _) hb)
    clear hb
    go_wp2_with (first
      | ((with_reducible refine arm_new 22 (iv (ci ws)) 8 HIV.out H22s.out HO.out _ ?_ rfl _ _ rfl ?_ ?_ ?_); (focus rfl); (focus rfl); (focus rfl); (refine nm_l ?_; intro w2 hw2; have HA2 : Hid (Arr w2 w1.heap.size 22 (iv (ci ws))) := Lib.hid (by rw [hw2]; exact Arr.new _ _ _); have HB2 : Hid (Below w.heap.size w w2) := Lib.hid (by rw [hw2]; exact bel_on HB1.out (bel_new _ _)); clear hw2 HB1; generalize w1.heap.size = b1 at *))
      | ((with_reducible refine arm_row 22 b1 22 _ HA2.out _ H22.out rfl HI.out rfl _ rfl ?_ ?_); focus rfl))
    refine (HENC.out _ (HT.out.keep HB2.out)).mono ?_
    rintro e w3 ⟨rfl, hb⟩
    have HB3 := Lib.hid (bel_on HB2.out hb)
    clear hb HA2 HB2
    go_wp2_with fail
    refine (HBIT.out _).mono ?_
    rintro e w3' ⟨rfl, rfl⟩
    go_wp2_with fail
    refine (HBIT'.out _).mono ?_
    rintro e w3' ⟨rfl, rfl⟩
    go_wp2_with fail
    refine (HSAN.out _ (HT.out.keep HB3.out)).mono ?_
    rintro e w4 ⟨rfl, hb⟩
    have HB4 := Lib.hid (bel_on HB3.out hb)
    clear hb HB3
    go_wp2_with fail
    go_ret
    exact ⟨rfl, HB4.out⟩
  · have HFLIP := Lib.hid fun w => flip_any ws (encN ws) (k : Int) (b : Int) w h8 hs (encN_lt h8 hs)
    obtain ⟨hl1, hs1, hc1⟩ := flip_nine h8 hs (encN_lt h8 hs) ok
    have HFLIP2 := Lib.hid fun w => flip_any (flipR ws (encN ws) k b).1 (flipR ws (encN ws) k b).2 (k' : Int) (b' : Int) w hl1 hs1 hc1
    obtain ⟨hl2, hs2, hc2⟩ := flip_nine hl1 hs1 hc1 ok'
    have hlv : (ci (flipR ws (encN ws) k b).1).length = 8 := by rw [ci_len, hl1]
    have hlu : (ci (flipR (flipR ws (encN ws) k b).1 (flipR ws (encN ws) k b).2 k' b').1).length = 8 := by rw [ci_len, hl2]
    have HFIX := Lib.hid fun w hT => fix_any (ci (flipR (flipR ws (encN ws) k b).1 (flipR ws (encN ws) k b).2 k' b').1) (((flipR (flipR ws (encN ws) k b).1 (flipR ws (encN ws) k b).2 k' b').2 : Nat) : Int) w hlu hT
    rw [fix_two h8 hs ok ok' hsame] at HFIX
    have HCHK := Lib.hid fun w hT => checked_lit (ci (flipR (flipR ws (encN ws) k b).1 (flipR ws (encN ws) k b).2 k' b').1) (((flipR (flipR ws (encN ws) k b).1 (flipR ws (encN ws) k b).2 k' b').2 : Nat) : Int) 2 0 0 w hlu hT (chk_two h8 hs ok ok' hsame)
    have HDIST := Lib.hid fun w => dist_any (ci ws) ((encN ws : Nat) : Int) (ci (flipR (flipR ws (encN ws) k b).1 (flipR ws (encN ws) k b).2 k' b').1) (((flipR (flipR ws (encN ws) k b).1 (flipR ws (encN ws) k b).2 k' b').2 : Nat) : Int) w hl hlu
    rw [dist_flip2 h8 hs (encN_lt h8 hs) ok ok' hsame] at HDIST
    have HI2 := Lib.hid (size22' hlv)
    have HO2 := Lib.hid (iv_one (ci (flipR ws (encN ws) k b).1))
    have HIV2 : Hid ((iv (ci (flipR ws (encN ws) k b).1)).length = 8) := Lib.hid (by rw [iv_len, hlv])
    generalize flipR ws (encN ws) k b = f at *
    obtain ⟨vs, d⟩ := f
    simp only at HFIX HCHK HDIST HI2 HO2 HIV2 HFLIP2 hlu hlv
    have HI3 := Lib.hid (size22' hlu)
    have HO3 := Lib.hid (iv_one (ci (flipR vs d k' b').1))
    have HL3 : Hid ((iv (ci vs)).length = (iv (ci (flipR vs d k' b').1)).length) := Lib.hid (by rw [iv_len, iv_len, hlv, hlu])
    generalize flipR vs d k' b' = g at *
    obtain ⟨us, d2⟩ := g
    simp only at HFIX HCHK HDIST HI3 HO3 HL3
    generalize encN ws = c at *
    have HZ1 := Lib.hid (iv_one Z8)
    have HZ2 : Hid ((iv Z8).length = 8) := Lib.hid rfl
    have hb1 : k = k' → ¬ b = b' := fun h1 h2 => hsame ⟨h1, h2⟩
    have HNE := Lib.hid hb1
    clear hs hT hz hz' hl1 hs1 hc1 ok ok' hlv hlu hl2 hs2 hc2 hsame hb1
    have hcase : ((k : Int) == (k' : Int)) = false ∨ (((k : Int) == (k' : Int)) = true ∧ ((b : Int) == (b' : Int)) = false) := by
      by_cases h : k = k'
      · right
        have := HNE.out h
        refine ⟨by simp; omega, by simp; omega⟩
      · left
        simp; omega
    go_enter Tryd.func6, Tryd.ntmps6
    go_wp2_with ((with_reducible refine arm_row 22 w.heap.size 22 _ (Arr1_0 w (iv L) 22) _ H22.out rfl HIL.out rfl _ rfl ?_ ?_); focus rfl)
    refine (HMADE.out _).mono ?_
    rintro e w1 ⟨rfl, hb⟩
    have HB1 := Lib.hid (bel_on (bel_new _ _) hb)
    clear hb
    go_wp2_with (first
      | ((with_reducible refine arm_new 22 (iv (ci ws)) 8 HIV.out H22s.out HO.out _ ?_ rfl _ _ rfl ?_ ?_ ?_); (focus rfl); (focus rfl); (focus rfl); (refine nm_l ?_; intro w2 hw2; have HA2 : Hid (Arr w2 w1.heap.size 22 (iv (ci ws))) := Lib.hid (by rw [hw2]; exact Arr.new _ _ _); have HB2 : Hid (Below w.heap.size w w2) := Lib.hid (by rw [hw2]; exact bel_on HB1.out (bel_new _ _)); clear hw2 HB1; generalize w1.heap.size = b1 at *))
      | ((with_reducible refine arm_row 22 b1 22 _ HA2.out _ H22.out rfl HI.out rfl _ rfl ?_ ?_); focus rfl))
    refine (HENC.out _ (HT.out.keep HB2.out)).mono ?_
    rintro e w3 ⟨rfl, hb⟩
    have HA3 := Lib.hid (HA2.out.keep hb)
    have HB3 := Lib.hid (bel_on HB2.out hb)
    clear hb HA2 HB2
    go_wp2_with fail
    refine (HBIT.out _).mono ?_
    rintro e w3' ⟨rfl, rfl⟩
    go_wp2_with fail
    refine (HBIT'.out _).mono ?_
    rintro e w3' ⟨rfl, rfl⟩
    rcases hcase with hc1 | ⟨hc1, hc2⟩
    · go_wp2_with ((with_reducible refine arm_row 22 b1 22 _ HA3.out _ H22.out rfl HI.out rfl _ rfl ?_ ?_); focus rfl)
      refine (HFLIP.out _).mono ?_
      rintro e w4 ⟨rfl, hb⟩
      have HA4 := Lib.hid (HA3.out.keep hb)
      have HB4 := Lib.hid (bel_on HB3.out hb)
      clear hb HA3 HB3
      unfold pr
      go_wp2_with (first
        | ((with_reducible refine arm_new 22 (iv (ci vs)) 8 HIV2.out H22s.out HO2.out _ ?_ rfl _ _ rfl ?_ ?_ ?_); (focus rfl); (focus rfl); (focus rfl); (refine nm_l ?_; intro w5 hw5; have HA5 : Hid (Arr w5 b1 22 (iv (ci ws))) := Lib.hid (by rw [hw5]; exact HA4.out.keep (bel_new _ _)); have HC5 : Hid (Arr w5 w4.heap.size 22 (iv (ci vs))) := Lib.hid (by rw [hw5]; exact Arr.new _ _ _); have HB5 : Hid (Below w.heap.size w w5) := Lib.hid (by rw [hw5]; exact bel_on HB4.out (bel_new _ _)); have HN5 : Hid (b1 ≠ w4.heap.size) := Lib.hid (Nat.ne_of_lt HA4.out.lt); have HM5 : Hid (w.heap.size ≤ w4.heap.size) := Lib.hid HB4.out.size; clear hw5 HB4 HA4; generalize w4.heap.size = b2 at *))
        | ((with_reducible refine arm_row 22 b2 22 _ HC5.out _ H22.out rfl HI2.out rfl _ rfl ?_ ?_); focus rfl))
      refine (HFLIP2.out _).mono ?_
      rintro e w6 ⟨rfl, hb⟩
      have HA6 := Lib.hid (HA5.out.keep hb)
      have HC6 := Lib.hid (HC5.out.keep hb)
      have HB6 := Lib.hid (bel_on HB5.out hb)
      clear hb HA5 HB5 HC5
      unfold pr
      have HA7 : Hid (Arr (w6.setRow b2 (iv (ci us)).toArray) b1 22 (iv (ci ws))) := Lib.hid (HA6.out.row_other HN5.out _)
      have HC7 : Hid (Arr (w6.setRow b2 (iv (ci us)).toArray) b2 22 (iv (ci us))) := Lib.hid (HC6.out.row _)
      have HB7 : Hid (Below w.heap.size w (w6.setRow b2 (iv (ci us)).toArray)) := Lib.hid (bel_row HB6.out HM5.out _)
      go_wp2_with (first
        | ((with_reducible refine arm_put 22 b2 22 _ _ HC6.out HI3.out HL3.out HO3.out rfl _ _ rfl ?_ ?_ ?_); (focus rfl); (focus rfl))
        | ((with_reducible refine arm_row 22 b2 22 _ HC7.out _ H22.out rfl HI3.out rfl _ rfl ?_ ?_); focus rfl))
      refine (HFIX.out _ (HT.out.keep HB7.out)).mono ?_
      rintro e w8 ⟨rfl, hb⟩
      have HA8 := Lib.hid (HA7.out.keep hb)
      have HC8 := Lib.hid (HC7.out.keep hb)
      have HB8 := Lib.hid (bel_on HB7.out hb)
      clear hb HA7 HB7 HC7
      unfold fr
      go_wp2_with ((with_reducible refine arm_new 22 (iv Z8) 8 HZ2.out H22s.out HZ1.out _ ?_ rfl _ _ rfl ?_ ?_ ?_); (focus rfl); (focus rfl); (focus rfl); (refine nm_l ?_; intro w9 hw9; have HA9 : Hid (Arr w9 b1 22 (iv (ci ws))) := Lib.hid (by rw [hw9]; exact HA8.out.keep (bel_new _ _)); have HC9 : Hid (Arr w9 b2 22 (iv (ci us))) := Lib.hid (by rw [hw9]; exact HC8.out.keep (bel_new _ _)); have HB9 : Hid (Below w.heap.size w w9) := Lib.hid (by rw [hw9]; exact bel_on HB8.out (bel_new _ _)); clear hw9 HB8 HA8 HC8))
      refine (HSAN.out _ (HT.out.keep HB9.out)).mono ?_
      rintro e w10 ⟨rfl, hb⟩
      have HA10 := Lib.hid (HA9.out.keep hb)
      have HC10 := Lib.hid (HC9.out.keep hb)
      have HB10 := Lib.hid (bel_on HB9.out hb)
      clear hb HA9 HB9 HC9
      go_wp2_with (first
        | ((with_reducible refine arm_rowg 22 b1 22 _ HA10.out _ H22.out rfl HI.out ?_ _ rfl ?_ ?_); (focus rfl); (focus rfl))
        | ((with_reducible refine arm_rowg 22 b2 22 _ HC10.out _ H22.out rfl HI3.out ?_ _ rfl ?_ ?_); (focus rfl); (focus rfl)))
      refine (HDIST.out _).mono ?_
      rintro e w11 ⟨rfl, hb⟩
      have HC11 := Lib.hid (HC10.out.keep hb)
      have HB11 := Lib.hid (bel_on HB10.out hb)
      clear hb HA10 HB10 HC10
      go_wp2_with ((with_reducible refine arm_rowg 22 b2 22 _ HC11.out _ H22.out rfl HI3.out ?_ _ rfl ?_ ?_); (focus rfl); (focus rfl))
      refine (HCHK.out _ (HT.out.keep HB11.out)).mono ?_
      rintro e w12 ⟨rfl, hb⟩
      have HB12 := Lib.hid (bel_on HB11.out hb)
      clear hb HB11 HC11
      go_wp2_with fail
      go_ret
      exact ⟨rfl, HB12.out⟩
    · go_wp2_with ((with_reducible refine arm_row 22 b1 22 _ HA3.out _ H22.out rfl HI.out rfl _ rfl ?_ ?_); focus rfl)
      refine (HFLIP.out _).mono ?_
      rintro e w4 ⟨rfl, hb⟩
      have HA4 := Lib.hid (HA3.out.keep hb)
      have HB4 := Lib.hid (bel_on HB3.out hb)
      clear hb HA3 HB3
      unfold pr
      go_wp2_with (first
        | ((with_reducible refine arm_new 22 (iv (ci vs)) 8 HIV2.out H22s.out HO2.out _ ?_ rfl _ _ rfl ?_ ?_ ?_); (focus rfl); (focus rfl); (focus rfl); (refine nm_l ?_; intro w5 hw5; have HA5 : Hid (Arr w5 b1 22 (iv (ci ws))) := Lib.hid (by rw [hw5]; exact HA4.out.keep (bel_new _ _)); have HC5 : Hid (Arr w5 w4.heap.size 22 (iv (ci vs))) := Lib.hid (by rw [hw5]; exact Arr.new _ _ _); have HB5 : Hid (Below w.heap.size w w5) := Lib.hid (by rw [hw5]; exact bel_on HB4.out (bel_new _ _)); have HN5 : Hid (b1 ≠ w4.heap.size) := Lib.hid (Nat.ne_of_lt HA4.out.lt); have HM5 : Hid (w.heap.size ≤ w4.heap.size) := Lib.hid HB4.out.size; clear hw5 HB4 HA4; generalize w4.heap.size = b2 at *))
        | ((with_reducible refine arm_row 22 b2 22 _ HC5.out _ H22.out rfl HI2.out rfl _ rfl ?_ ?_); focus rfl))
      refine (HFLIP2.out _).mono ?_
      rintro e w6 ⟨rfl, hb⟩
      have HA6 := Lib.hid (HA5.out.keep hb)
      have HC6 := Lib.hid (HC5.out.keep hb)
      have HB6 := Lib.hid (bel_on HB5.out hb)
      clear hb HA5 HB5 HC5
      unfold pr
      have HA7 : Hid (Arr (w6.setRow b2 (iv (ci us)).toArray) b1 22 (iv (ci ws))) := Lib.hid (HA6.out.row_other HN5.out _)
      have HC7 : Hid (Arr (w6.setRow b2 (iv (ci us)).toArray) b2 22 (iv (ci us))) := Lib.hid (HC6.out.row _)
      have HB7 : Hid (Below w.heap.size w (w6.setRow b2 (iv (ci us)).toArray)) := Lib.hid (bel_row HB6.out HM5.out _)
      go_wp2_with (first
        | ((with_reducible refine arm_put 22 b2 22 _ _ HC6.out HI3.out HL3.out HO3.out rfl _ _ rfl ?_ ?_ ?_); (focus rfl); (focus rfl))
        | ((with_reducible refine arm_row 22 b2 22 _ HC7.out _ H22.out rfl HI3.out rfl _ rfl ?_ ?_); focus rfl))
      refine (HFIX.out _ (HT.out.keep HB7.out)).mono ?_
      rintro e w8 ⟨rfl, hb⟩
      have HA8 := Lib.hid (HA7.out.keep hb)
      have HC8 := Lib.hid (HC7.out.keep hb)
      have HB8 := Lib.hid (bel_on HB7.out hb)
      clear hb HA7 HB7 HC7
      unfold fr
      go_wp2_with ((with_reducible refine arm_new 22 (iv Z8) 8 HZ2.out H22s.out HZ1.out _ ?_ rfl _ _ rfl ?_ ?_ ?_); (focus rfl); (focus rfl); (focus rfl); (refine nm_l ?_; intro w9 hw9; have HA9 : Hid (Arr w9 b1 22 (iv (ci ws))) := Lib.hid (by rw [hw9]; exact HA8.out.keep (bel_new _ _)); have HC9 : Hid (Arr w9 b2 22 (iv (ci us))) := Lib.hid (by rw [hw9]; exact HC8.out.keep (bel_new _ _)); have HB9 : Hid (Below w.heap.size w w9) := Lib.hid (by rw [hw9]; exact bel_on HB8.out (bel_new _ _)); clear hw9 HB8 HA8 HC8))
      refine (HSAN.out _ (HT.out.keep HB9.out)).mono ?_
      rintro e w10 ⟨rfl, hb⟩
      have HA10 := Lib.hid (HA9.out.keep hb)
      have HC10 := Lib.hid (HC9.out.keep hb)
      have HB10 := Lib.hid (bel_on HB9.out hb)
      clear hb HA9 HB9 HC9
      go_wp2_with (first
        | ((with_reducible refine arm_rowg 22 b1 22 _ HA10.out _ H22.out rfl HI.out ?_ _ rfl ?_ ?_); (focus rfl); (focus rfl))
        | ((with_reducible refine arm_rowg 22 b2 22 _ HC10.out _ H22.out rfl HI3.out ?_ _ rfl ?_ ?_); (focus rfl); (focus rfl)))
      refine (HDIST.out _).mono ?_
      rintro e w11 ⟨rfl, hb⟩
      have HC11 := Lib.hid (HC10.out.keep hb)
      have HB11 := Lib.hid (bel_on HB10.out hb)
      clear hb HA10 HB10 HC10
      go_wp2_with ((with_reducible refine arm_rowg 22 b2 22 _ HC11.out _ H22.out rfl HI3.out ?_ _ rfl ?_ ?_); (focus rfl); (focus rfl))
      refine (HCHK.out _ (HT.out.keep HB11.out)).mono ?_
      rintro e w12 ⟨rfl, hb⟩
      have HB12 := Lib.hid (bel_on HB11.out hb)
      clear hb HB11 HC11
      go_wp2_with fail
      go_ret
      exact ⟨rfl, HB12.out⟩
end Go.Proofs.YthidababplamgaaDoor
