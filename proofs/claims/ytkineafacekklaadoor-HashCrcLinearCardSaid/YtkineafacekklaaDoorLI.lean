/- HashCrcLinear answers true. -/
import Derived.Test.YtkineafacekklaaDoorSan
import Derived.Test.YtkineafacekklaaDoorRef3
import Derived.Test.YtkineafacekklaaDoorLH
import Derived.Laws.MakeOwn
namespace Go.Proofs.YtkineafacekklaaDoor
open Go.RowKit
theorem made_zero (n : Nat) : madeCells #[Value.int .u8 0] n = (bv (List.replicate n 0)).toArray := by
  apply Array.ext'
  apply List.ext_getElem
  · simp [madeCells, bv]
  · intro i h1 h2
    simp [madeCells, bv, Nat.mod_one]
theorem run_make22 (n : Nat) (h : n ≤ 1000) (w : World) : (Instr.makeSlice 22 (.int .i64 (n : Int)) (.int .i64 (n : Int))).run Tryd.prog w = .ok (.slice (some ⟨w.heap.size, 0, none⟩) n n) (w.alloc (.cells (bv (List.replicate n 0)).toArray 5)) := by
  obtain ⟨i0, hi, hz0, hz1, hz2⟩ := info_parts info5
  have hr := run_makeSlice (P := Tryd.prog) w 22 5 i0 (.int .u8 0) Tryd.underlying22 hi hz0 .i64 .i64 n n (by omega) (Int.le_refl _) (by rw [hz1]; omega) (by rw [hz2]; omega) (by omega)
  rw [hr, hz1, Int.toNat_natCast, Nat.mul_one]
  show _ = _
  rw [← made_zero]
  rfl
set_option maxRecDepth 100000 in
set_option maxHeartbeats 1000000 in
theorem lawI (A : Option Addr) (n cap : Nat) (l : List UInt8) (B : Option Addr) (m cap2 : Nat) (y : List UInt8) (C : Option Addr) (k cap3 : Nat) (z : List UInt8) (w : World) (hn : l.length = n) (hr : RV w A (bv l)) (hm : y.length = m) (hry : RV w B (bv y)) (hk : z.length = k) (hrz : RV w C (bv z)) (hT : Tab w 1) :
    Calls Tryd.prog 9 #[.slice A n cap, .slice B m cap2, .slice C k cap3] w fun e w' => e = .returned (.bool true) ∧ Below w.heap.size w w' := by
  have HT := Lib.hid hT
  have HN := Lib.hid hn
  have HR := Lib.hid hr
  have HM := Lib.hid hm
  have HRY := Lib.hid hry
  have HK := Lib.hid hk
  have HRZ := Lib.hid hrz
  clear hT hn hr hm hry hk hrz
  go_enter Tryd.func9, Tryd.ntmps9
  go_wp2_with fail
  refine (san_any _ HT.out).mono ?_
  rintro e w1 ⟨rfl, hb1⟩
  have HB1 := Lib.hid hb1
  clear hb1
  by_cases h400 : 400 < n
  · have hi : (400 : Int) < (n : Int) := by omega
    go_wp2_with fail
    go_ret
    exact ⟨rfl, HB1.out⟩
  · have hi : (n : Int) ≤ 400 := by omega
    have hmk := run_make22 n (by omega) w1
    go_wp2_with fail
    have HB2 := Lib.hid (bel_on HB1.out (bel_new w1 (.cells (bv (List.replicate n 0)).toArray 5)))
    have HRO := Lib.hid (RV.new w1 (bv (List.replicate n 0)) 5)
    generalize w1.alloc (.cells (bv (List.replicate n 0)).toArray 5) = w2 at *
    generalize (some ⟨w1.heap.size, 0, none⟩ : Option Addr) = O at *
    refine (rxor_any O B n n m cap2 (List.replicate n 0) y _ (by simp) HM.out HRO.out (HRY.out.below HB2.out) (by omega)).mono ?_
    rintro e w3 ⟨v1, rfl, ho1, hb3⟩
    have HY : Hid ((xorL (List.replicate n 0) y).length = n) := Lib.hid (by rw [xorL_length, List.length_replicate])
    generalize xorL (List.replicate n 0) y = Y at *
    obtain ⟨A1, c1, rfl, hc1, _, R1⟩ := ho1.form
    rw [HY.out] at hc1 ⊢
    have HB3 := Lib.hid (bel_on HB2.out hb3)
    have HRO3 := Lib.hid (HRO.out.below hb3)
    have HR1 := Lib.hid R1
    clear ho1 R1 hc1 hb3 HRO HB2
    go_wp2_with fail
    refine (rxor_any O C n n k cap3 (List.replicate n 0) z _ (by simp) HK.out HRO3.out (HRZ.out.below HB3.out) (by omega)).mono ?_
    rintro e w4 ⟨v2, rfl, ho2, hb4⟩
    have HZ : Hid ((xorL (List.replicate n 0) z).length = n) := Lib.hid (by rw [xorL_length, List.length_replicate])
    generalize xorL (List.replicate n 0) z = Z at *
    obtain ⟨A2, c2, rfl, hc2, _, R2⟩ := ho2.form
    rw [HZ.out] at hc2 ⊢
    have HB4 := Lib.hid (bel_on HB3.out hb4)
    have HR14 := Lib.hid (HR1.out.below hb4)
    have HR2 := Lib.hid R2
    clear ho2 R2 hc2 hb4 HR1 HB3 HRO3
    go_wp2_with fail
    refine (rxor_any A A1 n cap n c1 l Y _ HN.out HY.out (HR.out.below HB4.out) HR14.out (by omega)).mono ?_
    rintro e w5 ⟨v3, rfl, ho3, hb5⟩
    have HU : Hid ((xorL l Y).length = n) := Lib.hid (by rw [xorL_length]; exact HN.out)
    have HX3 := Lib.hid (crc_xor3 l Y Z (by rw [HY.out, HN.out]) (by rw [HZ.out, HN.out]))
    generalize xorL l Y = U at *
    obtain ⟨A3, c3, rfl, hc3, _, R3⟩ := ho3.form
    rw [HU.out] at hc3 ⊢
    have HB5 := Lib.hid (bel_on HB4.out hb5)
    have HR15 := Lib.hid (HR14.out.below hb5)
    have HR25 := Lib.hid (HR2.out.below hb5)
    have HR3 := Lib.hid R3
    clear ho3 R3 hc3 hb5 HR14 HB4 HR2
    go_wp2_with fail
    refine (rxor_any A3 A2 n c3 n c2 U Z _ HU.out HZ.out HR3.out HR25.out (by omega)).mono ?_
    rintro e w6 ⟨v4, rfl, ho4, hb6⟩
    have HV : Hid ((xorL U Z).length = n) := Lib.hid (by rw [xorL_length]; exact HU.out)
    generalize xorL U Z = V at *
    obtain ⟨A4, c4, rfl, hc4, _, R4⟩ := ho4.form
    rw [HV.out] at hc4 ⊢
    have HB6 := Lib.hid (bel_on HB5.out hb6)
    have HR16 := Lib.hid (HR15.out.below hb6)
    have HR26 := Lib.hid (HR25.out.below hb6)
    have HR4 := Lib.hid R4
    clear ho4 R4 hc4 hb6 HR15 HR25 HR3 HB5
    go_wp2_with fail
    refine (crc40_any A4 n c4 V _ HV.out HR4.out (by omega)).mono ?_
    rintro e w7 ⟨rfl, hb7⟩
    rw [HX3.out]
    have hl0 := crc_lt l
    have hl1 := crc_lt Y
    have hl2 := crc_lt Z
    have HCL := Lib.hid fun w' (h : RV w' A (bv l)) => crc40_any A n cap l w' HN.out h (by omega)
    have HCY := Lib.hid fun w' (h : RV w' A1 (bv Y)) => crc40_any A1 n c1 Y w' HY.out h (by omega)
    have HCZ := Lib.hid fun w' (h : RV w' A2 (bv Z)) => crc40_any A2 n c2 Z w' HZ.out h (by omega)
    clear HX3
    generalize crc l = p at *
    generalize crc Y = q at *
    generalize crc Z = r at *
    have hx1 := i64_xor_nat p q hl0 hl1
    have hx2 := i64_xor_nat (p ^^^ q) r (xor_lt hl0 hl1) hl2
    have HB7 := Lib.hid (bel_on HB6.out hb7)
    have HR17 := Lib.hid (HR16.out.below hb7)
    have HR27 := Lib.hid (HR26.out.below hb7)
    clear hb7 HR16 HR26 HR4 HB6
    go_wp2_with fail
    refine (HCL.out _ (HR.out.below HB7.out)).mono ?_
    rintro e w8 ⟨rfl, hb8⟩
    have HB8 := Lib.hid (bel_on HB7.out hb8)
    have HR18 := Lib.hid (HR17.out.below hb8)
    have HR28 := Lib.hid (HR27.out.below hb8)
    clear hb8 HR17 HR27 HB7
    go_wp2_with fail
    refine (HCY.out _ HR18.out).mono ?_
    rintro e w9 ⟨rfl, hb9⟩
    have HB9 := Lib.hid (bel_on HB8.out hb9)
    have HR29 := Lib.hid (HR28.out.below hb9)
    clear hb9 HR18 HR28 HB8
    go_wp2_with fail
    refine (HCZ.out _ HR29.out).mono ?_
    rintro e w10 ⟨rfl, hb10⟩
    have HB10 := Lib.hid (bel_on HB9.out hb10)
    clear hb10 HR29 HB9
    go_wp2_with fail
    go_ret
    exact ⟨rfl, HB10.out⟩
end Go.Proofs.YtkineafacekklaaDoor
