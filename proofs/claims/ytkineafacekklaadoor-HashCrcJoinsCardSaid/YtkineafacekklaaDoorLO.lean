/- HashCrcJoins answers true. -/
import Derived.Test.YtkineafacekklaaDoorSan
import Derived.Test.YtkineafacekklaaDoorLH
namespace Go.Proofs.YtkineafacekklaaDoor
open Go.RowKit
set_option maxRecDepth 100000 in
set_option maxHeartbeats 1000000 in
theorem lawO_in (A : Option Addr) (n cap : Nat) (a : List UInt8) (B : Option Addr) (m cap2 : Nat) (b : List UInt8) (C : Option Addr) (k cap3 : Nat) (c : List UInt8) (w : World) (hn : a.length = n) (hra : RV w A (bv a)) (hm : b.length = m) (hrb : RV w B (bv b)) (hk : c.length = k) (hrc : RV w C (bv c)) (hT : Tab w 1)
    (h1 : n ≤ 400) (h2 : m ≤ 400) (h3 : k ≤ 400) :
    Calls Tryd.prog 7 #[.slice A n cap, .slice B m cap2, .slice C k cap3] w fun e w' => e = .returned (.bool true) ∧ Below w.heap.size w w' := by
  have HT := Lib.hid hT
  have HN := Lib.hid hn
  have HRA := Lib.hid hra
  have HM := Lib.hid hm
  have HRB := Lib.hid hrb
  have HK := Lib.hid hk
  have HRC := Lib.hid hrc
  clear hT hn hra hm hrb hk hrc
  go_enter Tryd.func7, Tryd.ntmps7
  go_wp2_with fail
  refine (san_any _ HT.out).mono ?_
  rintro e w1 ⟨rfl, hb1⟩
  have HB1 := Lib.hid hb1
  clear hb1
  have HG := Lib.hid HB1.out.size
  have hNil := Own.nil w1 w.heap.size
  have hi1 : (n : Int) ≤ 400 := by omega
  have hi2 : (m : Int) ≤ 400 := by omega
  have hi3 : (k : Int) ≤ 400 := by omega
  have en := HN.out
  have em := HM.out
  have ek := HK.out
  go_wp2_with (first
    | (at_builtin; refine arm_bytes (w := w1) (by rfl) _ _ (by rfl) w.heap.size (.slice none 0 0) [] (by rfl) hNil A cap a (by rw [HN.out]; rfl) (HRA.out.below HB1.out) (by rw [en]; simp; omega) HG.out ?_; intro v1 w2 ho1 hb2; have HB2 := Lib.hid (HB1.out.trans hb2); have HO1 := Lib.hid ho1)
    | (at_builtin; refine arm_bytes (w := w2) (by rfl) _ _ (by rfl) w.heap.size v1 _ (by rfl) HO1.out B cap2 b (by rw [HM.out]; rfl) (HRB.out.below HB2.out) (by simp; omega) (Nat.le_trans HG.out hb2.size) ?_; intro v2 w3 ho2 hb3; have HB3 := Lib.hid (HB2.out.trans hb3); have HO2 := Lib.hid ho2)
    | (at_builtin; refine arm_bytes (w := w3) (by rfl) _ _ (by rfl) w.heap.size v2 _ (by rfl) HO2.out C cap3 c (by rw [HK.out]; rfl) (HRC.out.below HB3.out) (by simp; omega) (Nat.le_trans HG.out (Nat.le_trans hb2.size hb3.size)) ?_; intro v3 w4 ho3 hb4; have HB4 := Lib.hid (HB3.out.trans hb4); have HO3 := Lib.hid ho3))
  obtain ⟨D, hD⟩ : ∃ D, [] ++ a ++ b ++ c = D := ⟨_, rfl⟩
  rw [hD] at ho3
  have K12 : joinP (crc a) (crc b) m = crc (a ++ b) := by rw [← HM.out, ← crc_join]
  have K3 : joinP (crc (a ++ b)) (crc c) k = crc D := by rw [← HK.out, ← crc_join, ← hD, List.nil_append]
  have K23 : joinP (crc b) (crc c) k = crc (b ++ c) := by rw [← HK.out, ← crc_join]
  have K1 : joinP (crc a) (crc (b ++ c)) (m + k) = crc D := by rw [← HM.out, ← HK.out, ← List.length_append, ← crc_join, ← hD, List.nil_append, List.append_assoc]
  have hDl : D.length = n + m + k := by rw [← hD, List.length_append, List.length_append, List.nil_append, HN.out, HM.out, HK.out]
  obtain ⟨A4, c4, rfl, hc4, _, R4⟩ := ho3.form
  have HR4 := Lib.hid R4
  have HCA := Lib.hid fun w' (h : RV w' A (bv a)) => crc40_any A n cap a w' HN.out h (by omega)
  have HCB := Lib.hid fun w' (h : RV w' B (bv b)) => crc40_any B m cap2 b w' HM.out h (by omega)
  have HCC := Lib.hid fun w' (h : RV w' C (bv c)) => crc40_any C k cap3 c w' HK.out h (by omega)
  have HCD := Lib.hid fun w' (h : RV w' A4 (bv D)) => crc40_any A4 D.length c4 D w' rfl h (by omega)
  have la := crc_lt a
  have lb := crc_lt b
  have lc := crc_lt c
  have lab := crc_lt (a ++ b)
  have lbc := crc_lt (b ++ c)
  have hsum : IntKind.i64.wrap ((m : Int) + (k : Int)) = ((m + k : Nat) : Int) := by rw [i64_wraps]; omega
  generalize D.length = q at *
  generalize crc a = ka at *
  generalize crc b = kb at *
  generalize crc c = kc at *
  generalize crc (a ++ b) = kab at *
  generalize crc (b ++ c) = kbc at *
  generalize crc D = kd at *
  have HK12 := Lib.hid K12
  have HK3 := Lib.hid K3
  have HK23 := Lib.hid K23
  have HK1 := Lib.hid K1
  have HRB4 := Lib.hid (HRB.out.below HB4.out)
  clear hD K12 K3 K23 K1 hDl ho3 ho2 ho1 hb2 hb3 hb4 R4 hc4 HO1 HO2 HO3 hNil
  refine (HCA.out _ (HRA.out.below HB4.out)).mono ?_
  rintro e w5 ⟨rfl, hb5⟩
  have HB5 := Lib.hid (bel_on HB4.out hb5)
  have HR5 := Lib.hid (HR4.out.below hb5)
  clear hb5
  go_wp2_with fail
  refine (HCB.out _ (HRB.out.below HB5.out)).mono ?_
  rintro e w6 ⟨rfl, hb6⟩
  have HB6 := Lib.hid (bel_on HB5.out hb6)
  have HR6 := Lib.hid (HR5.out.below hb6)
  clear hb6
  go_wp2_with fail
  refine (HCC.out _ (HRC.out.below HB6.out)).mono ?_
  rintro e w7 ⟨rfl, hb7⟩
  have HB7 := Lib.hid (bel_on HB6.out hb7)
  have HR7 := Lib.hid (HR6.out.below hb7)
  clear hb7
  go_wp2_with fail
  refine (join_any ka kb m _ (by omega)).mono ?_
  rintro e w8 ⟨rfl, hb8⟩
  have HB8 := Lib.hid (bel_on HB7.out hb8)
  have HR8 := Lib.hid (HR7.out.below hb8)
  clear hb8
  rw [lo_nat ka la, lo_nat kb lb, HK12.out]
  go_wp2_with fail
  refine (join_any kab kc k _ (by omega)).mono ?_
  rintro e w9 ⟨rfl, hb9⟩
  have HB9 := Lib.hid (bel_on HB8.out hb9)
  have HR9 := Lib.hid (HR8.out.below hb9)
  clear hb9
  rw [lo_nat kab lab, lo_nat kc lc, HK3.out]
  go_wp2_with fail
  refine (join_any kb kc k _ (by omega)).mono ?_
  rintro e w10 ⟨rfl, hb10⟩
  have HB10 := Lib.hid (bel_on HB9.out hb10)
  have HR10 := Lib.hid (HR9.out.below hb10)
  clear hb10
  rw [lo_nat kb lb, lo_nat kc lc, HK23.out]
  go_wp2_with fail
  refine (join_any ka kbc (m + k) _ (by omega)).mono ?_
  rintro e w11 ⟨rfl, hb11⟩
  have HB11 := Lib.hid (bel_on HB10.out hb11)
  have HR11 := Lib.hid (HR10.out.below hb11)
  clear hb11
  rw [lo_nat ka la, lo_nat kbc lbc, HK1.out]
  go_wp2_with fail
  refine (HCD.out _ HR11.out).mono ?_
  rintro e w12 ⟨rfl, hb12⟩
  have HB12 := Lib.hid (bel_on HB11.out hb12)
  clear hb12
  go_wp2_with fail
  go_ret
  exact ⟨rfl, HB12.out⟩
set_option maxRecDepth 100000 in
set_option maxHeartbeats 1000000 in
theorem lawO_out (A : Option Addr) (n cap : Nat) (B : Option Addr) (m cap2 : Nat) (C : Option Addr) (k cap3 : Nat) (w : World) (hT : Tab w 1)
    (h : 400 < n ∨ 400 < m ∨ 400 < k) :
    Calls Tryd.prog 7 #[.slice A n cap, .slice B m cap2, .slice C k cap3] w fun e w' => e = .returned (.bool true) ∧ Below w.heap.size w w' := by
  have HT := Lib.hid hT
  clear hT
  go_enter Tryd.func7, Tryd.ntmps7
  go_wp2_with fail
  refine (san_any _ HT.out).mono ?_
  rintro e w1 ⟨rfl, hb1⟩
  have HB1 := Lib.hid hb1
  clear hb1
  by_cases h1 : 400 < n
  · have hi1 : (400 : Int) < (n : Int) := by omega
    go_wp2_with fail
    go_ret
    exact ⟨rfl, HB1.out⟩
  · have hi1 : (n : Int) ≤ 400 := by omega
    by_cases h2 : 400 < m
    · have hi2 : (400 : Int) < (m : Int) := by omega
      go_wp2_with fail
      go_ret
      exact ⟨rfl, HB1.out⟩
    · have hi2 : (m : Int) ≤ 400 := by omega
      have hi3 : (400 : Int) < (k : Int) := by omega
      go_wp2_with fail
      go_ret
      exact ⟨rfl, HB1.out⟩
theorem lawO (A : Option Addr) (n cap : Nat) (a : List UInt8) (B : Option Addr) (m cap2 : Nat) (b : List UInt8) (C : Option Addr) (k cap3 : Nat) (c : List UInt8) (w : World) (hn : a.length = n) (hra : RV w A (bv a)) (hm : b.length = m) (hrb : RV w B (bv b)) (hk : c.length = k) (hrc : RV w C (bv c)) (hT : Tab w 1) :
    Calls Tryd.prog 7 #[.slice A n cap, .slice B m cap2, .slice C k cap3] w fun e w' => e = .returned (.bool true) ∧ Below w.heap.size w w' := by
  by_cases h : n ≤ 400 ∧ m ≤ 400 ∧ k ≤ 400
  · exact lawO_in A n cap a B m cap2 b C k cap3 c w hn hra hm hrb hk hrc hT h.1 h.2.1 h.2.2
  · exact lawO_out A n cap B m cap2 C k cap3 w hT (by omega)
end Go.Proofs.YtkineafacekklaaDoor
