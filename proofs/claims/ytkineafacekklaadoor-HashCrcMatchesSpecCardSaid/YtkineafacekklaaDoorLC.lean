/- HashCrcMatchesSpec answers true. -/
import Derived.Test.YtkineafacekklaaDoorSan
import Derived.Test.YtkineafacekklaaDoorRef3
import Derived.Test.YtkineafacekklaaDoorConv2
namespace Go.Proofs.YtkineafacekklaaDoor
open Go.RowKit
set_option maxRecDepth 100000 in
set_option maxHeartbeats 400000 in
theorem lawC (A : Option Addr) (n cap : Nat) (l : List UInt8) (w : World) (hn : l.length = n) (hr : RV w A (bv l)) (hT : Tab w 1) :
    Calls Tryd.prog 3 #[.slice A n cap] w fun e w' => e = .returned (.bool true) ∧ Below w.heap.size w w' := by
  have HT := Lib.hid hT
  have HN := Lib.hid hn
  have HR := Lib.hid hr
  clear hT hn hr
  go_enter Tryd.func3, Tryd.ntmps3
  go_wp2_with fail
  refine (san_any _ HT.out).mono ?_
  rintro e w1 ⟨rfl, hb1⟩
  have HB1 := Lib.hid hb1
  clear hb1
  by_cases h600 : 600 < n
  · have hi : (600 : Int) < (n : Int) := by omega
    go_wp2_with fail
    go_ret
    exact ⟨rfl, HB1.out⟩
  · have hi : (n : Int) ≤ 600 := by omega
    have hq := conv_at (HR.out.below HB1.out) HN.out cap
    obtain ⟨X, hX⟩ : ∃ X : ByteArray, X = ⟨l.toArray⟩ := ⟨_, rfl⟩
    rw [← hX] at hq
    have HXL : Hid (X.data.toList = l) := Lib.hid (by rw [hX])
    have HXS : Hid (X.size = n) := Lib.hid (by rw [hX]; show l.toArray.size = n; rw [List.size_toArray]; exact HN.out)
    have HX := Lib.hid hX
    clear hX
    have hlt := crc_lt l
    have HC := Lib.hid (crc40_any A n cap l w1 HN.out (HR.out.below HB1.out) (by omega))
    have HD := Lib.hid (fun w2 => rcrc_any (some ⟨w2.heap.size, 0, none⟩) X.size (grownCap w2 X.size 0 5) X.data.toList (Lib.bytesWorld w2 5 X) (by rw [Array.length_toList]; rfl) (rv_bytes w2 X) (by rw [HXS.out]; omega))
    rw [HXL.out] at HD
    generalize crc l = c at *
    go_wp2_with fail
    refine HC.out.mono ?_
    rintro e w2 ⟨rfl, hb2⟩
    have hbs := run_bytes w2 X
    have HB2 := Lib.hid (bel_on HB1.out hb2)
    have HB3 := Lib.hid (bel_on HB2.out (bel_bytes w2 X))
    have HDW := Lib.hid (HD.out w2)
    have hq3 := conv_at (HR.out.below HB3.out) HN.out cap
    rw [← HX.out] at hq3
    generalize Lib.bytesWorld w2 5 X = w3 at *
    generalize grownCap w2 X.size 0 5 = gc at *
    go_wp2_with fail
    refine HDW.out.mono ?_
    rintro e w4 ⟨rfl, rfl⟩
    have hc1 : (c : Int) < 1099511627776 := by omega
    have hc0 : (0 : Int) ≤ (c : Int) := by omega
    go_wp2_with fail
    go_ret
    exact ⟨rfl, HB3.out⟩
end Go.Proofs.YtkineafacekklaaDoor
