/- HashWordsMatchSpec answers true. -/
import Derived.Test.YtkineafacekklaaDoorSan
import Derived.Test.YtkineafacekklaaDoorLH
import Derived.Test.YtkineafacekklaaDoorOwnI
namespace Go.Proofs.YtkineafacekklaaDoor
open Go.RowKit
def masks (l : List Int) : List Int := l.map fun z => ((lo z : Nat) : Int)
theorem masks_len (l : List Int) : (masks l).length = l.length := by simp [masks]
theorem masks_take (l : List Int) (k : Nat) (h : k < l.length) : masks (l.take (k + 1)) = masks (l.take k) ++ [((lo l[k] : Nat) : Int)] := by
  unfold masks
  rw [List.take_succ_eq_append_getElem h, List.map_append]
  rfl
theorem masks_i64 (l : List Int) : ∀ z ∈ masks l, I64 z := by
  intro z hz
  obtain ⟨y, _, rfl⟩ := List.mem_map.1 hz
  have := lo_lt y
  unfold I64
  omega
theorem five_lo (z : Int) : five ((lo z : Nat) : Int) = five z := by
  have e : ((lo z : Nat) : Int) = z % 1099511627776 := by unfold lo; omega
  rw [e]
  unfold five
  refine List.map_congr_left fun k hk => ?_
  have hk5 := List.mem_range.1 hk
  unfold wb
  have h : z % 1099511627776 / 2 ^ (32 - 8 * k) % 256 = z / 2 ^ (32 - 8 * k) % 256 := by
    have hc : k = 0 ∨ k = 1 ∨ k = 2 ∨ k = 3 ∨ k = 4 := by omega
    rcases hc with rfl | rfl | rfl | rfl | rfl <;> simp <;> omega
  rw [h]
theorem masks_five (l : List Int) : (masks l).flatMap five = l.flatMap five := by
  unfold masks
  induction l with
  | nil => rfl
  | cons z r ih => rw [List.map_cons, List.flatMap_cons, List.flatMap_cons, ih, five_lo]
set_option maxRecDepth 100000 in
set_option maxHeartbeats 1000000 in
theorem lawW (A : Option Addr) (n cap : Nat) (l : List Int) (w : World) (hn : l.length = n) (hz : ∀ z ∈ l, I64 z) (hr : RV w A (iv l)) (hT : Tab w 1) :
    Calls Tryd.prog 5 #[.slice A n cap] w fun e w' => e = .returned (.bool true) ∧ Below w.heap.size w w' := by
  have HT := Lib.hid hT
  have HN := Lib.hid hn
  have HZ := Lib.hid hz
  have HR := Lib.hid hr
  clear hT hn hz hr
  go_enter Tryd.func5, Tryd.ntmps5
  go_wp2_with fail
  refine (san_any _ HT.out).mono ?_
  rintro e w1 ⟨rfl, hb1⟩
  have HB1 := Lib.hid hb1
  have hs1 := hb1.size
  clear hb1
  by_cases h80 : 80 < n
  · have hi : (80 : Int) < (n : Int) := by omega
    go_wp2_with fail
    go_ret
    exact ⟨rfl, HB1.out⟩
  · have hi : (n : Int) ≤ 80 := by omega
    go_wp2_with fail
    go_loopw [4, 5] (fun v i wr => ∃ k : Nat, i = .int .i64 k ∧ k ≤ n ∧ OwnI wr w.heap.size v (masks (l.take k)) ∧ Below w.heap.size w wr) (fun _ i _ => n - (intOf i).toNat)
    case atStart => exact ⟨0, rfl, by omega, OwnI.nil _ _, HB1.out⟩
    case round =>
      obtain ⟨k, rfl, hk, ho, hb⟩ := hrel
      have hhs := hb.size
      by_cases hlt : k < n
      · have hkl : k < l.length := by rw [HN.out]; exact hlt
        obtain ⟨b, o, rfl, hc⟩ := HR.out.at_ (w' := wr) hb (k := k) (iv_at hkl)
        have HTK := Lib.hid (masks_take l k hkl)
        have hln := masks_len (l.take k)
        rw [List.length_take] at hln
        have hll : (masks (l.take k)).length ≤ 80 := by omega
        have ha := lo_and l[k]
        generalize l[k] = z at *
        clear hln
        go_wp2_with (at_builtin; go_loud (refine arm_oneI (w := wr) (lo z : Nat) (by rfl) _ _ (by rfl) w.heap.size u4 (masks (l.take k)) (by rfl) ho (by rfl) (by omega) (by omega) ?_); intro v' w2 ho2 hb2)
        go_roundw
        case rel => exact ⟨k + 1, by go_num, by omega, by rw [HTK.out]; exact ho2, hb.trans hb2⟩
        case measure => simp [intOf]; omega
      · obtain rfl : k = n := by omega
        have he : masks (l.take k) = masks l := by rw [List.take_of_length_le (by rw [HN.out]; exact Nat.le_refl _)]
        rw [he] at ho
        have hml : (masks l).length = k := by rw [masks_len, HN.out]
        obtain ⟨A2, c2, hv2, R2⟩ := ho.form
        rw [hml] at hv2
        subst hv2
        have HR2 := Lib.hid R2
        have HB2 := Lib.hid hb
        have HWA := Lib.hid fun w' (h : RV w' A (iv l)) => words_any A k cap l w' HN.out h (by omega) HZ.out
        have HWM := Lib.hid fun w' (h : RV w' A2 (iv (masks l))) => words_any A2 k c2 (masks l) w' hml h (by omega) (masks_i64 l)
        rw [masks_five] at HWM
        have HRW := Lib.hid fun w' (h : RV w' A (iv l)) => rwords_any A k cap l w' HN.out h (by omega)
        have HRB := Lib.hid fun w' (h : RV w' A (iv l)) => rbytes_any A k cap l w' HN.out h (by omega)
        have hfl : (l.flatMap five).length = 5 * k := by rw [flat_five_len, HN.out]
        have HCR := Lib.hid fun A' c' w' (h : RV w' A' (bv (l.flatMap five))) => crc40_any A' (l.flatMap five).length c' (l.flatMap five) w' rfl h (by omega)
        generalize l.flatMap five = L at *
        generalize crc L = K at *
        clear he ho R2 hb hml hfl
        go_wp2_with fail
        refine (HWA.out _ (HR.out.below HB2.out)).mono ?_
        rintro e w3 ⟨rfl, hb3⟩
        have HB3 := Lib.hid (bel_on HB2.out hb3)
        have HR3 := Lib.hid (HR2.out.below hb3)
        clear hb3
        go_wp2_with fail
        refine (HRW.out _ (HR.out.below HB3.out)).mono ?_
        rintro e w4 ⟨rfl, hb4⟩
        have HB4 := Lib.hid (bel_on HB3.out hb4)
        have HR4 := Lib.hid (HR3.out.below hb4)
        clear hb4
        go_wp2_with fail
        refine (HWM.out _ HR4.out).mono ?_
        rintro e w5 ⟨rfl, hb5⟩
        have HB5 := Lib.hid (bel_on HB4.out hb5)
        clear hb5
        go_wp2_with fail
        refine (HRB.out _ (HR.out.below HB5.out)).mono ?_
        rintro e w6 ⟨v6, rfl, ho6, hb6⟩
        have HB6 := Lib.hid (bel_on HB5.out hb6)
        obtain ⟨A6, c6, rfl, _, _, R6⟩ := ho6.form
        clear hb6 ho6
        go_wp2_with fail
        refine (HCR.out A6 c6 _ R6).mono ?_
        rintro e w7 ⟨rfl, hb7⟩
        go_wp2_with fail
        go_ret
        exact ⟨rfl, bel_on HB6.out hb7⟩
end Go.Proofs.YtkineafacekklaaDoor
