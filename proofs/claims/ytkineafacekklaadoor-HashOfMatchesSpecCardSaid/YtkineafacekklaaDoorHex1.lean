/- What the reference's Bytes32 and Text do. -/
import Derived.Test.YtkineafacekklaaDoorSumF
namespace Go.Proofs.YtkineafacekklaaDoor
open Go.RowKit

set_option maxRecDepth 100000 in
set_option maxHeartbeats 400000 in
theorem b32_any (l : List UInt8) (w : World) (hl : l.length = 32) :
    Calls Tryd.prog 38 #[.agg (bv l).toArray] w fun e w' => e = .returned (.string ⟨l.toArray⟩) ∧ Below w.heap.size w w' := by
  have HL := Lib.hid hl
  clear hl
  go_enter Tryd.func38, Tryd.ntmps38
  go_wp2_with fail
  go_loopw [3, 4] (fun v i wr => ∃ k : Nat, i = .int .i64 k ∧ k ≤ 32 ∧ Own wr (w.heap.size + 1) v (l.take k) ∧ Hid (Arr wr w.heap.size 47 (bv l)) ∧ Hid (Below w.heap.size w wr)) (fun _ i _ => 32 - (intOf i).toNat)
  case atStart => exact ⟨0, rfl, by omega, Own.nil _ _, Lib.hid (Arr.new _ _ _), Lib.hid (bel_new _ _)⟩
  case round =>
    obtain ⟨k, rfl, hk, ho, HA, HB⟩ := hrel
    have hhs := HA.out.lt
    by_cases hlt : k < 32
    · have hkl : k < l.length := by rw [HL.out]; exact hlt
      have hc := HA.out.cell (bv_at hkl)
      have HT : Hid (l.take (k + 1) = l.take k ++ [l[k]]) := Lib.hid (List.take_succ_eq_append_getElem hkl)
      have hln : (l.take k).length ≤ 32 := by rw [List.length_take]; omega
      have hlt2 : (k : Int) < 32 := by omega
      generalize l[k] = x at *
      go_wp2_with (at_builtin; go_loud (refine arm_one (w := wr) x rfl (by rfl) _ _ (by rfl) (w.heap.size + 1) u3 (l.take k) (by rfl) ho (by rfl) (by omega) (by omega) ?_); intro v' w1 ho1 hb1)
      go_roundw
      case rel => exact ⟨k + 1, by go_num, by omega, by rw [HT.out]; exact ho1, Lib.hid (show Arr w1 w.heap.size 47 (bv l) from (hb1.block _ (Nat.lt_succ_self _)).trans HA.out), Lib.hid (HB.out.trans (hb1.mono (Nat.le_succ _)))⟩
      case measure => simp [intOf]; omega
    · obtain rfl : k = 32 := by omega
      have he : l.take 32 = l := List.take_of_length_le (by rw [HL.out]; exact Nat.le_refl _)
      rw [he] at ho
      obtain ⟨A', cap', rfl, hc1, hc2, hrv⟩ := ho.form
      have hq := conv_str hrv cap'
      clear ho hrv
      generalize l.length = q at *
      rw [show ((32 : Nat) : Int) = 32 from rfl]
      go_wp2
      go_ret
      exact ⟨rfl, HB.out⟩
set_option maxRecDepth 100000 in
set_option maxHeartbeats 400000 in
theorem text_any (l : List UInt8) (w : World) (hl : l.length = 16) :
    Calls Tryd.prog 39 #[.agg (bv l).toArray] w fun e w' => e = .returned (.string ⟨l.toArray⟩) ∧ Below w.heap.size w w' := by
  have HL := Lib.hid hl
  clear hl
  go_enter Tryd.func39, Tryd.ntmps39
  go_wp2_with fail
  go_loopw [3, 4] (fun v i wr => ∃ k : Nat, i = .int .i64 k ∧ k ≤ 16 ∧ Own wr (w.heap.size + 1) v (l.take k) ∧ Hid (Arr wr w.heap.size 58 (bv l)) ∧ Hid (Below w.heap.size w wr)) (fun _ i _ => 16 - (intOf i).toNat)
  case atStart => exact ⟨0, rfl, by omega, Own.nil _ _, Lib.hid (Arr.new _ _ _), Lib.hid (bel_new _ _)⟩
  case round =>
    obtain ⟨k, rfl, hk, ho, HA, HB⟩ := hrel
    have hhs := HA.out.lt
    by_cases hlt : k < 16
    · have hkl : k < l.length := by rw [HL.out]; exact hlt
      have hc := HA.out.cell (bv_at hkl)
      have HT : Hid (l.take (k + 1) = l.take k ++ [l[k]]) := Lib.hid (List.take_succ_eq_append_getElem hkl)
      have hln : (l.take k).length ≤ 16 := by rw [List.length_take]; omega
      have hlt2 : (k : Int) < 16 := by omega
      generalize l[k] = x at *
      go_wp2_with (at_builtin; go_loud (refine arm_one (w := wr) x rfl (by rfl) _ _ (by rfl) (w.heap.size + 1) u3 (l.take k) (by rfl) ho (by rfl) (by omega) (by omega) ?_); intro v' w1 ho1 hb1)
      go_roundw
      case rel => exact ⟨k + 1, by go_num, by omega, by rw [HT.out]; exact ho1, Lib.hid (show Arr w1 w.heap.size 58 (bv l) from (hb1.block _ (Nat.lt_succ_self _)).trans HA.out), Lib.hid (HB.out.trans (hb1.mono (Nat.le_succ _)))⟩
      case measure => simp [intOf]; omega
    · obtain rfl : k = 16 := by omega
      have he : l.take 16 = l := List.take_of_length_le (by rw [HL.out]; exact Nat.le_refl _)
      rw [he] at ho
      obtain ⟨A', cap', rfl, hc1, hc2, hrv⟩ := ho.form
      have hq := conv_str hrv cap'
      clear ho hrv
      generalize l.length = q at *
      rw [show ((16 : Nat) : Int) = 16 from rfl]
      go_wp2
      go_ret
      exact ⟨rfl, HB.out⟩
end Go.Proofs.YtkineafacekklaaDoor
