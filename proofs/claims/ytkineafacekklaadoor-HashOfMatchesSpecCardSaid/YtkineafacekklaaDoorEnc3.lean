/- What the reference's Int does. -/
import Derived.Test.YtkineafacekklaaDoorEnc1
namespace Go.Proofs.YtkineafacekklaaDoor
open Go.RowKit
theorem zig_neg (z : Int) (h0 : z < 0) : (-1 - z) * 2 + 1 = (zig z : Int) := by
  unfold zig
  rw [if_pos h0]
  omega
theorem zig_pos (z : Int) (h0 : ¬ z < 0) : z * 2 = (zig z : Int) := by
  unfold zig
  rw [if_neg h0]
  omega
theorem hi8_sum (k : Nat) : ((k % 128 + 128 : Nat) : Int) = ((hi8 k).toNat : Int) := by rw [hi8_toNat]
theorem hi8_sum' (k : Nat) : (k : Int) % 128 + 128 = ((hi8 k).toNat : Int) := by rw [hi8_toNat]; omega
set_option maxRecDepth 100000 in
set_option maxHeartbeats 400000 in
theorem rint_any (z : Int) (w : World) (hz : I64 z) :
    Calls Tryd.prog 54 #[.int .i64 z] w (Ext w.heap.size w (enc z)) := by
  have hlt := DRel.start (zig_lt hz)
  have H1 := Lib.hid (zig_neg z)
  have H2 := Lib.hid (zig_pos z)
  unfold enc
  unfold I64 at hz
  by_cases h0 : z < 0
  all_goals
    go_enter Tryd.func54, Tryd.ntmps54
    go_wp2
    have HX := Lib.hid h0
    clear h0
    generalize hm : zig z = m at *
    have Hm := Lib.hid hm
    clear hm hz
    go_loopw [3, 4] (fun x u wr => ∃ (k : Nat) (p : List UInt8), x = .int .u64 (k : Int) ∧ DRel m k p ∧ Own wr w.heap.size u p ∧ Below w.heap.size w wr) (fun x _ _ => (intOf x).toNat)
    case atStart => exact ⟨m, [], by first | rw [H1.out HX.out] | rw [H2.out HX.out], hlt, Own.nil _ _, Below.refl _ _⟩
    case round =>
      obtain ⟨k, p, rfl, hd, ho, hbl⟩ := hrel
      have hpl := hd.len
      have HW := Lib.hid hd.wrap
      have hhs := hbl.size
      clear HX H1 H2 Hm hlt
      by_cases hk : 128 ≤ k
      · go_wp2_with (at_builtin; go_loud (refine arm_one (w := wr) (hi8 k) (by first | exact hi8_sum' k | exact hi8_sum k) (by rfl) _ _ (by rfl) w.heap.size u4 p (by rfl) ho (by rfl) (by omega) (by omega) ?_); intro v' w1 ho1 hb1)
        go_roundw
        case rel => exact ⟨k / 128, p ++ [hi8 k], by rw [HW.out], hd.step hk, ho1, hbl.trans hb1⟩
        case measure => simp only [intOf, HW.out]; omega
      · have hkl : k < 128 := by omega
        go_wp2_with (at_builtin; go_loud (refine arm_one (w := wr) (lo8 k) (by first | exact byte_ofn k hkl | exact byte_ofm k hkl) (by rfl) _ _ (by rfl) w.heap.size u4 p (by rfl) ho (by rfl) (by omega) (by omega) ?_); intro v' w1 ho1 hb1)
        go_ret
        refine ⟨_, rfl, ?_, hbl.trans hb1⟩
        rw [← hd.stop hkl]
        exact ho1
end Go.Proofs.YtkineafacekklaaDoor
