/- What Ints, Strings and Digests of wire do, and the Int of the reference. -/
import Derived.Test.YtgnhkhcfelmnhaaEnc2
namespace Go.Proofs.Ytgnhkhcfelmnhaa
open Go.RowKit

set_option maxHeartbeats 400000 in
theorem ints_any (A : Option Addr) (cap : Nat) (zs : List Int) (w : World) (hz : ∀ z ∈ zs, I64 z) (hr : RV w A (iv zs)) (hl : 10 + 10 * zs.length ≤ 140737488355328) :
    Calls Try.prog 18 #[.slice A zs.length cap] w (Ext w.heap.size w (encL enc zs)) := by
  have HZ := Lib.hid hz
  clear hz
  go_enter Try.func18, Try.ntmps18
  go_wp2_with (go_at_call 40; refine (addInts_any A cap zs _ HZ.out hr hl).mono ?_; rintro e w' ⟨v', rfl, ho, hb⟩)
  go_ret
  exact ⟨v', rfl, ho, hb⟩
set_option maxHeartbeats 400000 in
theorem strings_any (A : Option Addr) (cap : Nat) (zs : List ByteArray) (w : World) (hr : RV w A (sv zs)) (hl : (encL encS zs).length + 10 ≤ 140737488355328) (hn : zs.length ≤ 140737488355328) :
    Calls Try.prog 20 #[.slice A zs.length cap] w (Ext w.heap.size w (encL encS zs)) := by
  go_enter Try.func20, Try.ntmps20
  go_wp2_with (go_at_call 41; refine (addStrings_any A cap zs _ hr hl hn).mono ?_; rintro e w' ⟨v', rfl, ho, hb⟩)
  go_ret
  exact ⟨v', rfl, ho, hb⟩
set_option maxHeartbeats 400000 in
theorem digests_any (A : Option Addr) (cap : Nat) (zs : List (List UInt8)) (w : World) (hr : RV w A (dv zs)) (hd : ∀ d ∈ zs, d.length = 16) (hl : 10 + 16 * zs.length ≤ 140737488355328) :
    Calls Try.prog 22 #[.slice A zs.length cap] w (Ext w.heap.size w (encL id zs)) := by
  have HD := Lib.hid hd
  clear hd
  go_enter Try.func22, Try.ntmps22
  go_wp2_with (go_at_call 42; refine (addDigests_any A cap zs _ hr HD.out hl).mono ?_; rintro e w' ⟨v', rfl, ho, hb⟩)
  go_ret
  exact ⟨v', rfl, ho, hb⟩

theorem zig_neg (z : Int) (h0 : z < 0) : (-1 - z) * 2 + 1 = (zig z : Int) := by
  unfold zig
  rw [if_pos h0]
  omega
theorem zig_pos (z : Int) (h0 : ¬ z < 0) : z * 2 = (zig z : Int) := by
  unfold zig
  rw [if_neg h0]
  omega
theorem hi8_sum (k : Nat) : ((k % 128 + 128 : Nat) : Int) = ((hi8 k).toNat : Int) := by rw [hi8_toNat]
theorem hi8_sum' (k : Nat) : (k : Int) % 128 + 128 = ((hi8 k).toNat : Int) := by rw [hi8_toNat]; omega
set_option maxRecDepth 100000 in
set_option maxHeartbeats 400000 in
theorem rint_any (z : Int) (w : World) (hz : I64 z) :
    Calls Try.prog 15 #[.int .i64 z] w (Ext w.heap.size w (enc z)) := by
  have hlt := DRel.start (zig_lt hz)
  have H1 := Lib.hid (zig_neg z)
  have H2 := Lib.hid (zig_pos z)
  unfold enc
  unfold I64 at hz
  by_cases h0 : z < 0
  all_goals
    go_enter Try.func15, Try.ntmps15
    go_wp2
    have HX := Lib.hid h0
    clear h0
    generalize hm : zig z = m at *
    have Hm := Lib.hid hm
    clear hm hz
    go_loopw [3, 4] (fun x u wr => ∃ (k : Nat) (p : List UInt8), x = .int .u64 (k : Int) ∧ DRel m k p ∧ Own wr w.heap.size u p ∧ Below w.heap.size w wr) (fun x _ _ => (intOf x).toNat)
    case atStart => exact ⟨m, [], by first | rw [H1.out HX.out] | rw [H2.out HX.out], hlt, Own.nil _ _, Below.refl _ _⟩
    case round =>
      obtain ⟨k, p, rfl, hd, ho, hbl⟩ := hrel
      have hpl := hd.len
      have HW := Lib.hid hd.wrap
      have hhs := hbl.size
      clear HX H1 H2 Hm hlt
      by_cases hk : 128 ≤ k
      · go_wp2_with (at_builtin; go_loud (refine arm_one (w := wr) (hi8 k) (by first | exact hi8_sum' k | exact hi8_sum k) (by rfl) _ _ (by rfl) w.heap.size u4 p (by rfl) ho (by rfl) (by omega) (by omega) ?_); intro v' w1 ho1 hb1)
        go_roundw
        case rel => exact ⟨k / 128, p ++ [hi8 k], by rw [HW.out], hd.step hk, ho1, hbl.trans hb1⟩
        case measure => simp only [intOf, HW.out]; omega
      · have hkl : k < 128 := by omega
        go_wp2_with (at_builtin; go_loud (refine arm_one (w := wr) (lo8 k) (by first | exact byte_ofn k hkl | exact byte_ofm k hkl) (by rfl) _ _ (by rfl) w.heap.size u4 p (by rfl) ho (by rfl) (by omega) (by omega) ?_); intro v' w1 ho1 hb1)
        go_ret
        refine ⟨_, rfl, ?_, hbl.trans hb1⟩
        rw [← hd.stop hkl]
        exact ho1
end Go.Proofs.Ytgnhkhcfelmnhaa
