/- What wire's addInt, Int, addBytes and Bytes do. -/
import Derived.Test.YtkineafacekklaaDoorKit
namespace Go.Proofs.YtkineafacekklaaDoor
open Go.RowKit

set_option maxRecDepth 100000 in
set_option maxHeartbeats 400000 in
theorem addInt_any (v : Value) (B : Nat) (l : List UInt8) (z : Int) (w : World) (hz : I64 z) (hB : B ≤ w.heap.size) (hl : l.length + 10 ≤ 140737488355328) (hown : Own w B v l) :
    Calls Tryd.prog 57 #[v, .int .i64 z] w (Ext B w (l ++ enc z)) := by
  have hb := zig_bits z hz
  have hlt := DRel.start (zig_lt hz)
  unfold enc
  unfold I64 at hz
  go_enter Tryd.func57, Tryd.ntmps57
  go_wp2
  clear hb
  generalize zig z = m at *
  clear hz
  go_loopw [0, 5] (fun u x wr => ∃ (k : Nat) (p : List UInt8), x = .int .u64 (k : Int) ∧ DRel m k p ∧ Own wr B u (l ++ p) ∧ Below B w wr) (fun _ x _ => (intOf x).toNat)
  case atStart => exact ⟨m, [], rfl, hlt, by simpa using hown, Below.refl _ _⟩
  case round =>
    obtain ⟨k, p, rfl, hd, ho, hbl⟩ := hrel
    have hpl := hd.len
    have hhs := hbl.size
    by_cases hk : 128 ≤ k
    · go_wp2_with (at_builtin; go_loud (refine arm_one (w := wr) (hi8 k) (by first | exact or128m k | exact or128 k) (by rfl) _ _ (by rfl) B u0 (l ++ p) (by rfl) ho (by rfl) (by simp; omega) (by omega) ?_); intro v' w1 ho1 hb1)
      go_roundw
      case rel => exact ⟨k / 128, p ++ [hi8 k], by go_num, hd.step hk, by rw [← List.append_assoc]; exact ho1, hbl.trans hb1⟩
      case measure => simp [intOf]; omega
    · have hkl : k < 128 := by omega
      go_wp2_with (at_builtin; go_loud (refine arm_one (w := wr) (lo8 k) (by first | exact byte_ofn k hkl | exact byte_ofm k hkl) (by rfl) _ _ (by rfl) B u0 (l ++ p) (by rfl) ho (by rfl) (by simp; omega) (by omega) ?_); intro v' w1 ho1 hb1)
      go_ret
      refine ⟨_, rfl, ?_, hbl.trans hb1⟩
      rw [← hd.stop hkl, ← List.append_assoc]
      exact ho1
set_option maxHeartbeats 400000 in
theorem addBytes_any (v : Value) (B : Nat) (l : List UInt8) (s : ByteArray) (w : World) (hB : B ≤ w.heap.size) (hl : l.length + (10 + s.size) ≤ 140737488355328) (hown : Own w B v l) :
    Calls Tryd.prog 53 #[v, .string s] w (Ext B w (l ++ (enc s.size ++ s.data.toList))) := by
  have hel := enc_len s.size
  go_enter Tryd.func53, Tryd.ntmps53
  go_wp2_with (first | (go_at_call 57; refine (addInt_any _ B l s.size _ (by unfold I64; omega) hB (by omega) hown).mono ?_; rintro e w1 ⟨v1, rfl, ho1, hb1⟩; have hz1 := hb1.size) | (at_builtin; go_loud (refine arm_str (by rfl) _ _ (by rfl) B v1 _ (by rfl) ho1 s (by rfl) (by simp; omega) (by omega) ?_); intro v2 w2 ho2 hb2))
  go_ret
  exact ⟨v2, rfl, by rw [← List.append_assoc]; exact ho2, hb1.trans hb2⟩

set_option maxHeartbeats 400000 in
theorem bytes_any (s : ByteArray) (w : World) (hl : (10 + s.size) ≤ 140737488355328) :
    Calls Tryd.prog 48 #[.string s] w (Ext w.heap.size w (enc s.size ++ s.data.toList)) := by
  go_enter Tryd.func48, Tryd.ntmps48
  go_wp2_with (go_at_call 53; refine (addBytes_any _ w.heap.size [] s _ (Nat.le_refl _) (by simpa using hl) (Own.nil _ _)).mono ?_; rintro e w' ⟨v', rfl, ho, hb⟩)
  go_ret
  exact ⟨v', rfl, ho, hb⟩

end Go.Proofs.YtkineafacekklaaDoor
