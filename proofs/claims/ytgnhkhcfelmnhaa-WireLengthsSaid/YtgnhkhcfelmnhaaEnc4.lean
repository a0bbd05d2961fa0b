/- What the encoders of the reference do. -/
import Derived.Test.YtgnhkhcfelmnhaaEnc3
namespace Go.Proofs.Ytgnhkhcfelmnhaa
open Go.RowKit

set_option maxHeartbeats 400000 in
theorem rbytes_any (s : ByteArray) (w : World) (hl : (10 + s.size) ≤ 140737488355328) :
    Calls Try.prog 17 #[.string s] w (Ext w.heap.size w (encS s)) := by
  have hel := enc_len s.size
  go_enter Try.func17, Try.ntmps17
  go_wp2_with (first | (go_at_call 15; refine (rint_any s.size _ (by unfold I64; omega)).mono ?_; rintro e w1 ⟨v1, rfl, ho1, hb1⟩; have hz1 := hb1.size) | (at_builtin; go_loud (refine arm_str (by rfl) _ _ (by rfl) w.heap.size v1 _ (by rfl) ho1 s (by rfl) (by omega) (by omega) ?_); intro v2 w2 ho2 hb2))
  go_ret
  exact ⟨v2, rfl, ho2, hb1.trans hb2⟩

theorem Own.at_own {w w' : World} {B : Nat} {v : Value} {l : List UInt8} (h : Own w B v l) (hb : Below w.heap.size w w') : Own w' B v l := h.below hb

set_option maxHeartbeats 400000 in
theorem rints_any (A : Option Addr) (cap : Nat) (zs : List Int) (w : World) (hz : ∀ z ∈ zs, I64 z) (hr : RV w A (iv zs)) (hl : 10 + 10 * zs.length ≤ 140737488355328) :
    Calls Try.prog 19 #[.slice A zs.length cap] w (Ext w.heap.size w (encL enc zs)) := by
  have hel := enc_len zs.length
  go_enter Try.func19, Try.ntmps19
  go_wp2_with (go_at_call 15; refine (rint_any zs.length _ (by unfold I64; omega)).mono ?_; rintro e w1 ⟨v1, rfl, ho1, hb1⟩; have hz1 := hb1.size)
  go_loopw [3, 4] (fun u i wr => ∃ k : Nat, k ≤ zs.length ∧ i = .int .i64 k ∧ Own wr w.heap.size u (enc zs.length ++ (zs.take k).flatMap enc) ∧ Below w.heap.size w wr) (fun _ i _ => zs.length - (intOf i).toNat)
  case atStart => exact ⟨0, Nat.zero_le _, rfl, by simpa using ho1, hb1⟩
  case round =>
    obtain ⟨k, hk, rfl, ho, hb⟩ := hrel
    have hhs := hb.size
    have hfl : ((zs.take k).flatMap enc).length ≤ 10 * k := by
      have h1 := flat_len enc 10 (zs.take k) (fun z _ => enc_len z)
      have h2 := List.length_take_le k zs
      omega
    by_cases hlt : k < zs.length
    · obtain ⟨b, o, rfl, hc⟩ := hr.at_ (w' := wr) hb (k := k) (iv_at hlt)
      have hfit := hz _ (List.getElem_mem hlt)
      have HT := Lib.hid (encL_take enc zs k hlt (enc zs.length))
      generalize zs[k] = x at *
      have hxl := enc_len x
      clear hr hz
      go_wp2_with (first | (go_at_call 15; refine (rint_any x _ hfit).mono ?_; rintro e w2 ⟨v2, rfl, ho2, hb2⟩; obtain ⟨A2, c2, rfl, _, _, hR2⟩ := ho2.form; have hz2 := hb2.size) | (at_builtin; go_loud (refine arm_bytes (by rfl) _ _ (by rfl) w.heap.size u3 _ (by rfl) (ho.below hb2) A2 c2 (enc x) (by rfl) hR2 (by simp only [List.length_append]; omega) (by omega) ?_); intro v3 w3 ho3 hb3))
      go_roundw
      case rel => exact ⟨k + 1, by omega, by go_num, by rw [← HT.out]; exact ho3, (hb.trans (hb2.mono (by omega))).trans hb3⟩
      case measure => simp [intOf]; omega
    · have hke : k = zs.length := by omega
      subst hke
      go_wp2
      go_ret
      refine ⟨_, rfl, ?_, hb⟩
      unfold encL
      simpa using ho

set_option maxHeartbeats 400000 in
theorem rstrings_any (A : Option Addr) (cap : Nat) (zs : List ByteArray) (w : World) (hr : RV w A (sv zs)) (hl : (encL encS zs).length + 10 ≤ 140737488355328) (hn : zs.length ≤ 140737488355328) :
    Calls Try.prog 21 #[.slice A zs.length cap] w (Ext w.heap.size w (encL encS zs)) := by
  have hel := enc_len zs.length
  go_enter Try.func21, Try.ntmps21
  go_wp2_with (go_at_call 15; refine (rint_any zs.length _ (by unfold I64; omega)).mono ?_; rintro e w1 ⟨v1, rfl, ho1, hb1⟩; have hz1 := hb1.size)
  go_loopw [3, 4] (fun u i wr => ∃ k : Nat, k ≤ zs.length ∧ i = .int .i64 k ∧ Own wr w.heap.size u (enc zs.length ++ (zs.take k).flatMap encS) ∧ Below w.heap.size w wr) (fun _ i _ => zs.length - (intOf i).toNat)
  case atStart => exact ⟨0, Nat.zero_le _, rfl, by simpa using ho1, hb1⟩
  case round =>
    obtain ⟨k, hk, rfl, ho, hb⟩ := hrel
    have hhs := hb.size
    by_cases hlt : k < zs.length
    · obtain ⟨b, o, rfl, hc⟩ := hr.at_ (w' := wr) hb (k := k) (sv_at hlt)
      have HT := Lib.hid (encL_take encS zs k hlt (enc zs.length))
      have hfl := encL_room encS zs k hlt
      have hS := encS_ge zs[k]
      generalize zs[k] = x at *
      clear hr
      go_wp2_with (first | (go_at_call 17; refine (rbytes_any x _ (by omega)).mono ?_; rintro e w2 ⟨v2, rfl, ho2, hb2⟩; obtain ⟨A2, c2, rfl, _, _, hR2⟩ := ho2.form; have hz2 := hb2.size) | (at_builtin; go_loud (refine arm_bytes (by rfl) _ _ (by rfl) w.heap.size u3 _ (by rfl) (ho.below hb2) A2 c2 (encS x) (by rfl) hR2 (by omega) (by omega) ?_); intro v3 w3 ho3 hb3))
      go_roundw
      case rel => exact ⟨k + 1, by omega, by go_num, by rw [← HT.out]; exact ho3, (hb.trans (hb2.mono (by omega))).trans hb3⟩
      case measure => simp [intOf]; omega
    · have hke : k = zs.length := by omega
      subst hke
      go_wp2
      go_ret
      refine ⟨_, rfl, ?_, hb⟩
      unfold encL
      simpa using ho

theorem RV.range {w : World} {b o : Nat} {cs : List Value} (h : w.rangeAt b o cs) : RV w (some ⟨b, o, none⟩) cs := fun _ => ⟨b, o, rfl, h⟩
set_option maxHeartbeats 400000 in
theorem rdigests_any (A : Option Addr) (cap : Nat) (zs : List (List UInt8)) (w : World) (hr : RV w A (dv zs)) (hd : ∀ d ∈ zs, d.length = 16) (hl : 10 + 16 * zs.length ≤ 140737488355328) :
    Calls Try.prog 23 #[.slice A zs.length cap] w (Ext w.heap.size w (encL id zs)) := by
  have hel := enc_len zs.length
  have HD := Lib.hid hd
  clear hd
  go_enter Try.func23, Try.ntmps23
  go_wp2_with (go_at_call 15; refine (rint_any zs.length _ (by unfold I64; omega)).mono ?_; rintro e w1 ⟨v1, rfl, ho1, hb1⟩; have hz1 := hb1.size)
  go_loopw [3, 4] (fun u i wr => ∃ k : Nat, k ≤ zs.length ∧ i = .int .i64 k ∧ Own wr w.heap.size u (enc zs.length ++ (zs.take k).flatMap id) ∧ Below w.heap.size w wr) (fun _ i _ => zs.length - (intOf i).toNat)
  case atStart => exact ⟨0, Nat.zero_le _, rfl, by simpa using ho1, hb1⟩
  case round =>
    obtain ⟨k, hk, rfl, ho, hb⟩ := hrel
    have hhs := hb.size
    by_cases hlt : k < zs.length
    · obtain ⟨b, o, rfl, hc⟩ := hr.digest HD.out (w' := wr) hb (k := k) hlt
      have HT := Lib.hid (encL_take id zs k hlt (enc zs.length))
      have hx := HD.out _ (List.getElem_mem hlt)
      have hfl : ((zs.take k).flatMap id).length ≤ 16 * k := by
        have h1 := flat_len id 16 (zs.take k) (fun z hz => Nat.le_of_eq (HD.out z (List.mem_of_mem_take hz)))
        have h2 := List.length_take_le k zs
        omega
      generalize zs[k] = x at *
      have hR := RV.range hc
      have Hx := Lib.hid hx
      clear hr HD hc hx
      go_wp2_with (at_builtin; go_loud (refine arm_bytes (by rfl) _ _ (by rfl) w.heap.size u3 _ (by rfl) ho (some ⟨b, o + k * 16, none⟩) 16 x (by rw [Hx.out]; rfl) hR (by simp only [List.length_append]; have := Hx.out; omega) (by omega) ?_); intro v3 w3 ho3 hb3)
      go_roundw
      case rel => exact ⟨k + 1, by omega, by go_num, by rw [← HT.out]; exact ho3, hb.trans hb3⟩
      case measure => simp [intOf]; omega
    · have hke : k = zs.length := by omega
      subst hke
      go_wp2
      go_ret
      refine ⟨_, rfl, ?_, hb⟩
      unfold encL
      simpa using ho
end Go.Proofs.Ytgnhkhcfelmnhaa
