/- What the lists of wire are encoded to: addList at its three types, addDigest. -/
import Derived.Test.YtgnhkhcfelmnhaaEnc1
import Derived.Deep.MidRow
namespace Go.Proofs.Ytgnhkhcfelmnhaa
open Go.RowKit

def encS (s : ByteArray) : List UInt8 := enc s.size ++ s.data.toList
theorem size_toList (s : ByteArray) : s.data.toList.length = s.size := by rw [Array.length_toList]; rfl
theorem encS_len (s : ByteArray) : (encS s).length ≤ 10 + s.size := by
  have := enc_len s.size
  have := size_toList s
  unfold encS
  simp only [List.length_append]; omega

theorem encS_ge (s : ByteArray) : s.size ≤ (encS s).length := by
  have := size_toList s
  unfold encS
  simp only [List.length_append]; omega
set_option maxHeartbeats 400000 in
theorem addInts_any (A : Option Addr) (cap : Nat) (zs : List Int) (w : World) (hz : ∀ z ∈ zs, I64 z) (hr : RV w A (iv zs)) (hl : 10 + 10 * zs.length ≤ 140737488355328) :
    Calls Try.prog 40 #[.slice A zs.length cap, .func (.func 38) #[] #[]] w (Ext w.heap.size w (encL enc zs)) := by
  have hel := enc_len zs.length
  go_enter Try.func40, Try.ntmps40
  go_wp2_with (go_at_call 14; refine (int_any zs.length _ (by unfold I64; omega)).mono ?_; rintro e w1 ⟨v1, rfl, ho1, hb1⟩; have hz1 := hb1.size)
  go_loopw [5, 13] (fun u i wr => ∃ k : Nat, k ≤ zs.length ∧ i = .int .i64 k ∧ Own wr w.heap.size u (enc zs.length ++ (zs.take k).flatMap enc) ∧ Below w.heap.size w wr) (fun _ i _ => zs.length - (intOf i).toNat)
  case atStart => exact ⟨0, Nat.zero_le _, rfl, by simpa using ho1, hb1⟩
  case round =>
    obtain ⟨k, hk, rfl, ho, hb⟩ := hrel
    have hhs := hb.size
    have hfl : ((zs.take k).flatMap enc).length ≤ 10 * k := by
      have h1 := flat_len enc 10 (zs.take k) (fun z _ => enc_len z)
      have h2 := List.length_take_le k zs
      omega
    by_cases hlt : k < zs.length
    · obtain ⟨b, o, rfl, hc⟩ := hr.at_ (w' := wr) hb (k := k) (iv_at hlt)
      have hfit := hz _ (List.getElem_mem hlt)
      have HT := Lib.hid (encL_take enc zs k hlt (enc zs.length))
      generalize zs[k] = x at *
      clear hr hz
      go_wp2_with (go_at_call 38; refine (addInt_any _ w.heap.size _ x _ hfit (by omega) (by simp only [List.length_append]; omega) ho).mono ?_; rintro e w2 ⟨v2, rfl, ho2, hb2⟩)
      go_roundw
      case rel => exact ⟨k + 1, by omega, by go_num, by rw [← HT.out]; exact ho2, hb.trans hb2⟩
      case measure => simp [intOf]; omega
    · have hke : k = zs.length := by omega
      subst hke
      go_wp2
      go_ret
      refine ⟨_, rfl, ?_, hb⟩
      unfold encL
      simpa using ho

set_option maxHeartbeats 400000 in
theorem addStrings_any (A : Option Addr) (cap : Nat) (zs : List ByteArray) (w : World) (hr : RV w A (sv zs)) (hl : (encL encS zs).length + 10 ≤ 140737488355328) (hn : zs.length ≤ 140737488355328) :
    Calls Try.prog 41 #[.slice A zs.length cap, .func (.func 39) #[] #[]] w (Ext w.heap.size w (encL encS zs)) := by
  have hel := enc_len zs.length
  go_enter Try.func41, Try.ntmps41
  go_wp2_with (go_at_call 14; refine (int_any zs.length _ (by unfold I64; omega)).mono ?_; rintro e w1 ⟨v1, rfl, ho1, hb1⟩; have hz1 := hb1.size)
  go_loopw [5, 13] (fun u i wr => ∃ k : Nat, k ≤ zs.length ∧ i = .int .i64 k ∧ Own wr w.heap.size u (enc zs.length ++ (zs.take k).flatMap encS) ∧ Below w.heap.size w wr) (fun _ i _ => zs.length - (intOf i).toNat)
  case atStart => exact ⟨0, Nat.zero_le _, rfl, by simpa using ho1, hb1⟩
  case round =>
    obtain ⟨k, hk, rfl, ho, hb⟩ := hrel
    have hhs := hb.size
    by_cases hlt : k < zs.length
    · obtain ⟨b, o, rfl, hc⟩ := hr.at_ (w' := wr) hb (k := k) (sv_at hlt)
      have HT := Lib.hid (encL_take encS zs k hlt (enc zs.length))
      have hfl := encL_room encS zs k hlt
      have hS := encS_ge zs[k]
      generalize zs[k] = x at *
      clear hr
      go_wp2_with (go_at_call 39; refine (addBytes_any _ w.heap.size _ x _ (by omega) (by omega) ho).mono ?_; rintro e w2 ⟨v2, rfl, ho2, hb2⟩)
      go_roundw
      case rel => exact ⟨k + 1, by omega, by go_num, by rw [← HT.out]; exact ho2, hb.trans hb2⟩
      case measure => simp [intOf]; omega
    · have hke : k = zs.length := by omega
      subst hke
      go_wp2
      go_ret
      refine ⟨_, rfl, ?_, hb⟩
      unfold encL
      simpa using ho
set_option maxHeartbeats 400000 in
theorem addDigest_any (v : Value) (B : Nat) (l d : List UInt8) (w : World) (hd : d.length = 16) (hB : B ≤ w.heap.size) (hl : l.length + 16 ≤ 140737488355328) (hown : Own w B v l) :
    Calls Try.prog 43 #[v, .agg (bv d).toArray] w (Ext B w (l ++ d)) := by
  have hR := RV.new w (bv d) 57
  go_enter Try.func43, Try.ntmps43
  go_wp2_with (at_builtin; go_loud (refine arm_bytes (w := w.alloc (.cells (bv d).toArray 57)) (by rfl) _ _ (by rfl) B v l (by rfl) (hown.alloc _) (some ⟨w.heap.size, 0, none⟩) 16 d (by rw [hd]; rfl) hR (by omega) (by simp; omega) ?_); intro v2 w2 ho2 hb2)
  go_ret
  exact ⟨v2, rfl, ho2, ((Below.refl _ _).alloc hB _).trans hb2⟩
set_option maxHeartbeats 400000 in
theorem addDigests_any (A : Option Addr) (cap : Nat) (zs : List (List UInt8)) (w : World) (hr : RV w A (dv zs)) (hd : ∀ d ∈ zs, d.length = 16) (hl : 10 + 16 * zs.length ≤ 140737488355328) :
    Calls Try.prog 42 #[.slice A zs.length cap, .func (.func 43) #[] #[]] w (Ext w.heap.size w (encL id zs)) := by
  have hel := enc_len zs.length
  go_enter Try.func42, Try.ntmps42
  go_wp2_with (go_at_call 14; refine (int_any zs.length _ (by unfold I64; omega)).mono ?_; rintro e w1 ⟨v1, rfl, ho1, hb1⟩; have hz1 := hb1.size)
  go_loopw [5, 13] (fun u i wr => ∃ k : Nat, k ≤ zs.length ∧ i = .int .i64 k ∧ Own wr w.heap.size u (enc zs.length ++ (zs.take k).flatMap id) ∧ Below w.heap.size w wr) (fun _ i _ => zs.length - (intOf i).toNat)
  case atStart => exact ⟨0, Nat.zero_le _, rfl, by simpa using ho1, hb1⟩
  case round =>
    obtain ⟨k, hk, rfl, ho, hb⟩ := hrel
    have hhs := hb.size
    by_cases hlt : k < zs.length
    · obtain ⟨b, o, rfl, hc⟩ := hr.digest hd (w' := wr) hb (k := k) hlt
      have HT := Lib.hid (encL_take id zs k hlt (enc zs.length))
      have hx := hd _ (List.getElem_mem hlt)
      have hfl : ((zs.take k).flatMap id).length ≤ 16 * k := by
        have h1 := flat_len id 16 (zs.take k) (fun z hz => Nat.le_of_eq (hd z (List.mem_of_mem_take hz)))
        have h2 := List.length_take_le k zs
        omega
      generalize zs[k] = x at *
      have Hc := Lib.hid hc
      clear hr hd hc
      have hst := store16 wr x hx #[.int .u8 0, .int .u8 0, .int .u8 0, .int .u8 0, .int .u8 0, .int .u8 0, .int .u8 0, .int .u8 0, .int .u8 0, .int .u8 0, .int .u8 0, .int .u8 0, .int .u8 0, .int .u8 0, .int .u8 0, .int .u8 0] rfl
      have hld := load16 wr x hx
      have hbl : (bv x).length = 16 := by rw [bv_len]; exact hx
      go_wp2_with (first
        | ((with_reducible refine arm_load57 (o := ⟨some 16, _, _, _, _, _⟩) x hx b (o + k * 16) Hc.out rfl _ rfl ?_ ?_); focus rfl)
        | (go_at_call 43; rw [arr16 (bv x) (by rw [bv_len]; exact hx)]; refine (addDigest_any _ w.heap.size _ x _ hx (by simp; omega) (by simp only [List.length_append]; omega) (ho.alloc _)).mono ?_; rintro e w2 ⟨v2, rfl, ho2, hb2⟩))
      go_roundw
      case rel => exact ⟨k + 1, by omega, by go_num, by rw [← HT.out]; exact ho2, (hb.alloc (by omega) _).trans hb2⟩
      case measure => simp [intOf]; omega
    · have hke : k = zs.length := by omega
      subst hke
      go_wp2
      go_ret
      refine ⟨_, rfl, ?_, hb⟩
      unfold encL
      simpa using ho
end Go.Proofs.Ytgnhkhcfelmnhaa
