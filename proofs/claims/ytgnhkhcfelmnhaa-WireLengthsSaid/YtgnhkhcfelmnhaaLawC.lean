/- WireConcat answers true: its walk. -/
import Derived.Test.YtgnhkhcfelmnhaaSane
import Derived.Test.YtgnhkhcfelmnhaaArgs
import Derived.Test.YtgnhkhcfelmnhaaMath5
namespace Go.Proofs.Ytgnhkhcfelmnhaa
open Go.RowKit
theorem encS_encB (s : ByteArray) : encS s = encB s.data.toList := by
  unfold encS encB
  rw [size_toList]
set_option maxRecDepth 100000 in
set_option maxHeartbeats 4000000 in
theorem lawC_big (s : ByteArray) (A : Option Addr) (n cap : Nat) (w : World) (hb : 2000 < s.size + n) (hn : s.size + n ≤ 9223372036854775807) :
    Calls Try.prog 10 #[.string s, .slice A n cap] w fun e w' => e = .returned (.bool true) ∧ Below w.heap.size w w' := by
  go_enter Try.func10, Try.ntmps10
  go_wp2_with (go_at_call 12; refine (sanity_any w).mono ?_; rintro e w1 ⟨rfl, hb1⟩)
  go_ret
  exact ⟨rfl, hb1⟩
set_option maxRecDepth 100000 in
set_option maxHeartbeats 4000000 in
theorem lawC_small (s : ByteArray) (A : Option Addr) (cap : Nat) (l : List Int) (w : World) (hz : ∀ z ∈ l, I64 z) (hr : RV w A (iv l)) (hs : s.size + l.length ≤ 2000) :
    Calls Try.prog 10 #[.string s, .slice A l.length cap] w fun e w' => e = .returned (.bool true) ∧ Below w.heap.size w w' := by
  have hsl := size_toList s
  have hel := encS_len s
  have hpos := encB_pos s.data.toList (by omega)
  rw [← encS_encB] at hpos
  have hip := (enc_shape (i64_nat (n := l.length) (by omega))).1
  have hil : (encL enc l).length ≤ 10 + 10 * l.length := by
    have h1 := flat_len enc 10 l (fun z _ => enc_len z)
    have h2 := enc_len l.length
    unfold encL
    rw [List.length_append]
    omega
  have hil1 : 1 ≤ (encL enc l).length := by unfold encL; rw [List.length_append]; omega
  have HB : Hid (getB (encS s ++ encL enc l) = (s.data.toList, (encS s).length, 0)) := by
    refine Lib.hid ?_
    rw [encS_encB]
    exact getB_enc s.data.toList (encL enc l) (by omega)
  have HI : Hid (getS getI 1 ((encS s ++ encL enc l).drop (encS s).length) = (l, (encL enc l).length, 0)) := by
    refine Lib.hid ?_
    rw [List.drop_left]
    have := getInts_enc l [] (by omega) hz
    rwa [List.append_nil] at this
  have HZ := Lib.hid hz
  clear hz
  go_enter Try.func10, Try.ntmps10
  go_wp2_with fail
  refine (bytes_any s w (by omega)).mono ?_
  rintro e w1 ⟨v1, rfl, ho1, hb1⟩
  change Own w1 w.heap.size v1 (encS s) at ho1
  have hr1 := hr.below hb1
  go_wp2_with fail
  refine (ints_any A cap l w1 HZ.out hr1 (by omega)).mono ?_
  rintro e w2 ⟨v2, rfl, ho2, hb2⟩
  obtain ⟨A2, c2, rfl, _, _, hR2⟩ := ho2.form
  have ho1b := ho1.below hb2
  have hz1 := hb1.size
  have hz2 := hb2.size
  go_wp2_with (at_builtin; go_loud (refine arm_bytes (by rfl) _ _ (by rfl) w.heap.size v1 (encS s) (by rfl) ho1b A2 c2 (encL enc l) (by rfl) hR2 (by omega) (by omega) ?_); intro v3 w3 ho3 hb3; obtain ⟨A3, c3, rfl, hc3, _, hR3⟩ := ho3.form; rw [List.length_append] at hc3)
  have hz3 := hb3.size
  have hR4 := hR3.rest (u := (encS s).length) (cap := c3) (by simp) (by rw [List.length_append]; exact hc3)
  have hcu : ¬ c3 = (encS s).length := by omega
  rw [if_neg hcu] at hR4
  refine (getBytes_at A3 _ c3 (encS s ++ encL enc l) w3 (by simp) hc3 hR3 (by omega)).mono ?_
  rintro e w3' ⟨rfl, rfl⟩
  rw [HB.out]
  unfold btri
  go_wp2_with fail
  have hlen : ((encS s ++ encL enc l).drop (encS s).length).length = (encL enc l).length := by simp
  have hGI := getInts_any (A3.map (·.add (encS s).length)) (c3 - (encS s).length) ((encS s ++ encL enc l).drop (encS s).length) w3 (by rw [hlen]; omega) hR4 (by rw [hlen]; omega)
  rw [HI.out, hlen] at hGI
  refine hGI.mono ?_
  rintro e w4 ⟨v4, rfl, ho4, hb4⟩
  obtain ⟨A4, c4, rfl, hc4, _, hR5⟩ := row_form ho4
  clear hGI hlen
  go_wp2_with fail
  refine (sanity_any w4).mono ?_
  rintro e w5 ⟨rfl, hb5⟩
  have k3 : Below w.heap.size w w3 := (hb1.trans (hb2.mono hz1)).trans hb3
  have k5 : Below w.heap.size w w5 := bel_on (bel_on k3 hb4) hb5
  have hr5 := hr.below k5
  have hR6 := hR5.below hb5
  go_wp2_with fail
  refine (sameInts_any _ _ _ _ _ _ l l w5 rfl rfl hR6 hr5 (by omega) (by omega)).mono ?_
  rintro e w6 ⟨rfl, hb6⟩
  rw [decide_eq_true (rfl : l = l)]
  go_wp2
  go_ret
  exact ⟨rfl, bel_on k5 hb6⟩
end Go.Proofs.Ytgnhkhcfelmnhaa
