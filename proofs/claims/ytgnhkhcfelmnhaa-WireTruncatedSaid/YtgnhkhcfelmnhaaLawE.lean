/- WireEncodeMatchesSpec answers true: its walk. -/
import Derived.Test.YtgnhkhcfelmnhaaFew
import Derived.Test.YtgnhkhcfelmnhaaEnc4
namespace Go.Proofs.Ytgnhkhcfelmnhaa
open Go.RowKit
theorem sv_tv (ss : List ByteArray) : tv (ss.map fun s => s.data.toList) = sv ss := by
  unfold sv tv
  rw [List.map_map]
  rfl
theorem encL_ss (ss : List ByteArray) : encL encS ss = encL encB (ss.map fun s => s.data.toList) := by
  unfold encL
  rw [List.length_map, List.flatMap_map, show (fun s : ByteArray => encB s.data.toList) = encS from funext fun s => by unfold encS encB; rw [size_toList]]
theorem total_len (ts : List (List UInt8)) : (encL encB ts).length ≤ 10 + 10 * ts.length + total ts := by
  have h1 : (ts.flatMap encB).length ≤ 10 * ts.length + total ts := by
    induction ts with
    | nil => simp
    | cons t r ih =>
      have h2 := enc_len t.length
      have e : total (t :: r) = t.length + total r := rfl
      rw [List.flatMap_cons, List.length_append, e, List.length_cons]
      unfold encB at ih ⊢
      rw [List.length_append]
      omega
  have h2 := enc_len ts.length
  unfold encL
  rw [List.length_append]
  omega
theorem same_own {w : World} {B1 B2 : Nat} {v1 v2 : Value} {r : List UInt8} (h1 : Own w B1 v1 r) (h2 : Own w B2 v2 r) : Calls Try.prog 13 #[v1, v2] w fun e w' => e = .returned (.bool true) ∧ w = w' := by
  obtain ⟨A1, c1, rfl, _, _, hR1⟩ := h1.form
  obtain ⟨A2, c2, rfl, _, _, hR2⟩ := h2.form
  refine (same_any A1 A2 _ _ c1 c2 r r w rfl rfl hR1 hR2).mono ?_
  rintro e w' ⟨rfl, rfl⟩
  exact ⟨ret_bool (decide_eq_true rfl), rfl⟩
set_option maxRecDepth 100000 in
set_option maxHeartbeats 4000000 in
theorem lawE_big (z : Int) (s : ByteArray) (A2 A3 A4 : Option Addr) (n2 c2 n3 c3 n4 c4 : Nat) (w : World) (hb : 2000 < s.size + n2 + n4) (hs : s.size ≤ 140737488351232) (h2 : n2 ≤ 140737488351232) (h4 : n4 ≤ 140737488351232) :
    Calls Try.prog 3 #[.int .i64 z, .string s, .slice A2 n2 c2, .slice A3 n3 c3, .slice A4 n4 c4] w fun e w' => e = .returned (.bool true) ∧ Below w.heap.size w w' := by
  go_enter Try.func3, Try.ntmps3
  go_wp2_with (go_at_call 12; refine (sanity_any w).mono ?_; rintro e w1 ⟨rfl, hb1⟩)
  go_ret
  exact ⟨rfl, hb1⟩
set_option maxRecDepth 100000 in
set_option maxHeartbeats 4000000 in
theorem lawE_many (z : Int) (s : ByteArray) (A2 A3 A4 : Option Addr) (n2 c2 c3 n4 c4 : Nat) (ss : List ByteArray) (w : World) (hb : s.size + n2 + n4 ≤ 2000) (hr : RV w A3 (sv ss)) (ht : ss.length + total (ss.map fun s => s.data.toList) ≤ 9000000000000000000) (hm : ¬ ss.length + total (ss.map fun s => s.data.toList) ≤ 2000) :
    Calls Try.prog 3 #[.int .i64 z, .string s, .slice A2 n2 c2, .slice A3 ss.length c3, .slice A4 n4 c4] w fun e w' => e = .returned (.bool true) ∧ Below w.heap.size w w' := by
  have hf := few_any A3 c3 ss.length (ss.map fun s => s.data.toList) w (by simp) (by rw [sv_tv]; exact hr) ht
  rw [decide_eq_false hm] at hf
  have HF := Lib.hid hf
  clear hf hr ht hm
  go_enter Try.func3, Try.ntmps3
  go_wp2_with fail
  refine HF.out.mono ?_
  rintro e w0 ⟨rfl, rfl⟩
  go_wp2_with (go_at_call 12; refine (sanity_any w).mono ?_; rintro e w1 ⟨rfl, hb1⟩)
  go_ret
  exact ⟨rfl, hb1⟩
set_option maxRecDepth 100000 in
set_option maxHeartbeats 4000000 in
theorem lawE_small (z : Int) (hz : I64 z) (s : ByteArray) (A2 A3 A4 : Option Addr) (c2 c3 c4 : Nat) (l : List Int) (ss : List ByteArray) (ds : List (List UInt8)) (w : World) (hl : ∀ z ∈ l, I64 z) (hd : ∀ d ∈ ds, d.length = 16) (hr2 : RV w A2 (iv l)) (hr3 : RV w A3 (sv ss)) (hr4 : RV w A4 (dv ds))
    (hb : s.size + l.length + ds.length ≤ 2000) (hm : ss.length + total (ss.map fun s => s.data.toList) ≤ 2000) :
    Calls Try.prog 3 #[.int .i64 z, .string s, .slice A2 l.length c2, .slice A3 ss.length c3, .slice A4 ds.length c4] w fun e w' => e = .returned (.bool true) ∧ Below w.heap.size w w' := by
  have hf := few_any A3 c3 ss.length (ss.map fun s => s.data.toList) w (by simp) (by rw [sv_tv]; exact hr3) (by omega)
  rw [decide_eq_true hm] at hf
  have htl := total_len (ss.map fun s => s.data.toList)
  rw [← encL_ss, List.length_map] at htl
  have HF := Lib.hid hf
  have HL := Lib.hid hl
  have HD := Lib.hid hd
  have hssl : ss.length ≤ 2000 := by omega
  have hsl : (encL encS ss).length + 10 ≤ 140737488355328 := by omega
  clear hf hl hd hm htl
  go_enter Try.func3, Try.ntmps3
  go_wp2_with fail
  refine HF.out.mono ?_
  rintro e w0 ⟨rfl, rfl⟩
  go_wp2_with fail
  refine (sanity_any w).mono ?_
  rintro e w0 ⟨rfl, k0⟩
  go_wp2_with fail
  refine (int_any z w0 hz).mono ?_
  rintro e w1 ⟨v1, rfl, ho1, hb1⟩
  have k1 := bel_on k0 hb1
  go_wp2_with fail
  refine (rint_any z w1 hz).mono ?_
  rintro e w2 ⟨v2, rfl, ho2, hb2⟩
  have k2 := bel_on k1 hb2
  go_wp2_with fail
  refine (same_own (ho1.below hb2) ho2).mono ?_
  rintro e w2' ⟨rfl, rfl⟩
  go_wp2_with fail
  refine (bytes_any s w2 (by omega)).mono ?_
  rintro e w3 ⟨v3, rfl, ho3, hb3⟩
  have k3 := bel_on k2 hb3
  go_wp2_with fail
  refine (rbytes_any s w3 (by omega)).mono ?_
  rintro e w4 ⟨v4, rfl, ho4, hb4⟩
  have k4 := bel_on k3 hb4
  go_wp2_with fail
  refine (same_own (ho3.below hb4) ho4).mono ?_
  rintro e w4' ⟨rfl, rfl⟩
  go_wp2_with fail
  refine (ints_any A2 c2 l w4 HL.out (hr2.below k4) (by omega)).mono ?_
  rintro e w5 ⟨v5, rfl, ho5, hb5⟩
  have k5 := bel_on k4 hb5
  go_wp2_with fail
  refine (rints_any A2 c2 l w5 HL.out (hr2.below k5) (by omega)).mono ?_
  rintro e w6 ⟨v6, rfl, ho6, hb6⟩
  have k6 := bel_on k5 hb6
  go_wp2_with fail
  refine (same_own (ho5.below hb6) ho6).mono ?_
  rintro e w6' ⟨rfl, rfl⟩
  go_wp2_with fail
  refine (strings_any A3 c3 ss w6 (hr3.below k6) hsl (by omega)).mono ?_
  rintro e w7 ⟨v7, rfl, ho7, hb7⟩
  have k7 := bel_on k6 hb7
  go_wp2_with fail
  refine (rstrings_any A3 c3 ss w7 (hr3.below k7) hsl (by omega)).mono ?_
  rintro e w8 ⟨v8, rfl, ho8, hb8⟩
  have k8 := bel_on k7 hb8
  go_wp2_with fail
  refine (same_own (ho7.below hb8) ho8).mono ?_
  rintro e w8' ⟨rfl, rfl⟩
  go_wp2_with fail
  refine (digests_any A4 c4 ds w8 (hr4.below k8) HD.out (by omega)).mono ?_
  rintro e w9 ⟨v9, rfl, ho9, hb9⟩
  have k9 := bel_on k8 hb9
  go_wp2_with fail
  refine (rdigests_any A4 c4 ds w9 (hr4.below k9) HD.out (by omega)).mono ?_
  rintro e w10 ⟨v10, rfl, ho10, hb10⟩
  have k10 := bel_on k9 hb10
  go_wp2_with fail
  refine (same_own (ho9.below hb10) ho10).mono ?_
  rintro e w10' ⟨rfl, rfl⟩
  go_wp2
  go_ret
  exact ⟨rfl, k10⟩
end Go.Proofs.Ytgnhkhcfelmnhaa
