/- WireLengths answers true: its walk, part 1. -/
import Derived.Test.YtgnhkhcfelmnhaaLawL
namespace Go.Proofs.Ytgnhkhcfelmnhaa
open Go.RowKit
set_option maxRecDepth 100000 in
set_option maxHeartbeats 8000000 in
theorem lawL_same_p (m : Int) (hm : I64 m) (w : World) (hsm : -1 - m ≤ m) :
    Calls Try.prog 5 #[.int .i64 m, .int .i64 m] w fun e w' => e = .returned (.bool true) ∧ Below w.heap.size w w' := by
  have hK : mag m = m := by unfold mag; split <;> omega
  have hm1 := (enc_shape hm).1
  have hm2 := enc_len m
  have h0 := len_ne0 hm1
  have h1 := len_one hK
  have hnot := enc_not m
  have hmn := not_i64 hm
  have hwr := wrap_not hm
  have hI : -9223372036854775808 ≤ m ∧ m ≤ 9223372036854775807 := by unfold I64 at hm; omega
  have hxl : ((enc m).take (enc m).length).length = (enc m).length := take_len (by omega)
  have HXL := Lib.hid hxl
  clear hxl hK
  go_enter Try.func5, Try.ntmps5
  go_wp2_with fail
  refine (int_any m w hm).mono ?_
  rintro e w1 ⟨v1, rfl, ho1, hb1⟩
  go_wp2_with fail
  refine (int_any m w1 hm).mono ?_
  rintro e w2 ⟨v2, rfl, ho2, hb2⟩
  have k2 : Below w.heap.size w w2 := hb1.trans (hb2.mono hb1.size)
  obtain ⟨A1, c1, rfl, hc1, _, hR1⟩ := (ho1.below hb2).form
  obtain ⟨A2, c2, rfl, hc2, _, hR2⟩ := ho2.form
  clear ho1 ho2
  have hR1 := (hR1.fst (enc m).length).below (w' := w2.drew) (below_drewN _ 1)
  have hR2 := (hR2.fst (enc m).length).below (w' := w2.drew) (below_drewN _ 1)
  generalize (enc m).take (enc m).length = xs at *
  generalize (enc m).length = la at *
  have hq1 := conv_at hR1 HXL.out c1
  have hq2 := conv_at hR2 HXL.out c2
  obtain ⟨X, hX⟩ : ∃ X : ByteArray, X = ⟨xs.toArray⟩ := ⟨_, rfl⟩
  rw [← hX] at hq1 hq2
  have HX := Lib.hid hX
  clear hX
  go_wp2_with fail
  go_region_held3 (fun W => (convert 28 9 (.slice A1 la c1)).run Try.prog W = .ok (.string X) W ∧ (convert 28 9 (.slice A2 la c2)).run Try.prog W = .ok (.string X) W) (exact ⟨hq1, hq2⟩) (first | (go_at_call 12; go_loud (refine (sanity_any w2.drew).mono ?_; rintro e w3 ⟨rfl, hb3⟩; replace hq1 := conv_at (hR1.below hb3) HXL.out c1; replace hq2 := conv_at (hR2.below hb3) HXL.out c2; rw [← HX.out] at hq1; rw [← HX.out] at hq2)) | (go_at_call 14; go_loud (refine (int_any (-1 - m) w3 hmn).mono ?_; rintro e w4 ⟨v4, rfl, ho4, hb4⟩; obtain ⟨A4, c4, rfl, hc4, _, hR4⟩ := ho4.form; rw [hnot]; replace hq1 := conv_at ((hR1.below hb3).below hb4) HXL.out c1; replace hq2 := conv_at ((hR2.below hb3).below hb4) HXL.out c2; rw [← HX.out] at hq1; rw [← HX.out] at hq2)))
  go_wp2_with fail
  go_ret
  exact ⟨rfl, bel_on (bel_on (bel_on k2 (below_drewN _ 1)) hb3) hb4⟩
set_option maxRecDepth 100000 in
set_option maxHeartbeats 8000000 in
theorem lawL_lt_pn (m n : Int) (hm : I64 m) (hn : I64 n) (w : World) (hsm : -1 - m ≤ m) (hsn : n < -1 - n) (ho : m < (-1 - n)) :
    Calls Try.prog 5 #[.int .i64 m, .int .i64 n] w fun e w' => e = .returned (.bool true) ∧ Below w.heap.size w w' := by
  have hK : mag m = m := by unfold mag; split <;> omega
  have hL : mag n = (-1 - n) := by unfold mag; split <;> omega
  have hm1 := (enc_shape hm).1
  have hm2 := enc_len m
  have h0 := len_ne0 hm1
  have h1 := len_one hK
  have hnot := enc_not m
  have hmn := not_i64 hm
  have hwr := wrap_not hm
  have hI : -9223372036854775808 ≤ m ∧ m ≤ 9223372036854775807 := by unfold I64 at hm; omega
  have hn1 := (enc_shape hn).1
  have hn2 := enc_len n
  have h0n := len_ne0 hn1
  have hwn := wrap_not hn
  have hJ : -9223372036854775808 ≤ n ∧ n ≤ 9223372036854775807 := by unfold I64 at hn; omega
  have hle := enc_mono (m := m) (n := n) (by omega)
  have hmq : min (enc m).length (enc n).length = (enc m).length := Nat.min_eq_left hle
  have hne : m ≠ n := by rintro rfl; omega
  have hXY : (enc m).take (enc m).length ≠ (enc n).take (enc m).length := fun h => hne ((enc_least hm hn).1 (by rw [hmq]; exact h))
  have hxl : ((enc m).take (enc m).length).length = (enc m).length := take_len (by omega)
  have hyl : ((enc n).take (enc m).length).length = (enc m).length := take_len (by omega)
  have hbe : (m == n) = false := by simpa using hne
  have HXL := Lib.hid hxl
  clear hxl hK
  have HYL := Lib.hid hyl
  have HNE := Lib.hid hXY
  clear hyl hL hXY hmq
  go_enter Try.func5, Try.ntmps5
  go_wp2_with fail
  refine (int_any m w hm).mono ?_
  rintro e w1 ⟨v1, rfl, ho1, hb1⟩
  go_wp2_with fail
  refine (int_any n w1 hn).mono ?_
  rintro e w2 ⟨v2, rfl, ho2, hb2⟩
  have k2 : Below w.heap.size w w2 := hb1.trans (hb2.mono hb1.size)
  obtain ⟨A1, c1, rfl, hc1, _, hR1⟩ := (ho1.below hb2).form
  obtain ⟨A2, c2, rfl, hc2, _, hR2⟩ := ho2.form
  clear ho1 ho2
  have hR1 := (hR1.fst (enc m).length).below (w' := w2.drew) (below_drewN _ 1)
  have hR2 := (hR2.fst (enc m).length).below (w' := w2.drew) (below_drewN _ 1)
  generalize (enc m).take (enc m).length = xs at *
  generalize (enc n).take (enc m).length = ys at *
  generalize (enc n).length = lb at *
  generalize (enc m).length = la at *
  have hcc : la ≤ c2 := by omega
  have hq1 := conv_at hR1 HXL.out c1
  have hq2 := conv_at hR2 HYL.out c2
  have hX : ∃ X : ByteArray, X = ⟨xs.toArray⟩ := ⟨_, rfl⟩
  obtain ⟨X, hX⟩ := hX
  have hY : ∃ Y : ByteArray, Y = ⟨ys.toArray⟩ := ⟨_, rfl⟩
  obtain ⟨Y, hY⟩ := hY
  have hne3 : (X.toList == Y.toList) = false := by rw [hX, hY, ByteArray.toList_mk, ByteArray.toList_mk]; have := HNE.out; simpa using this
  rw [← hX] at hq1
  rw [← hY] at hq2
  have HX := Lib.hid hX
  have HY := Lib.hid hY
  clear hX hY
  go_wp2_with fail
  go_region_held3 (fun W => (convert 28 9 (.slice A1 la c1)).run Try.prog W = .ok (.string X) W ∧ (convert 28 9 (.slice A2 la c2)).run Try.prog W = .ok (.string Y) W) (exact ⟨hq1, hq2⟩) (first | (go_at_call 12; go_loud (refine (sanity_any w2.drew).mono ?_; rintro e w3 ⟨rfl, hb3⟩; replace hq1 := conv_at (hR1.below hb3) HXL.out c1; replace hq2 := conv_at (hR2.below hb3) HYL.out c2; rw [← HX.out] at hq1; rw [← HY.out] at hq2)) | (go_at_call 14; go_loud (refine (int_any (-1 - m) w3 hmn).mono ?_; rintro e w4 ⟨v4, rfl, ho4, hb4⟩; obtain ⟨A4, c4, rfl, hc4, _, hR4⟩ := ho4.form; rw [hnot]; replace hq1 := conv_at ((hR1.below hb3).below hb4) HXL.out c1; replace hq2 := conv_at ((hR2.below hb3).below hb4) HYL.out c2; rw [← HX.out] at hq1; rw [← HY.out] at hq2)))
  go_wp2_with fail
  go_ret
  exact ⟨rfl, bel_on (bel_on (bel_on k2 (below_drewN _ 1)) hb3) hb4⟩
set_option maxRecDepth 100000 in
set_option maxHeartbeats 8000000 in
theorem lawL_same_n (m : Int) (hm : I64 m) (w : World) (hsm : m < -1 - m) :
    Calls Try.prog 5 #[.int .i64 m, .int .i64 m] w fun e w' => e = .returned (.bool true) ∧ Below w.heap.size w w' := by
  have hK : mag m = (-1 - m) := by unfold mag; split <;> omega
  have hm1 := (enc_shape hm).1
  have hm2 := enc_len m
  have h0 := len_ne0 hm1
  have h1 := len_one hK
  have hnot := enc_not m
  have hmn := not_i64 hm
  have hwr := wrap_not hm
  have hI : -9223372036854775808 ≤ m ∧ m ≤ 9223372036854775807 := by unfold I64 at hm; omega
  have hxl : ((enc m).take (enc m).length).length = (enc m).length := take_len (by omega)
  have HXL := Lib.hid hxl
  clear hxl hK
  go_enter Try.func5, Try.ntmps5
  go_wp2_with fail
  refine (int_any m w hm).mono ?_
  rintro e w1 ⟨v1, rfl, ho1, hb1⟩
  go_wp2_with fail
  refine (int_any m w1 hm).mono ?_
  rintro e w2 ⟨v2, rfl, ho2, hb2⟩
  have k2 : Below w.heap.size w w2 := hb1.trans (hb2.mono hb1.size)
  obtain ⟨A1, c1, rfl, hc1, _, hR1⟩ := (ho1.below hb2).form
  obtain ⟨A2, c2, rfl, hc2, _, hR2⟩ := ho2.form
  clear ho1 ho2
  have hR1 := (hR1.fst (enc m).length).below (w' := w2.drew) (below_drewN _ 1)
  have hR2 := (hR2.fst (enc m).length).below (w' := w2.drew) (below_drewN _ 1)
  generalize (enc m).take (enc m).length = xs at *
  generalize (enc m).length = la at *
  have hq1 := conv_at hR1 HXL.out c1
  have hq2 := conv_at hR2 HXL.out c2
  obtain ⟨X, hX⟩ : ∃ X : ByteArray, X = ⟨xs.toArray⟩ := ⟨_, rfl⟩
  rw [← hX] at hq1 hq2
  have HX := Lib.hid hX
  clear hX
  go_wp2_with fail
  go_region_held3 (fun W => (convert 28 9 (.slice A1 la c1)).run Try.prog W = .ok (.string X) W ∧ (convert 28 9 (.slice A2 la c2)).run Try.prog W = .ok (.string X) W) (exact ⟨hq1, hq2⟩) (first | (go_at_call 12; go_loud (refine (sanity_any w2.drew).mono ?_; rintro e w3 ⟨rfl, hb3⟩; replace hq1 := conv_at (hR1.below hb3) HXL.out c1; replace hq2 := conv_at (hR2.below hb3) HXL.out c2; rw [← HX.out] at hq1; rw [← HX.out] at hq2)) | (go_at_call 14; go_loud (refine (int_any (-1 - m) w3 hmn).mono ?_; rintro e w4 ⟨v4, rfl, ho4, hb4⟩; obtain ⟨A4, c4, rfl, hc4, _, hR4⟩ := ho4.form; rw [hnot]; replace hq1 := conv_at ((hR1.below hb3).below hb4) HXL.out c1; replace hq2 := conv_at ((hR2.below hb3).below hb4) HXL.out c2; rw [← HX.out] at hq1; rw [← HX.out] at hq2)))
  go_wp2_with fail
  go_ret
  exact ⟨rfl, bel_on (bel_on (bel_on k2 (below_drewN _ 1)) hb3) hb4⟩
set_option maxRecDepth 100000 in
set_option maxHeartbeats 8000000 in
theorem lawL_eq_np (m n : Int) (hm : I64 m) (hn : I64 n) (w : World) (hsm : m < -1 - m) (hsn : -1 - n ≤ n) (ho1 : (-1 - m) ≤ n) (ho2 : n ≤ (-1 - m)) (hne : m ≠ n) :
    Calls Try.prog 5 #[.int .i64 m, .int .i64 n] w fun e w' => e = .returned (.bool true) ∧ Below w.heap.size w w' := by
  have hK : mag m = (-1 - m) := by unfold mag; split <;> omega
  have hL : mag n = n := by unfold mag; split <;> omega
  have hm1 := (enc_shape hm).1
  have hm2 := enc_len m
  have h0 := len_ne0 hm1
  have h1 := len_one hK
  have hnot := enc_not m
  have hmn := not_i64 hm
  have hwr := wrap_not hm
  have hI : -9223372036854775808 ≤ m ∧ m ≤ 9223372036854775807 := by unfold I64 at hm; omega
  have hn1 := (enc_shape hn).1
  have hn2 := enc_len n
  have h0n := len_ne0 hn1
  have hwn := wrap_not hn
  have hJ : -9223372036854775808 ≤ n ∧ n ≤ 9223372036854775807 := by unfold I64 at hn; omega
  have hle := enc_mono (m := m) (n := n) (by omega)
  have hle2 := enc_mono (m := n) (n := m) (by omega)
  have hmq : min (enc m).length (enc n).length = (enc m).length := Nat.min_eq_left hle
  have hXY : (enc m).take (enc m).length ≠ (enc n).take (enc m).length := fun h => hne ((enc_least hm hn).1 (by rw [hmq]; exact h))
  have hxl : ((enc m).take (enc m).length).length = (enc m).length := take_len (by omega)
  have hyl : ((enc n).take (enc m).length).length = (enc m).length := take_len (by omega)
  have hbe : (m == n) = false := by simpa using hne
  have HXL := Lib.hid hxl
  clear hxl hK
  have HYL := Lib.hid hyl
  have HNE := Lib.hid hXY
  clear hyl hL hXY hmq
  go_enter Try.func5, Try.ntmps5
  go_wp2_with fail
  refine (int_any m w hm).mono ?_
  rintro e w1 ⟨v1, rfl, ho1, hb1⟩
  go_wp2_with fail
  refine (int_any n w1 hn).mono ?_
  rintro e w2 ⟨v2, rfl, ho2, hb2⟩
  have k2 : Below w.heap.size w w2 := hb1.trans (hb2.mono hb1.size)
  obtain ⟨A1, c1, rfl, hc1, _, hR1⟩ := (ho1.below hb2).form
  obtain ⟨A2, c2, rfl, hc2, _, hR2⟩ := ho2.form
  clear ho1 ho2
  have hR1 := (hR1.fst (enc m).length).below (w' := w2.drew) (below_drewN _ 1)
  have hR2 := (hR2.fst (enc m).length).below (w' := w2.drew) (below_drewN _ 1)
  generalize (enc m).take (enc m).length = xs at *
  generalize (enc n).take (enc m).length = ys at *
  generalize (enc n).length = lb at *
  generalize (enc m).length = la at *
  have hcc : la ≤ c2 := by omega
  have hq1 := conv_at hR1 HXL.out c1
  have hq2 := conv_at hR2 HYL.out c2
  have hX : ∃ X : ByteArray, X = ⟨xs.toArray⟩ := ⟨_, rfl⟩
  obtain ⟨X, hX⟩ := hX
  have hY : ∃ Y : ByteArray, Y = ⟨ys.toArray⟩ := ⟨_, rfl⟩
  obtain ⟨Y, hY⟩ := hY
  have hne3 : (X.toList == Y.toList) = false := by rw [hX, hY, ByteArray.toList_mk, ByteArray.toList_mk]; have := HNE.out; simpa using this
  rw [← hX] at hq1
  rw [← hY] at hq2
  have HX := Lib.hid hX
  have HY := Lib.hid hY
  clear hX hY
  go_wp2_with fail
  go_region_held3 (fun W => (convert 28 9 (.slice A1 la c1)).run Try.prog W = .ok (.string X) W ∧ (convert 28 9 (.slice A2 la c2)).run Try.prog W = .ok (.string Y) W) (exact ⟨hq1, hq2⟩) (first | (go_at_call 12; go_loud (refine (sanity_any w2.drew).mono ?_; rintro e w3 ⟨rfl, hb3⟩; replace hq1 := conv_at (hR1.below hb3) HXL.out c1; replace hq2 := conv_at (hR2.below hb3) HYL.out c2; rw [← HX.out] at hq1; rw [← HY.out] at hq2)) | (go_at_call 14; go_loud (refine (int_any (-1 - m) w3 hmn).mono ?_; rintro e w4 ⟨v4, rfl, ho4, hb4⟩; obtain ⟨A4, c4, rfl, hc4, _, hR4⟩ := ho4.form; rw [hnot]; replace hq1 := conv_at ((hR1.below hb3).below hb4) HXL.out c1; replace hq2 := conv_at ((hR2.below hb3).below hb4) HYL.out c2; rw [← HX.out] at hq1; rw [← HY.out] at hq2)))
  go_wp2_with fail
  go_ret
  exact ⟨rfl, bel_on (bel_on (bel_on k2 (below_drewN _ 1)) hb3) hb4⟩
end Go.Proofs.Ytgnhkhcfelmnhaa
