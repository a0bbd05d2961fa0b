/- WireListRoundTrip answers true: its walk. -/
import Derived.Test.YtgnhkhcfelmnhaaLawE
import Derived.Test.YtgnhkhcfelmnhaaLawC
import Derived.Test.YtgnhkhcfelmnhaaFull
namespace Go.Proofs.Ytgnhkhcfelmnhaa
open Go.RowKit
theorem Own.some_ {w : World} {B : Nat} {v : Value} {l : List UInt8} (h : Own w B v l) (hl : 1 ≤ l.length) : ∃ b o c, v = .slice (some ⟨b, o, none⟩) l.length c ∧ l.length ≤ c ∧ RV w (some ⟨b, o, none⟩) (bv l) := by
  obtain ⟨A, c, rfl, hc, _, hR⟩ := h.form
  obtain ⟨b, o, rfl, _⟩ := hR (by intro h0; have h1 := congrArg List.length h0; rw [bv_len] at h1; simp only [List.length_nil] at h1; omega)
  exact ⟨b, o, c, rfl, hc, hR⟩
theorem encL_pos {α : Type} (f : α → List UInt8) (xs : List α) (h : xs.length ≤ 2000) : 1 ≤ (encL f xs).length := by
  have := (enc_shape (i64_nat (n := xs.length) (by omega))).1
  unfold encL
  rw [List.length_append]
  omega
theorem encL_le {α : Type} (f : α → List UInt8) (c : Nat) (xs : List α) (h : ∀ x ∈ xs, (f x).length ≤ c) : (encL f xs).length ≤ 10 + c * xs.length := by
  have h1 := flat_len f c xs h
  have h2 := enc_len xs.length
  unfold encL
  rw [List.length_append]
  omega
set_option maxRecDepth 100000 in
set_option maxHeartbeats 4000000 in
theorem lawX_big (s : ByteArray) (A1 A2 A3 A4 : Option Addr) (n1 c1 n2 c2 n3 c3 n4 c4 : Nat) (w : World) (hb : 2000 < s.size + n1 + n3 + n4) (hs : s.size ≤ 140737488351232) (h1 : n1 ≤ 140737488351232) (h3 : n3 ≤ 140737488351232) (h4 : n4 ≤ 140737488351232) :
    Calls Try.prog 8 #[.string s, .slice A1 n1 c1, .slice A2 n2 c2, .slice A3 n3 c3, .slice A4 n4 c4] w fun e w' => e = .returned (.bool true) ∧ Below w.heap.size w w' := by
  go_enter Try.func8, Try.ntmps8
  go_wp2_with (go_at_call 12; refine (sanity_any w).mono ?_; rintro e w1 ⟨rfl, hb1⟩)
  go_ret
  exact ⟨rfl, hb1⟩
set_option maxRecDepth 100000 in
set_option maxHeartbeats 4000000 in
theorem lawX_many (s : ByteArray) (A1 A2 A3 A4 : Option Addr) (n1 c1 c2 n3 c3 n4 c4 : Nat) (ss : List ByteArray) (w : World) (hb : s.size + n1 + n3 + n4 ≤ 2000) (hr : RV w A2 (sv ss)) (ht : ss.length + total (ss.map fun s => s.data.toList) ≤ 9000000000000000000) (hm : ¬ ss.length + total (ss.map fun s => s.data.toList) ≤ 2000) :
    Calls Try.prog 8 #[.string s, .slice A1 n1 c1, .slice A2 ss.length c2, .slice A3 n3 c3, .slice A4 n4 c4] w fun e w' => e = .returned (.bool true) ∧ Below w.heap.size w w' := by
  have hf := few_any A2 c2 ss.length (ss.map fun s => s.data.toList) w (by simp) (by rw [sv_tv]; exact hr) ht
  rw [decide_eq_false hm] at hf
  have HF := Lib.hid hf
  clear hf hr ht hm
  go_enter Try.func8, Try.ntmps8
  go_wp2_with fail
  refine HF.out.mono ?_
  rintro e w0 ⟨rfl, rfl⟩
  go_wp2_with (go_at_call 12; refine (sanity_any w).mono ?_; rintro e w1 ⟨rfl, hb1⟩)
  go_ret
  exact ⟨rfl, hb1⟩
set_option maxRecDepth 100000 in
set_option maxHeartbeats 8000000 in
theorem lawX_small (s : ByteArray) (A1 A2 A3 A4 : Option Addr) (c1 c2 c3 c4 : Nat) (l : List Int) (ss : List ByteArray) (ds : List (List UInt8)) (t : List UInt8) (w : World) (hl : ∀ z ∈ l, I64 z) (hd : ∀ d ∈ ds, d.length = 16) (hr1 : RV w A1 (iv l)) (hr2 : RV w A2 (sv ss)) (hr3 : RV w A3 (dv ds)) (hr4 : RV w A4 (bv t))
    (hb : s.size + l.length + ds.length + t.length ≤ 2000) (hm : ss.length + total (ss.map fun s => s.data.toList) ≤ 2000) :
    Calls Try.prog 8 #[.string s, .slice A1 l.length c1, .slice A2 ss.length c2, .slice A3 ds.length c3, .slice A4 t.length c4] w fun e w' => e = .returned (.bool true) ∧ Below w.heap.size w w' := by
  have hf := few_any A2 c2 ss.length (ss.map fun s => s.data.toList) w (by simp) (by rw [sv_tv]; exact hr2) (by omega)
  rw [decide_eq_true hm] at hf
  have htl := total_len (ss.map fun s => s.data.toList)
  rw [← encL_ss, List.length_map] at htl
  have HF := Lib.hid hf
  have HL := Lib.hid hl
  have HD := Lib.hid hd
  have hssl : ss.length ≤ 2000 := by omega
  have hsl : (encL encS ss).length + 10 ≤ 100000 := by omega
  have hel := encS_len s
  have hsz := size_toList s
  have hp1 := encB_pos s.data.toList (by omega)
  rw [← encS_encB] at hp1
  have hp2 := encL_pos enc l (by omega)
  have hp3 := encL_pos id ds (by omega)
  have hp4 := encL_pos encS ss (by omega)
  have hq2 := encL_le enc 10 l (fun z _ => enc_len z)
  have hq3 := encL_le id 16 ds (fun d h => Nat.le_of_eq (hd d h))
  have HB : Hid (getB (encS s ++ t) = (s.data.toList, (encS s).length, 0)) := by
    refine Lib.hid ?_
    rw [encS_encB]
    exact getB_enc s.data.toList t (by omega)
  have HI : Hid (getS getI 1 (encL enc l ++ t) = (l, (encL enc l).length, 0)) := Lib.hid (getInts_enc l t (by omega) hl)
  have HG : Hid (getS getD16 16 (encL id ds ++ t) = (ds, (encL id ds).length, 0)) := Lib.hid (getDigests_enc ds t (by omega) hd)
  have HT : Hid (getS getB 1 (encL encS ss ++ t) = (ss.map (fun s => s.data.toList), (encL encS ss).length, 0)) := by
    refine Lib.hid ?_
    rw [encL_ss]
    refine getTexts_enc _ t (by rw [List.length_map]; omega) (fun x hx => ?_)
    have h1 : x.length ≤ total (ss.map fun s => s.data.toList) := by
      clear hf hsl htl HF hssl hp4 hm hr2
      generalize ss.map (fun s => s.data.toList) = ts at *
      induction ts with
      | nil => cases hx
      | cons y r ih =>
        have e : total (y :: r) = y.length + total r := rfl
        rcases List.mem_cons.1 hx with h | h
        · rw [h, e]; omega
        · have := ih h; omega
    omega
  have HSV : Hid (sv ss = tv (ss.map fun s => s.data.toList)) := Lib.hid (sv_tv ss).symm
  have hml : (ss.map fun s => s.data.toList).length = ss.length := by simp
  have HML := Lib.hid hml
  clear hf hl hd hm htl hml
  go_enter Try.func8, Try.ntmps8
  go_wp2_with fail
  refine HF.out.mono ?_
  rintro e w0 ⟨rfl, rfl⟩
  go_wp2_with fail
  refine (bytes_any s w (by omega)).mono ?_
  rintro e w1 ⟨v1, rfl, ho1, hb1⟩
  change Own w1 w.heap.size v1 (encS s) at ho1
  go_wp2_with fail
  refine (ints_any A1 c1 l w1 HL.out (hr1.below hb1) (by omega)).mono ?_
  rintro e w2 ⟨v2, rfl, ho2, hb2⟩
  have k2 := bel_on hb1 hb2
  go_wp2_with fail
  refine (digests_any A3 c3 ds w2 (hr3.below k2) HD.out (by omega)).mono ?_
  rintro e w3 ⟨v3, rfl, ho3, hb3⟩
  have k3 := bel_on k2 hb3
  go_wp2_with fail
  refine (strings_any A2 c2 ss w3 (hr2.below k3) (by omega) (by omega)).mono ?_
  rintro e w4 ⟨v4, rfl, ho4, hb4⟩
  have k4 := bel_on k3 hb4
  obtain ⟨b1, o1, m1, rfl, hm1, hR1⟩ := (((ho1.below hb2).below hb3).below hb4).some_ hp1
  obtain ⟨b2, o2, m2, rfl, hm2, hR2⟩ := ((ho2.below hb3).below hb4).some_ hp2
  obtain ⟨b3, o3, m3, rfl, hm3, hR3⟩ := (ho3.below hb4).some_ hp3
  obtain ⟨b4, o4, m4, rfl, hm4, hR4⟩ := ho4.some_ hp4
  have ht4 := hr4.below k4
  go_wp2_with (at_builtin; go_loud (refine arm_full (by rfl) _ _ (by rfl) (some ⟨b1, o1, none⟩) (encS s).length (encS s) rfl (by rfl) hR1 A4 t.length c4 t rfl (by rfl) ht4 (by omega) ?_); intro A5 c5 w5 hc5 hR5 hb5)
  have k5 := bel_on k4 hb5
  refine (getBytes_at A5 _ c5 (encS s ++ t) w5 (by simp) hc5 hR5 (by omega)).mono ?_
  rintro e w5' ⟨rfl, rfl⟩
  rw [HB.out]
  unfold btri
  have hR2b := hR2.below hb5
  have ht5 := ht4.below hb5
  go_wp2_with (at_builtin; go_loud (refine arm_full (by rfl) _ _ (by rfl) (some ⟨b2, o2, none⟩) (encL enc l).length (encL enc l) rfl (by rfl) hR2b A4 t.length c4 t rfl (by rfl) ht5 (by omega) ?_); intro A6 c6 w6 hc6 hR6 hb6)
  have k6 := bel_on k5 hb6
  have hGI := getInts_any A6 c6 (encL enc l ++ t) w6 (by rw [List.length_append]; exact hc6) hR6 (by rw [List.length_append]; omega)
  rw [HI.out, List.length_append] at hGI
  refine hGI.mono ?_
  rintro e w7 ⟨v7, rfl, ho7, hb7⟩
  clear hGI
  have k7 := bel_on k6 hb7
  have hR3b := ((hR3.below hb5).below hb6).below hb7
  have ht7 := (ht5.below hb6).below hb7
  go_wp2_with (at_builtin; go_loud (refine arm_full (by rfl) _ _ (by rfl) (some ⟨b3, o3, none⟩) (encL id ds).length (encL id ds) rfl (by rfl) hR3b A4 t.length c4 t rfl (by rfl) ht7 (by omega) ?_); intro A8 c8 w8 hc8 hR8 hb8)
  have k8 := bel_on k7 hb8
  have hGD := getDigests_any A8 c8 (encL id ds ++ t) w8 (by rw [List.length_append]; exact hc8) hR8 (by rw [List.length_append]; omega)
  rw [HG.out, List.length_append] at hGD
  refine hGD.mono ?_
  rintro e w9 ⟨v9, rfl, ho9, hb9⟩
  clear hGD
  have k9 := bel_on k8 hb9
  have hR4b := ((((hR4.below hb5).below hb6).below hb7).below hb8).below hb9
  have ht9 := (ht7.below hb8).below hb9
  go_wp2_with (at_builtin; go_loud (refine arm_full (by rfl) _ _ (by rfl) (some ⟨b4, o4, none⟩) (encL encS ss).length (encL encS ss) rfl (by rfl) hR4b A4 t.length c4 t rfl (by rfl) ht9 (by omega) ?_); intro A10 c10 w10 hc10 hR10 hb10)
  have k10 := bel_on k9 hb10
  have hGT := getStrings_any A10 c10 (encL encS ss ++ t) w10 (by rw [List.length_append]; exact hc10) hR10 (by rw [List.length_append]; omega)
  rw [HT.out, List.length_append] at hGT
  refine hGT.mono ?_
  rintro e w11 ⟨v11, rfl, ho11, hb11⟩
  clear hGT
  have k11 := bel_on k10 hb11
  go_wp2_with fail
  refine (sanity_any w11).mono ?_
  rintro e w12 ⟨rfl, hb12⟩
  have k12 := bel_on k11 hb12
  obtain ⟨B11, j11, rfl, _, _, hS11⟩ := row_form ho11
  have hS11' := hS11.below hb12
  have hx12 := hr2.below k12
  rw [HSV.out] at hx12
  rw [HML.out]
  go_wp2_with fail
  refine (sameTexts_any _ _ _ _ _ _ (ss.map fun s => s.data.toList) (ss.map fun s => s.data.toList) w12 HML.out HML.out hS11' hx12 (by omega) (by omega)).mono ?_
  rintro e w13 ⟨rfl, hb13⟩
  rw [decide_eq_true rfl]
  have k13 := bel_on k12 hb13
  obtain ⟨B7, j7, rfl, _, _, hS7⟩ := row_form ho7
  have hS7' := (((((hS7.below hb8).below hb9).below hb10).below hb11).below hb12).below hb13
  go_wp2_with fail
  refine (sameInts_any _ _ _ _ _ _ l l w13 rfl rfl hS7' (hr1.below k13) (by omega) (by omega)).mono ?_
  rintro e w14 ⟨rfl, hb14⟩
  rw [decide_eq_true rfl]
  have k14 := bel_on k13 hb14
  obtain ⟨B9, j9, rfl, _, _, hS9⟩ := row_form ho9
  have hS9' := ((((hS9.below hb10).below hb11).below hb12).below hb13).below hb14
  go_wp2_with fail
  refine (sameDigests_any _ _ _ _ _ _ ds ds w14 rfl rfl hS9' (hr3.below k14) HD.out HD.out (by omega) (by omega)).mono ?_
  rintro e w15 ⟨rfl, hb15⟩
  rw [decide_eq_true rfl]
  go_wp2
  go_ret
  exact ⟨rfl, bel_on k14 hb15⟩
end Go.Proofs.Ytgnhkhcfelmnhaa
