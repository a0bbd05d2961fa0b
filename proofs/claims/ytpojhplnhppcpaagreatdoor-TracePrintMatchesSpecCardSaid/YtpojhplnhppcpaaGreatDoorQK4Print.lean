/-
  What alumref05's words and Line do.
-/
import Derived.Test.YtpojhplnhppcpaaGreatDoorQK3Print
import Derived.Test.YtpojhplnhppcpaaGreatDoorQN11
namespace Go.Proofs.YtpojhplnhppcpaaGreatDoor
open Go.RowKit Go.Maps
def spT (z : Int) : List UInt8 := 32 :: Lib.itoa z
theorem sp_len : ∀ (l : List Int), (∀ z ∈ l, I64 z) → (l.flatMap spT).length ≤ 21 * l.length
  | [], _ => by simp
  | z :: r, h => by
    have hz := h z (by simp)
    unfold I64 at hz
    have h1 := itoa_len20 hz.1 hz.2
    have h2 := sp_len r fun y hy => h y (by simp [hy])
    rw [List.flatMap_cons, List.length_append, List.length_cons]
    unfold spT at h2 ⊢
    rw [List.length_cons]
    omega
set_option maxRecDepth 100000 in
set_option maxHeartbeats 4000000 in
set_option linter.unusedSimpArgs false in
theorem dwords_any (ws : List Int) (w : World) (h8 : ws.length = 8) (hI : ∀ z ∈ ws, I64 z) :
    Calls Tryz.prog 124 #[.agg (iv ws).toArray] w fun e w' => e = .returned (strV (ws.flatMap spT)) ∧ Below w.heap.size w w' := by
  have hb := bel_new w (.cells (iv ws).toArray 66)
  have HB0 := Lib.hid hb
  have HA0 := Lib.hid (Arr.new w (iv ws) 66)
  have HI := Lib.hid hI
  have H8 := Lib.hid h8
  obtain ⟨R, hR⟩ : ∃ R, ws.flatMap spT = R := ⟨_, rfl⟩
  have HR := Lib.hid hR
  rw [hR]
  obtain ⟨OV, hOV⟩ : ∃ OV, iv ws = OV := ⟨_, rfl⟩
  have HOV := Lib.hid hOV
  rw [hOV] at HB0 HA0 ⊢
  obtain ⟨W0, hW0⟩ : ∃ W0, w.alloc (.cells OV.toArray 66) = W0 := ⟨_, rfl⟩
  change Hid (Arr (w.alloc (.cells OV.toArray 66)) w.heap.size 66 OV) at HA0
  rw [hW0] at HB0 HA0
  have HW0 := Lib.hid hW0
  clear hb hI h8 hR hOV hW0
  unfold strV
  go_enter Tryz.func124, Tryz.ntmps124
  go_wp2_with fail
  rw [HW0.out]
  go_loopw [3, 4] (fun o i wr => ∃ k : Nat, o = .string ⟨((ws.take k).flatMap spT).toArray⟩ ∧ i = .int .i64 (k : Int) ∧ k ≤ 8 ∧ Hid (Arr wr w.heap.size 66 OV) ∧ Hid (Below w.heap.size w wr)) (fun _ i _ => 8 - (intOf i).toNat)
  case atStart => exact ⟨0, rfl, rfl, by omega, HA0, HB0⟩
  case round =>
    clear HA0 HB0
    obtain ⟨k, rfl, rfl, hk, HA, HB⟩ := hrel
    by_cases hlt : k < 8
    · have hkl : k < ws.length := by rw [H8.out]; exact hlt
      have hkI : (k : Int) < 8 := by omega
      have hk0 : ¬ (k : Int) < 0 := by omega
      have hz := HI.out _ (List.getElem_mem hkl)
      have c0 := HA.out.cell (j := k) (u := .int .i64 ws[k]) (by
        rw [← HOV.out]
        unfold iv
        rw [List.getElem?_map, List.getElem?_eq_getElem hkl]
        rfl)
      have hl := sp_len (ws.take k) fun z hz => HI.out z (List.mem_of_mem_take hz)
      rw [List.length_take] at hl
      have hst : (ws.take (k + 1)).flatMap spT = ((ws.take k).flatMap spT ++ [32]) ++ Lib.itoa ws[k] := by
        rw [List.take_succ_eq_append_getElem hkl, List.flatMap_append]
        simp [spT]
      have HST := Lib.hid hst
      have HD := Lib.hid fun w' => dec_any ws[k] w' hz
      unfold I64 at hz
      have hl2 := itoa_len20 hz.1 hz.2
      generalize ws[k] = z at *
      obtain ⟨D, hD⟩ : ∃ D, Lib.itoa z = D := ⟨_, rfl⟩
      obtain ⟨O, hO⟩ : ∃ O, (ws.take k).flatMap spT = O := ⟨_, rfl⟩
      rw [hD] at HD HST hl2
      rw [hO] at HST hl ⊢
      obtain ⟨S1, hS1⟩ : ∃ S1, O ++ [32] = S1 := ⟨_, rfl⟩
      obtain ⟨S2, hS2⟩ : ∃ S2, S1 ++ D = S2 := ⟨_, rfl⟩
      have hl3 : S1.length = O.length + 1 := by rw [← hS1]; simp
      have hcat1 : ∀ w, (Op.stringOp .add ⟨O.toArray⟩ ⟨#[32]⟩).run Tryz.prog w = .ok (.string ⟨S1.toArray⟩) w := fun w => by
        rw [← hS1]
        exact cat_run O [32] w (by simp only [List.length_cons, List.length_nil]; omega)
      have hcat2 : ∀ w, (Op.stringOp .add ⟨S1.toArray⟩ ⟨D.toArray⟩).run Tryz.prog w = .ok (.string ⟨S2.toArray⟩) w := fun w => by
        rw [← hS2]
        exact cat_run S1 D w (by omega)
      rw [hS1, hS2] at HST
      clear hst hl hl2 hl3 hz hD hO hS1 hS2
      unfold strV at HD
      go_wp2_with fail
      refine (HD.out _).mono ?_
      rintro e w2 ⟨rfl, hb⟩
      have HB2 := Lib.hid (bel_on HB.out hb)
      have HA2 := Lib.hid (HA.out.keep hb)
      clear hb HD c0
      go_wp2_with fail
      go_roundw
      case rel => exact ⟨k + 1, by rw [HST.out], by simp, by omega, HA2, HB2⟩
      case measure => simp [intOf]; omega
    · obtain rfl : k = 8 := by omega
      have hkI : ¬ ((8 : Nat) : Int) < 8 := by omega
      have hf : (ws.take 8).flatMap spT = R := by rw [List.take_of_length_le (by rw [H8.out]; exact Nat.le_refl _)]; exact HR.out
      rw [hf]
      go_wp2_with fail
      go_ret
      exact ⟨rfl, HB.out⟩
set_option maxRecDepth 100000 in
set_option maxHeartbeats 16000000 in
set_option linter.unusedSimpArgs false in
theorem dline_any (x : List Int) (w : World) (hx : x.length = 12) (hxI : ∀ z ∈ x, I64 z) :
    Calls Tryz.prog 88 #[.agg (iv x).toArray] w fun e w' => e = .returned (strV (lineT x)) ∧ Below w.heap.size w w' := by
  obtain ⟨k, a, v, s, a0, a1, a2, a3, a4, a5, a6, a7, hxe⟩ := line12 hx
  have hkI : I64 k := hxI k (by rw [hxe]; simp)
  have ha : I64 a := hxI a (by rw [hxe]; simp)
  have hv : I64 v := hxI v (by rw [hxe]; simp)
  have hs : I64 s := hxI s (by rw [hxe]; simp)
  have hw8 : ∀ z ∈ [a0, a1, a2, a3, a4, a5, a6, a7], I64 z := fun z hz => hxI z (by rw [hxe]; exact List.mem_append_right [k, a, v, s] hz)
  have HBX := Lib.hid (bel_new w (.cells (iv x).toArray 68))
  have HA := Lib.hid (Arr.new w (iv x) 68)
  have HE1 : Hid (∀ W : World, Arr W w.heap.size 68 (iv x) → W.cell? ⟨w.heap.size, 1, none⟩ = some (.int .i64 a)) := Lib.hid fun W h => h.cell (j := 1) (by rw [hxe]; rfl)
  have HE2 : Hid (∀ W : World, Arr W w.heap.size 68 (iv x) → W.cell? ⟨w.heap.size, 2, none⟩ = some (.int .i64 v)) := Lib.hid fun W h => h.cell (j := 2) (by rw [hxe]; rfl)
  have HE3 : Hid (∀ W : World, Arr W w.heap.size 68 (iv x) → W.cell? ⟨w.heap.size, 3, none⟩ = some (.int .i64 s)) := Lib.hid fun W h => h.cell (j := 3) (by rw [hxe]; rfl)
  have HR4 : Hid (∀ W : World, Arr W w.heap.size 68 (iv x) → W.rangeAt w.heap.size 4 (iv [a0, a1, a2, a3, a4, a5, a6, a7])) := Lib.hid fun W h j u hj => h.cell (by
    rw [hxe, Nat.add_comm]
    exact hj)
  have e0 := HA.out.cell (j := 0) (u := .int .i64 k) (by rw [hxe]; rfl)
  have e1 := HE1.out _ HA.out
  have hi8 : (Tryz.prog.info? 66).map (·.size) = some (iv [a0, a1, a2, a3, a4, a5, a6, a7]).length := size22' rfl
  have hu22 := Tryz.underlying66
  have HDK := Lib.hid fun w => dec_any k w hkI
  have HDA := Lib.hid fun w => dec_any a w ha
  have HDV := Lib.hid fun w => dec_any v w hv
  have HDS := Lib.hid fun w => dec_any s w hs
  have HDW := Lib.hid fun w => dwords_any [a0, a1, a2, a3, a4, a5, a6, a7] w rfl hw8
  have lw := sp_len _ hw8
  unfold I64 at hkI ha hv hs
  have lk := itoa_len20 hkI.1 hkI.2
  have la := itoa_len20 ha.1 ha.2
  have lv := itoa_len20 hv.1 hv.2
  have ls := itoa_len20 hs.1 hs.2
  have HL : Hid (lineT x = wordK k ++ (idxK k).flatMap (fieldT x)) := Lib.hid (by rw [hxe]; rfl)
  have hfi : fieldT x 0 = 32 :: Lib.itoa k ∧ fieldT x 1 = 32 :: Lib.itoa a ∧ fieldT x 2 = 32 :: Lib.itoa v ∧ fieldT x 3 = 32 :: Lib.itoa s ∧ [4, 5, 6, 7, 8, 9, 10, 11].flatMap (fieldT x) = [a0, a1, a2, a3, a4, a5, a6, a7].flatMap spT := by
    rw [hxe]
    exact ⟨rfl, rfl, rfl, rfl, by simp [fieldT, spT]⟩
  have HFI := Lib.hid hfi
  obtain ⟨DK, hDK⟩ : ∃ D, Lib.itoa k = D := ⟨_, rfl⟩
  obtain ⟨DA, hDA⟩ : ∃ D, Lib.itoa a = D := ⟨_, rfl⟩
  obtain ⟨DV, hDV⟩ : ∃ D, Lib.itoa v = D := ⟨_, rfl⟩
  obtain ⟨DS, hDS⟩ : ∃ D, Lib.itoa s = D := ⟨_, rfl⟩
  obtain ⟨DW, hDW⟩ : ∃ D, [a0, a1, a2, a3, a4, a5, a6, a7].flatMap spT = D := ⟨_, rfl⟩
  rw [hDK] at HDK lk
  rw [hDA] at HDA la
  rw [hDV] at HDV lv
  rw [hDS] at HDS ls
  rw [hDW] at HDW lw
  rw [hDK, hDA, hDV, hDS, hDW] at HFI
  obtain ⟨OW, hOW⟩ : ∃ OW, iv [a0, a1, a2, a3, a4, a5, a6, a7] = OW := ⟨_, rfl⟩
  rw [hOW] at HDW HR4 hi8
  obtain ⟨OV, hOV⟩ : ∃ OV, iv x = OV := ⟨_, rfl⟩
  rw [hOV] at HBX HA HE1 HE2 HE3 HR4 e0 e1 ⊢
  obtain ⟨W0, hW0⟩ : ∃ W0, w.alloc (.cells OV.toArray 68) = W0 := ⟨_, rfl⟩
  change Hid (Arr (w.alloc (.cells OV.toArray 68)) w.heap.size 68 OV) at HA
  change (w.alloc (.cells OV.toArray 68)).cell? _ = _ at e0
  change (w.alloc (.cells OV.toArray 68)).cell? _ = _ at e1
  rw [hW0] at HBX HA e0 e1
  have HW0 := Lib.hid hW0
  obtain ⟨LX, hLX⟩ : ∃ LX, lineT x = LX := ⟨_, rfl⟩
  rw [hLX] at HL ⊢
  simp only [List.length_cons, List.length_nil] at lw
  clear hx hxI hxe ha hv hs hw8 hkI hfi hDK hDA hDV hDS hDW hOW hOV hLX
  unfold strV at HDK HDA HDV HDS HDW ⊢
  rcases kind_cases k with h | h | h | h | h | h | h | h
  · subst h
    obtain ⟨S1, hS1⟩ : ∃ S : List UInt8, [115, 116, 111, 114, 101, 32] ++ DA = S := ⟨_, rfl⟩
    have hl1 : S1.length ≤ 250 := by rw [← hS1, List.length_append]; (try simp only [List.length_cons, List.length_nil]); omega
    have hcat1 : ∀ w, (Op.stringOp .add ⟨#[115, 116, 111, 114, 101, 32]⟩ ⟨DA.toArray⟩).run Tryz.prog w = .ok (.string ⟨S1.toArray⟩) w := fun w => by
      rw [← hS1]
      exact cat_run [115, 116, 111, 114, 101, 32] DA w (by (try simp only [List.length_cons, List.length_nil]); omega)
    obtain ⟨S2, hS2⟩ : ∃ S : List UInt8, S1 ++ [32] = S := ⟨_, rfl⟩
    have hl2 : S2.length ≤ 500 := by rw [← hS2, List.length_append]; (try simp only [List.length_cons, List.length_nil]); omega
    have hcat2 : ∀ w, (Op.stringOp .add ⟨S1.toArray⟩ ⟨#[32]⟩).run Tryz.prog w = .ok (.string ⟨S2.toArray⟩) w := fun w => by
      rw [← hS2]
      exact cat_run S1 [32] w (by (try simp only [List.length_cons, List.length_nil]); omega)
    obtain ⟨S3, hS3⟩ : ∃ S : List UInt8, S2 ++ DV = S := ⟨_, rfl⟩
    have hl3 : S3.length ≤ 750 := by rw [← hS3, List.length_append]; (try simp only [List.length_cons, List.length_nil]); omega
    have hcat3 : ∀ w, (Op.stringOp .add ⟨S2.toArray⟩ ⟨DV.toArray⟩).run Tryz.prog w = .ok (.string ⟨S3.toArray⟩) w := fun w => by
      rw [← hS3]
      exact cat_run S2 DV w (by (try simp only [List.length_cons, List.length_nil]); omega)
    obtain ⟨S4, hS4⟩ : ∃ S : List UInt8, S3 ++ [32] = S := ⟨_, rfl⟩
    have hl4 : S4.length ≤ 1000 := by rw [← hS4, List.length_append]; (try simp only [List.length_cons, List.length_nil]); omega
    have hcat4 : ∀ w, (Op.stringOp .add ⟨S3.toArray⟩ ⟨#[32]⟩).run Tryz.prog w = .ok (.string ⟨S4.toArray⟩) w := fun w => by
      rw [← hS4]
      exact cat_run S3 [32] w (by (try simp only [List.length_cons, List.length_nil]); omega)
    obtain ⟨S5, hS5⟩ : ∃ S : List UInt8, S4 ++ DS = S := ⟨_, rfl⟩
    have hl5 : S5.length ≤ 1250 := by rw [← hS5, List.length_append]; (try simp only [List.length_cons, List.length_nil]); omega
    have hcat5 : ∀ w, (Op.stringOp .add ⟨S4.toArray⟩ ⟨DS.toArray⟩).run Tryz.prog w = .ok (.string ⟨S5.toArray⟩) w := fun w => by
      rw [← hS5]
      exact cat_run S4 DS w (by (try simp only [List.length_cons, List.length_nil]); omega)
    have hfin : LX = S5 := by
      obtain ⟨f0, f1, f2, f3, f4⟩ := HFI.out
      rw [HL.out, ← hS5, ← hS4, ← hS3, ← hS2, ← hS1]
      show [115, 116, 111, 114, 101] ++ [1, 2, 3].flatMap (fieldT x) = _
      simp [f1, f2, f3]
    subst hfin
    clear HL HFI lk la lv ls lw hS1 hl1 hS2 hl2 hS3 hl3 hS4 hl4 hS5 hl5
    go_enter Tryz.func88, Tryz.ntmps88
    go_wp2_with fail
    try rw [HW0.out]
    have hS0 : Arr W0.drew w.heap.size 68 OV := HA.out
    have HB0 := Lib.hid HBX.out.drew
    refine wp_region_held_drew (S := fun W => Arr W w.heap.size 68 OV) (by kernel_rfl) hS0 (fun hHeld => ?_)
    generalize W0.drew = wd0 at *
    refine wpAnyH_take (i := 0) (v := .pointer (some ⟨w.heap.size, 1, none⟩)) rfl (by kernel_rfl) (by kernel_rfl) (by kernel_rfl) (fun _ _ _ h => h) (Or.inl ⟨by rfl, fun W hSw => by go_simp⟩) (by assumption) ?_
    change wpAnyH _ _ _ _ _ _ _ (Act.put _ (some 7) _) _
    simp only [Act.put, List.setIfInBounds_toArray, List.set_cons_zero, List.set_cons_succ]
    refine wpAnyH_take (i := 1) (v := .int .i64 a) rfl (by kernel_rfl) (by kernel_rfl) (by kernel_rfl) (fun _ _ _ h => h) (Or.inl ⟨by rfl, fun W hSw => by have h1 := HE1.out W hSw; go_simp⟩) (by assumption) ?_
    change wpAnyH _ _ _ _ _ _ _ (Act.put _ (some 8) _) _
    simp only [Act.put, List.setIfInBounds_toArray, List.set_cons_zero, List.set_cons_succ]
    refine wpAnyH_take (i := 5) (v := .pointer (some ⟨w.heap.size, 2, none⟩)) rfl (by kernel_rfl) (by kernel_rfl) (by kernel_rfl) (fun _ _ _ h => h) (Or.inl ⟨by rfl, fun W hSw => by go_simp⟩) (by assumption) ?_
    change wpAnyH _ _ _ _ _ _ _ (Act.put _ (some 12) _) _
    simp only [Act.put, List.setIfInBounds_toArray, List.set_cons_zero, List.set_cons_succ]
    refine wpAnyH_take (i := 6) (v := .int .i64 v) rfl (by kernel_rfl) (by kernel_rfl) (by kernel_rfl) (fun _ _ _ h => h) (Or.inl ⟨by rfl, fun W hSw => by have h1 := HE2.out W hSw; go_simp⟩) (by assumption) ?_
    change wpAnyH _ _ _ _ _ _ _ (Act.put _ (some 13) _) _
    simp only [Act.put, List.setIfInBounds_toArray, List.set_cons_zero, List.set_cons_succ]
    refine wpAnyH_take (i := 10) (v := .pointer (some ⟨w.heap.size, 3, none⟩)) rfl (by kernel_rfl) (by kernel_rfl) (by kernel_rfl) (fun _ _ _ h => h) (Or.inl ⟨by rfl, fun W hSw => by go_simp⟩) (by assumption) ?_
    change wpAnyH _ _ _ _ _ _ _ (Act.put _ (some 17) _) _
    simp only [Act.put, List.setIfInBounds_toArray, List.set_cons_zero, List.set_cons_succ]
    refine wpAnyH_take (i := 11) (v := .int .i64 s) rfl (by kernel_rfl) (by kernel_rfl) (by kernel_rfl) (fun _ _ _ h => h) (Or.inl ⟨by rfl, fun W hSw => by have h1 := HE3.out W hSw; go_simp⟩) (by assumption) ?_
    change wpAnyH _ _ _ _ _ _ _ (Act.put _ (some 18) _) _
    simp only [Act.put, List.setIfInBounds_toArray, List.set_cons_zero, List.set_cons_succ]
    refine wpAnyH_ready (rs := [2]) (by kernel_rfl) (by simp) ?_
    refine AllReadyH.cons rfl (fun K hK => ?_) AllReadyH.nil
    go_simp
    refine (HDA.out _).mono ?_
    rintro e wd1 ⟨rfl, hb⟩
    have HB1 := Lib.hid (bel_on HB0.out hb)
    refine hK.out _ _ (hHeld.keep hb) (fun hHeld1 => ?_)
    clear hK K hHeld hb HB0
    have hHeld := hHeld1
    clear hHeld1
    refine wpAnyH_take (i := 3) (v := .string ⟨S1.toArray⟩) rfl (by kernel_rfl) (by kernel_rfl) (by kernel_rfl) (fun _ _ _ h => h) (Or.inl ⟨by rfl, fun W hSw => by go_simp⟩) (by assumption) ?_
    change wpAnyH _ _ _ _ _ _ _ (Act.put _ (some 10) _) _
    simp only [Act.put, List.setIfInBounds_toArray, List.set_cons_zero, List.set_cons_succ]
    refine wpAnyH_take (i := 4) (v := .string ⟨S2.toArray⟩) rfl (by kernel_rfl) (by kernel_rfl) (by kernel_rfl) (fun _ _ _ h => h) (Or.inl ⟨by rfl, fun W hSw => by go_simp⟩) (by assumption) ?_
    change wpAnyH _ _ _ _ _ _ _ (Act.put _ (some 11) _) _
    simp only [Act.put, List.setIfInBounds_toArray, List.set_cons_zero, List.set_cons_succ]
    refine wpAnyH_ready (rs := [7]) (by kernel_rfl) (by simp) ?_
    refine AllReadyH.cons rfl (fun K hK => ?_) AllReadyH.nil
    go_simp
    refine (HDV.out _).mono ?_
    rintro e wd2 ⟨rfl, hb⟩
    have HB2 := Lib.hid (bel_on HB1.out hb)
    refine hK.out _ _ (hHeld.keep hb) (fun hHeld2 => ?_)
    clear hK K hHeld hb HB1
    have hHeld := hHeld2
    clear hHeld2
    refine wpAnyH_take (i := 8) (v := .string ⟨S3.toArray⟩) rfl (by kernel_rfl) (by kernel_rfl) (by kernel_rfl) (fun _ _ _ h => h) (Or.inl ⟨by rfl, fun W hSw => by go_simp⟩) (by assumption) ?_
    change wpAnyH _ _ _ _ _ _ _ (Act.put _ (some 15) _) _
    simp only [Act.put, List.setIfInBounds_toArray, List.set_cons_zero, List.set_cons_succ]
    refine wpAnyH_take (i := 9) (v := .string ⟨S4.toArray⟩) rfl (by kernel_rfl) (by kernel_rfl) (by kernel_rfl) (fun _ _ _ h => h) (Or.inl ⟨by rfl, fun W hSw => by go_simp⟩) (by assumption) ?_
    change wpAnyH _ _ _ _ _ _ _ (Act.put _ (some 16) _) _
    simp only [Act.put, List.setIfInBounds_toArray, List.set_cons_zero, List.set_cons_succ]
    refine wpAnyH_ready (rs := [12]) (by kernel_rfl) (by simp) ?_
    refine AllReadyH.cons rfl (fun K hK => ?_) AllReadyH.nil
    go_simp
    refine (HDS.out _).mono ?_
    rintro e wd3 ⟨rfl, hb⟩
    have HB3 := Lib.hid (bel_on HB2.out hb)
    refine hK.out _ _ (hHeld.keep hb) (fun hHeld3 => ?_)
    clear hK K hHeld hb HB2
    have hHeld := hHeld3
    clear hHeld3
    refine wpAnyH_take (i := 13) (v := .string ⟨LX.toArray⟩) rfl (by kernel_rfl) (by kernel_rfl) (by kernel_rfl) (fun _ _ _ h => h) (Or.inl ⟨by rfl, fun W hSw => by go_simp⟩) (by assumption) ?_
    change wpAnyH _ _ _ _ _ _ _ (Act.put _ (some 20) _) _
    simp only [Act.put, List.setIfInBounds_toArray, List.set_cons_zero, List.set_cons_succ]
    refine wpAnyH_take (i := 14) (v := .string ⟨LX.toArray⟩) rfl (by kernel_rfl) (by kernel_rfl) (by kernel_rfl) (fun _ _ _ h => h) (Or.inl ⟨by rfl, fun W hSw => by go_simp⟩) (by assumption) ?_
    change wpAnyH _ _ _ _ _ _ _ (Act.put _ (some 2) _) _
    simp only [Act.put, List.setIfInBounds_toArray, List.set_cons_zero, List.set_cons_succ]
    refine wpAnyH_done (by kernel_rfl) ?_ _
    go_wp2_with fail
    go_ret
    exact ⟨rfl, HB3.out⟩
  · subst h
    obtain ⟨S1, hS1⟩ : ∃ S : List UInt8, [112, 117, 98, 108, 105, 115, 104, 32] ++ DA = S := ⟨_, rfl⟩
    have hl1 : S1.length ≤ 250 := by rw [← hS1, List.length_append]; (try simp only [List.length_cons, List.length_nil]); omega
    have hcat1 : ∀ w, (Op.stringOp .add ⟨#[112, 117, 98, 108, 105, 115, 104, 32]⟩ ⟨DA.toArray⟩).run Tryz.prog w = .ok (.string ⟨S1.toArray⟩) w := fun w => by
      rw [← hS1]
      exact cat_run [112, 117, 98, 108, 105, 115, 104, 32] DA w (by (try simp only [List.length_cons, List.length_nil]); omega)
    obtain ⟨S2, hS2⟩ : ∃ S : List UInt8, S1 ++ [32] = S := ⟨_, rfl⟩
    have hl2 : S2.length ≤ 500 := by rw [← hS2, List.length_append]; (try simp only [List.length_cons, List.length_nil]); omega
    have hcat2 : ∀ w, (Op.stringOp .add ⟨S1.toArray⟩ ⟨#[32]⟩).run Tryz.prog w = .ok (.string ⟨S2.toArray⟩) w := fun w => by
      rw [← hS2]
      exact cat_run S1 [32] w (by (try simp only [List.length_cons, List.length_nil]); omega)
    obtain ⟨S3, hS3⟩ : ∃ S : List UInt8, S2 ++ DV = S := ⟨_, rfl⟩
    have hl3 : S3.length ≤ 750 := by rw [← hS3, List.length_append]; (try simp only [List.length_cons, List.length_nil]); omega
    have hcat3 : ∀ w, (Op.stringOp .add ⟨S2.toArray⟩ ⟨DV.toArray⟩).run Tryz.prog w = .ok (.string ⟨S3.toArray⟩) w := fun w => by
      rw [← hS3]
      exact cat_run S2 DV w (by (try simp only [List.length_cons, List.length_nil]); omega)
    obtain ⟨S4, hS4⟩ : ∃ S : List UInt8, S3 ++ [32] = S := ⟨_, rfl⟩
    have hl4 : S4.length ≤ 1000 := by rw [← hS4, List.length_append]; (try simp only [List.length_cons, List.length_nil]); omega
    have hcat4 : ∀ w, (Op.stringOp .add ⟨S3.toArray⟩ ⟨#[32]⟩).run Tryz.prog w = .ok (.string ⟨S4.toArray⟩) w := fun w => by
      rw [← hS4]
      exact cat_run S3 [32] w (by (try simp only [List.length_cons, List.length_nil]); omega)
    obtain ⟨S5, hS5⟩ : ∃ S : List UInt8, S4 ++ DS = S := ⟨_, rfl⟩
    have hl5 : S5.length ≤ 1250 := by rw [← hS5, List.length_append]; (try simp only [List.length_cons, List.length_nil]); omega
    have hcat5 : ∀ w, (Op.stringOp .add ⟨S4.toArray⟩ ⟨DS.toArray⟩).run Tryz.prog w = .ok (.string ⟨S5.toArray⟩) w := fun w => by
      rw [← hS5]
      exact cat_run S4 DS w (by (try simp only [List.length_cons, List.length_nil]); omega)
    have hfin : LX = S5 := by
      obtain ⟨f0, f1, f2, f3, f4⟩ := HFI.out
      rw [HL.out, ← hS5, ← hS4, ← hS3, ← hS2, ← hS1]
      show [112, 117, 98, 108, 105, 115, 104] ++ [1, 2, 3].flatMap (fieldT x) = _
      simp [f1, f2, f3]
    subst hfin
    clear HL HFI lk la lv ls lw hS1 hl1 hS2 hl2 hS3 hl3 hS4 hl4 hS5 hl5
    go_enter Tryz.func88, Tryz.ntmps88
    go_wp2_with fail
    try rw [HW0.out]
    have hS0 : Arr W0.drew w.heap.size 68 OV := HA.out
    have HB0 := Lib.hid HBX.out.drew
    refine wp_region_held_drew (S := fun W => Arr W w.heap.size 68 OV) (by kernel_rfl) hS0 (fun hHeld => ?_)
    generalize W0.drew = wd0 at *
    refine wpAnyH_take (i := 0) (v := .pointer (some ⟨w.heap.size, 1, none⟩)) rfl (by kernel_rfl) (by kernel_rfl) (by kernel_rfl) (fun _ _ _ h => h) (Or.inl ⟨by rfl, fun W hSw => by go_simp⟩) (by assumption) ?_
    change wpAnyH _ _ _ _ _ _ _ (Act.put _ (some 23) _) _
    simp only [Act.put, List.setIfInBounds_toArray, List.set_cons_zero, List.set_cons_succ]
    refine wpAnyH_take (i := 1) (v := .int .i64 a) rfl (by kernel_rfl) (by kernel_rfl) (by kernel_rfl) (fun _ _ _ h => h) (Or.inl ⟨by rfl, fun W hSw => by have h1 := HE1.out W hSw; go_simp⟩) (by assumption) ?_
    change wpAnyH _ _ _ _ _ _ _ (Act.put _ (some 24) _) _
    simp only [Act.put, List.setIfInBounds_toArray, List.set_cons_zero, List.set_cons_succ]
    refine wpAnyH_take (i := 5) (v := .pointer (some ⟨w.heap.size, 2, none⟩)) rfl (by kernel_rfl) (by kernel_rfl) (by kernel_rfl) (fun _ _ _ h => h) (Or.inl ⟨by rfl, fun W hSw => by go_simp⟩) (by assumption) ?_
    change wpAnyH _ _ _ _ _ _ _ (Act.put _ (some 28) _) _
    simp only [Act.put, List.setIfInBounds_toArray, List.set_cons_zero, List.set_cons_succ]
    refine wpAnyH_take (i := 6) (v := .int .i64 v) rfl (by kernel_rfl) (by kernel_rfl) (by kernel_rfl) (fun _ _ _ h => h) (Or.inl ⟨by rfl, fun W hSw => by have h1 := HE2.out W hSw; go_simp⟩) (by assumption) ?_
    change wpAnyH _ _ _ _ _ _ _ (Act.put _ (some 29) _) _
    simp only [Act.put, List.setIfInBounds_toArray, List.set_cons_zero, List.set_cons_succ]
    refine wpAnyH_take (i := 10) (v := .pointer (some ⟨w.heap.size, 3, none⟩)) rfl (by kernel_rfl) (by kernel_rfl) (by kernel_rfl) (fun _ _ _ h => h) (Or.inl ⟨by rfl, fun W hSw => by go_simp⟩) (by assumption) ?_
    change wpAnyH _ _ _ _ _ _ _ (Act.put _ (some 33) _) _
    simp only [Act.put, List.setIfInBounds_toArray, List.set_cons_zero, List.set_cons_succ]
    refine wpAnyH_take (i := 11) (v := .int .i64 s) rfl (by kernel_rfl) (by kernel_rfl) (by kernel_rfl) (fun _ _ _ h => h) (Or.inl ⟨by rfl, fun W hSw => by have h1 := HE3.out W hSw; go_simp⟩) (by assumption) ?_
    change wpAnyH _ _ _ _ _ _ _ (Act.put _ (some 34) _) _
    simp only [Act.put, List.setIfInBounds_toArray, List.set_cons_zero, List.set_cons_succ]
    refine wpAnyH_ready (rs := [2]) (by kernel_rfl) (by simp) ?_
    refine AllReadyH.cons rfl (fun K hK => ?_) AllReadyH.nil
    go_simp
    refine (HDA.out _).mono ?_
    rintro e wd1 ⟨rfl, hb⟩
    have HB1 := Lib.hid (bel_on HB0.out hb)
    refine hK.out _ _ (hHeld.keep hb) (fun hHeld1 => ?_)
    clear hK K hHeld hb HB0
    have hHeld := hHeld1
    clear hHeld1
    refine wpAnyH_take (i := 3) (v := .string ⟨S1.toArray⟩) rfl (by kernel_rfl) (by kernel_rfl) (by kernel_rfl) (fun _ _ _ h => h) (Or.inl ⟨by rfl, fun W hSw => by go_simp⟩) (by assumption) ?_
    change wpAnyH _ _ _ _ _ _ _ (Act.put _ (some 26) _) _
    simp only [Act.put, List.setIfInBounds_toArray, List.set_cons_zero, List.set_cons_succ]
    refine wpAnyH_take (i := 4) (v := .string ⟨S2.toArray⟩) rfl (by kernel_rfl) (by kernel_rfl) (by kernel_rfl) (fun _ _ _ h => h) (Or.inl ⟨by rfl, fun W hSw => by go_simp⟩) (by assumption) ?_
    change wpAnyH _ _ _ _ _ _ _ (Act.put _ (some 27) _) _
    simp only [Act.put, List.setIfInBounds_toArray, List.set_cons_zero, List.set_cons_succ]
    refine wpAnyH_ready (rs := [7]) (by kernel_rfl) (by simp) ?_
    refine AllReadyH.cons rfl (fun K hK => ?_) AllReadyH.nil
    go_simp
    refine (HDV.out _).mono ?_
    rintro e wd2 ⟨rfl, hb⟩
    have HB2 := Lib.hid (bel_on HB1.out hb)
    refine hK.out _ _ (hHeld.keep hb) (fun hHeld2 => ?_)
    clear hK K hHeld hb HB1
    have hHeld := hHeld2
    clear hHeld2
    refine wpAnyH_take (i := 8) (v := .string ⟨S3.toArray⟩) rfl (by kernel_rfl) (by kernel_rfl) (by kernel_rfl) (fun _ _ _ h => h) (Or.inl ⟨by rfl, fun W hSw => by go_simp⟩) (by assumption) ?_
    change wpAnyH _ _ _ _ _ _ _ (Act.put _ (some 31) _) _
    simp only [Act.put, List.setIfInBounds_toArray, List.set_cons_zero, List.set_cons_succ]
    refine wpAnyH_take (i := 9) (v := .string ⟨S4.toArray⟩) rfl (by kernel_rfl) (by kernel_rfl) (by kernel_rfl) (fun _ _ _ h => h) (Or.inl ⟨by rfl, fun W hSw => by go_simp⟩) (by assumption) ?_
    change wpAnyH _ _ _ _ _ _ _ (Act.put _ (some 32) _) _
    simp only [Act.put, List.setIfInBounds_toArray, List.set_cons_zero, List.set_cons_succ]
    refine wpAnyH_ready (rs := [12]) (by kernel_rfl) (by simp) ?_
    refine AllReadyH.cons rfl (fun K hK => ?_) AllReadyH.nil
    go_simp
    refine (HDS.out _).mono ?_
    rintro e wd3 ⟨rfl, hb⟩
    have HB3 := Lib.hid (bel_on HB2.out hb)
    refine hK.out _ _ (hHeld.keep hb) (fun hHeld3 => ?_)
    clear hK K hHeld hb HB2
    have hHeld := hHeld3
    clear hHeld3
    refine wpAnyH_take (i := 13) (v := .string ⟨LX.toArray⟩) rfl (by kernel_rfl) (by kernel_rfl) (by kernel_rfl) (fun _ _ _ h => h) (Or.inl ⟨by rfl, fun W hSw => by go_simp⟩) (by assumption) ?_
    change wpAnyH _ _ _ _ _ _ _ (Act.put _ (some 36) _) _
    simp only [Act.put, List.setIfInBounds_toArray, List.set_cons_zero, List.set_cons_succ]
    refine wpAnyH_take (i := 14) (v := .string ⟨LX.toArray⟩) rfl (by kernel_rfl) (by kernel_rfl) (by kernel_rfl) (fun _ _ _ h => h) (Or.inl ⟨by rfl, fun W hSw => by go_simp⟩) (by assumption) ?_
    change wpAnyH _ _ _ _ _ _ _ (Act.put _ (some 2) _) _
    simp only [Act.put, List.setIfInBounds_toArray, List.set_cons_zero, List.set_cons_succ]
    refine wpAnyH_done (by kernel_rfl) ?_ _
    go_wp2_with fail
    go_ret
    exact ⟨rfl, HB3.out⟩
  · subst h
    obtain ⟨S1, hS1⟩ : ∃ S : List UInt8, [102, 108, 117, 115, 104, 32] ++ DA = S := ⟨_, rfl⟩
    have hl1 : S1.length ≤ 250 := by rw [← hS1, List.length_append]; (try simp only [List.length_cons, List.length_nil]); omega
    have hcat1 : ∀ w, (Op.stringOp .add ⟨#[102, 108, 117, 115, 104, 32]⟩ ⟨DA.toArray⟩).run Tryz.prog w = .ok (.string ⟨S1.toArray⟩) w := fun w => by
      rw [← hS1]
      exact cat_run [102, 108, 117, 115, 104, 32] DA w (by (try simp only [List.length_cons, List.length_nil]); omega)
    have hfin : LX = S1 := by
      obtain ⟨f0, f1, f2, f3, f4⟩ := HFI.out
      rw [HL.out, ← hS1]
      show [102, 108, 117, 115, 104] ++ [1].flatMap (fieldT x) = _
      simp [f1]
    subst hfin
    clear HL HFI lk la lv ls lw hS1 hl1
    go_enter Tryz.func88, Tryz.ntmps88
    go_wp2_with fail
    refine (HDA.out _).mono ?_
    rintro e w1 ⟨rfl, hb⟩
    have HB1 := Lib.hid (bel_on HBX.out (by first | exact hb | (rw [HW0.out] at hb; exact hb)))
    clear hb
    go_wp2_with fail
    go_ret
    exact ⟨rfl, HB1.out⟩
  · subst h
    have hfin : LX = [102, 101, 110, 99, 101] := by
      obtain ⟨f0, f1, f2, f3, f4⟩ := HFI.out
      rw [HL.out]
      show [102, 101, 110, 99, 101] ++ [].flatMap (fieldT x) = _
      simp
    subst hfin
    clear HL HFI lk la lv ls lw
    go_enter Tryz.func88, Tryz.ntmps88
    go_wp2_with fail
    go_ret
    exact ⟨rfl, by first | exact HBX.out | (rw [HW0.out]; exact HBX.out)⟩
  · subst h
    obtain ⟨S1, hS1⟩ : ∃ S : List UInt8, [101, 118, 105, 99, 116, 32] ++ DA = S := ⟨_, rfl⟩
    have hl1 : S1.length ≤ 250 := by rw [← hS1, List.length_append]; (try simp only [List.length_cons, List.length_nil]); omega
    have hcat1 : ∀ w, (Op.stringOp .add ⟨#[101, 118, 105, 99, 116, 32]⟩ ⟨DA.toArray⟩).run Tryz.prog w = .ok (.string ⟨S1.toArray⟩) w := fun w => by
      rw [← hS1]
      exact cat_run [101, 118, 105, 99, 116, 32] DA w (by (try simp only [List.length_cons, List.length_nil]); omega)
    obtain ⟨S2, hS2⟩ : ∃ S : List UInt8, S1 ++ [32] = S := ⟨_, rfl⟩
    have hl2 : S2.length ≤ 500 := by rw [← hS2, List.length_append]; (try simp only [List.length_cons, List.length_nil]); omega
    have hcat2 : ∀ w, (Op.stringOp .add ⟨S1.toArray⟩ ⟨#[32]⟩).run Tryz.prog w = .ok (.string ⟨S2.toArray⟩) w := fun w => by
      rw [← hS2]
      exact cat_run S1 [32] w (by (try simp only [List.length_cons, List.length_nil]); omega)
    obtain ⟨S3, hS3⟩ : ∃ S : List UInt8, S2 ++ DV = S := ⟨_, rfl⟩
    have hl3 : S3.length ≤ 750 := by rw [← hS3, List.length_append]; (try simp only [List.length_cons, List.length_nil]); omega
    have hcat3 : ∀ w, (Op.stringOp .add ⟨S2.toArray⟩ ⟨DV.toArray⟩).run Tryz.prog w = .ok (.string ⟨S3.toArray⟩) w := fun w => by
      rw [← hS3]
      exact cat_run S2 DV w (by (try simp only [List.length_cons, List.length_nil]); omega)
    have hfin : LX = S3 := by
      obtain ⟨f0, f1, f2, f3, f4⟩ := HFI.out
      rw [HL.out, ← hS3, ← hS2, ← hS1]
      show [101, 118, 105, 99, 116] ++ [1, 2].flatMap (fieldT x) = _
      simp [f1, f2]
    subst hfin
    clear HL HFI lk la lv ls lw hS1 hl1 hS2 hl2 hS3 hl3
    go_enter Tryz.func88, Tryz.ntmps88
    go_wp2_with fail
    try rw [HW0.out]
    have hS0 : Arr W0.drew w.heap.size 68 OV := HA.out
    have HB0 := Lib.hid HBX.out.drew
    refine wp_region_held_drew (S := fun W => Arr W w.heap.size 68 OV) (by kernel_rfl) hS0 (fun hHeld => ?_)
    generalize W0.drew = wd0 at *
    refine wpAnyH_take (i := 0) (v := .pointer (some ⟨w.heap.size, 1, none⟩)) rfl (by kernel_rfl) (by kernel_rfl) (by kernel_rfl) (fun _ _ _ h => h) (Or.inl ⟨by rfl, fun W hSw => by go_simp⟩) (by assumption) ?_
    change wpAnyH _ _ _ _ _ _ _ (Act.put _ (some 47) _) _
    simp only [Act.put, List.setIfInBounds_toArray, List.set_cons_zero, List.set_cons_succ]
    refine wpAnyH_take (i := 1) (v := .int .i64 a) rfl (by kernel_rfl) (by kernel_rfl) (by kernel_rfl) (fun _ _ _ h => h) (Or.inl ⟨by rfl, fun W hSw => by have h1 := HE1.out W hSw; go_simp⟩) (by assumption) ?_
    change wpAnyH _ _ _ _ _ _ _ (Act.put _ (some 48) _) _
    simp only [Act.put, List.setIfInBounds_toArray, List.set_cons_zero, List.set_cons_succ]
    refine wpAnyH_take (i := 5) (v := .pointer (some ⟨w.heap.size, 2, none⟩)) rfl (by kernel_rfl) (by kernel_rfl) (by kernel_rfl) (fun _ _ _ h => h) (Or.inl ⟨by rfl, fun W hSw => by go_simp⟩) (by assumption) ?_
    change wpAnyH _ _ _ _ _ _ _ (Act.put _ (some 52) _) _
    simp only [Act.put, List.setIfInBounds_toArray, List.set_cons_zero, List.set_cons_succ]
    refine wpAnyH_take (i := 6) (v := .int .i64 v) rfl (by kernel_rfl) (by kernel_rfl) (by kernel_rfl) (fun _ _ _ h => h) (Or.inl ⟨by rfl, fun W hSw => by have h1 := HE2.out W hSw; go_simp⟩) (by assumption) ?_
    change wpAnyH _ _ _ _ _ _ _ (Act.put _ (some 53) _) _
    simp only [Act.put, List.setIfInBounds_toArray, List.set_cons_zero, List.set_cons_succ]
    refine wpAnyH_ready (rs := [2]) (by kernel_rfl) (by simp) ?_
    refine AllReadyH.cons rfl (fun K hK => ?_) AllReadyH.nil
    go_simp
    refine (HDA.out _).mono ?_
    rintro e wd1 ⟨rfl, hb⟩
    have HB1 := Lib.hid (bel_on HB0.out hb)
    refine hK.out _ _ (hHeld.keep hb) (fun hHeld1 => ?_)
    clear hK K hHeld hb HB0
    have hHeld := hHeld1
    clear hHeld1
    refine wpAnyH_take (i := 3) (v := .string ⟨S1.toArray⟩) rfl (by kernel_rfl) (by kernel_rfl) (by kernel_rfl) (fun _ _ _ h => h) (Or.inl ⟨by rfl, fun W hSw => by go_simp⟩) (by assumption) ?_
    change wpAnyH _ _ _ _ _ _ _ (Act.put _ (some 50) _) _
    simp only [Act.put, List.setIfInBounds_toArray, List.set_cons_zero, List.set_cons_succ]
    refine wpAnyH_take (i := 4) (v := .string ⟨S2.toArray⟩) rfl (by kernel_rfl) (by kernel_rfl) (by kernel_rfl) (fun _ _ _ h => h) (Or.inl ⟨by rfl, fun W hSw => by go_simp⟩) (by assumption) ?_
    change wpAnyH _ _ _ _ _ _ _ (Act.put _ (some 51) _) _
    simp only [Act.put, List.setIfInBounds_toArray, List.set_cons_zero, List.set_cons_succ]
    refine wpAnyH_ready (rs := [7]) (by kernel_rfl) (by simp) ?_
    refine AllReadyH.cons rfl (fun K hK => ?_) AllReadyH.nil
    go_simp
    refine (HDV.out _).mono ?_
    rintro e wd2 ⟨rfl, hb⟩
    have HB2 := Lib.hid (bel_on HB1.out hb)
    refine hK.out _ _ (hHeld.keep hb) (fun hHeld2 => ?_)
    clear hK K hHeld hb HB1
    have hHeld := hHeld2
    clear hHeld2
    refine wpAnyH_take (i := 8) (v := .string ⟨LX.toArray⟩) rfl (by kernel_rfl) (by kernel_rfl) (by kernel_rfl) (fun _ _ _ h => h) (Or.inl ⟨by rfl, fun W hSw => by go_simp⟩) (by assumption) ?_
    change wpAnyH _ _ _ _ _ _ _ (Act.put _ (some 55) _) _
    simp only [Act.put, List.setIfInBounds_toArray, List.set_cons_zero, List.set_cons_succ]
    refine wpAnyH_take (i := 9) (v := .string ⟨LX.toArray⟩) rfl (by kernel_rfl) (by kernel_rfl) (by kernel_rfl) (fun _ _ _ h => h) (Or.inl ⟨by rfl, fun W hSw => by go_simp⟩) (by assumption) ?_
    change wpAnyH _ _ _ _ _ _ _ (Act.put _ (some 2) _) _
    simp only [Act.put, List.setIfInBounds_toArray, List.set_cons_zero, List.set_cons_succ]
    refine wpAnyH_done (by kernel_rfl) ?_ _
    go_wp2_with fail
    go_ret
    exact ⟨rfl, HB2.out⟩
  · subst h
    obtain ⟨S1, hS1⟩ : ∃ S : List UInt8, [104, 101, 97, 108, 32] ++ DA = S := ⟨_, rfl⟩
    have hl1 : S1.length ≤ 250 := by rw [← hS1, List.length_append]; (try simp only [List.length_cons, List.length_nil]); omega
    have hcat1 : ∀ w, (Op.stringOp .add ⟨#[104, 101, 97, 108, 32]⟩ ⟨DA.toArray⟩).run Tryz.prog w = .ok (.string ⟨S1.toArray⟩) w := fun w => by
      rw [← hS1]
      exact cat_run [104, 101, 97, 108, 32] DA w (by (try simp only [List.length_cons, List.length_nil]); omega)
    obtain ⟨S2, hS2⟩ : ∃ S : List UInt8, S1 ++ DW = S := ⟨_, rfl⟩
    have hl2 : S2.length ≤ 500 := by rw [← hS2, List.length_append]; (try simp only [List.length_cons, List.length_nil]); omega
    have hcat2 : ∀ w, (Op.stringOp .add ⟨S1.toArray⟩ ⟨DW.toArray⟩).run Tryz.prog w = .ok (.string ⟨S2.toArray⟩) w := fun w => by
      rw [← hS2]
      exact cat_run S1 DW w (by (try simp only [List.length_cons, List.length_nil]); omega)
    have hfin : LX = S2 := by
      obtain ⟨f0, f1, f2, f3, f4⟩ := HFI.out
      rw [HL.out, ← hS2, ← hS1]
      show [104, 101, 97, 108] ++ (fieldT x 1 ++ ([4, 5, 6, 7, 8, 9, 10, 11]).flatMap (fieldT x)) = _
      rw [f1, f4]
      simp
    subst hfin
    clear HL HFI lk la lv ls lw hS1 hl1 hS2 hl2
    go_enter Tryz.func88, Tryz.ntmps88
    go_wp2_with fail
    try rw [HW0.out]
    have hS0 : Arr W0.drew w.heap.size 68 OV := HA.out
    have HB0 := Lib.hid HBX.out.drew
    refine wp_region_held_drew (S := fun W => Arr W w.heap.size 68 OV) (by kernel_rfl) hS0 (fun hHeld => ?_)
    generalize W0.drew = wd0 at *
    refine wpAnyH_take (i := 0) (v := .pointer (some ⟨w.heap.size, 1, none⟩)) rfl (by kernel_rfl) (by kernel_rfl) (by kernel_rfl) (fun _ _ _ h => h) (Or.inl ⟨by rfl, fun W hSw => by go_simp⟩) (by assumption) ?_
    change wpAnyH _ _ _ _ _ _ _ (Act.put _ (some 58) _) _
    simp only [Act.put, List.setIfInBounds_toArray, List.set_cons_zero, List.set_cons_succ]
    refine wpAnyH_take (i := 1) (v := .int .i64 a) rfl (by kernel_rfl) (by kernel_rfl) (by kernel_rfl) (fun _ _ _ h => h) (Or.inl ⟨by rfl, fun W hSw => by have h1 := HE1.out W hSw; go_simp⟩) (by assumption) ?_
    change wpAnyH _ _ _ _ _ _ _ (Act.put _ (some 59) _) _
    simp only [Act.put, List.setIfInBounds_toArray, List.set_cons_zero, List.set_cons_succ]
    refine wpAnyH_take (i := 4) (v := .pointer (some ⟨w.heap.size, 4, none⟩)) rfl (by kernel_rfl) (by kernel_rfl) (by kernel_rfl) (fun _ _ _ h => h) (Or.inl ⟨by rfl, fun W hSw => by go_simp⟩) (by assumption) ?_
    change wpAnyH _ _ _ _ _ _ _ (Act.put _ (some 62) _) _
    simp only [Act.put, List.setIfInBounds_toArray, List.set_cons_zero, List.set_cons_succ]
    refine wpAnyH_take (i := 5) (v := .agg OW.toArray) rfl (by kernel_rfl) (by kernel_rfl) (by kernel_rfl) (fun _ _ _ h => h) (yieldsIf_load_mid (by rfl) _ _ rfl _ _ rfl _ _ (fun W h => HR4.out W h) hu22 rfl hi8) (by assumption) ?_
    change wpAnyH _ _ _ _ _ _ _ (Act.put _ (some 63) _) _
    simp only [Act.put, List.setIfInBounds_toArray, List.set_cons_zero, List.set_cons_succ]
    refine wpAnyH_ready (rs := [2]) (by kernel_rfl) (by simp) ?_
    refine AllReadyH.cons rfl (fun K hK => ?_) AllReadyH.nil
    go_simp
    refine (HDA.out _).mono ?_
    rintro e wd1 ⟨rfl, hb⟩
    have HB1 := Lib.hid (bel_on HB0.out hb)
    refine hK.out _ _ (hHeld.keep hb) (fun hHeld1 => ?_)
    clear hK K hHeld hb HB0
    have hHeld := hHeld1
    clear hHeld1
    refine wpAnyH_take (i := 3) (v := .string ⟨S1.toArray⟩) rfl (by kernel_rfl) (by kernel_rfl) (by kernel_rfl) (fun _ _ _ h => h) (Or.inl ⟨by rfl, fun W hSw => by go_simp⟩) (by assumption) ?_
    change wpAnyH _ _ _ _ _ _ _ (Act.put _ (some 61) _) _
    simp only [Act.put, List.setIfInBounds_toArray, List.set_cons_zero, List.set_cons_succ]
    refine wpAnyH_ready (rs := [6]) (by kernel_rfl) (by simp) ?_
    refine AllReadyH.cons rfl (fun K hK => ?_) AllReadyH.nil
    go_simp
    refine (HDW.out _).mono ?_
    rintro e wd2 ⟨rfl, hb⟩
    have HB2 := Lib.hid (bel_on HB1.out hb)
    refine hK.out _ _ (hHeld.keep hb) (fun hHeld2 => ?_)
    clear hK K hHeld hb HB1
    have hHeld := hHeld2
    clear hHeld2
    refine wpAnyH_take (i := 7) (v := .string ⟨LX.toArray⟩) rfl (by kernel_rfl) (by kernel_rfl) (by kernel_rfl) (fun _ _ _ h => h) (Or.inl ⟨by rfl, fun W hSw => by go_simp⟩) (by assumption) ?_
    change wpAnyH _ _ _ _ _ _ _ (Act.put _ (some 65) _) _
    simp only [Act.put, List.setIfInBounds_toArray, List.set_cons_zero, List.set_cons_succ]
    refine wpAnyH_take (i := 8) (v := .string ⟨LX.toArray⟩) rfl (by kernel_rfl) (by kernel_rfl) (by kernel_rfl) (fun _ _ _ h => h) (Or.inl ⟨by rfl, fun W hSw => by go_simp⟩) (by assumption) ?_
    change wpAnyH _ _ _ _ _ _ _ (Act.put _ (some 2) _) _
    simp only [Act.put, List.setIfInBounds_toArray, List.set_cons_zero, List.set_cons_succ]
    refine wpAnyH_done (by kernel_rfl) ?_ _
    go_wp2_with fail
    go_ret
    exact ⟨rfl, HB2.out⟩
  · subst h
    obtain ⟨S1, hS1⟩ : ∃ S : List UInt8, [114, 111, 116, 32] ++ DA = S := ⟨_, rfl⟩
    have hl1 : S1.length ≤ 250 := by rw [← hS1, List.length_append]; (try simp only [List.length_cons, List.length_nil]); omega
    have hcat1 : ∀ w, (Op.stringOp .add ⟨#[114, 111, 116, 32]⟩ ⟨DA.toArray⟩).run Tryz.prog w = .ok (.string ⟨S1.toArray⟩) w := fun w => by
      rw [← hS1]
      exact cat_run [114, 111, 116, 32] DA w (by (try simp only [List.length_cons, List.length_nil]); omega)
    obtain ⟨S2, hS2⟩ : ∃ S : List UInt8, S1 ++ DW = S := ⟨_, rfl⟩
    have hl2 : S2.length ≤ 500 := by rw [← hS2, List.length_append]; (try simp only [List.length_cons, List.length_nil]); omega
    have hcat2 : ∀ w, (Op.stringOp .add ⟨S1.toArray⟩ ⟨DW.toArray⟩).run Tryz.prog w = .ok (.string ⟨S2.toArray⟩) w := fun w => by
      rw [← hS2]
      exact cat_run S1 DW w (by (try simp only [List.length_cons, List.length_nil]); omega)
    obtain ⟨S3, hS3⟩ : ∃ S : List UInt8, S2 ++ [32] = S := ⟨_, rfl⟩
    have hl3 : S3.length ≤ 750 := by rw [← hS3, List.length_append]; (try simp only [List.length_cons, List.length_nil]); omega
    have hcat3 : ∀ w, (Op.stringOp .add ⟨S2.toArray⟩ ⟨#[32]⟩).run Tryz.prog w = .ok (.string ⟨S3.toArray⟩) w := fun w => by
      rw [← hS3]
      exact cat_run S2 [32] w (by (try simp only [List.length_cons, List.length_nil]); omega)
    obtain ⟨S4, hS4⟩ : ∃ S : List UInt8, S3 ++ DV = S := ⟨_, rfl⟩
    have hl4 : S4.length ≤ 1000 := by rw [← hS4, List.length_append]; (try simp only [List.length_cons, List.length_nil]); omega
    have hcat4 : ∀ w, (Op.stringOp .add ⟨S3.toArray⟩ ⟨DV.toArray⟩).run Tryz.prog w = .ok (.string ⟨S4.toArray⟩) w := fun w => by
      rw [← hS4]
      exact cat_run S3 DV w (by (try simp only [List.length_cons, List.length_nil]); omega)
    have hfin : LX = S4 := by
      obtain ⟨f0, f1, f2, f3, f4⟩ := HFI.out
      rw [HL.out, ← hS4, ← hS3, ← hS2, ← hS1]
      show [114, 111, 116] ++ (fieldT x 1 ++ ([4, 5, 6, 7, 8, 9, 10, 11] ++ [2]).flatMap (fieldT x)) = _
      rw [List.flatMap_append, f1, f4]
      simp [f2]
    subst hfin
    clear HL HFI lk la lv ls lw hS1 hl1 hS2 hl2 hS3 hl3 hS4 hl4
    go_enter Tryz.func88, Tryz.ntmps88
    go_wp2_with fail
    try rw [HW0.out]
    have hS0 : Arr W0.drew w.heap.size 68 OV := HA.out
    have HB0 := Lib.hid HBX.out.drew
    refine wp_region_held_drew (S := fun W => Arr W w.heap.size 68 OV) (by kernel_rfl) hS0 (fun hHeld => ?_)
    generalize W0.drew = wd0 at *
    refine wpAnyH_take (i := 0) (v := .pointer (some ⟨w.heap.size, 1, none⟩)) rfl (by kernel_rfl) (by kernel_rfl) (by kernel_rfl) (fun _ _ _ h => h) (Or.inl ⟨by rfl, fun W hSw => by go_simp⟩) (by assumption) ?_
    change wpAnyH _ _ _ _ _ _ _ (Act.put _ (some 68) _) _
    simp only [Act.put, List.setIfInBounds_toArray, List.set_cons_zero, List.set_cons_succ]
    refine wpAnyH_take (i := 1) (v := .int .i64 a) rfl (by kernel_rfl) (by kernel_rfl) (by kernel_rfl) (fun _ _ _ h => h) (Or.inl ⟨by rfl, fun W hSw => by have h1 := HE1.out W hSw; go_simp⟩) (by assumption) ?_
    change wpAnyH _ _ _ _ _ _ _ (Act.put _ (some 69) _) _
    simp only [Act.put, List.setIfInBounds_toArray, List.set_cons_zero, List.set_cons_succ]
    refine wpAnyH_take (i := 4) (v := .pointer (some ⟨w.heap.size, 4, none⟩)) rfl (by kernel_rfl) (by kernel_rfl) (by kernel_rfl) (fun _ _ _ h => h) (Or.inl ⟨by rfl, fun W hSw => by go_simp⟩) (by assumption) ?_
    change wpAnyH _ _ _ _ _ _ _ (Act.put _ (some 72) _) _
    simp only [Act.put, List.setIfInBounds_toArray, List.set_cons_zero, List.set_cons_succ]
    refine wpAnyH_take (i := 5) (v := .agg OW.toArray) rfl (by kernel_rfl) (by kernel_rfl) (by kernel_rfl) (fun _ _ _ h => h) (yieldsIf_load_mid (by rfl) _ _ rfl _ _ rfl _ _ (fun W h => HR4.out W h) hu22 rfl hi8) (by assumption) ?_
    change wpAnyH _ _ _ _ _ _ _ (Act.put _ (some 73) _) _
    simp only [Act.put, List.setIfInBounds_toArray, List.set_cons_zero, List.set_cons_succ]
    refine wpAnyH_take (i := 9) (v := .pointer (some ⟨w.heap.size, 2, none⟩)) rfl (by kernel_rfl) (by kernel_rfl) (by kernel_rfl) (fun _ _ _ h => h) (Or.inl ⟨by rfl, fun W hSw => by go_simp⟩) (by assumption) ?_
    change wpAnyH _ _ _ _ _ _ _ (Act.put _ (some 77) _) _
    simp only [Act.put, List.setIfInBounds_toArray, List.set_cons_zero, List.set_cons_succ]
    refine wpAnyH_take (i := 10) (v := .int .i64 v) rfl (by kernel_rfl) (by kernel_rfl) (by kernel_rfl) (fun _ _ _ h => h) (Or.inl ⟨by rfl, fun W hSw => by have h1 := HE2.out W hSw; go_simp⟩) (by assumption) ?_
    change wpAnyH _ _ _ _ _ _ _ (Act.put _ (some 78) _) _
    simp only [Act.put, List.setIfInBounds_toArray, List.set_cons_zero, List.set_cons_succ]
    refine wpAnyH_ready (rs := [2]) (by kernel_rfl) (by simp) ?_
    refine AllReadyH.cons rfl (fun K hK => ?_) AllReadyH.nil
    go_simp
    refine (HDA.out _).mono ?_
    rintro e wd1 ⟨rfl, hb⟩
    have HB1 := Lib.hid (bel_on HB0.out hb)
    refine hK.out _ _ (hHeld.keep hb) (fun hHeld1 => ?_)
    clear hK K hHeld hb HB0
    have hHeld := hHeld1
    clear hHeld1
    refine wpAnyH_take (i := 3) (v := .string ⟨S1.toArray⟩) rfl (by kernel_rfl) (by kernel_rfl) (by kernel_rfl) (fun _ _ _ h => h) (Or.inl ⟨by rfl, fun W hSw => by go_simp⟩) (by assumption) ?_
    change wpAnyH _ _ _ _ _ _ _ (Act.put _ (some 71) _) _
    simp only [Act.put, List.setIfInBounds_toArray, List.set_cons_zero, List.set_cons_succ]
    refine wpAnyH_ready (rs := [6]) (by kernel_rfl) (by simp) ?_
    refine AllReadyH.cons rfl (fun K hK => ?_) AllReadyH.nil
    go_simp
    refine (HDW.out _).mono ?_
    rintro e wd2 ⟨rfl, hb⟩
    have HB2 := Lib.hid (bel_on HB1.out hb)
    refine hK.out _ _ (hHeld.keep hb) (fun hHeld2 => ?_)
    clear hK K hHeld hb HB1
    have hHeld := hHeld2
    clear hHeld2
    refine wpAnyH_take (i := 7) (v := .string ⟨S2.toArray⟩) rfl (by kernel_rfl) (by kernel_rfl) (by kernel_rfl) (fun _ _ _ h => h) (Or.inl ⟨by rfl, fun W hSw => by go_simp⟩) (by assumption) ?_
    change wpAnyH _ _ _ _ _ _ _ (Act.put _ (some 75) _) _
    simp only [Act.put, List.setIfInBounds_toArray, List.set_cons_zero, List.set_cons_succ]
    refine wpAnyH_take (i := 8) (v := .string ⟨S3.toArray⟩) rfl (by kernel_rfl) (by kernel_rfl) (by kernel_rfl) (fun _ _ _ h => h) (Or.inl ⟨by rfl, fun W hSw => by go_simp⟩) (by assumption) ?_
    change wpAnyH _ _ _ _ _ _ _ (Act.put _ (some 76) _) _
    simp only [Act.put, List.setIfInBounds_toArray, List.set_cons_zero, List.set_cons_succ]
    refine wpAnyH_ready (rs := [11]) (by kernel_rfl) (by simp) ?_
    refine AllReadyH.cons rfl (fun K hK => ?_) AllReadyH.nil
    go_simp
    refine (HDV.out _).mono ?_
    rintro e wd3 ⟨rfl, hb⟩
    have HB3 := Lib.hid (bel_on HB2.out hb)
    refine hK.out _ _ (hHeld.keep hb) (fun hHeld3 => ?_)
    clear hK K hHeld hb HB2
    have hHeld := hHeld3
    clear hHeld3
    refine wpAnyH_take (i := 12) (v := .string ⟨LX.toArray⟩) rfl (by kernel_rfl) (by kernel_rfl) (by kernel_rfl) (fun _ _ _ h => h) (Or.inl ⟨by rfl, fun W hSw => by go_simp⟩) (by assumption) ?_
    change wpAnyH _ _ _ _ _ _ _ (Act.put _ (some 80) _) _
    simp only [Act.put, List.setIfInBounds_toArray, List.set_cons_zero, List.set_cons_succ]
    refine wpAnyH_take (i := 13) (v := .string ⟨LX.toArray⟩) rfl (by kernel_rfl) (by kernel_rfl) (by kernel_rfl) (fun _ _ _ h => h) (Or.inl ⟨by rfl, fun W hSw => by go_simp⟩) (by assumption) ?_
    change wpAnyH _ _ _ _ _ _ _ (Act.put _ (some 2) _) _
    simp only [Act.put, List.setIfInBounds_toArray, List.set_cons_zero, List.set_cons_succ]
    refine wpAnyH_done (by kernel_rfl) ?_ _
    go_wp2_with fail
    go_ret
    exact ⟨rfl, HB3.out⟩
  · skip
    obtain ⟨S1, hS1⟩ : ∃ S : List UInt8, [101, 118, 101, 110, 116, 32] ++ DK = S := ⟨_, rfl⟩
    have hl1 : S1.length ≤ 250 := by rw [← hS1, List.length_append]; (try simp only [List.length_cons, List.length_nil]); omega
    have hcat1 : ∀ w, (Op.stringOp .add ⟨#[101, 118, 101, 110, 116, 32]⟩ ⟨DK.toArray⟩).run Tryz.prog w = .ok (.string ⟨S1.toArray⟩) w := fun w => by
      rw [← hS1]
      exact cat_run [101, 118, 101, 110, 116, 32] DK w (by (try simp only [List.length_cons, List.length_nil]); omega)
    have hfin : LX = S1 := by
      obtain ⟨f0, f1, f2, f3, f4⟩ := HFI.out
      rw [HL.out, ← hS1]
      rw [word_other h, idx_other h]
      simp [eventB, f0]
    subst hfin
    clear HL HFI lk la lv ls lw hS1 hl1
    have q1 : (k == 1) = false := by rw [beq_eq_false_iff_ne]; omega
    have q2 : (k == 2) = false := by rw [beq_eq_false_iff_ne]; omega
    have q3 : (k == 3) = false := by rw [beq_eq_false_iff_ne]; omega
    have q4 : (k == 4) = false := by rw [beq_eq_false_iff_ne]; omega
    have q5 : (k == 5) = false := by rw [beq_eq_false_iff_ne]; omega
    have q6 : (k == 6) = false := by rw [beq_eq_false_iff_ne]; omega
    have q7 : (k == 7) = false := by rw [beq_eq_false_iff_ne]; omega
    clear h
    go_enter Tryz.func88, Tryz.ntmps88
    go_wp2_with fail
    refine (HDK.out _).mono ?_
    rintro e w1 ⟨rfl, hb⟩
    have HB1 := Lib.hid (bel_on HBX.out (by first | exact hb | (rw [HW0.out] at hb; exact hb)))
    clear hb
    go_wp2_with fail
    go_ret
    exact ⟨rfl, HB1.out⟩
end Go.Proofs.YtpojhplnhppcpaaGreatDoor
