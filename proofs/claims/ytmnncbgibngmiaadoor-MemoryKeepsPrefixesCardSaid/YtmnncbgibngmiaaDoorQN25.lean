/-
  What alumref04's Right and SameImage do.
-/
import Derived.Test.YtmnncbgibngmiaaDoorQN24
namespace Go.Proofs.YtmnncbgibngmiaaDoor
open Go.RowKit Go.Maps
/-- Words and codes that are numbers. -/
def ImgI (img : List (List Int × Int)) : Prop := ∀ x ∈ img, x.1.length = 8 ∧ (∀ z ∈ x.1, I64 z) ∧ I64 x.2
theorem img_code {w : World} {d o : Nat} {img : List (List Int × Int)} (h8 : ∀ x ∈ img, x.1.length = 8) (hs : ∀ j u, (iv (flatI img))[j]? = some u → w.cell? ⟨d, o + j, none⟩ = some u) {k : Nat} (hk : k < img.length) :
    w.rangeAt d (o + k * 9) (iv img[k].1) ∧ w.cell? ⟨d, o + k * 9 + 8, none⟩ = some (.int .i64 img[k].2) := by
  have h := imgLine h8 hs hk
  have h8k := h8 _ (List.getElem_mem hk)
  constructor
  · intro j v hv
    refine h j v ?_
    unfold iv at hv ⊢
    rw [List.map_append, List.getElem?_append_left (List.getElem?_eq_some_iff.1 hv).1]
    exact hv
  · refine h 8 _ ?_
    unfold iv
    rw [List.getElem?_map, List.getElem?_append_right (by omega), h8k]
    rfl
set_option maxRecDepth 100000 in
set_option maxHeartbeats 4000000 in
set_option linter.unusedSimpArgs false in
theorem right_any (img : List (List Int × Int)) (v : Value) (w : World) (h8 : ∀ x ∈ img, x.1.length = 8) (hn : img.length ≤ 5000) (hs : Rd w v img.length (iv (flatI img))) :
    Calls Tryd.prog 12 #[v] w fun e w' => e = .returned (.bool (rightB img)) ∧ Below w.heap.size w w' := by
  obtain ⟨A, cap, rfl, hcap, hcm, hrr⟩ := hs
  have HRR := Lib.hid hrr
  have H8 := Lib.hid h8
  obtain ⟨N, hN⟩ : ∃ N, img.length = N := ⟨_, rfl⟩
  have HN := Lib.hid hN
  rw [hN] at hcap hn ⊢
  obtain ⟨R, hR⟩ : ∃ R, rightB img = R := ⟨_, rfl⟩
  rw [hR]
  have HR := Lib.hid hR
  have HB0 : Hid (Below w.heap.size w w) := Lib.hid (Below.refl _ _)
  have HA0 : Hid (∀ x ∈ img.take 0, validB x.1 x.2 = true) := Lib.hid (by simp)
  have hu22 := Tryd.underlying47
  clear hrr h8 hN hR
  go_enter Tryd.func12, Tryd.ntmps12
  go_wp2_with fail
  go_loopw [3] (fun i wr => ∃ k : Nat, i = .int .i64 (k : Int) ∧ k ≤ N ∧ Hid (∀ x ∈ img.take k, validB x.1 x.2 = true) ∧ Hid (Below w.heap.size w wr)) (fun i _ => N - (intOf i).toNat)
  case atStart => exact ⟨0, rfl, by omega, HA0, HB0⟩
  case round =>
    clear HA0 HB0
    obtain ⟨k, rfl, hk, HAL, HB⟩ := hrel
    by_cases hlt : k < N
    · have hkc : k < img.length := by rw [HN.out]; exact hlt
      obtain ⟨bb, oo, rfl, hbl, hcells⟩ := HRR.out (by omega)
      obtain ⟨r1, r2⟩ := img_code H8.out (fun j u hj => (HB.out.cell (p := ⟨bb, oo + j, none⟩) hbl).trans (hcells j u hj)) hkc
      have h8k := H8.out _ (List.getElem_mem hkc)
      have htk := take_snoc' img k hkc
      have HBAD : Hid (validB img[k].1 img[k].2 = false → R = false) := Lib.hid fun h => by
        rw [← HR.out]
        unfold rightB
        rw [Bool.eq_false_iff]
        intro h2
        rw [Bool.and_eq_true] at h2
        rw [List.all_eq_true.1 h2.2 _ (List.getElem_mem hkc)] at h
        cases h
      have HNX : Hid (validB img[k].1 img[k].2 = true → ∀ x ∈ img.take (k + 1), validB x.1 x.2 = true) := Lib.hid fun h x hx => by
        rw [htk] at hx
        rcases List.mem_append.1 hx with h3 | h3
        · exact HAL.out x h3
        · simp only [List.mem_singleton] at h3
          rw [h3]
          exact h
      have HW := Lib.hid fun w => words_any img[k].1 w h8k
      have hval := validB_eq img[k].1 img[k].2
      have hi8 := size22' h8k
      generalize img[k].1 = ws at *
      generalize img[k].2 = c at *
      have hkI : (k : Int) < (N : Int) := by omega
      clear htk HAL h8k hcells
      obtain ⟨ok, hok⟩ : ∃ ok, ws.all okW = ok := ⟨_, rfl⟩
      rw [hok] at HW hval
      go_wp2_with ((with_reducible refine arm_range 47 bb (oo + k * 9) (iv ws) r1 _ hu22 rfl hi8 rfl _ rfl ?_ ?_); focus rfl)
      refine (HW.out _).mono ?_
      rintro e w2 ⟨rfl, hb2⟩
      have HB2 := Lib.hid (bel_on HB.out hb2)
      have r22 := cell_below hb2 r2
      clear hb2 r1 r2 HW
      cases ok with
      | false =>
        have HV := Lib.hid (HBAD.out (by rw [hval]; rfl))
        go_wp2_with fail
        go_ret
        exact ⟨by rw [HV.out]; rfl, HB2.out⟩
      | true =>
        by_cases hc0 : c < 0
        · have HV := Lib.hid (HBAD.out (by rw [hval]; unfold okC; simp; omega))
          go_wp2_with fail
          go_ret
          exact ⟨by rw [HV.out]; rfl, HB2.out⟩
        · by_cases hc1 : 1023 < c
          · have HV := Lib.hid (HBAD.out (by rw [hval]; unfold okC; simp; omega))
            go_wp2_with fail
            go_ret
            exact ⟨by rw [HV.out]; rfl, HB2.out⟩
          · have HV := Lib.hid (HNX.out (by rw [hval]; unfold okC; simp; omega))
            go_wp2_with fail
            go_roundw
            case rel => exact ⟨k + 1, by simp, by omega, HV, HB2⟩
            case measure => simp [intOf]; omega
    · obtain rfl : k = N := by omega
      have HRT : Hid (R = decide (1 ≤ k ∧ k ≤ 4096)) := Lib.hid (by
        rw [← HR.out]
        unfold rightB
        have h1 : (img.all fun x => validB x.1 x.2) = true := by
          rw [List.all_eq_true]
          have := HAL.out
          rw [List.take_of_length_le (by rw [HN.out]; exact Nat.le_refl _)] at this
          exact this
        rw [h1, HN.out, Bool.and_true])
      by_cases h1 : 1 ≤ k
      · by_cases h2 : k ≤ 4096
        · have h1I : (1 : Int) ≤ (k : Int) := by omega
          have h2I : (k : Int) ≤ 4096 := by omega
          go_wp2_with fail
          go_ret
          exact ⟨by rw [HRT.out]; simp [h1, h2], HB.out⟩
        · have h1I : (1 : Int) ≤ (k : Int) := by omega
          have h2I : ¬ (k : Int) ≤ 4096 := by omega
          go_wp2_with fail
          go_ret
          exact ⟨by rw [HRT.out]; simp [h1, h2], HB.out⟩
      · have h1I : ¬ (1 : Int) ≤ (k : Int) := by omega
        go_wp2_with fail
        go_ret
        exact ⟨by rw [HRT.out]; simp [h1], HB.out⟩
set_option maxRecDepth 100000 in
set_option maxHeartbeats 4000000 in
set_option linter.unusedSimpArgs false in
/-- Of two images that are the same. -/
theorem sameImage_any (img : List (List Int × Int)) (v u : Value) (w : World) (hI : ImgI img) (hn : img.length ≤ 5000) (hv : Rd w v img.length (iv (flatI img))) (hu : Rd w u img.length (iv (flatI img))) :
    Calls Tryd.prog 15 #[v, u] w fun e w' => e = .returned (.bool true) ∧ Below w.heap.size w w' := by
  obtain ⟨A, cap, rfl, hcap, hcm, hrr⟩ := hv
  obtain ⟨A2, cap2, rfl, hcap2, hcm2, hrr2⟩ := hu
  have HRR := Lib.hid hrr
  have HRR2 := Lib.hid hrr2
  have HII := Lib.hid hI
  obtain ⟨N, hN⟩ : ∃ N, img.length = N := ⟨_, rfl⟩
  have HN := Lib.hid hN
  rw [hN] at hcap hcap2 hn ⊢
  have HB0 : Hid (Below w.heap.size w w) := Lib.hid (Below.refl _ _)
  have hu68 := Tryd.underlying68
  clear hrr hrr2 hI hN
  go_enter Tryd.func15, Tryd.ntmps15
  go_wp2_with fail
  go_loopw [5] (fun i wr => ∃ k : Nat, i = .int .i64 (k : Int) ∧ k ≤ N ∧ Hid (Below w.heap.size w wr)) (fun i _ => N - (intOf i).toNat)
  case atStart => exact ⟨0, rfl, by omega, HB0⟩
  case round =>
    clear HB0
    obtain ⟨k, rfl, hk, HB⟩ := hrel
    by_cases hlt : k < N
    · have hkc : k < img.length := by rw [HN.out]; exact hlt
      obtain ⟨bb, oo, rfl, hbl, hcells⟩ := HRR.out (by omega)
      obtain ⟨bb2, oo2, rfl, hbl2, hcells2⟩ := HRR2.out (by omega)
      have h8 : ∀ x ∈ img, x.1.length = 8 := fun x hx => (HII.out x hx).1
      have r1 : wr.drew.rangeAt bb (oo + k * 9) _ := imgLine h8 (fun j u hj => (HB.out.cell (p := ⟨bb, oo + j, none⟩) hbl).trans (hcells j u hj)) hkc
      have r2 : wr.drew.rangeAt bb2 (oo2 + k * 9) _ := imgLine h8 (fun j u hj => (HB.out.cell (p := ⟨bb2, oo2 + j, none⟩) hbl2).trans (hcells2 j u hj)) hkc
      obtain ⟨q1, q2, q3⟩ := HII.out _ (List.getElem_mem hkc)
      have HEQ := Lib.hid fun w => eq_line68 img[k].1 img[k].2 q1 q2 q3 w
      have hl9 : (iv (img[k].1 ++ [img[k].2])).length = 9 := by rw [iv_len, List.length_append, q1]; rfl
      have hi9 : (Tryd.prog.info? 68).map (·.size) = some (iv (img[k].1 ++ [img[k].2])).length := by rw [size68, hl9]
      generalize img[k].1 ++ [img[k].2] = L at *
      have hkI : (k : Int) < (N : Int) := by omega
      have HBD := Lib.hid HB.out.drew
      have heq := HEQ.out
      clear h8 hcells hcells2 q1 q2 q3 hl9 HEQ
      go_wp2_with fail
      refine wp_region_held_drew (S := fun W => W.rangeAt bb (oo + k * 9) (iv L) ∧ W.rangeAt bb2 (oo2 + k * 9) (iv L)) (by kernel_rfl) ⟨r1, r2⟩ (fun hHeld => ?_)
      generalize wr.drew = w2 at *
      refine wpAnyH_take (i := 0) (v := .slice (some ⟨bb, oo, none⟩) N cap) rfl (by kernel_rfl) (by kernel_rfl) (by kernel_rfl) (fun _ _ _ h => h) (Or.inl ⟨by rfl, fun w hSw => by obtain ⟨h1, h2⟩ := hSw; go_simp⟩) (by assumption) ?_
      change wpAnyH _ _ _ _ _ _ _ (Act.put _ (some 17) _) _
      simp only [Act.put, List.setIfInBounds_toArray, List.set_cons_zero, List.set_cons_succ]
      refine wpAnyH_take (i := 1) (v := .int .i64 (k : Int)) rfl (by kernel_rfl) (by kernel_rfl) (by kernel_rfl) (fun _ _ _ h => h) (Or.inl ⟨by rfl, fun w hSw => by obtain ⟨h1, h2⟩ := hSw; go_simp⟩) (by assumption) ?_
      change wpAnyH _ _ _ _ _ _ _ (Act.put _ (some 18) _) _
      simp only [Act.put, List.setIfInBounds_toArray, List.set_cons_zero, List.set_cons_succ]
      refine wpAnyH_take (i := 2) (v := .pointer (some ⟨bb, oo + k * 9, none⟩)) rfl (by kernel_rfl) (by kernel_rfl) (by kernel_rfl) (fun _ _ _ h => h) (Or.inl ⟨by rfl, fun w hSw => by obtain ⟨h1, h2⟩ := hSw; go_simp⟩) (by assumption) ?_
      change wpAnyH _ _ _ _ _ _ _ (Act.put _ (some 19) _) _
      simp only [Act.put, List.setIfInBounds_toArray, List.set_cons_zero, List.set_cons_succ]
      refine wpAnyH_take (i := 3) (v := .agg (iv L).toArray) rfl (by kernel_rfl) (by kernel_rfl) (by kernel_rfl) (fun _ _ _ h => h) (yieldsIf_load_mid (by rfl) _ _ rfl _ _ rfl _ _ (fun w h => h.1) hu68 rfl hi9) (by assumption) ?_
      change wpAnyH _ _ _ _ _ _ _ (Act.put _ (some 20) _) _
      simp only [Act.put, List.setIfInBounds_toArray, List.set_cons_zero, List.set_cons_succ]
      refine wpAnyH_take (i := 4) (v := .slice (some ⟨bb2, oo2, none⟩) N cap2) rfl (by kernel_rfl) (by kernel_rfl) (by kernel_rfl) (fun _ _ _ h => h) (Or.inl ⟨by rfl, fun w hSw => by obtain ⟨h1, h2⟩ := hSw; go_simp⟩) (by assumption) ?_
      change wpAnyH _ _ _ _ _ _ _ (Act.put _ (some 21) _) _
      simp only [Act.put, List.setIfInBounds_toArray, List.set_cons_zero, List.set_cons_succ]
      refine wpAnyH_take (i := 5) (v := .int .i64 (k : Int)) rfl (by kernel_rfl) (by kernel_rfl) (by kernel_rfl) (fun _ _ _ h => h) (Or.inl ⟨by rfl, fun w hSw => by obtain ⟨h1, h2⟩ := hSw; go_simp⟩) (by assumption) ?_
      change wpAnyH _ _ _ _ _ _ _ (Act.put _ (some 22) _) _
      simp only [Act.put, List.setIfInBounds_toArray, List.set_cons_zero, List.set_cons_succ]
      refine wpAnyH_take (i := 6) (v := .pointer (some ⟨bb2, oo2 + k * 9, none⟩)) rfl (by kernel_rfl) (by kernel_rfl) (by kernel_rfl) (fun _ _ _ h => h) (Or.inl ⟨by rfl, fun w hSw => by obtain ⟨h1, h2⟩ := hSw; go_simp⟩) (by assumption) ?_
      change wpAnyH _ _ _ _ _ _ _ (Act.put _ (some 23) _) _
      simp only [Act.put, List.setIfInBounds_toArray, List.set_cons_zero, List.set_cons_succ]
      refine wpAnyH_take (i := 7) (v := .agg (iv L).toArray) rfl (by kernel_rfl) (by kernel_rfl) (by kernel_rfl) (fun _ _ _ h => h) (yieldsIf_load_mid (by rfl) _ _ rfl _ _ rfl _ _ (fun w h => h.2) hu68 rfl hi9) (by assumption) ?_
      change wpAnyH _ _ _ _ _ _ _ (Act.put _ (some 24) _) _
      simp only [Act.put, List.setIfInBounds_toArray, List.set_cons_zero, List.set_cons_succ]
      refine wpAnyH_take (i := 8) (v := .bool false) rfl (by kernel_rfl) (by kernel_rfl) (by kernel_rfl) (fun _ _ _ h => h) (Or.inl ⟨by rfl, fun w hSw => by obtain ⟨h1, h2⟩ := hSw; go_simp⟩) (by assumption) ?_
      change wpAnyH _ _ _ _ _ _ _ (Act.put _ (some 25) _) _
      simp only [Act.put, List.setIfInBounds_toArray, List.set_cons_zero, List.set_cons_succ]
      refine wpAnyH_done (by kernel_rfl) ?_ _
      go_wp2_with fail
      go_roundw
      case rel => exact ⟨k + 1, by simp, by omega, HBD⟩
      case measure => simp [intOf]; omega
    · obtain rfl : k = N := by omega
      go_wp2_with fail
      go_ret
      exact ⟨rfl, HB.out⟩
end Go.Proofs.YtmnncbgibngmiaaDoor
