/-
  What alumref04's Right answers.
-/
import Derived.Test.YtpojhplnhppcpaaGreatDoorQN25z
namespace Go.Proofs.YtpojhplnhppcpaaGreatDoor
open Go.RowKit Go.Maps
set_option maxRecDepth 100000 in
set_option maxHeartbeats 4000000 in
set_option linter.unusedSimpArgs false in
theorem right_any (img : List (List Int × Int)) (v : Value) (w : World) (h8 : ∀ x ∈ img, x.1.length = 8) (hn : img.length ≤ 5000) (hs : Rd w v img.length (iv (flatI img))) :
    Calls Tryz.prog 49 #[v] w fun e w' => e = .returned (.bool (rightB img)) ∧ Below w.heap.size w w' := by
  obtain ⟨A, cap, rfl, hcap, hcm, hrr⟩ := hs
  have HRR := Lib.hid hrr
  have H8 := Lib.hid h8
  obtain ⟨N, hN⟩ : ∃ N, img.length = N := ⟨_, rfl⟩
  have HN := Lib.hid hN
  rw [hN] at hcap hn ⊢
  obtain ⟨R, hR⟩ : ∃ R, rightB img = R := ⟨_, rfl⟩
  rw [hR]
  have HR := Lib.hid hR
  have HB0 : Hid (Below w.heap.size w w) := Lib.hid (Below.refl _ _)
  have HA0 : Hid (∀ x ∈ img.take 0, validB x.1 x.2 = true) := Lib.hid (by simp)
  have hu22 := Tryz.underlying66
  clear hrr h8 hN hR
  go_enter Tryz.func49, Tryz.ntmps49
  go_wp2_with fail
  go_loopw [3] (fun i wr => ∃ k : Nat, i = .int .i64 (k : Int) ∧ k ≤ N ∧ Hid (∀ x ∈ img.take k, validB x.1 x.2 = true) ∧ Hid (Below w.heap.size w wr)) (fun i _ => N - (intOf i).toNat)
  case atStart => exact ⟨0, rfl, by omega, HA0, HB0⟩
  case round =>
    clear HA0 HB0
    obtain ⟨k, rfl, hk, HAL, HB⟩ := hrel
    by_cases hlt : k < N
    · have hkc : k < img.length := by rw [HN.out]; exact hlt
      obtain ⟨bb, oo, rfl, hbl, hcells⟩ := HRR.out (by omega)
      obtain ⟨r1, r2⟩ := img_code H8.out (fun j u hj => (HB.out.cell (p := ⟨bb, oo + j, none⟩) hbl).trans (hcells j u hj)) hkc
      have h8k := H8.out _ (List.getElem_mem hkc)
      have htk := take_snoc' img k hkc
      have HBAD : Hid (validB img[k].1 img[k].2 = false → R = false) := Lib.hid fun h => by
        rw [← HR.out]
        unfold rightB
        rw [Bool.eq_false_iff]
        intro h2
        rw [Bool.and_eq_true] at h2
        rw [List.all_eq_true.1 h2.2 _ (List.getElem_mem hkc)] at h
        cases h
      have HNX : Hid (validB img[k].1 img[k].2 = true → ∀ x ∈ img.take (k + 1), validB x.1 x.2 = true) := Lib.hid fun h x hx => by
        rw [htk] at hx
        rcases List.mem_append.1 hx with h3 | h3
        · exact HAL.out x h3
        · simp only [List.mem_singleton] at h3
          rw [h3]
          exact h
      have HW := Lib.hid fun w => words_any img[k].1 w h8k
      have hval := validB_eq img[k].1 img[k].2
      have hi8 := size22' h8k
      generalize img[k].1 = ws at *
      generalize img[k].2 = c at *
      have hkI : (k : Int) < (N : Int) := by omega
      clear htk HAL h8k hcells
      obtain ⟨ok, hok⟩ : ∃ ok, ws.all okW = ok := ⟨_, rfl⟩
      rw [hok] at HW hval
      go_wp2_with ((with_reducible refine arm_range 66 bb (oo + k * 9) (iv ws) r1 _ hu22 rfl hi8 rfl _ rfl ?_ ?_); focus rfl)
      refine (HW.out _).mono ?_
      rintro e w2 ⟨rfl, hb2⟩
      have HB2 := Lib.hid (bel_on HB.out hb2)
      have r22 := cell_below hb2 r2
      clear hb2 r1 r2 HW
      cases ok with
      | false =>
        have HV := Lib.hid (HBAD.out (by rw [hval]; rfl))
        go_wp2_with fail
        go_ret
        exact ⟨by rw [HV.out]; rfl, HB2.out⟩
      | true =>
        by_cases hc0 : c < 0
        · have HV := Lib.hid (HBAD.out (by rw [hval]; unfold okC; simp; omega))
          go_wp2_with fail
          go_ret
          exact ⟨by rw [HV.out]; rfl, HB2.out⟩
        · by_cases hc1 : 1023 < c
          · have HV := Lib.hid (HBAD.out (by rw [hval]; unfold okC; simp; omega))
            go_wp2_with fail
            go_ret
            exact ⟨by rw [HV.out]; rfl, HB2.out⟩
          · have HV := Lib.hid (HNX.out (by rw [hval]; unfold okC; simp; omega))
            go_wp2_with fail
            go_roundw
            case rel => exact ⟨k + 1, by simp, by omega, HV, HB2⟩
            case measure => simp [intOf]; omega
    · obtain rfl : k = N := by omega
      have HRT : Hid (R = decide (1 ≤ k ∧ k ≤ 4096)) := Lib.hid (by
        rw [← HR.out]
        unfold rightB
        have h1 : (img.all fun x => validB x.1 x.2) = true := by
          rw [List.all_eq_true]
          have := HAL.out
          rw [List.take_of_length_le (by rw [HN.out]; exact Nat.le_refl _)] at this
          exact this
        rw [h1, HN.out, Bool.and_true])
      by_cases h1 : 1 ≤ k
      · by_cases h2 : k ≤ 4096
        · have h1I : (1 : Int) ≤ (k : Int) := by omega
          have h2I : (k : Int) ≤ 4096 := by omega
          go_wp2_with fail
          go_ret
          exact ⟨by rw [HRT.out]; simp [h1, h2], HB.out⟩
        · have h1I : (1 : Int) ≤ (k : Int) := by omega
          have h2I : ¬ (k : Int) ≤ 4096 := by omega
          go_wp2_with fail
          go_ret
          exact ⟨by rw [HRT.out]; simp [h1, h2], HB.out⟩
      · have h1I : ¬ (1 : Int) ≤ (k : Int) := by omega
        go_wp2_with fail
        go_ret
        exact ⟨by rw [HRT.out]; simp [h1], HB.out⟩
end Go.Proofs.YtpojhplnhppcpaaGreatDoor
