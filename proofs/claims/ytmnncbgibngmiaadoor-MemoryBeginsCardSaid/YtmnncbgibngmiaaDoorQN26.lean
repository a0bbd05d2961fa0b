/-
  MemoryBegins answers true: the walk.
-/
import Derived.Test.YtmnncbgibngmiaaDoorQN25
namespace Go.Proofs.YtmnncbgibngmiaaDoor
open Go.RowKit Go.Maps
set_option maxRecDepth 100000 in
set_option maxHeartbeats 8000000 in
set_option linter.unusedSimpArgs false in
theorem lawBegins (z : Int) (v : Value) (img : List (List Int × Int)) (w : World) (hz : I64 z) (hI : ImgI img) (hv : Rd w v img.length (iv (flatI img))) (hT : Tab w) :
    Calls Tryd.prog 3 #[.int .i64 z, v] w fun e w' => e = .returned (.bool true) ∧ Below w.heap.size w w' := by
  have HV := Lib.hid hv
  have HII := Lib.hid hI
  have HT := Lib.hid hT
  have h8 : ∀ x ∈ img, x.1.length = 8 := fun x hx => (hI x hx).1
  have H8 := Lib.hid h8
  obtain ⟨A, cap, rfl, hcap, hcm, _⟩ := hv
  have hcl : img.length ≤ 9223372036854775807 := by unfold maxLen at hcm; omega
  clear hT hI h8
  obtain ⟨N, hN⟩ : ∃ N, img.length = N := ⟨_, rfl⟩
  have HN := Lib.hid hN
  rw [hN] at hcap hcl ⊢
  clear hN
  by_cases hbig : 5000 < N
  · have hbI : (5000 : Int) < (N : Int) := by omega
    have HS := Lib.hid (sanity_any w HT.out)
    go_enter Tryd.func3, Tryd.ntmps3
    go_wp2_with fail
    refine HS.out.mono ?_
    rintro e w1 ⟨rfl, hb⟩
    have HB := Lib.hid hb
    clear hb
    go_wp2_with fail
    go_ret
    exact ⟨rfl, HB.out⟩
  · have hbI : ¬ (5000 : Int) < (N : Int) := by omega
    have hle : img.length ≤ 5000 := by rw [HN.out]; omega
    have HLE := Lib.hid hle
    have HFR := Lib.hid fun W (hb : Below w.heap.size w W) => from_any img _ W H8.out hle (HV.out.below hb)
    have HRI := Lib.hid fun W (hb : Below w.heap.size w W) => right_any img _ W H8.out hle (HV.out.below hb)
    have HSI := Lib.hid fun W (hb : Below w.heap.size w W) u hu => sameImage_any img u _ W HII.out hle hu (HV.out.below hb)
    have HFO := Lib.hid fun h => fromP_ok H8.out h
    rw [HN.out] at HFR HRI HSI
    clear hle
    go_enter Tryd.func3, Tryd.ntmps3
    go_wp2_with fail
    refine (new_any z w).mono ?_
    rintro e w1 ⟨hp, hb⟩
    have HB1 := Lib.hid hb
    clear hb
    rcases hp with ⟨n, rfl, hn1, hn2, p, rfl, hr⟩ | ⟨hbad, rfl⟩
    · have hn1I : (1 : Int) ≤ (n : Int) := by omega
      have hn2I : (n : Int) ≤ 4096 := by omega
      go_wp2_with fail
      refine (HFR.out w1 HB1.out).mono ?_
      rintro e w2 ⟨hp, hb⟩
      have HB2 := Lib.hid (bel_on HB1.out hb)
      have HA2 := Lib.hid (hr.below hb)
      clear hr
      clear hb HFR
      rcases hp with ⟨hrt, p2, rfl, hr2⟩ | ⟨hrt, rfl⟩
      · have hri := HRI.out w2 HB2.out
        rw [hrt] at hri
        have HRR := Lib.hid hri
        have HM2 := Lib.hid hr2
        have HOK := Lib.hid (HFO.out hrt)
        clear hr2
        clear hri hrt HRI HFO
        go_wp2_with fail
        refine HRR.out.mono ?_
        rintro e w3 ⟨rfl, hb⟩
        have HB3 := Lib.hid (bel_on HB2.out hb)
        have HA3 := Lib.hid (HA2.out.below hb)
        have HM3 := Lib.hid (HM2.out.below hb)
        clear hb HRR
        have hli := lines_any p (newP n) _ w3 HA3.out
        rw [show (newP n).L.length = n from List.length_replicate ..] at hli
        have HLI := Lib.hid hli
        have HEV := Lib.hid (events_any p (newP n) _ w3 (by simp [newP]) HA3.out)
        clear hli
        go_wp2_with (go_at_call 13; refine HLI.out.mono ?_; rintro e w' ⟨rfl, hw'⟩; obtain rfl := hw'.symm)
        refine HEV.out.mono ?_
        rintro e w4 ⟨ev', rfl, hs4, _, hb⟩
        obtain ⟨A4, cap4, hev4, _⟩ := hs4.shape
        have he0 : (newP n).ev.length = 0 := rfl
        rw [he0] at hev4
        subst hev4
        have HB4 := Lib.hid (bel_on HB3.out hb)
        have HM4 := Lib.hid (HM3.out.below hb)
        clear hb hs4 HEV HLI he0
        have HS := Lib.hid (sanity_any w4 (HT.out.keep HB4.out))
        go_wp2_with fail
        refine HS.out.mono ?_
        rintro e w5 ⟨rfl, hb⟩
        have HB5 := Lib.hid (bel_on HB4.out hb)
        have HM5 := Lib.hid (HM4.out.below hb)
        clear hb HS
        go_wp2_with fail
        have him := image_any p2 (fromP img) _ w5 HOK.out.1.few HM5.out
        rw [flatI_from, HOK.out.2.2, HN.out] at him
        refine him.mono ?_
        rintro e w6 ⟨im, rfl, hs6, _, hb⟩
        have HB6 := Lib.hid (bel_on HB5.out hb)
        have HM6 := Lib.hid (HM5.out.below hb)
        have HSM := Lib.hid (HSI.out w6 HB6.out im (Rd.of_sl hs6))
        clear hb hs6 him
        go_wp2_with fail
        refine HSM.out.mono ?_
        rintro e w7 ⟨rfl, hb⟩
        have HB7 := Lib.hid (bel_on HB6.out hb)
        have HM7 := Lib.hid (HM6.out.below hb)
        clear hb HSM
        go_wp2_with fail
        refine (events_any p2 (fromP img) _ w7 (by simp [fromP]) HM7.out).mono ?_
        rintro e w8 ⟨ev', rfl, hs8, _, hb⟩
        obtain ⟨A8, cap8, hev8, _⟩ := hs8.shape
        have he0 : (fromP img).ev.length = 0 := rfl
        rw [he0] at hev8
        subst hev8
        have HB8 := Lib.hid (bel_on HB7.out hb)
        clear hb hs8 he0
        go_wp2_with fail
        go_ret
        exact ⟨rfl, HB8.out⟩
      · have hri := HRI.out w2 HB2.out
        rw [hrt] at hri
        have HRR := Lib.hid hri
        clear hri hrt HRI HFO
        go_wp2_with fail
        refine HRR.out.mono ?_
        rintro e w3 ⟨rfl, hb⟩
        have HB3 := Lib.hid (bel_on HB2.out hb)
        have HA3 := Lib.hid (HA2.out.below hb)
        clear hb HRR
        have hli := lines_any p (newP n) _ w3 HA3.out
        rw [show (newP n).L.length = n from List.length_replicate ..] at hli
        have HLI := Lib.hid hli
        have HEV := Lib.hid (events_any p (newP n) _ w3 (by simp [newP]) HA3.out)
        clear hli
        go_wp2_with (go_at_call 13; refine HLI.out.mono ?_; rintro e w' ⟨rfl, hw'⟩; obtain rfl := hw'.symm)
        refine HEV.out.mono ?_
        rintro e w4 ⟨ev', rfl, hs4, _, hb⟩
        obtain ⟨A4, cap4, hev4, _⟩ := hs4.shape
        have he0 : (newP n).ev.length = 0 := rfl
        rw [he0] at hev4
        subst hev4
        have HB4 := Lib.hid (bel_on HB3.out hb)
        clear hb hs4 HEV HLI he0
        have HS := Lib.hid (sanity_any w4 (HT.out.keep HB4.out))
        go_wp2_with fail
        refine HS.out.mono ?_
        rintro e w5 ⟨rfl, hb⟩
        have HB5 := Lib.hid (bel_on HB4.out hb)
        clear hb HS
        go_wp2_with fail
        go_ret
        exact ⟨rfl, HB5.out⟩
    · by_cases hz1 : 1 ≤ z
      · have hz3 : ¬ z ≤ 4096 := by omega
        go_wp2_with fail
        refine (HFR.out w1 HB1.out).mono ?_
        rintro e w2 ⟨hp, hb⟩
        have HB2 := Lib.hid (bel_on HB1.out hb)
        clear hb HFR
        rcases hp with ⟨hrt, p2, rfl, hr2⟩ | ⟨hrt, rfl⟩
        · have hri := HRI.out w2 HB2.out
          rw [hrt] at hri
          have HRR := Lib.hid hri
          have HM2 := Lib.hid hr2
          have HOK := Lib.hid (HFO.out hrt)
          clear hr2
          clear hri hrt HRI HFO
          go_wp2_with fail
          refine HRR.out.mono ?_
          rintro e w3 ⟨rfl, hb⟩
          have HB3 := Lib.hid (bel_on HB2.out hb)
          have HM3 := Lib.hid (HM2.out.below hb)
          clear hb HRR
          have HS := Lib.hid (sanity_any w3 (HT.out.keep HB3.out))
          go_wp2_with fail
          refine HS.out.mono ?_
          rintro e w5 ⟨rfl, hb⟩
          have HB5 := Lib.hid (bel_on HB3.out hb)
          have HM5 := Lib.hid (HM3.out.below hb)
          clear hb HS
          go_wp2_with fail
          have him := image_any p2 (fromP img) _ w5 HOK.out.1.few HM5.out
          rw [flatI_from, HOK.out.2.2, HN.out] at him
          refine him.mono ?_
          rintro e w6 ⟨im, rfl, hs6, _, hb⟩
          have HB6 := Lib.hid (bel_on HB5.out hb)
          have HM6 := Lib.hid (HM5.out.below hb)
          have HSM := Lib.hid (HSI.out w6 HB6.out im (Rd.of_sl hs6))
          clear hb hs6 him
          go_wp2_with fail
          refine HSM.out.mono ?_
          rintro e w7 ⟨rfl, hb⟩
          have HB7 := Lib.hid (bel_on HB6.out hb)
          have HM7 := Lib.hid (HM6.out.below hb)
          clear hb HSM
          go_wp2_with fail
          refine (events_any p2 (fromP img) _ w7 (by simp [fromP]) HM7.out).mono ?_
          rintro e w8 ⟨ev', rfl, hs8, _, hb⟩
          obtain ⟨A8, cap8, hev8, _⟩ := hs8.shape
          have he0 : (fromP img).ev.length = 0 := rfl
          rw [he0] at hev8
          subst hev8
          have HB8 := Lib.hid (bel_on HB7.out hb)
          clear hb hs8 he0
          go_wp2_with fail
          go_ret
          exact ⟨rfl, HB8.out⟩
        · have hri := HRI.out w2 HB2.out
          rw [hrt] at hri
          have HRR := Lib.hid hri
          clear hri hrt HRI HFO
          go_wp2_with fail
          refine HRR.out.mono ?_
          rintro e w3 ⟨rfl, hb⟩
          have HB3 := Lib.hid (bel_on HB2.out hb)
          clear hb HRR
          have HS := Lib.hid (sanity_any w3 (HT.out.keep HB3.out))
          go_wp2_with fail
          refine HS.out.mono ?_
          rintro e w5 ⟨rfl, hb⟩
          have HB5 := Lib.hid (bel_on HB3.out hb)
          clear hb HS
          go_wp2_with fail
          go_ret
          exact ⟨rfl, HB5.out⟩
      · skip
        go_wp2_with fail
        refine (HFR.out w1 HB1.out).mono ?_
        rintro e w2 ⟨hp, hb⟩
        have HB2 := Lib.hid (bel_on HB1.out hb)
        clear hb HFR
        rcases hp with ⟨hrt, p2, rfl, hr2⟩ | ⟨hrt, rfl⟩
        · have hri := HRI.out w2 HB2.out
          rw [hrt] at hri
          have HRR := Lib.hid hri
          have HM2 := Lib.hid hr2
          have HOK := Lib.hid (HFO.out hrt)
          clear hr2
          clear hri hrt HRI HFO
          go_wp2_with fail
          refine HRR.out.mono ?_
          rintro e w3 ⟨rfl, hb⟩
          have HB3 := Lib.hid (bel_on HB2.out hb)
          have HM3 := Lib.hid (HM2.out.below hb)
          clear hb HRR
          have HS := Lib.hid (sanity_any w3 (HT.out.keep HB3.out))
          go_wp2_with fail
          refine HS.out.mono ?_
          rintro e w5 ⟨rfl, hb⟩
          have HB5 := Lib.hid (bel_on HB3.out hb)
          have HM5 := Lib.hid (HM3.out.below hb)
          clear hb HS
          go_wp2_with fail
          have him := image_any p2 (fromP img) _ w5 HOK.out.1.few HM5.out
          rw [flatI_from, HOK.out.2.2, HN.out] at him
          refine him.mono ?_
          rintro e w6 ⟨im, rfl, hs6, _, hb⟩
          have HB6 := Lib.hid (bel_on HB5.out hb)
          have HM6 := Lib.hid (HM5.out.below hb)
          have HSM := Lib.hid (HSI.out w6 HB6.out im (Rd.of_sl hs6))
          clear hb hs6 him
          go_wp2_with fail
          refine HSM.out.mono ?_
          rintro e w7 ⟨rfl, hb⟩
          have HB7 := Lib.hid (bel_on HB6.out hb)
          have HM7 := Lib.hid (HM6.out.below hb)
          clear hb HSM
          go_wp2_with fail
          refine (events_any p2 (fromP img) _ w7 (by simp [fromP]) HM7.out).mono ?_
          rintro e w8 ⟨ev', rfl, hs8, _, hb⟩
          obtain ⟨A8, cap8, hev8, _⟩ := hs8.shape
          have he0 : (fromP img).ev.length = 0 := rfl
          rw [he0] at hev8
          subst hev8
          have HB8 := Lib.hid (bel_on HB7.out hb)
          clear hb hs8 he0
          go_wp2_with fail
          go_ret
          exact ⟨rfl, HB8.out⟩
        · have hri := HRI.out w2 HB2.out
          rw [hrt] at hri
          have HRR := Lib.hid hri
          clear hri hrt HRI HFO
          go_wp2_with fail
          refine HRR.out.mono ?_
          rintro e w3 ⟨rfl, hb⟩
          have HB3 := Lib.hid (bel_on HB2.out hb)
          clear hb HRR
          have HS := Lib.hid (sanity_any w3 (HT.out.keep HB3.out))
          go_wp2_with fail
          refine HS.out.mono ?_
          rintro e w5 ⟨rfl, hb⟩
          have HB5 := Lib.hid (bel_on HB3.out hb)
          clear hb HS
          go_wp2_with fail
          go_ret
          exact ⟨rfl, HB5.out⟩
end Go.Proofs.YtmnncbgibngmiaaDoor
