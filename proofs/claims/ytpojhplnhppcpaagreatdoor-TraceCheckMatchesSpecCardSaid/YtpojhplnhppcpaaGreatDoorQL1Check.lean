/-
  The laws on Check and Replay: TraceCheckMatchesSpec, TraceReplayRefuses: the walks.
-/
import Derived.Test.YtpojhplnhppcpaaGreatDoorQS2
import Derived.Test.YtpojhplnhppcpaaGreatDoorQY6Check
namespace Go.Proofs.YtpojhplnhppcpaaGreatDoor
open Go.RowKit Go.Maps
def fewB (n k : Nat) : Bool := decide (n ≤ 12) && decide (k ≤ 120)
set_option maxRecDepth 100000 in
set_option maxHeartbeats 8000000 in
set_option linter.unusedSimpArgs false in
theorem few_any (A A2 : Option Addr) (n cap k cap2 : Nat) (w : World) :
    Calls Tryz.prog 16 #[.slice A n cap, .slice A2 k cap2] w fun e w' => e = .returned (.bool (fewB n k)) ∧ Below w.heap.size w w' := by
  have hF : fewB n k = (decide (n ≤ 12) && decide (k ≤ 120)) := rfl
  rw [hF]
  clear hF
  go_enter Tryz.func16, Tryz.ntmps16
  by_cases h1 : n ≤ 12
  · have h1' : (n : Int) ≤ 12 := by omega
    by_cases h2 : k ≤ 120
    · have h2' : (k : Int) ≤ 120 := by omega
      go_wp2_with fail
      go_ret
      exact ⟨by simp [h1, h2], .refl _ _⟩
    · have h2' : ¬ (k : Int) ≤ 120 := by omega
      go_wp2_with fail
      go_ret
      exact ⟨by simp [h1, h2], .refl _ _⟩
  · have h1' : ¬ (n : Int) ≤ 12 := by omega
    go_wp2_with fail
    go_ret
    exact ⟨by simp [h1], .refl _ _⟩
theorem fewB_t {n k : Nat} (h : fewB n k = true) : n ≤ 12 ∧ k ≤ 120 := by
  unfold fewB at h
  simpa using h
set_option maxRecDepth 100000 in
set_option maxHeartbeats 8000000 in
set_option linter.unusedSimpArgs false in
theorem lawTCheck (v lv : Value) (img : List (List Int × Int)) (l : List (List Int)) (w : World) (hi : ImgI img) (hs : Rd w v img.length (iv (flatI img))) (hl : EvI l) (hlv : Rd w lv l.length (iv l.flatten)) (hT : TabA w) :
    Calls Tryz.prog 3 #[v, lv] w fun e w' => e = .returned (.bool true) ∧ Below w.heap.size w w' := by
  have h8 : ∀ x ∈ img, x.1.length = 8 := fun x hx => (hi x hx).1
  have HS := Lib.hid (tsanity_any w hT)
  have HT := Lib.hid hT
  have HD := Lib.hid hs
  have HL := Lib.hid hlv
  have HEV := Lib.hid hl
  have H8 := Lib.hid h8
  obtain ⟨A, cap, rfl, _⟩ := hs
  obtain ⟨A2, cap2, rfl, _⟩ := hlv
  clear hi h8 hl hT
  go_enter Tryz.func3, Tryz.ntmps3
  go_wp2_with fail
  refine HS.out.mono ?_
  rintro e w1 ⟨rfl, hb⟩
  have HB1 := Lib.hid hb
  clear hb HS
  have HFW := Lib.hid (few_any A A2 img.length cap l.length cap2 w1)
  go_wp2_with fail
  refine HFW.out.mono ?_
  rintro e w2 ⟨rfl, hb⟩
  have HB2 := Lib.hid (bel_on HB1.out hb)
  clear hb HFW HB1
  cases hf : fewB img.length l.length with
  | false =>
    go_wp2_with fail
    go_ret
    exact ⟨rfl, HB2.out⟩
  | true =>
    obtain ⟨q1, q2⟩ := fewB_t hf
    have HCK := Lib.hid (tcheck_any img l _ _ w2 H8.out (by omega) (HD.out.below HB2.out) HEV.out (by omega) (HL.out.below HB2.out) (HT.out.keep HB2.out).tab)
    obtain ⟨c1, hc1⟩ : ∃ c1, (checkP img l).1 = c1 := ⟨_, rfl⟩
    obtain ⟨c2, hc2⟩ : ∃ c2, (checkP img l).2 = c2 := ⟨_, rfl⟩
    rw [hc1, hc2] at HCK
    clear q1 q2
    go_wp2_with fail
    refine HCK.out.mono ?_
    rintro e w3 ⟨rfl, hb⟩
    obtain ⟨q1, q2⟩ := fewB_t hf
    have HB3 := Lib.hid (bel_on HB2.out hb)
    have HRC := Lib.hid (rTCheck_any img l _ _ w3 H8.out (by omega) (HD.out.below HB3.out) HEV.out (by omega) (HL.out.below HB3.out))
    rw [hc1, hc2] at HRC
    clear hb HCK hc1 hc2 hf q1 q2
    go_wp2_with fail
    refine HRC.out.mono ?_
    rintro e w4 ⟨rfl, hb⟩
    have HB4 := Lib.hid (bel_on HB3.out hb)
    clear hb HRC
    go_wp2_with fail
    go_ret
    exact ⟨rfl, HB4.out⟩
end Go.Proofs.YtpojhplnhppcpaaGreatDoor
