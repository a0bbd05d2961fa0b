/-
  TraceParseMatchesSpec: the walk.
-/
import Derived.Test.YtpojhplnhppcpaaGreatDoorQK10Parse
namespace Go.Proofs.YtpojhplnhppcpaaGreatDoor
open Go.RowKit Go.Maps
set_option maxRecDepth 100000 in
set_option maxHeartbeats 8000000 in
set_option linter.unusedSimpArgs false in
theorem lawParse (b : ByteArray) (w : World) (_ : b.size ≤ maxLen) (hT : TabA w) :
    Calls Tryz.prog 10 #[.string b] w fun e w' => e = .returned (.bool true) ∧ Below w.heap.size w w' := by
  obtain ⟨s, rfl⟩ : ∃ s : List UInt8, b = ⟨s.toArray⟩ := ⟨b.data.toList, by cases b; simp⟩
  have HS := Lib.hid (tsanity_any w hT)
  have HT := Lib.hid hT
  have HPR := Lib.hid (parse_ref s)
  have HPB := Lib.hid (print_parse (s := s))
  have HPL := Lib.hid (parse_len (s := s))
  clear hT
  go_enter Tryz.func10, Tryz.ntmps10
  go_wp2_with fail
  refine HS.out.mono ?_
  rintro e w1 ⟨rfl, hb⟩
  have HB1 := Lib.hid hb
  clear hb HS
  by_cases hbig : (3000 : Int) < (s.length : Int)
  case pos =>
    go_wp2_with fail
    go_ret
    exact ⟨rfl, HB1.out⟩
  case neg =>
    have HN : Hid (s.length ≤ 3000) := Lib.hid (by omega)
    have HPA := Lib.hid (parse_any s w1 (by omega) (HT.out.keep HB1.out).txt (HT.out.keep HB1.out).err)
    have HPD := Lib.hid fun w2 => dparse_any s w2 (by omega)
    unfold strV at HPA HPD
    go_wp2_with fail
    refine HPA.out.mono ?_
    rintro e w2 ⟨hp, hb⟩
    have HB2 := Lib.hid (bel_on HB1.out hb)
    clear hb HPA
    rcases hp with ⟨h0, rfl⟩ | ⟨h0, u, rfl, hu, hue, _⟩
    · have hr : (refP s).2 = false := by
        cases hq : (refP s).2 with
        | false => rfl
        | true => exact absurd (HPR.out.2.2 hq) h0
      have HR := Lib.hid hr
      clear h0 hr
      go_wp2_with fail
      refine (HPD.out _).mono ?_
      rintro e w3 ⟨hp, hb⟩
      have HB3 := Lib.hid (bel_on HB2.out hb)
      rcases hp with ⟨_, rfl⟩ | ⟨h1, _⟩
      case inr => rw [HR.out] at h1; cases h1
      have hn : (refP s).1.length = (parseT s).1.length := by rw [HPR.out.1]
      rw [hn]
      have HSE := Lib.hid (sameEvents_any [] (.slice none 0 0) (.slice none 0 0) w3 (fun x hx => by cases hx) (by simp) (Sl.nil w3 68 12).rdK (Sl.nil w3 68 12).rdK)
      generalize (parseT s).1.length = n at *
      clear hn hb HPD
      go_wp2_with fail
      refine HSE.out.mono ?_
      rintro e w4 ⟨rfl, hb⟩
      have HB4 := Lib.hid (bel_on HB3.out hb)
      clear hb HSE
      go_wp2_with fail
      go_ret
      exact ⟨by first | rfl | simp, HB4.out⟩
    · have hr : (refP s).2 = true := HPR.out.2.1 h0
      have HR := Lib.hid hr
      have HPS := Lib.hid (HPB.out h0)
      have HU := Lib.hid hu
      have HUE := Lib.hid hue
      obtain ⟨UA, ucap, rfl, _⟩ := hu.shape
      clear h0 hr hu hue
      go_wp2_with fail
      refine (HPD.out _).mono ?_
      rintro e w3 ⟨hp, hb⟩
      have HB3 := Lib.hid (bel_on HB2.out hb)
      rcases hp with ⟨h1, _⟩ | ⟨_, v, rfl, hv, _⟩
      · rw [HR.out] at h1; cases h1
      rw [← HPR.out.1] at hv ⊢
      have HV := Lib.hid hv
      have HU3 := Lib.hid (HU.out.below hb)
      obtain ⟨VA, vcap, rfl, _⟩ := hv.shape
      obtain ⟨S, hS⟩ : ∃ S, (parseT s).1 = S := ⟨_, rfl⟩
      rw [hS] at HV HU3 HUE HPS HPL ⊢
      have HSE := Lib.hid (sameEvents_any S (.slice UA S.length ucap) (.slice VA S.length vcap) w3 HUE.out (by have := HPL.out; have := HN.out; omega) HU3.out.rdK HV.out.rdK)
      obtain ⟨M, hM⟩ : ∃ M, S.length = M := ⟨_, rfl⟩
      rw [hM] at HSE HU3
      have HM := Lib.hid hM
      rw [hM]
      clear hb hv hS hM HPD HU HV HPR HPB
      go_wp2_with fail
      refine HSE.out.mono ?_
      rintro e w4 ⟨rfl, hb⟩
      have HB4 := Lib.hid (bel_on HB3.out hb)
      have HPX := Lib.hid (print_big S (.slice UA M ucap) w4 HUE.out (by have := HPL.out; have := HN.out; omega) (by rw [HM.out]; exact (HU3.out.below hb).rdK) (HT.out.keep HB4.out).txt)
      rw [HPS.out] at HPX
      unfold strV at HPX
      clear hb HSE
      go_wp2_with fail
      refine HPX.out.mono ?_
      rintro e w5 ⟨rfl, hb⟩
      have HB5 := Lib.hid (bel_on HB4.out hb)
      clear hb HPX
      go_wp2_with fail
      go_ret
      exact ⟨by first | rfl | simp, HB5.out⟩
end Go.Proofs.YtpojhplnhppcpaaGreatDoor
