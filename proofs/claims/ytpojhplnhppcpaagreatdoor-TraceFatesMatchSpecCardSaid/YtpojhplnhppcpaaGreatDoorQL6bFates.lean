/-
  TraceFatesMatchSpec: the walk.
-/
import Derived.Test.YtpojhplnhppcpaaGreatDoorQL6Fates
import Derived.Test.YtpojhplnhppcpaaGreatDoorQL1Fates
namespace Go.Proofs.YtpojhplnhppcpaaGreatDoor
open Go.RowKit Go.Maps
set_option maxRecDepth 100000 in
set_option maxHeartbeats 8000000 in
set_option linter.unusedSimpArgs false in
theorem lawFates (v lv : Value) (img : List (List Int × Int)) (l : List (List Int)) (n : Int) (w : World) (hi : ImgI img) (hs : Rd w v img.length (iv (flatI img))) (hl : EvI l) (hlv : Rd w lv l.length (iv l.flatten)) (_ : I64 n) (hT : TabA w) :
    Calls Tryz.prog 8 #[v, lv, .int .i64 n] w fun e w' => e = .returned (.bool true) ∧ Below w.heap.size w w' := by
  have h8 : ∀ x ∈ img, x.1.length = 8 := fun x hx => (hi x hx).1
  have HS := Lib.hid (tsanity_any w hT)
  have HT := Lib.hid hT
  have HD := Lib.hid hs
  have HL := Lib.hid hlv
  have HEV := Lib.hid hl
  have H8 := Lib.hid h8
  obtain ⟨A, cap, rfl, _⟩ := hs
  obtain ⟨A2, cap2, rfl, _⟩ := hlv
  clear hi h8 hl hT
  go_enter Tryz.func8, Tryz.ntmps8
  go_wp2_with fail
  refine HS.out.mono ?_
  rintro e w1 ⟨rfl, hb⟩
  have HB1 := Lib.hid hb
  clear hb HS
  have HFW := Lib.hid (few_any A A2 img.length cap l.length cap2 w1)
  go_wp2_with fail
  refine HFW.out.mono ?_
  rintro e w2 ⟨rfl, hb⟩
  have HB2 := Lib.hid (bel_on HB1.out hb)
  clear hb HFW HB1
  cases hf : fewB img.length l.length with
  | false =>
    go_wp2_with fail
    go_ret
    exact ⟨rfl, HB2.out⟩
  | true =>
    obtain ⟨q1, q2⟩ := fewB_t hf
    have HQ2 := Lib.hid q2
    have HCK := Lib.hid (tfates_any img l n _ _ w2 H8.out (by omega) (HD.out.below HB2.out) HEV.out (by omega) (HL.out.below HB2.out) (HT.out.keep HB2.out).tab)
    have HRC := Lib.hid fun w3 (hb3 : Below w.heap.size w w3) => rFates_any img l n _ _ w3 H8.out (by omega) (HD.out.below hb3) HEV.out (by omega) (HL.out.below hb3)
    have HPO : Hid (∀ w e w', FatPost img l n w e w' → ((atE img l n ≠ 0 ∧ e = .returned (.tuple #[.slice none 0 0, .int .i64 (atE img l n)])) ∨
      (atE img l n = 0 ∧ ∃ u, e = .returned (.tuple #[u, .int .i64 0]) ∧ Sl w' 3 1 u n.toNat (iv (fatesP img l n)) ∧ ∀ q, u.ownBlock = some q → w.heap.size ≤ q))) := Lib.hid fun _ _ _ h => h
    have HNL : Hid (atE img l n = 0 → n.toNat ≤ 120) := Lib.hid fun h => by
      obtain ⟨_, h1, h2, _⟩ := atE_ok h
      omega
    obtain ⟨PO, hPO⟩ : ∃ PO, FatPost img l n = PO := ⟨_, rfl⟩
    rw [hPO] at HPO HCK HRC
    generalize atE img l n = E at *
    generalize fatesP img l n = FP at *
    obtain ⟨NN, hNN⟩ : ∃ NN, n.toNat = NN := ⟨_, rfl⟩
    rw [hNN] at HPO HNL
    clear q1 q2 hf hPO hNN
    go_wp2_with fail
    refine HCK.out.mono ?_
    rintro e w3 ⟨hp, hb⟩
    have HB3 := Lib.hid (bel_on HB2.out hb)
    have HCR := Lib.hid (HRC.out w3 HB3.out)
    rcases HPO.out _ _ _ hp with ⟨hz, rfl⟩ | ⟨rfl, u, rfl, hu, _⟩
    · have HZ := Lib.hid hz
      clear hp hb HCK HRC hz
      go_wp2_with fail
      refine HCR.out.mono ?_
      rintro e w4 ⟨hp, hb⟩
      have HB4 := Lib.hid (bel_on HB3.out hb)
      rcases HPO.out _ _ _ hp with ⟨_, rfl⟩ | ⟨h0, _⟩
      case inr => exact absurd h0 HZ.out
      clear hp hb HCR HPO
      go_wp2_with fail
      go_loopw [12] (fun i wr => i = .int .i64 0 ∧ Hid (Below w.heap.size w wr)) (fun i _ => 0)
      case atStart => exact ⟨rfl, HB4⟩
      case round =>
        obtain ⟨rfl, HB⟩ := hrel
        go_wp2_with fail
        go_ret
        exact ⟨by first | rfl | simp, HB.out⟩
    · have HU3 := Lib.hid hu
      have hNN := HNL.out (by first | rfl | trivial)
      obtain ⟨UA, ucap, rfl, hu1, hu2, hu3, _⟩ := hu.shape
      have hu4 : ucap ≤ 9223372036854775807 := by unfold maxLen at hu2; omega
      clear hp hb HCK HRC hu hu2
      go_wp2_with fail
      refine HCR.out.mono ?_
      rintro e w4 ⟨hp, hb⟩
      have HB4 := Lib.hid (bel_on HB3.out hb)
      rcases HPO.out _ _ _ hp with ⟨h0, _⟩ | ⟨_, u, rfl, hu, _⟩
      · exact absurd (by first | rfl | trivial) h0
      have HU4 := Lib.hid (Rd.of_sl (HU3.out.below hb))
      have HV4 := Lib.hid (Rd.of_sl hu)
      obtain ⟨VA, vcap, rfl, hv1, hv2, _⟩ := hu.shape
      have hv4 : vcap ≤ 9223372036854775807 := by unfold maxLen at hv2; omega
      have HLF : Hid (NN ≤ FP.length) := Lib.hid (by
        have := HU3.out.1
        rw [iv_len] at this
        omega)
      clear hp hb HCR HPO hu HU3 hv2
      go_wp2_with fail
      go_loopw [12] (fun i wr => ∃ k : Nat, i = .int .i64 (k : Int) ∧ k ≤ NN ∧ Hid (Below w4.heap.size w4 wr)) (fun i _ => NN - (intOf i).toNat)
      case atStart => exact ⟨0, rfl, by omega, Lib.hid (Below.refl _ _)⟩
      case round =>
        obtain ⟨k, rfl, hk, HB⟩ := hrel
        by_cases hlt : k < NN
        · have hkI : (k : Int) < (NN : Int) := by omega
          have hu5 := HU4.out.below HB.out
          have hv5 := HV4.out.below HB.out
          obtain ⟨_, _, e1, _, _, r1⟩ := hu5
          obtain ⟨_, _, e2, _, _, r2⟩ := hv5
          simp only [Value.slice.injEq, true_and] at e1 e2
          obtain ⟨rfl, rfl⟩ := e1
          obtain ⟨rfl, rfl⟩ := e2
          obtain ⟨b1, o1, rfl, _, c1⟩ := r1 (by omega)
          obtain ⟨b2, o2, rfl, _, c2⟩ := r2 (by omega)
          have d1 := c1 k _ (iv_getD (x := FP) (j := k) (by have := HLF.out; omega))
          have d2 := c2 k _ (iv_getD (x := FP) (j := k) (by have := HLF.out; omega))
          generalize FP.getD k 0 = z at *
          clear c1 c2 r1 r2
          have HBW := Lib.hid (bel_on HB4.out HB.out)
          go_wp2_with fail
          go_quiet (fail)
          have HBN := Lib.hid (below_drewN HB.out nq)
          generalize wr.drewN nq = wd at *
          go_wp2_with fail
          go_roundw
          case rel => exact ⟨k + 1, by simp, by omega, HBN⟩
          case measure => simp [intOf]; omega
        · obtain rfl : k = NN := by omega
          have hkI : ¬ (k : Int) < (k : Int) := by omega
          have HBW := Lib.hid (bel_on HB4.out HB.out)
          go_wp2_with fail
          go_ret
          exact ⟨rfl, HBW.out⟩
end Go.Proofs.YtpojhplnhppcpaaGreatDoor
