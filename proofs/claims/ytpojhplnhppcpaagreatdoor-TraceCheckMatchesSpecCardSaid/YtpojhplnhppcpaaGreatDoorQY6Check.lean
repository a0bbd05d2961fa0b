/-
  What alumref05's Check and At do.
-/
import Derived.Test.YtpojhplnhppcpaaGreatDoorQY5Check
import Derived.Test.YtpojhplnhppcpaaGreatDoorQV1
namespace Go.Proofs.YtpojhplnhppcpaaGreatDoor
open Go.RowKit Go.Maps
set_option maxRecDepth 100000 in
set_option maxHeartbeats 8000000 in
set_option linter.unusedSimpArgs false in
theorem rTCheck_any (img : List (List Int × Int)) (l : List (List Int)) (v lv : Value) (w : World) (h8 : ∀ x ∈ img, x.1.length = 8) (hn : img.length ≤ 5000) (hs : Rd w v img.length (iv (flatI img)))
    (hl : EvI l) (hll : l.length ≤ 400) (hlv : Rd w lv l.length (iv l.flatten)) :
    Calls Tryz.prog 18 #[v, lv] w fun e w' => e = .returned (.tuple #[.int .i64 (checkP img l).1, .int .i64 (checkP img l).2]) ∧ Below w.heap.size w w' := by
  have hrc := right_any img v w h8 hn hs
  have hck : checkP img l = if rightB img = false then (0, 1) else if fitsP (fromP img) l < l.length then (((fitsP (fromP img) l : Nat) : Int), 3) else (((fitsP (fromP img) l : Nat) : Int), 0) := rfl
  cases hr : rightB img with
  | false =>
    rw [hr] at hrc hck
    rw [if_pos rfl] at hck
    rw [hck]
    have HRC := Lib.hid hrc
    obtain ⟨A, cap, rfl, _⟩ := hlv
    clear hrc hck h8 hl hs hr
    go_enter Tryz.func18, Tryz.ntmps18
    go_wp2_with fail
    refine HRC.out.mono ?_
    rintro e w1 ⟨rfl, hb1⟩
    have HB1 := Lib.hid hb1
    clear hb1 HRC
    go_wp2_with fail
    go_ret2
    exact ⟨rfl, HB1.out⟩
  | true =>
    rw [hr] at hrc hck
    rw [if_neg (by simp)] at hck
    have HRC := Lib.hid hrc
    have HBH := Lib.hid fun w1 (hb : Below w.heap.size w w1) => rBehind_any img l v lv w1 h8 hn (hs.below hb) hr hl hll (hlv.below hb)
    generalize checkP img l = CK at *
    generalize fitsP (fromP img) l = FT at *
    obtain ⟨N, hN⟩ : ∃ N, l.length = N := ⟨_, rfl⟩
    rw [hN] at hck hlv
    obtain ⟨A, cap, rfl, _⟩ := hlv
    have HCK := Lib.hid hck
    clear hrc hck h8 hl hs hr hN hll
    by_cases hlt : FT < N
    · have hI : (FT : Int) < (N : Int) := by omega
      have hc := HCK.out
      rw [if_pos hlt] at hc
      subst hc
      go_enter Tryz.func18, Tryz.ntmps18
      go_wp2_with fail
      refine HRC.out.mono ?_
      rintro e w1 ⟨rfl, hb1⟩
      have HB1 := Lib.hid hb1
      have HB2 := Lib.hid (HBH.out w1 hb1)
      clear hb1 HRC HBH
      go_wp2_with fail
      refine HB2.out.mono ?_
      rintro e w2 ⟨r, rfl, _, hb2⟩
      have HB3 := Lib.hid (bel_on HB1.out hb2)
      clear hb2 HB2
      go_wp2_with fail
      go_ret2
      exact ⟨rfl, HB3.out⟩
    · have hI : ¬ (FT : Int) < (N : Int) := by omega
      have hc := HCK.out
      rw [if_neg hlt] at hc
      subst hc
      go_enter Tryz.func18, Tryz.ntmps18
      go_wp2_with fail
      refine HRC.out.mono ?_
      rintro e w1 ⟨rfl, hb1⟩
      have HB1 := Lib.hid hb1
      have HB2 := Lib.hid (HBH.out w1 hb1)
      clear hb1 HRC HBH
      go_wp2_with fail
      refine HB2.out.mono ?_
      rintro e w2 ⟨r, rfl, _, hb2⟩
      have HB3 := Lib.hid (bel_on HB1.out hb2)
      clear hb2 HB2
      go_wp2_with fail
      go_ret2
      exact ⟨rfl, HB3.out⟩
end Go.Proofs.YtpojhplnhppcpaaGreatDoor
