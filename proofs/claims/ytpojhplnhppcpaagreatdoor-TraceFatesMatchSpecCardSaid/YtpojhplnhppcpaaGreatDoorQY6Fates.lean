/-
  What alumref05's Check and At do.
-/
import Derived.Test.YtpojhplnhppcpaaGreatDoorQY5Fates
import Derived.Test.YtpojhplnhppcpaaGreatDoorQV1
namespace Go.Proofs.YtpojhplnhppcpaaGreatDoor
open Go.RowKit Go.Maps
/-- What At answers. -/
def AtPost (img : List (List Int × Int)) (l : List (List Int)) (n : Int) (w : World) (e : Ending) (w' : World) : Prop :=
  ∃ r, e = .returned (.tuple #[.pointer (some ⟨r, 0, none⟩), .int .i64 (atE img l n)]) ∧ (atE img l n = 0 → Ref w' r (runP (fromP img) (l.take n.toNat)) (New w w')) ∧ Below w.heap.size w w'
theorem New0_ptr {w w' : World} {e : Ending} (h : RNewPost w 0 e w') : ∃ p, e = .returned (.pointer (some ⟨p, 0, none⟩)) := by
  rcases h with ⟨n, h0, h1, _⟩ | ⟨_, p, h, _⟩
  · omega
  · exact ⟨p, h⟩
set_option maxRecDepth 100000 in
set_option maxHeartbeats 8000000 in
set_option linter.unusedSimpArgs false in
theorem rAt_any (img : List (List Int × Int)) (l : List (List Int)) (n : Int) (v lv : Value) (w : World) (h8 : ∀ x ∈ img, x.1.length = 8) (hn : img.length ≤ 5000) (hs : Rd w v img.length (iv (flatI img)))
    (hl : EvI l) (hll : l.length ≤ 400) (hlv : Rd w lv l.length (iv l.flatten)) :
    Calls Tryz.prog 70 #[v, lv, .int .i64 n] w (AtPost img l n w) := by
  have hrc := right_any img v w h8 hn hs
  have HNEW := Lib.hid fun w1 => rNew_any 0 w1
  by_cases hbad : rightB img = false ∨ n < 0 ∨ (l.length : Int) < n
  · have hat : atE img l n = 1 := by unfold atE; rw [if_pos hbad]
    have HP : Hid (∀ r w', Below w.heap.size w w' → AtPost img l n w (.returned (.tuple #[.pointer (some ⟨r, 0, none⟩), .int .i64 1])) w') := Lib.hid fun r w' hb => ⟨r, by rw [hat], fun h => by omega, hb⟩
    obtain ⟨N, hN⟩ : ∃ N, l.length = N := ⟨_, rfl⟩
    rw [hN] at hlv hbad
    obtain ⟨A, cap, rfl, _⟩ := hlv
    have HRC := Lib.hid hrc
    have hcase : (rightB img = false) ∨ (rightB img = true ∧ n < 0) ∨ (rightB img = true ∧ ¬ n < 0 ∧ (N : Int) < n) := by
      cases hr : rightB img
      · exact .inl rfl
      · rw [hr] at hbad
        rcases hbad with h | h | h
        · cases h
        · exact .inr (.inl ⟨rfl, h⟩)
        · exact .inr (.inr ⟨rfl, by omega, h⟩)
    clear hrc hat h8 hl hs hN hll hbad
    rcases hcase with q1 | ⟨q1, q2⟩ | ⟨q1, q2, q3⟩
    all_goals
      rw [q1] at HRC
      clear q1
      go_enter Tryz.func70, Tryz.ntmps70
      go_wp2_with fail
      refine HRC.out.mono ?_
      rintro e w1 ⟨rfl, hb1⟩
      have HB1 := Lib.hid hb1
      clear hb1 HRC
      go_wp2_with fail
      refine (HNEW.out w1).mono ?_
      rintro e w2 ⟨hp2, hb2⟩
      obtain ⟨r, rfl⟩ := New0_ptr hp2
      have HB2 := Lib.hid (bel_on HB1.out hb2)
      clear hp2 hb2
      go_wp2_with fail
      go_ret2
      exact HP.out r _ HB2.out
  · have hr : rightB img = true := by
      cases hr : rightB img
      · exact absurd (.inl hr) hbad
      · rfl
    obtain ⟨k, rfl⟩ : ∃ k : Nat, n = k := ⟨n.toNat, by omega⟩
    have hk : k ≤ l.length := by omega
    rw [hr] at hrc
    have HRC := Lib.hid hrc
    have hTL : (l.take k).length = k := by rw [List.length_take]; omega
    have hET : EvI (l.take k) := fun x hx => hl x (List.mem_of_mem_take hx)
    have hat : atE img l (k : Int) = if fitsP (fromP img) (l.take k) < k then 3 else 0 := by
      unfold atE
      rw [if_neg hbad, Int.toNat_natCast]
    have hfl := fits_le (fromP img) (l.take k)
    rw [hTL] at hfl
    obtain ⟨A, cap, rfl, hcap, hcm, hrr⟩ := hlv
    have hlv2 : Rd w (.slice A k cap) k (iv (l.take k).flatten) := Rd.takeE ⟨A, cap, rfl, hcap, hcm, hrr⟩ hk
    have HBH := Lib.hid fun w1 (hb : Below w.heap.size w w1) => rBehind_any img (l.take k) v (.slice A k cap) w1 h8 hn (hs.below hb) hr hET (by rw [hTL]; omega) (by rw [hTL]; exact hlv2.below hb)
    obtain ⟨FT, hFT⟩ : ∃ FT, fitsP (fromP img) (l.take k) = FT := ⟨_, rfl⟩
    rw [hFT] at hat hfl HBH
    obtain ⟨N, hN⟩ : ∃ N, l.length = N := ⟨_, rfl⟩
    rw [hN] at hcap hk ⊢
    have q2 : ¬ (k : Int) < 0 := by omega
    have q3 : ¬ (N : Int) < (k : Int) := by omega
    have hkc : k ≤ cap := by omega
    have hkcI : (k : Int) ≤ (cap : Int) := by omega
    have hcm2 : cap ≤ 9223372036854775807 := by unfold maxLen at hcm; exact hcm
    clear hrc h8 hs hl hrr hbad hlv2 hET
    by_cases hlt : FT < k
    · have hI : (FT : Int) < (k : Int) := by omega
      rw [if_pos hlt] at hat
      have HP : Hid (∀ r w', Below w.heap.size w w' → AtPost img l k w (.returned (.tuple #[.pointer (some ⟨r, 0, none⟩), .int .i64 3])) w') := Lib.hid fun r w' hb => ⟨r, by rw [hat], fun h => by omega, hb⟩
      clear hat hFT hTL
      go_enter Tryz.func70, Tryz.ntmps70
      go_wp2_with fail
      refine HRC.out.mono ?_
      rintro e w1 ⟨rfl, hb1⟩
      have HB1 := Lib.hid hb1
      have HB2 := Lib.hid (HBH.out w1 hb1)
      clear hb1 HRC HBH
      go_wp2_with fail
      refine HB2.out.mono ?_
      rintro e w2 ⟨r, rfl, _, hb2⟩
      have HB3 := Lib.hid (bel_on HB1.out hb2)
      clear hb2 HB2
      go_wp2_with fail
      refine (HNEW.out w2).mono ?_
      rintro e w3 ⟨hp3, hb3⟩
      obtain ⟨r3, rfl⟩ := New0_ptr hp3
      have HB4 := Lib.hid (bel_on HB3.out hb3)
      clear hp3 hb3
      go_wp2_with fail
      go_ret2
      exact HP.out r3 _ HB4.out
    · obtain rfl : FT = k := by omega
      have hI : ¬ (FT : Int) < (FT : Int) := by omega
      rw [if_neg (by omega)] at hat
      have HP : Hid (∀ r w', Ref w' r (runP (fromP img) (l.take FT)) (New w w') → Below w.heap.size w w' → AtPost img l FT w (.returned (.tuple #[.pointer (some ⟨r, 0, none⟩), .int .i64 0])) w') := Lib.hid fun r w' h1 hb => ⟨r, by rw [hat], fun h => (by rw [Int.toNat_natCast]; exact h1), hb⟩
      have HTT : Hid ((l.take FT).take FT = l.take FT) := Lib.hid (List.take_of_length_le (by rw [hTL]; exact Nat.le_refl _))
      rw [HTT.out] at HBH
      clear hat hFT hTL HTT
      go_enter Tryz.func70, Tryz.ntmps70
      go_wp2_with fail
      refine HRC.out.mono ?_
      rintro e w1 ⟨rfl, hb1⟩
      have HB1 := Lib.hid hb1
      have HB2 := Lib.hid (HBH.out w1 hb1)
      clear hb1 HRC HBH
      go_wp2_with fail
      refine HB2.out.mono ?_
      rintro e w2 ⟨r, rfl, hr2, hb2⟩
      have HB3 := Lib.hid (bel_on HB1.out hb2)
      have hsz := HB1.out.size
      have HR3 : Hid (Ref w2 r (runP (fromP img) (l.take FT)) (New w w2)) := Lib.hid (hr2.wide (fun q h1 => ⟨Nat.le_trans hsz h1.1, h1.2⟩) fun q h1 => h1.2)
      clear hr2 hb2 HB2
      go_wp2_with fail
      go_ret2
      exact HP.out r _ HR3.out HB3.out
end Go.Proofs.YtpojhplnhppcpaaGreatDoor
