/-
  What alumref05's Product and Cuts do.
-/
import Derived.Test.YtpojhplnhppcpaaGreatDoorQY6Cuts
import Derived.Test.YtpojhplnhppcpaaGreatDoorQV1
namespace Go.Proofs.YtpojhplnhppcpaaGreatDoor
open Go.RowKit Go.Maps
theorem prod_on {a k : Nat} {m : PM} (hk : k < m.L.length) : prodP a (m.L.drop k) = if 1099511627775 / ((m.line k).pend.length + 1) < a then 1099511627775 else prodP (a * ((m.line k).pend.length + 1)) (m.L.drop (k + 1)) := by
  rw [List.drop_eq_getElem_cons hk, ← PM.line_eq hk]
  rfl
set_option maxRecDepth 100000 in
set_option maxHeartbeats 8000000 in
set_option linter.unusedSimpArgs false in
theorem rProduct_any (p : Nat) (m : PM) (F : Nat → Prop) (w : World) (hm : m.Ok) (hs : m.Small 1000) (h : Ref w p m F) :
    Calls Tryz.prog 71 #[.pointer (some ⟨p, 0, none⟩)] w fun e w' => e = .returned (.int .i64 (productP m : Nat)) ∧ Below w.heap.size w w' := by
  obtain ⟨R, hR⟩ : ∃ R, productP m = R := ⟨_, rfl⟩
  rw [hR]
  have HRF := Lib.hid h
  have HM := Lib.hid hm
  have HSM := Lib.hid hs
  obtain ⟨N, hN⟩ : ∃ N, m.L.length = N := ⟨_, rfl⟩
  have HN := Lib.hid hN
  have hN2 : N ≤ 4096 := by rw [← hN]; exact hm.few
  have HB0 : Hid (Below w.heap.size w w) := Lib.hid (Below.refl _ _)
  have HP0 : Hid (R = prodP 1 (m.L.drop 0)) := Lib.hid hR.symm
  clear h hm hs hN hR
  go_enter Tryz.func71, Tryz.ntmps71
  go_wp2_with fail
  go_loopw [3, 4] (fun u i wr => ∃ k a : Nat, u = .int .i64 (a : Int) ∧ i = .int .i64 (k : Int) ∧ k ≤ N ∧ a ≤ 1099511627775 ∧ Hid (R = prodP a (m.L.drop k)) ∧ Hid (Below w.heap.size w wr)) (fun _ i _ => N - (intOf i).toNat)
  case atStart => exact ⟨0, 1, rfl, rfl, by omega, by omega, HP0, HB0⟩
  case round =>
    clear HP0 HB0
    obtain ⟨k, a, rfl, rfl, hk, ha, HP, HB⟩ := hrel
    obtain ⟨d, o, cap, ev, X, h⟩ := HRF.out.below HB.out
    have c0 := h.c0
    have hcp := h.cap_
    rw [HN.out] at c0 hcp
    by_cases hlt : k < N
    · have hkl : k < m.L.length := by rw [HN.out]; exact hlt
      have hkI : (k : Int) < (N : Int) := by omega
      obtain ⟨V, _, _, _, _, h9, _, hsv⟩ := h.at HM.out hkl
      have hpl := HSM.out.pend _ (PM.line_mem hkl)
      have hpo := HP.out
      rw [prod_on hkl] at hpo
      obtain ⟨PA, pcap, rfl, _⟩ := hsv.shape
      generalize (m.line k).pend.length = n at *
      obtain ⟨c, hc⟩ : ∃ c, n + 1 = c := ⟨_, rfl⟩
      rw [hc] at hpo
      have hw1 : IntKind.i64.wrap ((n : Int) + 1) = (c : Int) := by rw [i64_wraps]; omega
      have hcz : ¬ (c : Int) = 0 := by omega
      obtain ⟨D, hD⟩ : ∃ D, 1099511627775 / c = D := ⟨_, rfl⟩
      have hDl : D ≤ 1099511627775 := by rw [← hD]; exact Nat.div_le_self _ _
      have hq : IntKind.i64.wrap (Int.tdiv 1099511627775 (c : Int)) = (D : Int) := by
        have h1 : Int.tdiv 1099511627775 (c : Int) = (D : Int) := by
          rw [Int.tdiv_eq_ediv_of_nonneg (by omega), ← hD]
          exact (Int.natCast_ediv 1099511627775 c).symm
        rw [h1, i64_wraps]
        omega
      rw [hD] at hpo
      have HB9 := Lib.hid HB.out
      by_cases hgt : D < a
      · have hgI : (D : Int) < (a : Int) := by omega
        rw [if_pos hgt] at hpo
        subst hpo
        clear h hsv HP hD hc
        go_wp2_with fail
        go_ret
        exact ⟨rfl, HB9.out⟩
      · have hgI : ¬ (D : Int) < (a : Int) := by omega
        rw [if_neg hgt] at hpo
        have hac : a * c ≤ 1099511627775 := by
          have h1 : a ≤ 1099511627775 / c := by rw [hD]; omega
          exact (Nat.le_div_iff_mul_le (by omega)).1 h1
        have hmul : IntKind.i64.wrap ((a : Int) * (c : Int)) = ((a * c : Nat) : Int) := by
          rw [← Int.natCast_mul, i64_wraps]
          omega
        have HPO := Lib.hid hpo
        clear h hsv HP hD hc hpo
        go_wp2_with fail
        go_roundw
        case rel => exact ⟨k + 1, a * c, by simp [hmul], by simp, by omega, hac, HPO, HB9⟩
        case measure => simp [intOf]; omega
    · obtain rfl : k = N := by omega
      have hkI : ¬ (k : Int) < (k : Int) := by omega
      have hR : R = a := by
        have h1 := HP.out
        rw [List.drop_of_length_le (by rw [HN.out]; exact Nat.le_refl _)] at h1
        exact h1
      subst hR
      clear h HP
      go_wp2_with fail
      go_ret
      exact ⟨rfl, HB.out⟩
set_option maxRecDepth 100000 in
set_option maxHeartbeats 8000000 in
set_option linter.unusedSimpArgs false in
theorem rCutsE_any (img : List (List Int × Int)) (l : List (List Int)) (n : Int) (v lv : Value) (w : World) (h8 : ∀ x ∈ img, x.1.length = 8) (hn : img.length ≤ 5000) (hs : Rd w v img.length (iv (flatI img)))
    (hl : EvI l) (hll : l.length ≤ 400) (hlv : Rd w lv l.length (iv l.flatten)) :
    Calls Tryz.prog 32 #[v, lv, .int .i64 n] w fun e w' => e = .returned (.tuple #[.int .i64 (cutsE img l n).1, .int .i64 (cutsE img l n).2]) ∧ Below w.heap.size w w' := by
  have HAT := Lib.hid (rAt_any img l n v lv w h8 hn hs hl hll hlv)
  have HGD := Lib.hid fun h => at_good (img := img) h8 hl hll (n := n) h
  have HCE : Hid (cutsE img l n = if atE img l n = 0 then (((productP (atP img l n) : Nat) : Int), 0) else (0, atE img l n)) := Lib.hid rfl
  change Hid (Calls _ _ _ _ fun e w' => ∃ r, e = .returned (.tuple #[.pointer (some ⟨r, 0, none⟩), .int .i64 (atE img l n)]) ∧ (atE img l n = 0 → Ref w' r (atP img l n) (New w w')) ∧ Below w.heap.size w w') at HAT
  generalize cutsE img l n = CE at *
  generalize atP img l n = m at *
  generalize atE img l n = E at *
  clear h8 hs hl hlv
  by_cases he : E = 0
  · subst he
    have hc := HCE.out
    rw [if_pos rfl] at hc
    subst hc
    obtain ⟨gm, _, gs⟩ := HGD.out rfl
    have GM := Lib.hid gm
    have GS := Lib.hid gs
    clear gm gs HGD HCE
    go_enter Tryz.func32, Tryz.ntmps32
    go_wp2_with fail
    refine HAT.out.mono ?_
    rintro e w1 ⟨r, rfl, hr, hb1⟩
    have HB1 := Lib.hid hb1
    have HPR := Lib.hid (rProduct_any r m (New w w1) w1 GM.out (GS.out.mono (by omega)) (hr trivial))
    clear hr hb1 HAT
    go_wp2_with fail
    refine HPR.out.mono ?_
    rintro e w2 ⟨rfl, hb2⟩
    have HB2 := Lib.hid (bel_on HB1.out hb2)
    clear hb2 HPR
    go_wp2_with fail
    go_ret2
    exact ⟨rfl, HB2.out⟩
  · have hc := HCE.out
    rw [if_neg he] at hc
    subst hc
    clear HGD HCE
    go_enter Tryz.func32, Tryz.ntmps32
    go_wp2_with fail
    refine HAT.out.mono ?_
    rintro e w1 ⟨r, rfl, _, hb1⟩
    have HB1 := Lib.hid hb1
    clear hb1 HAT
    go_wp2_with fail
    go_ret2
    exact ⟨rfl, HB1.out⟩
end Go.Proofs.YtpojhplnhppcpaaGreatDoor
