/- What the GetInt of wire does. -/
import Derived.Test.YtgnhkhcfelmnhaaKit
import Derived.WalkMore
import Derived.Deep.LoopGhost
namespace Go.Proofs.Ytgnhkhcfelmnhaa
open Go.RowKit
theorem bad_nine {i : Nat} {c : UInt8} (h : i = 9) (h1 : 1 < c.toNat) : bad i c = true := by
  subst h
  unfold bad
  simp [h1]
theorem ret_tri {a b c : Int} {r : Int × Nat × Nat} (h1 : a = r.1) (h2 : b = (r.2.1 : Int)) (h3 : c = (r.2.2 : Int)) : Ending.returned (.tuple #[.int .i64 a, .int .i64 b, .int .i64 c]) = .returned (tri r) := by
  subst h1 h2 h3
  rfl
set_option maxRecDepth 100000 in
set_option maxHeartbeats 1000000 in
theorem getInt_any (A : Option Addr) (cap : Nat) (l : List UInt8) (w : World) (hr : RV w A (bv l)) (hl : l.length ≤ 140737488355328) :
    Calls Try.prog 24 #[.slice A l.length cap] w fun e w' => e = .returned (tri (getI l)) ∧ w = w' := by
  go_enter Try.func24, Try.ntmps24
  go_wp2
  go_step3
  go_wp2
  go_step3
  go_wp2
  go_loop [5, 6, 11] (fun x y t => ∃ i : Nat, t = .int .i64 i ∧ y = .int .i64 0 ∧ x = .int .u64 (vl (l.take i) : Int) ∧ i ≤ l.length ∧ i ≤ 9 ∧ (∀ j, j < i → 128 ≤ (l.getD j 0).toNat)) (fun _ _ t => l.length - (intOf t).toNat)
  case atStart => exact ⟨0, rfl, rfl, by simp [vl], by omega, by omega, by omega⟩
  case round =>
    obtain ⟨i, rfl, rfl, rfl, hi, hi9, hj⟩ := hrel
    have HJ := Lib.hid hj
    clear hj
    by_cases hlt : i < l.length
    · obtain ⟨b, o, rfl, hc⟩ := hr.at_ (w' := w) (Below.refl _ _) (k := i) (bv_at hlt)
      have hcl := UInt8.toNat_lt l[i]
      have HR := Lib.hid hr
      have HG := Lib.hid (getD_get l i hlt)
      have HV := Lib.hid (vl_take l i hlt)
      have HX := Lib.hid (vl_take_lt l i hi)
      by_cases hgood : i = 9 → l[i].toNat ≤ 1
      · have hz := or_step (vl (l.take i)) l[i] i HX.out hi9 hgood
        have hm := dig_lt (vl (l.take i)) l[i].toNat i HX.out hi9 hgood
        have hf := zag_bits _ hm
        have HGd := Lib.hid hgood
        have HM := Lib.hid hm
        generalize vl (l.take i) + l[i].toNat % 128 * 128 ^ i = m at *
        generalize vl (l.take i) = x at *
        generalize l[i] = c at *
        clear hr hm hgood
        by_cases hb : bad i c = true
        · have HE := Lib.hid (getI_bad l i hlt hi9 HJ.out (by rw [HG.out]; exact hb))
          unfold bad at hb
          simp only [Bool.or_eq_true, Bool.and_eq_true, decide_eq_true_eq] at hb
          have h2 : 0 < i ∧ c.toNat = 0 := by
            have := HGd.out
            rcases hb with ⟨h1, h2⟩ | h
            · exact absurd (this h1) (by omega)
            · exact h
          obtain ⟨h2, h3⟩ := h2
          have h4 : c.toNat < 1 := by omega
          clear hb h3
          go_wp2
          all_goals
            go_ret3
            rw [HE.out]
            exact ⟨rfl, rfl⟩
        · have hb' : bad i c = false := by simpa using hb
          have hb2 := hb'
          unfold bad at hb2
          simp only [Bool.or_eq_false_iff, Bool.and_eq_false_iff, decide_eq_false_iff_not] at hb2
          obtain ⟨h1, h2⟩ := hb2
          clear hb
          by_cases hc1 : c.toNat < 128
          · have HE := Lib.hid (getI_ok l i hlt hi9 HJ.out (by rw [HG.out]; exact hb') (by rw [HG.out]; exact hc1))
            have H1 := Lib.hid h1
            have H2 := Lib.hid h2
            clear hb' h1 h2
            by_cases h0 : 0 < i
            · have h3 : 0 < c.toNat := by have := H2.out; omega
              go_wp2
              all_goals
                first
                | (have := H1.out; omega)
                | (go_ret3
                   rw [HE.out, HV.out]
                   exact ⟨ret_tri rfl (by show _ = ((i + 1 : Nat) : Int); omega) rfl, rfl⟩)
            · go_wp2
              all_goals
                (go_ret3
                 rw [HE.out, HV.out]
                 exact ⟨rfl, rfl⟩)
          · have h9 : i < 9 := by
              have := HGd.out
              omega
            by_cases h0 : 0 < i
            all_goals
              go_wp2
              go_round
              case rel => exact ⟨i + 1, by go_num, rfl, by rw [HV.out], by omega, by omega, fun j hj => by
                by_cases hji : j = i
                · subst hji; rw [HG.out]; omega
                · exact HJ.out j (by omega)⟩
              case measure => simp [intOf]; omega
      · have h9 : i = 9 ∧ 1 < l[i].toNat := by omega
        obtain ⟨h9, h1⟩ := h9
        have HE := Lib.hid (getI_bad l i hlt hi9 HJ.out (by rw [HG.out]; exact bad_nine h9 h1))
        have H9 := Lib.hid h9
        generalize vl (l.take i) = x at *
        generalize l[i] = c at *
        clear hr h9 hgood
        go_wp2
        all_goals
          first
          | (have := H9.out; omega)
          | (go_ret3
             rw [HE.out]
             exact ⟨rfl, rfl⟩)
    · have hke : i = l.length := by omega
      subst hke
      have HE := Lib.hid (getI_end l hi9 HJ.out)
      go_wp2
      go_ret3
      rw [HE.out]
      exact ⟨rfl, rfl⟩
end Go.Proofs.Ytgnhkhcfelmnhaa
