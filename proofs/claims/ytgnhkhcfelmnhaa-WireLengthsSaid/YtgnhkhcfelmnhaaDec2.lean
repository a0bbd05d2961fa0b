/- What the GetInt of the reference does. -/
import Derived.Test.YtgnhkhcfelmnhaaDec1
import Derived.BigQuiet
import Derived.Deep.QuietTactic
namespace Go.Proofs.Ytgnhkhcfelmnhaa
open Go.RowKit
set_option maxRecDepth 100000 in
set_option maxHeartbeats 1000000 in
theorem rgetInt_any (A : Option Addr) (cap : Nat) (l : List UInt8) (w : World) (hr : RV w A (bv l)) (hl : l.length ≤ 140737488355328) :
    Calls Try.prog 25 #[.slice A l.length cap] w fun e w' => e = .returned (tri (getI l)) ∧ w = w' := by
  go_enter Try.func25, Try.ntmps25
  go_wp2
  go_loop [5] (fun t => ∃ k : Nat, t = .int .i64 k ∧ k ≤ l.length ∧ k ≤ 10 ∧ (∀ j, j < k → 128 ≤ (l.getD j 0).toNat)) (fun t => l.length - (intOf t).toNat)
  case atStart => exact ⟨0, rfl, by omega, by omega, by omega⟩
  case round =>
    obtain ⟨k, rfl, hk, hk10, hj⟩ := hrel
    have HJ := Lib.hid hj
    clear hj
    by_cases hlt : k < l.length
    · obtain ⟨b, o, rfl, hc⟩ := hr.at_ (w' := w) (Below.refl _ _) (k := k) (bv_at hlt)
      have HR := Lib.hid hr
      have HG := Lib.hid (getD_get l k hlt)
      have hcl := UInt8.toNat_lt l[k]
      by_cases h10 : k < 10
      · by_cases hc1 : 128 ≤ l[k].toNat
        · generalize l[k] = c at *
          clear hr
          go_wp2
          go_round
          case rel => exact ⟨k + 1, by go_num, by omega, by omega, fun j hj => by
                by_cases hji : j = k
                · subst hji; rw [HG.out]; omega
                · exact HJ.out j (by omega)⟩
          case measure => simp [intOf]; omega
        · by_cases hb : bad k l[k] = true
          · have HE := Lib.hid (getI_bad l k hlt (by omega) HJ.out (by rw [HG.out]; exact hb))
            have hb2 := bad_of hb
            generalize l[k] = c at *
            clear hr hb
            by_cases h9 : k = 9
            · subst h9
              by_cases h1 : 1 < c.toNat
              · clear hb2
                have h5 : ((c.toNat : Int) == 0) = false := by simp; omega
                go_wp2
                all_goals
                  go_ret3
                  rw [HE.out]
                  exact ⟨rfl, rfl⟩
              · have h0 : c.toNat < 1 := by omega
                have h5 : ((c.toNat : Int) == 0) = true := by simp; omega
                clear hb2
                go_wp2
                all_goals
                  go_ret3
                  rw [HE.out]
                  exact ⟨rfl, rfl⟩
            · have h0 : c.toNat < 1 := by omega
              have h2 : 0 < k := by omega
              have h5 : ((c.toNat : Int) == 0) = true := by simp; omega
              clear hb2
              have H9 := Lib.hid h9
              clear h9
              go_wp2
              all_goals
                first
                | (have := H9.out; omega)
                | (go_ret3
                   rw [HE.out]
                   exact ⟨rfl, rfl⟩)
          · have hb' : bad k l[k] = false := by simpa using hb
            have HE := Lib.hid (getI_ok l k hlt (by omega) HJ.out (by rw [HG.out]; exact hb') (by rw [HG.out]; omega))
            have hb2 := good_of hb'
            have hml := dig_lt (vl (l.take k)) l[k].toNat k (vl_take_lt l k hk) (by omega) hb2.1
            rw [← vl_take l k hlt] at hml
            have hR2 : RV w (some ⟨b, o, none⟩) (bv (l.take (k + 1))) := by
              have h := hr.take (k + 1)
              unfold bv at h ⊢
              rw [List.map_take]
              exact h
            have hL0 : (l.take (k + 1)).length = k + 1 := by rw [List.length_take]; omega
            rw [← hL0] at HE
            rw [hL0] at HE
            have HE2 : Hid (getI l = (zag (vl (l.take (k + 1))), (l.take (k + 1)).length, 0)) := by rw [hL0]; exact HE
            have hL1 : (l.take (k + 1)).length ≤ l.length := by omega
            have HL := Lib.hid hL0
            have HM := Lib.hid hml
            clear hL0 HE
            generalize l.take (k + 1) = L at *
            generalize l[k] = c at *
            clear hr hb hb' hml
            obtain ⟨h1, h2⟩ := hb2
            have H1 := Lib.hid h1
            have H2 := Lib.hid h2
            clear h1 h2
            have HR2 := Lib.hid hR2
            clear hR2
            by_cases h9 : k = 9
            · subst h9
              have h3 := H1.out rfl
              have h4 := H2.out (by omega)
              have h5 : ((c.toNat : Int) == 0) = false := by simp; omega
              go_wp2
              clear h5 h3 h4
              go_loop [6, 7] (fun x t => ∃ (j : Nat) (y : Int), t = .int .i64 y ∧ Hid (y = (j : Int) - 1) ∧ j ≤ L.length ∧ x = .int .u64 (vl (L.drop j) : Int)) (fun _ t => (intOf t + 1).toNat)
              case atStart => exact ⟨L.length, _, rfl, Lib.hid (by have := HL.out; omega), Nat.le_refl _, by simp [vl]⟩
              case round =>
                obtain ⟨j, y, rfl, HY, hjl, rfl⟩ := hrel
                by_cases hj0 : j = 0
                · subst hj0
                  obtain rfl : y = -1 := by have := HY.out; omega
                  have hm := HM.out
                  by_cases hpar : vl L % 2 = 1
                  all_goals
                    have HP := Lib.hid hpar
                    go_wp2
                    all_goals
                      go_ret3
                      rw [HE2.out]
                      exact ⟨ret_tri (by first | exact zag_odd HP.out | exact zag_even HP.out) (by show _ = ((L.length : Nat) : Int); have := HL.out; omega) rfl, rfl⟩
                · obtain ⟨n, rfl⟩ : ∃ n, j = n + 1 := ⟨j - 1, by omega⟩
                  obtain rfl : y = (n : Int) := by have := HY.out; omega
                  obtain ⟨b', o', h', hc'⟩ := HR2.out.at_ (w' := w) (Below.refl _ _) (k := n) (bv_at (by omega))
                  cases h'
                  have HD := Lib.hid (vl_drop L n (by omega))
                  have hdl := vl_drop_le L n
                  rw [vl_drop L n (by omega)] at hdl
                  have hm := HM.out
                  have hcl' := UInt8.toNat_lt (L[n]'(by omega))
                  generalize vl (L.drop (n + 1)) = x at *
                  generalize L[n] = d at *
                  have hx : x ≤ 144115188075855872 := by omega
                  have hx2 : x * 128 + d.toNat % 128 < 18446744073709551616 := by omega
                  clear hm hdl
                  go_wp2
                  go_round
                  case rel => exact ⟨n, _, rfl, Lib.hid rfl, by omega, by rw [HD.out]; exact congrArg (Value.int IntKind.u64) (by omega)⟩
                  case measure => simp [intOf] <;> omega
            · have H9 := Lib.hid h9
              clear h9
              by_cases h0 : 0 < k
              · have h3 := H2.out h0
                have h5 : ((c.toNat : Int) == 0) = false := by simp; omega
                go_wp2
                all_goals first | (have := H9.out; omega) | skip
                clear h5 h3
                go_loop [6, 7] (fun x t => ∃ (j : Nat) (y : Int), t = .int .i64 y ∧ Hid (y = (j : Int) - 1) ∧ j ≤ L.length ∧ x = .int .u64 (vl (L.drop j) : Int)) (fun _ t => (intOf t + 1).toNat)
                case atStart => exact ⟨L.length, _, rfl, Lib.hid (by have := HL.out; omega), Nat.le_refl _, by simp [vl]⟩
                case round =>
                  obtain ⟨j, y, rfl, HY, hjl, rfl⟩ := hrel
                  by_cases hj0 : j = 0
                  · subst hj0
                    obtain rfl : y = -1 := by have := HY.out; omega
                    have hm := HM.out
                    by_cases hpar : vl L % 2 = 1
                    all_goals
                      have HP := Lib.hid hpar
                      go_wp2
                      all_goals
                        go_ret3
                        rw [HE2.out]
                        exact ⟨ret_tri (by first | exact zag_odd HP.out | exact zag_even HP.out) (by show _ = ((L.length : Nat) : Int); have := HL.out; omega) rfl, rfl⟩
                  · obtain ⟨n, rfl⟩ : ∃ n, j = n + 1 := ⟨j - 1, by omega⟩
                    obtain rfl : y = (n : Int) := by have := HY.out; omega
                    obtain ⟨b', o', h', hc'⟩ := HR2.out.at_ (w' := w) (Below.refl _ _) (k := n) (bv_at (by omega))
                    cases h'
                    have HD := Lib.hid (vl_drop L n (by omega))
                    have hdl := vl_drop_le L n
                    rw [vl_drop L n (by omega)] at hdl
                    have hm := HM.out
                    have hcl' := UInt8.toNat_lt (L[n]'(by omega))
                    generalize vl (L.drop (n + 1)) = x at *
                    generalize L[n] = d at *
                    have hx : x ≤ 144115188075855872 := by omega
                    have hx2 : x * 128 + d.toNat % 128 < 18446744073709551616 := by omega
                    clear hm hdl
                    go_wp2
                    go_round
                    case rel => exact ⟨n, _, rfl, Lib.hid rfl, by omega, by rw [HD.out]; exact congrArg (Value.int IntKind.u64) (by omega)⟩
                    case measure => simp [intOf] <;> omega
              · go_wp2
                all_goals first | (have := H9.out; omega) | skip
                go_loop [6, 7] (fun x t => ∃ (j : Nat) (y : Int), t = .int .i64 y ∧ Hid (y = (j : Int) - 1) ∧ j ≤ L.length ∧ x = .int .u64 (vl (L.drop j) : Int)) (fun _ t => (intOf t + 1).toNat)
                case atStart => exact ⟨L.length, _, rfl, Lib.hid (by have := HL.out; omega), Nat.le_refl _, by simp [vl]⟩
                case round =>
                  obtain ⟨j, y, rfl, HY, hjl, rfl⟩ := hrel
                  by_cases hj0 : j = 0
                  · subst hj0
                    obtain rfl : y = -1 := by have := HY.out; omega
                    have hm := HM.out
                    by_cases hpar : vl L % 2 = 1
                    all_goals
                      have HP := Lib.hid hpar
                      go_wp2
                      all_goals
                        go_ret3
                        rw [HE2.out]
                        exact ⟨ret_tri (by first | exact zag_odd HP.out | exact zag_even HP.out) (by show _ = ((L.length : Nat) : Int); have := HL.out; omega) rfl, rfl⟩
                  · obtain ⟨n, rfl⟩ : ∃ n, j = n + 1 := ⟨j - 1, by omega⟩
                    obtain rfl : y = (n : Int) := by have := HY.out; omega
                    obtain ⟨b', o', h', hc'⟩ := HR2.out.at_ (w' := w) (Below.refl _ _) (k := n) (bv_at (by omega))
                    cases h'
                    have HD := Lib.hid (vl_drop L n (by omega))
                    have hdl := vl_drop_le L n
                    rw [vl_drop L n (by omega)] at hdl
                    have hm := HM.out
                    have hcl' := UInt8.toNat_lt (L[n]'(by omega))
                    generalize vl (L.drop (n + 1)) = x at *
                    generalize L[n] = d at *
                    have hx : x ≤ 144115188075855872 := by omega
                    have hx2 : x * 128 + d.toNat % 128 < 18446744073709551616 := by omega
                    clear hm hdl
                    go_wp2
                    go_round
                    case rel => exact ⟨n, _, rfl, Lib.hid rfl, by omega, by rw [HD.out]; exact congrArg (Value.int IntKind.u64) (by omega)⟩
                    case measure => simp [intOf] <;> omega
      · have hke : k = 10 := by omega
        have HE : Hid (getI l = (0, 0, 11)) := by
          have h10 := cont_of 10 l k (by omega) (by omega) HJ.out (.inl hke)
          refine Lib.hid ?_
          unfold getI
          rw [h10, if_pos hke]
        clear hr
        subst hke
        go_wp2
        all_goals
          go_ret3
          rw [HE.out]
          exact ⟨rfl, rfl⟩
    · have hke : k = l.length := by omega
      subst hke
      by_cases h10 : l.length = 10
      · have HE : Hid (getI l = (0, 0, 11)) := by
          have h10' := cont_of 10 l l.length (by omega) (by omega) HJ.out (.inr (.inl rfl))
          refine Lib.hid ?_
          unfold getI
          rw [h10', if_pos h10]
        go_wp2
        all_goals
          go_ret3
          rw [HE.out]
          exact ⟨rfl, rfl⟩
      · have HE := Lib.hid (getI_end l (by omega) HJ.out)
        have h11 : ((l.length : Int) == 10) = false := by simp; omega
        have H10 := Lib.hid h10
        clear h10
        go_wp2
        all_goals
          first
          | (have := H10.out; omega)
          | (go_ret3
             rw [HE.out]
             exact ⟨rfl, rfl⟩)
end Go.Proofs.Ytgnhkhcfelmnhaa
