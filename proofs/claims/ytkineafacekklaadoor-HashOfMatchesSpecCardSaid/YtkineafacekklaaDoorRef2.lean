/- What the reference's Five, Bytes and Words do. -/
import Derived.Test.YtkineafacekklaaDoorRef1
namespace Go.Proofs.YtkineafacekklaaDoor
open Go.RowKit
theorem five_len (z : Int) : (five z).length = 5 := by simp [five]
theorem flat_five_len (l : List Int) : (l.flatMap five).length = 5 * l.length := by
  induction l with
  | nil => rfl
  | cons z r ih => simp only [List.flatMap_cons, List.length_append, List.length_cons, ih, five_len]; omega
theorem flat_take {α β : Type} (f : α → List β) (l : List α) (k : Nat) (h : k < l.length) : (l.take (k + 1)).flatMap f = (l.take k).flatMap f ++ f l[k] := by
  rw [List.take_succ_eq_append_getElem h, List.flatMap_append]; simp
set_option maxRecDepth 100000 in
set_option maxHeartbeats 400000 in
theorem rfive_any (z : Int) (w : World) : Calls Tryd.prog 42 #[.int .i64 z] w (Ext w.heap.size w (five z)) := by
  go_enter Tryd.func42, Tryd.ntmps42
  go_wp2
  go_loopw [3, 4] (fun v i wr => ∃ k : Nat, i = .int .i64 k ∧ k ≤ 5 ∧ Own wr w.heap.size v ((five z).take k) ∧ Below w.heap.size w wr) (fun _ i _ => 5 - (intOf i).toNat)
  case atStart => exact ⟨0, rfl, by omega, Own.nil _ _, Below.refl _ _⟩
  case round =>
    obtain ⟨k, rfl, hk, ho, hb⟩ := hrel
    have hhs := hb.size
    by_cases hlt : k < 5
    · have hln : ((five z).take k).length ≤ 5 := by rw [List.length_take, five_len]; omega
      have hs0 : 8 * (k : Int) ≤ 32 := by omega
      go_wp2_with (at_builtin; go_loud (refine arm_one (w := wr) (wb z k) (wb_nat z k).symm (by rfl) _ _ (by rfl) w.heap.size u3 ((five z).take k) (by rfl) ho (by rfl) (by omega) (by omega) ?_); intro v' w1 ho1 hb1)
      go_roundw
      case rel => exact ⟨k + 1, by go_num, by omega, by rw [five_take z k hlt]; exact ho1, hb.trans hb1⟩
      case measure => simp [intOf]; omega
    · obtain rfl : k = 5 := by omega
      go_wp2
      go_ret
      exact ⟨_, rfl, by rw [List.take_of_length_le (by rw [five_len]; exact Nat.le_refl _)] at ho; exact ho, hb⟩
set_option maxRecDepth 100000 in
set_option maxHeartbeats 400000 in
theorem rbytes_any (A : Option Addr) (n cap : Nat) (l : List Int) (w : World) (hn : l.length = n) (hr : RV w A (iv l)) (hl : n ≤ 1000) :
    Calls Tryd.prog 25 #[.slice A n cap] w (Ext w.heap.size w (l.flatMap five)) := by
  have HN := Lib.hid hn
  clear hn
  go_enter Tryd.func25, Tryd.ntmps25
  go_wp2
  go_loopw [3, 4] (fun v i wr => ∃ k : Nat, i = .int .i64 k ∧ k ≤ n ∧ Own wr w.heap.size v ((l.take k).flatMap five) ∧ Below w.heap.size w wr) (fun _ i _ => n - (intOf i).toNat)
  case atStart => exact ⟨0, rfl, by omega, Own.nil _ _, Below.refl _ _⟩
  case round =>
    obtain ⟨k, rfl, hk, ho, hb⟩ := hrel
    have hhs := hb.size
    by_cases hlt : k < n
    · have hkl : k < l.length := by rw [HN.out]; exact hlt
      obtain ⟨b, o, rfl, hc⟩ := hr.at_ (w' := wr) hb (k := k) (iv_at hkl)
      have HT := Lib.hid (flat_take five l k hkl)
      have hln := flat_five_len (l.take k)
      rw [List.length_take] at hln
      have hl2 : ((l.take k).flatMap five).length ≤ 5000 := by omega
      have h5 := five_len l[k]
      generalize l[k] = z at *
      clear hr hln
      go_wp2_with fail
      refine (rfive_any z wr).mono ?_
      rintro e w1 ⟨v1, rfl, ho1, hb1⟩
      have hz1 := hb1.size
      obtain ⟨A1, c1, rfl, hc1, _, hR1⟩ := ho1.form
      go_wp2_with (at_builtin; go_loud (refine arm_bytes (w := w1) (by rfl) _ _ (by rfl) w.heap.size u3 _ (by rfl) (ho.below hb1) A1 c1 (five z) (by rfl) hR1 (by omega) (by omega) ?_); intro v' w2 ho2 hb2)
      go_roundw
      case rel => exact ⟨k + 1, by go_num, by omega, by rw [HT.out]; exact ho2, (bel_on hb hb1).trans hb2⟩
      case measure => simp [intOf]; omega
    · obtain rfl : k = n := by omega
      clear hr
      go_wp2
      go_ret
      exact ⟨_, rfl, by rw [List.take_of_length_le (by rw [HN.out]; exact Nat.le_refl _)] at ho; exact ho, hb⟩
set_option maxRecDepth 100000 in
set_option maxHeartbeats 400000 in
theorem rwords_any (A : Option Addr) (n cap : Nat) (l : List Int) (w : World) (hn : l.length = n) (hr : RV w A (iv l)) (hl : n ≤ 1000) :
    Calls Tryd.prog 24 #[.slice A n cap] w fun e w' => e = .returned (.int .i64 (crc (l.flatMap five) : Nat)) ∧ Below w.heap.size w w' := by
  have hB := rbytes_any A n cap l w hn hr hl
  have hL : (l.flatMap five).length ≤ 5000 := by rw [flat_five_len]; omega
  generalize l.flatMap five = L at *
  have HB := Lib.hid hB
  clear hB hn hr
  go_enter Tryd.func24, Tryd.ntmps24
  go_wp2_with fail
  refine HB.out.mono ?_
  rintro e w1 ⟨v1, rfl, ho1, hb1⟩
  obtain ⟨A1, c1, rfl, hc1, _, hR1⟩ := ho1.form
  go_wp2_with fail
  refine (rcrc_any A1 _ c1 _ _ rfl hR1 (by omega)).mono ?_
  rintro e w2 ⟨rfl, rfl⟩
  go_wp2
  go_ret
  exact ⟨rfl, hb1⟩
end Go.Proofs.YtkineafacekklaaDoor
