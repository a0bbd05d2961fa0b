/- What the reference's Join and Xor do. -/
import Derived.Test.YtkineafacekklaaDoorRef2
namespace Go.Proofs.YtkineafacekklaaDoor
open Go.RowKit
theorem stepBit0 (r : Nat) : stepBit r 0 = S r := by
  rw [stepBit_S r 0 (by decide), show stepBit 0 0 = 0 from rfl, Nat.xor_zero]
theorem step0 (r : Nat) (w : World) (hr : r < 1099511627776) :
    Calls Tryd.prog 41 #[.int .u64 (r : Int), .int .u64 0] w fun e w' => e = .returned (.int .u64 (S r : Nat)) ∧ w = w' := by
  rw [← stepBit0]
  exact step_any r 0 0 w rfl hr (by decide)
set_option maxRecDepth 100000 in
set_option maxHeartbeats 1000000 in
theorem rjoin_any (a b : Int) (n : Nat) (w : World) (hn : n ≤ 300) :
    Calls Tryd.prog 27 #[.int .i64 a, .int .i64 b, .int .i64 (n : Int)] w fun e w' => e = .returned (.int .i64 (joinP (lo a) (lo b) n : Nat)) ∧ w = w' := by
  have h1 := low40 a
  have h2 := low40 b
  have hla := lo_lt a
  have hlb := lo_lt b
  have HJ : Hid (joinP (lo a) (lo b) n = It (8 * n) (lo a) ^^^ lo b) := Lib.hid rfl
  generalize joinP (lo a) (lo b) n = R at *
  go_enter Tryd.func27, Tryd.ntmps27
  go_wp2
  generalize lo a = la at *
  clear h1
  go_loop [7, 8] (fun y i => ∃ (k p : Nat), i = .int .i64 (k : Int) ∧ k ≤ 8 * n ∧ y = .int .u64 (p : Int) ∧ p < 1099511627776 ∧ Hid (p = It k la)) (fun _ i => 8 * n - (intOf i).toNat)
  case atStart => exact ⟨0, la, rfl, by omega, rfl, hla, Lib.hid rfl⟩
  case round =>
    obtain ⟨k, p, rfl, hk, rfl, hp, HP⟩ := hrel
    by_cases hlt : k < 8 * n
    · have hlt2 : (k : Int) < 8 * (n : Int) := by omega
      go_wp2_with fail
      refine (step0 p _ hp).mono ?_
      rintro e w2 ⟨rfl, rfl⟩
      go_wp2_with fail
      go_round
      case rel => exact ⟨k + 1, _, by go_num, by omega, rfl, S_lt _, Lib.hid (by rw [HP.out, It_succ])⟩
      case measure => simp [intOf]; omega
    · obtain rfl : k = 8 * n := by omega
      have hx := xor40 p (lo b) hp hlb
      have hxl := xor_lt hp hlb
      have HE : Hid (p ^^^ lo b = R) := Lib.hid (by rw [HJ.out, ← HP.out])
      generalize p ^^^ lo b = y at *
      go_wp2
      go_ret
      exact ⟨ret_i64 (by rw [← HE.out]), rfl⟩
set_option maxRecDepth 100000 in
theorem rjoin_neg (a b n : Int) (w : World) (hn : n < 0) :
    Calls Tryd.prog 27 #[.int .i64 a, .int .i64 b, .int .i64 n] w fun e w' => e = .returned (.int .i64 0) ∧ w = w' := by
  go_enter Tryd.func27, Tryd.ntmps27
  go_wp2
  go_ret
  exact ⟨rfl, rfl⟩
theorem xorL_take (a b : List UInt8) (k : Nat) (h : k < a.length) : (xorL a b).take (k + 1) = (xorL a b).take k ++ [if h2 : k < b.length then a[k] ^^^ b[k] else a[k]] := by
  rw [List.take_succ_eq_append_getElem (by rw [xorL_length]; exact h)]
  congr 2
  induction a generalizing b k with
  | nil => simp at h
  | cons c l ih =>
    cases b with
    | nil =>
      cases k with
      | zero => simp [xorL]
      | succ k =>
        have := ih [] k (by simpa using h)
        simpa [xorL] using this
    | cons d m =>
      cases k with
      | zero => simp [xorL]
      | succ k =>
        have := ih m k (by simpa using h)
        simpa [xorL] using this
theorem u8_xor_arg (c d : UInt8) : bits .xor .u8 (c.toNat : Int) (d.toNat : Int) = ((c ^^^ d).toNat : Int) := by
  have h1 := c.toNat_lt
  have h2 := d.toNat_lt
  rw [u8_xor_nat _ _ (by omega) (by omega), UInt8.toNat_xor]
set_option maxRecDepth 100000 in
set_option maxHeartbeats 1000000 in
theorem rxor_any (A B : Option Addr) (n cap m cap2 : Nat) (a b : List UInt8) (w : World) (hn : a.length = n) (hm : b.length = m) (hra : RV w A (bv a)) (hrb : RV w B (bv b)) (hl : n ≤ 1000) :
    Calls Tryd.prog 28 #[.slice A n cap, .slice B m cap2] w (Ext w.heap.size w (xorL a b)) := by
  have HN := Lib.hid hn
  have HM := Lib.hid hm
  clear hn hm
  go_enter Tryd.func28, Tryd.ntmps28
  go_wp2
  go_loopw [5, 6, 7] (fun v i _ wr => ∃ k : Nat, i = .int .i64 k ∧ k ≤ n ∧ Own wr w.heap.size v ((xorL a b).take k) ∧ Below w.heap.size w wr) (fun _ i _ _ => n - (intOf i).toNat)
  case atStart => exact ⟨0, rfl, by omega, Own.nil _ _, Below.refl _ _⟩
  case round =>
    obtain ⟨k, rfl, hk, ho, hb⟩ := hrel
    have hhs := hb.size
    by_cases hlt : k < n
    · have hka : k < a.length := by rw [HN.out]; exact hlt
      obtain ⟨ba, oa, rfl, hca⟩ := hra.at_ (w' := wr) hb (k := k) (bv_at hka)
      have hln : ((xorL a b).take k).length ≤ 1000 := by rw [List.length_take]; omega
      have HT := Lib.hid (xorL_take a b k hka)
      by_cases hlt2 : k < m
      · have hkb : k < b.length := by rw [HM.out]; exact hlt2
        rw [dif_pos hkb] at HT
        obtain ⟨bb, ob, rfl, hcb⟩ := hrb.at_ (w' := wr) hb (k := k) (bv_at hkb)
        have HA := Lib.hid (u8_xor_arg a[k] b[k])
        have hua := a[k].toNat_lt
        have hub := b[k].toNat_lt
        generalize a[k] = x at *
        generalize b[k] = y at *
        clear hra hrb
        go_wp2_with (at_builtin; go_loud (refine arm_one (w := wr) (x ^^^ y) HA.out (by rfl) _ _ (by rfl) w.heap.size u5 ((xorL a b).take k) (by rfl) ho (by rfl) (by omega) (by omega) ?_); intro v' w1 ho1 hb1)
        go_roundw
        case rel => exact ⟨k + 1, by go_num, by omega, by rw [HT.out]; exact ho1, hb.trans hb1⟩
        case measure => simp [intOf]; omega
      · have hkb : ¬ k < b.length := by rw [HM.out]; exact hlt2
        rw [dif_neg hkb] at HT
        have hua := a[k].toNat_lt
        generalize a[k] = x at *
        clear hra hrb
        go_wp2_with (at_builtin; go_loud (refine arm_one (w := wr) x rfl (by rfl) _ _ (by rfl) w.heap.size u5 ((xorL a b).take k) (by rfl) ho (by rfl) (by omega) (by omega) ?_); intro v' w1 ho1 hb1)
        go_roundw
        case rel => exact ⟨k + 1, by go_num, by omega, by rw [HT.out]; exact ho1, hb.trans hb1⟩
        case measure => simp [intOf]; omega
    · obtain rfl : k = n := by omega
      clear hra hrb
      go_wp2
      go_ret
      exact ⟨_, rfl, by rw [List.take_of_length_le (by rw [xorL_length, HN.out]; exact Nat.le_refl _)] at ho; exact ho, hb⟩
end Go.Proofs.YtkineafacekklaaDoor
