/- What few does where the sum fits 63 bits; strings that came in. -/
import Derived.Test.YtgnhkhcfelmnhaaLawK
import Derived.Test.YtgnhkhcfelmnhaaArgs2
namespace Go.Proofs.Ytgnhkhcfelmnhaa
open Go.RowKit
def total (ts : List (List UInt8)) : Nat := (ts.map List.length).sum
theorem total_take (ts : List (List UInt8)) (k : Nat) (h : k < ts.length) : total (ts.take (k + 1)) = total (ts.take k) + ts[k].length := by
  rw [List.take_succ_eq_append_getElem h]
  unfold total
  rw [List.map_append, List.sum_append]
  rfl
theorem total_take_le (ts : List (List UInt8)) (k : Nat) : total (ts.take k) ≤ total ts := by
  have e : total ts = total (ts.take k) + total (ts.drop k) := by
    unfold total
    rw [← List.sum_append, ← List.map_append, List.take_append_drop]
  omega
set_option maxRecDepth 100000 in
set_option maxHeartbeats 1000000 in
theorem few_any (A : Option Addr) (cap n : Nat) (ts : List (List UInt8)) (w : World) (hn : ts.length = n) (hr : RV w A (tv ts)) (hs : n + total ts ≤ 9000000000000000000) :
    Calls Try.prog 11 #[.slice A n cap] w fun e w' => e = .returned (.bool (decide (n + total ts ≤ 2000))) ∧ w = w' := by
  have HN := Lib.hid hn
  clear hn
  go_enter Try.func11, Try.ntmps11
  go_wp2
  go_loop [3, 10] (fun y t => ∃ k : Nat, t = .int .i64 k ∧ k ≤ n ∧ y = .int .i64 ((n + total (ts.take k) : Nat) : Int)) (fun _ t => n - (intOf t).toNat)
  case atStart => exact ⟨0, rfl, by omega, by simp [total]⟩
  case round =>
    obtain ⟨k, rfl, hk, rfl⟩ := hrel
    have hle := total_take_le ts k
    by_cases hlt : k < n
    · have hkt : k < ts.length := by rw [HN.out]; exact hlt
      obtain ⟨b, o, rfl, hc⟩ := hr.at_ (w' := w) (Below.refl _ _) (k := k) (tv_at hkt)
      have hle2 := total_take_le ts (k + 1)
      rw [total_take ts k hkt] at hle2
      have HT := Lib.hid (total_take ts k hkt)
      generalize total (ts.take k) = q at *
      generalize ts[k] = x at *
      clear hr
      go_wp2
      go_round
      case rel => exact ⟨k + 1, by go_num, by omega, by rw [HT.out]; exact congrArg (Value.int IntKind.i64) (by simp; omega)⟩
      case measure => simp [intOf]; omega
    · obtain rfl : k = n := by omega
      have HE : Hid (total (ts.take k) = total ts) := Lib.hid (by rw [List.take_of_length_le (by rw [HN.out]; exact Nat.le_refl _)])
      clear hr
      generalize total (ts.take k) = q at *
      go_wp2
      go_ret
      rw [← HE.out]
      exact ⟨ret_bool (by rw [Bool.eq_iff_iff]; simp; omega), rfl⟩
end Go.Proofs.Ytgnhkhcfelmnhaa
