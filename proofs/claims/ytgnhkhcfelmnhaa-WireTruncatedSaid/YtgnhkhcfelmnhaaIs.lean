/- The function that WireCanonical makes: a decoded value's encoding is what was consumed. -/
import Derived.Test.YtgnhkhcfelmnhaaLits
namespace Go.Proofs.Ytgnhkhcfelmnhaa
open Go.RowKit
set_option maxRecDepth 100000 in
set_option maxHeartbeats 1000000 in
theorem is_err (c : Value) (u f : Nat) (g : Nat) (w : World) (hf : f ≠ 0) :
    Calls Try.prog 37 #[c, .int .i64 u, .int .i64 f, .pointer (some ⟨g, 0, none⟩)] w fun e w' => e = .returned (.bool true) ∧ w = w' := by
  have h1 : ((f : Int) == 0) = false := by simp; omega
  have h2 : ((f : Int) != 0) = true := by simp; omega
  clear hf
  go_enter Try.func37, Try.ntmps37
  go_wp2
  go_ret
  exact ⟨rfl, rfl⟩
set_option maxRecDepth 100000 in
set_option maxHeartbeats 1000000 in
theorem is_ok (A B : Option Addr) (n k m cap u : Nat) (r l : List UInt8) (g : Nat) (w : World) (hn : r.length = n) (hm : l.length = m) (hr : RV w A (bv r)) (hl : RV w B (bv l)) (hcap : m ≤ cap) (hu : u ≤ m) (he : r = l.take u)
    (hc : w.cell? ⟨g, 0, none⟩ = some (.slice B m cap)) :
    Calls Try.prog 37 #[.slice A n k, .int .i64 u, .int .i64 0, .pointer (some ⟨g, 0, none⟩)] w fun e w' => e = .returned (.bool true) ∧ w = w' := by
  have hl2 := hl.take u
  have hl3 : RV w B (bv (l.take u)) := by
    have e : (bv l).take u = bv (l.take u) := by simp [bv]
    rw [e] at hl2
    exact hl2
  have hlen : (l.take u).length = u := by rw [List.length_take]; omega
  clear hl2 hl
  have HE := Lib.hid he
  clear he
  go_enter Try.func37, Try.ntmps37
  go_wp2_with fail
  all_goals
    refine (same_any A B n _ k _ r (l.take u) w hn (by omega) hr hl3).mono ?_
    rintro e w1 ⟨rfl, rfl⟩
    rw [decide_eq_true HE.out]
    go_wp2
    go_ret
    exact ⟨rfl, rfl⟩
end Go.Proofs.Ytgnhkhcfelmnhaa
