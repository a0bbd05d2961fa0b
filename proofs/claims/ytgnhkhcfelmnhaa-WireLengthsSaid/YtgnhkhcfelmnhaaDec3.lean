/- What the decoders of lengths do. -/
import Derived.Test.YtgnhkhcfelmnhaaDec2
namespace Go.Proofs.Ytgnhkhcfelmnhaa
open Go.RowKit
set_option maxRecDepth 100000 in
set_option maxHeartbeats 1000000 in
theorem getLen_any (A : Option Addr) (cap : Nat) (l : List UInt8) (size : Nat) (w : World) (hs : 1 ≤ size) (hs2 : size ≤ 1000) (hr : RV w A (bv l)) (hl : l.length ≤ 140737488355328) :
    Calls Try.prog 44 #[.slice A l.length cap, .int .i64 size] w fun e w' => e = .returned (tri (getL size l)) ∧ w = w' := by
  have hC := getInt_any A cap l w hr hl
  have hf := getI_fits l
  unfold getL
  obtain ⟨n, u, f, hg⟩ : ∃ n u f, getI l = (n, u, f) := ⟨_, _, _, rfl⟩
  rw [hg] at hC hf ⊢
  simp only at hf ⊢
  have HC : Hid (Calls Try.prog 24 #[.slice A l.length cap] w fun e w' => e = .returned (.tuple #[.int .i64 n, .int .i64 (u : Int), .int .i64 (f : Int)]) ∧ w = w') := hC
  clear hC hg
  by_cases hf0 : f = 0
  · subst hf0
    have hf2 : I64 n ∧ 1 ≤ u ∧ u ≤ 10 ∧ u ≤ l.length := by
      rcases hf with h | h
      · exact h.2
      · have := h.1; omega
    obtain ⟨hn, hu1, hu2, hu3⟩ := hf2
    unfold I64 at hn
    by_cases hneg : n < 0
    · go_enter Try.func44, Try.ntmps44
      go_wp2_with (go_at_call 24; refine (HC.out).mono ?_; rintro e w1 ⟨rfl, rfl⟩)
      go_ret3
      exact ⟨rfl, rfl⟩
    · by_cases hbig : ((l.length : Int) - (u : Int)) / (size : Int) < n
      · go_enter Try.func44, Try.ntmps44
        go_wp2_with (go_at_call 24; refine (HC.out).mono ?_; rintro e w1 ⟨rfl, rfl⟩)
        go_ret3
        exact ⟨rfl, rfl⟩
      · go_enter Try.func44, Try.ntmps44
        go_wp2_with (go_at_call 24; refine (HC.out).mono ?_; rintro e w1 ⟨rfl, rfl⟩)
        go_ret3
        exact ⟨rfl, rfl⟩
  · have h1 : ((f : Int) == 0) = false := by simp; omega
    have h2 : ((f : Int) != 0) = true := by simp; omega
    rw [if_pos hf0]
    clear hf0
    go_enter Try.func44, Try.ntmps44
    go_wp2_with (go_at_call 24; refine (HC.out).mono ?_; rintro e w1 ⟨rfl, rfl⟩)
    go_ret3
    exact ⟨rfl, rfl⟩
set_option maxRecDepth 100000 in
set_option maxHeartbeats 1000000 in
theorem rlen_any (A : Option Addr) (cap : Nat) (l : List UInt8) (size : Nat) (w : World) (hs : 1 ≤ size) (hs2 : size ≤ 1000) (hr : RV w A (bv l)) (hl : l.length ≤ 140737488355328) :
    Calls Try.prog 46 #[.slice A l.length cap, .int .i64 size] w fun e w' => e = .returned (tri (getL size l)) ∧ w = w' := by
  have hC := rgetInt_any A cap l w hr hl
  have hf := getI_fits l
  unfold getL
  obtain ⟨n, u, f, hg⟩ : ∃ n u f, getI l = (n, u, f) := ⟨_, _, _, rfl⟩
  rw [hg] at hC hf ⊢
  simp only at hf ⊢
  have HC : Hid (Calls Try.prog 25 #[.slice A l.length cap] w fun e w' => e = .returned (.tuple #[.int .i64 n, .int .i64 (u : Int), .int .i64 (f : Int)]) ∧ w = w') := hC
  clear hC hg
  by_cases hf0 : f = 0
  · subst hf0
    have hf2 : I64 n ∧ 1 ≤ u ∧ u ≤ 10 ∧ u ≤ l.length := by
      rcases hf with h | h
      · exact h.2
      · have := h.1; omega
    obtain ⟨hn, hu1, hu2, hu3⟩ := hf2
    unfold I64 at hn
    by_cases hneg : n < 0
    · go_enter Try.func46, Try.ntmps46
      go_wp2_with (go_at_call 25; refine (HC.out).mono ?_; rintro e w1 ⟨rfl, rfl⟩)
      go_ret3
      exact ⟨rfl, rfl⟩
    · by_cases hbig : ((l.length : Int) - (u : Int)) / (size : Int) < n
      · go_enter Try.func46, Try.ntmps46
        go_wp2_with (go_at_call 25; refine (HC.out).mono ?_; rintro e w1 ⟨rfl, rfl⟩)
        go_ret3
        exact ⟨rfl, rfl⟩
      · go_enter Try.func46, Try.ntmps46
        go_wp2_with (go_at_call 25; refine (HC.out).mono ?_; rintro e w1 ⟨rfl, rfl⟩)
        go_ret3
        exact ⟨rfl, rfl⟩
  · have h1 : ((f : Int) == 0) = false := by simp; omega
    have h2 : ((f : Int) != 0) = true := by simp; omega
    rw [if_pos hf0]
    clear hf0
    go_enter Try.func46, Try.ntmps46
    go_wp2_with (go_at_call 25; refine (HC.out).mono ?_; rintro e w1 ⟨rfl, rfl⟩)
    go_ret3
    exact ⟨rfl, rfl⟩
end Go.Proofs.Ytgnhkhcfelmnhaa
