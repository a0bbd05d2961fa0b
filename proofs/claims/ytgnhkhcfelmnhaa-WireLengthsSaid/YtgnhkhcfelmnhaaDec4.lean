/- What the decoders of byte strings do. -/
import Derived.Test.YtgnhkhcfelmnhaaDec3
import Derived.Test.YtgnhkhcfelmnhaaMath2
namespace Go.Proofs.Ytgnhkhcfelmnhaa
open Go.RowKit
theorem RV.seg {w : World} {A : Option Addr} {l : List UInt8} (h : RV w A (bv l)) {u cap : Nat} (n : Nat) (hu : u ≤ l.length) (hc : l.length ≤ cap) : RV w (if cap = u then A else A.map (·.add u)) (bv ((l.drop u).take n)) := by
  have h1 := (h.cut (k := u) (cap := cap) (by rw [bv_len]; exact hu) (by rw [bv_len]; exact hc)).take n
  have e : ((bv l).drop u).take n = bv ((l.drop u).take n) := by simp [bv]
  rw [e] at h1
  exact h1
theorem seg_len {l : List UInt8} {u n : Nat} (h : u + n ≤ l.length) : ((l.drop u).take n).length = n := by simp; omega
/-- The results of a decoder of byte strings. -/
def btri (r : List UInt8 × Nat × Nat) : Value := .tuple #[.string ⟨r.1.toArray⟩, .int .i64 (r.2.1 : Int), .int .i64 (r.2.2 : Int)]
set_option maxRecDepth 100000 in
set_option maxHeartbeats 1000000 in
theorem getBytes_ok (A : Option Addr) (cap : Nat) (l : List UInt8) (w : World) (hcap : l.length ≤ cap) (n u : Nat) (hn : u + n ≤ l.length) (hr : RV w A (bv l)) (hl : l.length ≤ 140737488355328)
    (HC : Hid (Calls Try.prog 44 #[.slice A l.length cap, .int .i64 1] w fun e w' => e = .returned (.tuple #[.int .i64 n, .int .i64 (u : Int), .int .i64 0]) ∧ w = w')) :
    Calls Try.prog 26 #[.slice A l.length cap] w fun e w' => e = .returned (.tuple #[.string ⟨((l.drop u).take n).toArray⟩, .int .i64 ((u + n : Nat) : Int), .int .i64 0]) ∧ w = w' := by
  have hcv := fun c => conv_str (hr.seg (u := u) (cap := cap) n (by omega) hcap) c
  rw [seg_len hn] at hcv
  generalize ((l.drop u).take n).toArray = r at *
  by_cases hcu : cap = u
  · rw [if_pos hcu] at hcv
    subst hcu
    clear hr
    go_enter Try.func26, Try.ntmps26
    go_wp2_with (go_at_call 44; refine (HC.out).mono ?_; rintro e w1 ⟨rfl, rfl⟩)
    go_ret3
    exact ⟨rfl, rfl⟩
  · rw [if_neg hcu] at hcv
    clear hr
    go_enter Try.func26, Try.ntmps26
    go_wp2_with (go_at_call 44; refine (HC.out).mono ?_; rintro e w1 ⟨rfl, rfl⟩)
    go_ret3
    exact ⟨rfl, rfl⟩
set_option maxRecDepth 100000 in
set_option maxHeartbeats 1000000 in
theorem getBytes_any (A : Option Addr) (cap : Nat) (l : List UInt8) (w : World) (hcap : l.length ≤ cap) (hr : RV w A (bv l)) (hl : l.length ≤ 140737488355328) :
    Calls Try.prog 26 #[.slice A l.length cap] w fun e w' => e = .returned (btri (getB l)) ∧ w = w' := by
  have hC := getLen_any A cap l 1 w (Nat.le_refl _) (by omega) hr hl
  have hf := getL_fits 1 (Nat.le_refl _) l
  unfold getB
  obtain ⟨n, u, f, hg⟩ : ∃ n u f, getL 1 l = (n, u, f) := ⟨_, _, _, rfl⟩
  rw [hg] at hC hf ⊢
  simp only at hf ⊢
  by_cases hf0 : f = 0
  · subst hf0
    have hf2 : 0 ≤ n ∧ 1 ≤ u ∧ u ≤ 10 ∧ u + n.toNat * 1 ≤ l.length := by
      rcases hf with h | h
      · exact ⟨h.2.1, h.2.2.1, h.2.2.2.1, h.2.2.2.2.1⟩
      · have := h.1; omega
    obtain ⟨hn, hu1, hu2, hu3⟩ := hf2
    obtain ⟨m, rfl⟩ := Int.eq_ofNat_of_zero_le hn
    exact getBytes_ok A cap l w hcap m u (by simpa using hu3) hr hl hC
  · have HC : Hid (Calls Try.prog 44 #[.slice A l.length cap, .int .i64 1] w fun e w' => e = .returned (.tuple #[.int .i64 n, .int .i64 (u : Int), .int .i64 (f : Int)]) ∧ w = w') := hC
    have h1 : ((f : Int) == 0) = false := by simp; omega
    have h2 : ((f : Int) != 0) = true := by simp; omega
    rw [if_pos hf0]
    clear hf0 hC hf hr
    go_enter Try.func26, Try.ntmps26
    go_wp2_with (go_at_call 44; refine (HC.out).mono ?_; rintro e w1 ⟨rfl, rfl⟩)
    go_ret3
    exact ⟨rfl, rfl⟩
set_option maxRecDepth 100000 in
set_option maxHeartbeats 1000000 in
theorem rgetBytes_ok (A : Option Addr) (cap : Nat) (l : List UInt8) (w : World) (hcap : l.length ≤ cap) (n u : Nat) (hn : u + n ≤ l.length) (hr : RV w A (bv l)) (hl : l.length ≤ 140737488355328)
    (HC : Hid (Calls Try.prog 25 #[.slice A l.length cap] w fun e w' => e = .returned (.tuple #[.int .i64 n, .int .i64 (u : Int), .int .i64 0]) ∧ w = w')) :
    Calls Try.prog 27 #[.slice A l.length cap] w fun e w' => e = .returned (.tuple #[.string ⟨((l.drop u).take n).toArray⟩, .int .i64 ((u + n : Nat) : Int), .int .i64 0]) ∧ w = w' := by
  have hcv := fun c => conv_str (hr.seg (u := u) (cap := cap) n (by omega) hcap) c
  rw [seg_len hn] at hcv
  generalize ((l.drop u).take n).toArray = r at *
  by_cases hcu : cap = u
  · rw [if_pos hcu] at hcv
    subst hcu
    clear hr
    go_enter Try.func27, Try.ntmps27
    go_wp2_with (go_at_call 25; refine (HC.out).mono ?_; rintro e w1 ⟨rfl, rfl⟩)
    go_ret3
    exact ⟨rfl, rfl⟩
  · rw [if_neg hcu] at hcv
    clear hr
    go_enter Try.func27, Try.ntmps27
    go_wp2_with (go_at_call 25; refine (HC.out).mono ?_; rintro e w1 ⟨rfl, rfl⟩)
    go_ret3
    exact ⟨rfl, rfl⟩
set_option maxRecDepth 100000 in
set_option maxHeartbeats 1000000 in
theorem rgetBytes_any (A : Option Addr) (cap : Nat) (l : List UInt8) (w : World) (hcap : l.length ≤ cap) (hr : RV w A (bv l)) (hl : l.length ≤ 140737488355328) :
    Calls Try.prog 27 #[.slice A l.length cap] w fun e w' => e = .returned (btri (getB l)) ∧ w = w' := by
  have hC := rgetInt_any A cap l w hr hl
  have hf := getI_fits l
  obtain ⟨n, u, f, hg⟩ : ∃ n u f, getI l = (n, u, f) := ⟨_, _, _, rfl⟩
  rw [hg] at hC hf
  simp only at hf
  have HC : Hid (Calls Try.prog 25 #[.slice A l.length cap] w fun e w' => e = .returned (.tuple #[.int .i64 n, .int .i64 (u : Int), .int .i64 (f : Int)]) ∧ w = w') := hC
  clear hC
  by_cases hf0 : f = 0
  · subst hf0
    have hf2 : I64 n ∧ 1 ≤ u ∧ u ≤ 10 ∧ u ≤ l.length := by
      rcases hf with h | h
      · exact h.2
      · have := h.1; omega
    obtain ⟨hn, hu1, hu2, hu3⟩ := hf2
    unfold I64 at hn
    by_cases hneg : n < 0
    · rw [getB_neg hg hneg]
      clear hr hg hf
      go_enter Try.func27, Try.ntmps27
      go_wp2_with (go_at_call 25; refine (HC.out).mono ?_; rintro e w1 ⟨rfl, rfl⟩)
      go_ret3
      exact ⟨rfl, rfl⟩
    · by_cases hbig : (l.length : Int) - (u : Int) < n
      · rw [getB_big hg hneg hbig]
        clear hr hg hf
        go_enter Try.func27, Try.ntmps27
        go_wp2_with (go_at_call 25; refine (HC.out).mono ?_; rintro e w1 ⟨rfl, rfl⟩)
        go_ret3
        exact ⟨rfl, rfl⟩
      · obtain ⟨m, rfl⟩ := Int.eq_ofNat_of_zero_le (show 0 ≤ n by omega)
        have hbig2 : ¬ ((l.length : Int) - (u : Int) < (m : Int)) := hbig
        rw [getB_ok hg hbig2]
        exact rgetBytes_ok A cap l w hcap m u (by omega) hr hl HC
  · have h1 : ((f : Int) == 0) = false := by simp; omega
    have h2 : ((f : Int) != 0) = true := by simp; omega
    rw [getB_err hg hf0]
    clear hf0 hf hr hg
    go_enter Try.func27, Try.ntmps27
    go_wp2_with (go_at_call 25; refine (HC.out).mono ?_; rintro e w1 ⟨rfl, rfl⟩)
    go_ret3
    exact ⟨rfl, rfl⟩
end Go.Proofs.Ytgnhkhcfelmnhaa
