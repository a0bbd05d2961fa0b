/- What wire's list decoder does at integers. -/
import Derived.Test.YtgnhkhcfelmnhaaKit2
namespace Go.Proofs.Ytgnhkhcfelmnhaa
open Go.RowKit
theorem getInt_at (A : Option Addr) (n cap : Nat) (l : List UInt8) (w : World) (hn : l.length = n) (hr : RV w A (bv l)) (hl : n ≤ 140737488355328) :
    Calls Try.prog 24 #[.slice A n cap] w fun e w' => e = .returned (tri (getI l)) ∧ w = w' := by
  subst hn
  exact getInt_any A cap l w hr hl
/-- The results of a decoder of lists of integers. -/
def IRes (w : World) (r : List Int × Nat × Nat) (e : Ending) (w' : World) : Prop :=
  ∃ v, e = .returned (.tuple #[v, .int .i64 (r.2.1 : Int), .int .i64 (r.2.2 : Int)]) ∧ OI w' w.heap.size v r.1 ∧ Below w.heap.size w w'
theorem RV.rest {w : World} {A : Option Addr} {l : List UInt8} (h : RV w A (bv l)) {u cap : Nat} (hu : u ≤ l.length) (hc : l.length ≤ cap) : RV w (if cap = u then A else A.map (·.add u)) (bv (l.drop u)) := by
  have h1 := h.cut (k := u) (cap := cap) (by rw [bv_len]; exact hu) (by rw [bv_len]; exact hc)
  have e : (bv l).drop u = bv (l.drop u) := by simp [bv]
  rw [e] at h1
  exact h1
set_option maxRecDepth 100000 in
set_option maxHeartbeats 1000000 in
theorem getListI_any (A : Option Addr) (cap : Nat) (l : List UInt8) (w : World) (hcap : l.length ≤ cap) (hr : RV w A (bv l)) (hl : l.length ≤ 1073741824) :
    Calls Try.prog 45 #[.slice A l.length cap, .int .i64 1, .func (.func 24) #[] #[]] w (IRes w (getS getI 1 l)) := by
  have hC := getLen_any A cap l 1 w (Nat.le_refl _) (by omega) hr (by omega)
  have hf := getL_fits 1 (Nat.le_refl _) l
  have hE := getS_err (get := getI) (size := 1) (l := l)
  have hM := getS_rel (get := getI) (size := 1) (l := l)
  generalize getS getI 1 l = r at *
  obtain ⟨n, u, f, hg⟩ : ∃ n u f, getL 1 l = (n, u, f) := ⟨_, _, _, rfl⟩
  rw [hg] at hC hf hE hM
  simp only at hf hE hM
  have HC : Hid (Calls Try.prog 44 #[.slice A l.length cap, .int .i64 1] w fun e w' => e = .returned (.tuple #[.int .i64 n, .int .i64 (u : Int), .int .i64 (f : Int)]) ∧ w = w') := hC
  clear hC hg
  by_cases hf0 : f = 0
  · subst hf0
    have hM := hM rfl
    clear hE
    have hf2 : 0 ≤ n ∧ 1 ≤ u ∧ u ≤ 10 ∧ u + n.toNat * 1 ≤ l.length := by
      rcases hf with h | h
      · exact ⟨h.2.1, h.2.2.1, h.2.2.2.1, h.2.2.2.2.1⟩
      · have := h.1; omega
    clear hf
    obtain ⟨hn, hu1, hu2, hu3⟩ := hf2
    obtain ⟨m, rfl⟩ := Int.eq_ofNat_of_zero_le hn
    simp only [Int.toNat_natCast, Nat.mul_one] at hM hu3
    have HM := Lib.hid hM
    clear hM
    go_enter Try.func45, Try.ntmps45
    go_wp2_with (first | (go_at_call 44; refine (HC.out).mono ?_; rintro e w1 ⟨rfl, rfl⟩) | (at_make; go_loud (refine arm_make 22 3 1 _ 8 Try.underlying22 info3 m (by omega) (by omega) (by rfl) _ _ (by rfl) (by rfl) (by rfl) ?_); intro w1 ho1 hb1))
    go_loopw [10, 12, 29] (fun y v t wr => ∃ (k j : Nat) (xs : List Int), t = .int .i64 k ∧ k + j = m ∧ xs.length = k ∧ ∃ at_ : Nat, y = .int .i64 at_ ∧ at_ ≤ l.length ∧ Hid (MRel getI l r j at_ xs) ∧ OI wr w.heap.size v xs ∧ Below w.heap.size w wr) (fun _ _ t _ => m - (intOf t).toNat)
    case atStart => exact ⟨0, m, [], rfl, by omega, rfl, u, rfl, by omega, HM, ho1, hb1⟩
    case round =>
      obtain ⟨k, j, xs, rfl, hkj, hxl, at_, rfl, hat, hM, ho, hb⟩ := hrel
      have hhs := hb.size
      have HXL := Lib.hid hxl
      clear hxl
      by_cases hlt : k < m
      · obtain ⟨i, rfl⟩ : ∃ i, j = i + 1 := ⟨j - 1, by omega⟩
        have hR := (hr.below hb).rest (u := at_) (cap := cap) hat hcap
        have hE := MRel.err hM.out
        have hS := MRel.step hM.out
        have hf := getI_fits (l.drop at_)
        have HC2 : Hid (∀ n' cap', n' = l.length - at_ → Calls Try.prog 24 #[.slice (if cap = at_ then A else A.map (·.add at_)) n' cap'] wr fun e w' => e = .returned (tri (getI (l.drop at_))) ∧ wr = w') := 
          fun n' cap' hn' => getInt_at _ n' cap' (l.drop at_) wr (by rw [List.length_drop]; omega) hR (by omega)
        obtain ⟨x, c, f, hg⟩ : ∃ x c f, getI (l.drop at_) = (x, c, f) := ⟨_, _, _, rfl⟩
        rw [hg] at HC2 hf hE hS
        simp only [List.length_drop] at hf hE hS
        replace HC2 : Hid (∀ n' cap', n' = l.length - at_ → Calls Try.prog 24 #[.slice (if cap = at_ then A else A.map (·.add at_)) n' cap'] wr fun e w' => e = .returned (.tuple #[.int .i64 x, .int .i64 (c : Int), .int .i64 (f : Int)]) ∧ wr = w') := HC2
        have HR := Lib.hid hr
        clear hg hr hR
        by_cases hf0 : f = 0
        · subst hf0
          have hS := hS rfl
          have HS := Lib.hid hS
          have hc : at_ + c ≤ l.length := by
            rcases hf with h | h
            · have := h.2.2.2.2; omega
            · have := h.1; omega
          clear hf hE hS
          by_cases hcu : cap = at_
          all_goals
            have HC3 := HC2.out
            first | rw [if_pos hcu] at HC3 | rw [if_neg hcu] at HC3
            have HC4 := Lib.hid HC3
            clear HC3 HC2
            try subst hcu
            go_wp2_with (first | (go_at_call 24; refine (HC4.out _ _ (by omega)).mono ?_; rintro e w1 ⟨rfl, rfl⟩) | (at_builtin; go_loud (refine arm_int (w := wr) x (by rfl) _ _ (by rfl) w.heap.size u12 xs (by rfl) ho (by rfl) (by have := HXL.out; omega) (by omega) ?_); intro v3 w3 ho3 hb3))
            go_roundw
            case rel => exact ⟨k + 1, i, xs ++ [x], by go_num, by omega, by have := HXL.out; simp; omega, _, by go_num, hc, HS, ho3, hb.trans hb3⟩
            case measure => simp [intOf]; omega
        · have h1 : ((f : Int) == 0) = false := by simp; omega
          have h2 : ((f : Int) != 0) = true := by simp; omega
          have hE := hE hf0
          subst hE
          clear hf hS hf0
          by_cases hcu : cap = at_
          all_goals
            have HC3 := HC2.out
            first | rw [if_pos hcu] at HC3 | rw [if_neg hcu] at HC3
            have HC4 := Lib.hid HC3
            clear HC3 HC2
            try subst hcu
            go_wp2_with (first | (go_at_call 24; refine (HC4.out _ _ (by omega)).mono ?_; rintro e w1 ⟨rfl, rfl⟩))
            go_ret3
            exact ⟨_, rfl, World.ownsRow_nil _ _ _ _, hb⟩
      · obtain rfl : j = 0 := by omega
        have hE := MRel.stop hM.out
        subst hE
        clear hr
        go_wp2
        go_ret3
        exact ⟨_, rfl, ho, hb⟩
  · have h1 : ((f : Int) == 0) = false := by simp; omega
    have h2 : ((f : Int) != 0) = true := by simp; omega
    have hE := hE hf0
    subst hE
    clear hf0 hf hr hM
    go_enter Try.func45, Try.ntmps45
    go_wp2_with (go_at_call 44; refine (HC.out).mono ?_; rintro e w1 ⟨rfl, rfl⟩)
    go_ret3
    exact ⟨_, rfl, World.ownsRow_nil _ _ _ _, Below.refl _ _⟩
end Go.Proofs.Ytgnhkhcfelmnhaa
