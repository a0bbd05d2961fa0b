/- What wire's list decoder does at digests. -/
import Derived.Test.YtgnhkhcfelmnhaaLst3
namespace Go.Proofs.Ytgnhkhcfelmnhaa
open Go.RowKit
/-- A digest at the beginning of at least 16 bytes. -/
def getD16 (l : List UInt8) : List UInt8 × Nat × Nat := (l.take 16, 16, 0)
/-- The results of a decoder of lists of digests. -/
def DRes (w : World) (r : List (List UInt8) × Nat × Nat) (e : Ending) (w' : World) : Prop :=
  ∃ v, e = .returned (.tuple #[v, .int .i64 (r.2.1 : Int), .int .i64 (r.2.2 : Int)]) ∧ OD w' w.heap.size v r.1 ∧ Below w.heap.size w w'
set_option maxRecDepth 100000 in
set_option maxHeartbeats 1000000 in
theorem getListD_any (A : Option Addr) (cap : Nat) (l : List UInt8) (w : World) (hcap : l.length ≤ cap) (hr : RV w A (bv l)) (hl : l.length ≤ 1073741824) :
    Calls Try.prog 48 #[.slice A l.length cap, .int .i64 16, .func (.func 49) #[] #[]] w (DRes w (getS getD16 16 l)) := by
  have hC := getLen_any A cap l 16 w (by omega) (by omega) hr (by omega)
  have hf := getL_fits 16 (by omega) l
  have hE := getS_err (get := getD16) (size := 16) (l := l)
  have hM := getS_rel (get := getD16) (size := 16) (l := l)
  generalize getS getD16 16 l = r at *
  obtain ⟨n, u, f, hg⟩ : ∃ n u f, getL 16 l = (n, u, f) := ⟨_, _, _, rfl⟩
  rw [hg] at hC hf hE hM
  simp only at hf hE hM
  have HC : Hid (Calls Try.prog 44 #[.slice A l.length cap, .int .i64 16] w fun e w' => e = .returned (.tuple #[.int .i64 n, .int .i64 (u : Int), .int .i64 (f : Int)]) ∧ w = w') := hC
  clear hC hg
  by_cases hf0 : f = 0
  · subst hf0
    have hM := hM rfl
    clear hE
    have hf2 : 0 ≤ n ∧ 1 ≤ u ∧ u ≤ 10 ∧ u + n.toNat * 16 ≤ l.length := by
      rcases hf with h | h
      · exact ⟨h.2.1, h.2.2.1, h.2.2.2.1, h.2.2.2.2.1⟩
      · have := h.1; omega
    clear hf
    obtain ⟨hn, hu1, hu2, hu3⟩ := hf2
    obtain ⟨m, rfl⟩ := Int.eq_ofNat_of_zero_le hn
    simp only [Int.toNat_natCast] at hM hu3
    have HM := Lib.hid hM
    clear hM
    go_enter Try.func48, Try.ntmps48
    go_wp2_with (first | (go_at_call 44; refine (HC.out).mono ?_; rintro e w1 ⟨rfl, rfl⟩) | (at_make; go_loud (refine arm_make 24 57 16 _ 16 Try.underlying24 info57 m (by omega) (by omega) (by rfl) _ _ (by rfl) (by rfl) (by rfl) ?_); intro w1 ho1 hb1))
    go_loopw [10, 12, 29] (fun y v t wr => ∃ (k j : Nat) (xs : List (List UInt8)), t = .int .i64 k ∧ k + j = m ∧ xs.length = k ∧ ∃ at_ : Nat, y = .int .i64 at_ ∧ at_ + j * 16 ≤ l.length ∧ Hid (MRel getD16 l r j at_ xs) ∧ OD wr w.heap.size v xs ∧ Below w.heap.size w wr) (fun _ _ t _ => m - (intOf t).toNat)
    case atStart => exact ⟨0, m, [], rfl, by omega, rfl, u, rfl, by omega, HM, ho1, hb1⟩
    case round =>
      obtain ⟨k, j, xs, rfl, hkj, hxl, at_, rfl, hat, hM, ho, hb⟩ := hrel
      have hhs := hb.size
      have HXL := Lib.hid hxl
      clear hxl
      by_cases hlt : k < m
      · obtain ⟨i, rfl⟩ : ∃ i, j = i + 1 := ⟨j - 1, by omega⟩
        have hat0 : at_ + 16 ≤ l.length := by omega
        have hR := (hr.below hb).rest (u := at_) (cap := cap) (by omega) hcap
        have HS := Lib.hid (MRel.step hM.out rfl)
        unfold getD16 at HS
        simp only at HS
        have HC2 : Hid (∀ n' cap', n' = l.length - at_ → Calls Try.prog 49 #[.slice (if cap = at_ then A else A.map (·.add at_)) n' cap'] wr fun e w' => e = .returned (.tuple #[.agg (bv ((l.drop at_).take 16)).toArray, .int .i64 16, .int .i64 0]) ∧ Below wr.heap.size wr w') :=
          fun n' cap' hn' => getDigest_any _ n' cap' (l.drop at_) wr (by rw [List.length_drop]; omega) (by omega) hR (by omega)
        have hd : ((l.drop at_).take 16).length = 16 := by rw [List.length_take, List.length_drop]; omega
        obtain ⟨c0, c1, c2, c3, c4, c5, c6, c7, c8, c9, c10, c11, c12, c13, c14, c15, hcs⟩ := list16 _ hd
        rw [hcs] at HC2 HS
        simp only [bv, List.map_cons, List.map_nil] at HC2
        have HR := Lib.hid hr
        clear hr hR hcs hd
        have hcu : ¬ cap = at_ := by omega
        have HC3 := HC2.out
        rw [if_neg hcu] at HC3
        have HC4 := Lib.hid HC3
        clear HC3 HC2
        go_wp2_with (first | (go_at_call 49; refine (HC4.out _ _ (by omega)).mono ?_; rintro e w1 ⟨rfl, hb1⟩; have hz1 := hb1.size; have ho1 : OD w1 w.heap.size u12 xs := row_below ho hb1) | (at_builtin; go_loud (refine arm_digest (w := w1.alloc (.cells #[.int .u8 (c0.toNat : Int), .int .u8 (c1.toNat : Int), .int .u8 (c2.toNat : Int), .int .u8 (c3.toNat : Int), .int .u8 (c4.toNat : Int), .int .u8 (c5.toNat : Int), .int .u8 (c6.toNat : Int), .int .u8 (c7.toNat : Int), .int .u8 (c8.toNat : Int), .int .u8 (c9.toNat : Int), .int .u8 (c10.toNat : Int), .int .u8 (c11.toNat : Int), .int .u8 (c12.toNat : Int), .int .u8 (c13.toNat : Int), .int .u8 (c14.toNat : Int), .int .u8 (c15.toNat : Int)] 57)) [c0, c1, c2, c3, c4, c5, c6, c7, c8, c9, c10, c11, c12, c13, c14, c15] rfl (by rfl) _ _ (by rfl) w.heap.size u12 xs (by rfl) (World.ownsRow.alloc ho1 _) (by rw [World.size_alloc]; rfl) (by have := HXL.out; omega) (by simp; omega) ?_); intro v3 w3 ho3 hb3))
        go_roundw
        case rel => exact ⟨k + 1, i, xs ++ [[c0, c1, c2, c3, c4, c5, c6, c7, c8, c9, c10, c11, c12, c13, c14, c15]], by go_num, by omega, by have := HXL.out; simp; omega, _, by go_num, by omega, HS, ho3, (hb.trans ((hb1.mono hhs).alloc (by omega) _)).trans hb3⟩
        case measure => simp [intOf]; omega
      · obtain rfl : j = 0 := by omega
        have hE := MRel.stop hM.out
        subst hE
        clear hr
        go_wp2
        go_ret3
        exact ⟨_, rfl, ho, hb⟩
  · have h1 : ((f : Int) == 0) = false := by simp; omega
    have h2 : ((f : Int) != 0) = true := by simp; omega
    have hE := hE hf0
    subst hE
    clear hf0 hf hr hM
    go_enter Try.func48, Try.ntmps48
    go_wp2_with (go_at_call 44; refine (HC.out).mono ?_; rintro e w1 ⟨rfl, rfl⟩)
    go_ret3
    exact ⟨_, rfl, World.ownsRow_nil _ _ _ _, Below.refl _ _⟩
end Go.Proofs.Ytgnhkhcfelmnhaa
