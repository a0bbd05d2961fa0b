/- What code's ones does. -/
import Derived.Test.YthidababplamgaaDoorC2
import Derived.StillTailTactics
import Derived.Deep.RegionHeld3
namespace Go.Proofs.YthidababplamgaaDoor
open Go.RowKit
set_option maxRecDepth 100000 in
set_option maxHeartbeats 400000 in
/-- The closure adds the number of a word's bits to the variable that it captures. -/
theorem count_any (z : Int) (x t : Nat) (b : Nat) (w : World) (hz : z = x) (hx : x < 1099511627776) (ht : t < 1000000) (hA : Arr w b 3 [.int .i64 (t : Int)]) :
    Calls Tryd.prog 41 #[.int .i64 z, .pointer (some ⟨b, 0, none⟩)] w fun e w' => (∃ v, e = .returned v) ∧ Arr w' b 3 [.int .i64 ((t + popW x 40 : Nat) : Int)] ∧ (∀ B, B ≤ b → Below B w w') := by
  have hp := popW_le x 40
  have hc := fun w => ones_any z x w hz hx
  generalize popW x 40 = p at *
  have hz0 : 0 ≤ z := by omega
  have hz1 : z ≤ 1099511627775 := by omega
  have hw : IntKind.u64.wrap z = z := by rw [IntKind.wrap_u64]; omega
  have hcell := hA.cell (j := 0) rfl
  have hfree := hA.free 0
  have HA := Lib.hid hA
  have HW2 : Hid (IntKind.i64.wrap ((t : Int) + p) = ((t + p : Nat) : Int)) := Lib.hid (by rw [i64_wraps]; omega)
  clear hA hz hx
  go_enter Tryd.func41, Tryd.ntmps41
  go_wp2_with fail
  go_region_with ((go_at_call 42; refine (hc _).mono ?_; rintro e w1 ⟨rfl, rfl⟩))
  all_goals go_end0
  all_goals exact ⟨⟨_, rfl⟩, by rw [HW2.out]; exact ((HA.out.set 0 _).keep (bel_drew _)), fun B hB => ((Below.refl B w).setCell (p := ⟨b, 0, none⟩) hB _).drew⟩
theorem pop_small (ws : List Nat) : popL ws ≤ 40 * ws.length := by
  induction ws with
  | nil => simp [popL]
  | cons n r ih => have := popW_le n 40; simp only [popL, List.length_cons]; omega
set_option maxRecDepth 100000 in
set_option maxHeartbeats 1000000 in
theorem onesF_any (ws : List Nat) (c : Nat) (w : World) (h8 : ws.length = 8) (hs : ∀ x ∈ ws, x < 1099511627776) (hc : c < 1099511627776) :
    Calls Tryd.prog 36 #[.agg (iv (ci ws)).toArray, .int .i64 (c : Int)] w fun e w' => e = .returned (.int .i64 (popT ws c : Nat)) ∧ Below w.heap.size w w' := by
  have hmf : ∀ (fn : Fn) (first cap : Array Value) (w : World), (Instr.makeFunc fn first cap).run Tryd.prog w = .ok (.func fn first cap) w := fun _ _ _ _ => rfl
  have HI := Lib.hid (size22' (l := ci ws) (by rw [ci_len, h8]))
  have HS := Lib.hid hs
  have HC := Lib.hid hc
  clear hs hc
  obtain ⟨p, hp⟩ : ∃ p, popT ws c = p := ⟨_, rfl⟩
  rw [hp]
  have HP := Lib.hid hp
  clear hp
  have hA0 : Arr ((w.alloc (.cells (iv (ci ws)).toArray 22)).alloc (.cells #[.int .i64 0] 3)) w.heap.size 22 (iv (ci ws)) := a2_0 w _ _
  go_enter Tryd.func36, Tryd.ntmps36
  go_wp2_with ((with_reducible refine arm_row 22 w.heap.size 22 _ hA0 _ Tryd.underlying22 rfl HI.out rfl _ rfl ?_ ?_); focus rfl)
  have HA : Hid (Arr ((w.alloc (.cells (iv (ci ws)).toArray 22)).alloc (.cells #[.int .i64 0] 3)) (w.heap.size + 1) 3 [.int .i64 ((0 : Nat) : Int)]) := Lib.hid (a2_1 w _ _)
  have HB := Lib.hid (bel2 w (.cells (iv (ci ws)).toArray 22) (.cells #[.int .i64 0] 3))
  obtain ⟨W, hW⟩ : ∃ W, ((w.alloc (.cells (iv (ci ws)).toArray 22)).alloc (.cells #[.int .i64 0] 3)) = W := ⟨_, rfl⟩
  rw [hW] at HA HB ⊢
  clear hW hA0
  go_loopw [11] (fun i wr => ∃ k : Nat, i = .int .i64 (k : Int) ∧ k ≤ 8 ∧ Hid (Arr wr (w.heap.size + 1) 3 [.int .i64 ((popL (ws.take k) : Nat) : Int)]) ∧ Hid (Below w.heap.size w wr)) (fun i _ => 8 - (intOf i).toNat)
  case atStart => exact ⟨0, rfl, by omega, HA, HB⟩
  case round =>
    clear HA HB
    obtain ⟨k, rfl, hk, HA, HB⟩ := hrel
    by_cases hlt : k < 8
    · have hks : k < ws.length := by omega
      have hidx := index22 (ci ws) k hlt (by rw [ci_len, h8]) wr
      rw [ci_get] at hidx
      have hsm : ws.getD k 0 < 1099511627776 := by
        have e : ws.getD k 0 = ws[k] := by simp [hks]
        rw [e]
        exact HS.out _ (List.getElem_mem hks)
      have hst := (take_step ws k hks).2
      have hpl := pop_small (ws.take k)
      rw [List.length_take] at hpl
      generalize ws.getD k 0 = x at *
      have hcl := count_any (x : Int) x (popL (ws.take k)) (w.heap.size + 1) wr rfl hsm (by omega) HA.out
      rw [← hst] at hcl
      have HCL := Lib.hid hcl
      clear hsm hst hpl hcl
      go_wp2_with fail
      refine HCL.out.mono ?_
      rintro e w2 ⟨⟨v, rfl⟩, hA2, hB2⟩
      have HA2 := Lib.hid hA2
      have HB2 := Lib.hid (HB.out.trans (hB2 w.heap.size (by omega)))
      clear hA2 hB2
      go_wp2_with fail
      go_roundw
      case rel => exact ⟨k + 1, by simp, by omega, HA2, HB2⟩
      case measure => simp [intOf]; omega
    · obtain rfl : k = 8 := by omega
      have hpl := pop_small ws
      have hcl := count_any (c : Int) c (popL (ws.take 8)) (w.heap.size + 1) wr rfl HC.out (by rw [List.take_of_length_le (by omega)]; omega) HA.out
      have e : popL (ws.take 8) + popW c 40 = p := by
        rw [← HP.out]
        rw [List.take_of_length_le (by omega)]
        unfold popT
        rw [popL_append]
        simp [popL]
      rw [e] at hcl
      have HCL := Lib.hid hcl
      clear e hcl hpl
      go_wp2_with fail
      refine HCL.out.mono ?_
      rintro e w2 ⟨⟨v, rfl⟩, hA2, hB2⟩
      have hcell := hA2.cell (j := 0) rfl
      have HB2 := Lib.hid (HB.out.trans (hB2 w.heap.size (by omega)))
      clear hA2 hB2
      go_wp2_with fail
      go_ret
      exact ⟨rfl, HB2.out⟩
end Go.Proofs.YthidababplamgaaDoor
