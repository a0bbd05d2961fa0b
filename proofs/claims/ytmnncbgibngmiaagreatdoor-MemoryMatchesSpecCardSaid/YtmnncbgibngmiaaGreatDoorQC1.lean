/-
  What code's valid does. What the reference's Valid does. What code's ones does. What code's parity and Encode do.
-/
import Derived.Test.YtmnncbgibngmiaaGreatDoorQIt
import Derived.StillTailTactics
import Derived.Deep.RegionHeld3
namespace Go.Proofs.YtmnncbgibngmiaaGreatDoor
open Go.RowKit
def okW (z : Int) : Bool := decide (0 ≤ z ∧ z ≤ 1099511627775)
/-- Are all words of a line and its code in their ranges? -/
def validB (L : List Int) (c : Int) : Bool := L.all okW && decide (0 ≤ c ∧ c ≤ 1023)
theorem all_of {L : List Int} (h8 : L.length = 8) (h : ∀ j, j < 8 → okW (L.getD j 0) = true) : L.all okW = true := by
  rw [List.all_eq_true]
  intro z hz
  obtain ⟨j, hj, rfl⟩ := List.mem_iff_getElem.1 hz
  have := h j (by omega)
  rw [List.getD_eq_getElem?_getD, List.getElem?_eq_getElem hj] at this
  exact this
theorem not_all {L : List Int} {k : Nat} (hk : k < L.length) (h : okW (L.getD k 0) = false) : L.all okW = false := by
  rw [List.all_eq_false]
  refine ⟨L[k], List.getElem_mem hk, ?_⟩
  rw [List.getD_eq_getElem?_getD, List.getElem?_eq_getElem hk] at h
  simpa using h
set_option maxRecDepth 100000 in
set_option maxHeartbeats 400000 in
theorem valid_any (L : List Int) (c : Int) (w : World) (h8 : L.length = 8) :
    Calls Tryz.prog 81 #[.agg (iv L).toArray, .int .i64 c] w fun e w' => e = .returned (.bool (validB L c)) ∧ Below w.heap.size w w' := by
  have HI := Lib.hid (size22' h8)
  have HB := Lib.hid (bel_new w (.cells (iv L).toArray 39))
  have HA := Lib.hid (Arr.new w (iv L) 39)
  go_enter Tryz.func81, Tryz.ntmps81
  go_wp2_with ((with_reducible refine arm_row 39 w.heap.size 39 _ HA.out _ Tryz.underlying39 rfl HI.out rfl _ rfl ?_ ?_); focus rfl)
  obtain ⟨W, hW⟩ : ∃ W, w.alloc (.cells (iv L).toArray 39) = W := ⟨_, rfl⟩
  rw [hW] at HB ⊢
  clear hW HA
  go_loopw [8] (fun i wr => ∃ k : Nat, i = .int .i64 (k : Int) ∧ k ≤ 8 ∧ (∀ j, j < k → okW (L.getD j 0) = true) ∧ wr = W) (fun i _ => 8 - (intOf i).toNat)
  case atStart => exact ⟨0, rfl, by omega, fun j hj => by omega, rfl⟩
  case round =>
    obtain ⟨k, rfl, hk, hall, rfl⟩ := hrel
    by_cases hlt : k < 8
    · have hidx := index22 L k hlt h8 wr
      have hnot := fun h => not_all (L := L) (k := k) (by omega) h
      have hstep : okW (L.getD k 0) = true → ∀ j, j < k + 1 → okW (L.getD j 0) = true := fun h j hj => by
        rcases Nat.lt_succ_iff_lt_or_eq.1 hj with h1 | h1
        · exact hall j h1
        · subst h1; exact h
      generalize L.getD k 0 = v at *
      unfold okW at hnot hstep
      have HS := Lib.hid hstep
      have HN := Lib.hid hnot
      clear hstep hnot hall
      by_cases h1 : v < 0
      · go_wp2_with fail
        go_ret
        refine ⟨ret_bool ?_, HB.out⟩
        unfold validB okW
        rw [HN.out (by simp; omega)]
        rfl
      · by_cases h2 : 1099511627775 < v
        · go_wp2_with fail
          go_ret
          refine ⟨ret_bool ?_, HB.out⟩
          unfold validB okW
          rw [HN.out (by simp; omega)]
          rfl
        · go_wp2_with fail
          go_roundw
          case rel => exact ⟨k + 1, by simp, by omega, HS.out (by simp; omega), trivial⟩
          case measure => simp [intOf]; omega
    · obtain rfl : k = 8 := by omega
      have ha := all_of h8 hall
      have HV : Hid (validB L c = decide (0 ≤ c ∧ c ≤ 1023)) := Lib.hid (by unfold validB; rw [ha, Bool.true_and])
      clear hall ha
      by_cases h1 : 0 ≤ c
      · by_cases h2 : c ≤ 1023
        · go_wp2_with fail
          go_ret
          exact ⟨ret_bool (by rw [HV.out]; simp; omega), HB.out⟩
        · go_wp2_with fail
          go_ret
          exact ⟨ret_bool (by rw [HV.out]; simp; omega), HB.out⟩
      · go_wp2_with fail
        go_ret
        exact ⟨ret_bool (by rw [HV.out]; simp; omega), HB.out⟩
end Go.Proofs.YtmnncbgibngmiaaGreatDoor
namespace Go.Proofs.YtmnncbgibngmiaaGreatDoor
open Go.RowKit
set_option maxRecDepth 100000 in
set_option maxHeartbeats 400000 in
theorem rvalid_any (L : List Int) (c : Int) (w : World) (h8 : L.length = 8) :
    Calls Tryz.prog 56 #[.agg (iv L).toArray, .int .i64 c] w fun e w' => e = .returned (.bool (validB L c)) ∧ Below w.heap.size w w' := by
  have HB := Lib.hid (bel_new w (.cells (iv L).toArray 39))
  have HA := Lib.hid (Arr.new w (iv L) 39)
  go_enter Tryz.func56, Tryz.ntmps56
  go_wp2_with fail
  obtain ⟨W, hW⟩ : ∃ W, w.alloc (.cells (iv L).toArray 39) = W := ⟨_, rfl⟩
  rw [hW] at HA HB ⊢
  clear hW
  go_loopw [5] (fun i wr => ∃ k : Nat, i = .int .i64 (k : Int) ∧ k ≤ 8 ∧ (∀ j, j < k → okW (L.getD j 0) = true) ∧ wr = W) (fun i _ => 8 - (intOf i).toNat)
  case atStart => exact ⟨0, rfl, by omega, fun j hj => by omega, rfl⟩
  case round =>
    obtain ⟨k, rfl, hk, hall, rfl⟩ := hrel
    by_cases hlt : k < 8
    · have hidx := HA.out.cell (iv_at (l := L) (k := k) (by omega))
      have hnot := fun h => not_all (L := L) (k := k) (by omega) h
      have hstep : okW (L.getD k 0) = true → ∀ j, j < k + 1 → okW (L.getD j 0) = true := fun h j hj => by
        rcases Nat.lt_succ_iff_lt_or_eq.1 hj with h1 | h1
        · exact hall j h1
        · subst h1; exact h
      generalize L.getD k 0 = v at *
      unfold okW at hnot hstep
      have HS := Lib.hid hstep
      have HN := Lib.hid hnot
      clear hstep hnot hall
      by_cases h1 : v < 0
      · go_wp2_with fail
        go_ret
        refine ⟨ret_bool ?_, HB.out⟩
        unfold validB okW
        rw [HN.out (by simp; omega)]
        rfl
      · by_cases h2 : 1099511627775 < v
        · go_wp2_with fail
          go_ret
          refine ⟨ret_bool ?_, HB.out⟩
          unfold validB okW
          rw [HN.out (by simp; omega)]
          rfl
        · go_wp2_with fail
          go_roundw
          case rel => exact ⟨k + 1, by simp, by omega, HS.out (by simp; omega), trivial⟩
          case measure => simp [intOf]; omega
    · obtain rfl : k = 8 := by omega
      have ha := all_of h8 hall
      have HV : Hid (validB L c = decide (0 ≤ c ∧ c ≤ 1023)) := Lib.hid (by unfold validB; rw [ha, Bool.true_and])
      clear hall ha
      by_cases h1 : 0 ≤ c
      · by_cases h2 : c ≤ 1023
        · go_wp2_with fail
          go_ret
          exact ⟨ret_bool (by rw [HV.out]; simp; omega), HB.out⟩
        · go_wp2_with fail
          go_ret
          exact ⟨ret_bool (by rw [HV.out]; simp; omega), HB.out⟩
      · go_wp2_with fail
        go_ret
        exact ⟨ret_bool (by rw [HV.out]; simp; omega), HB.out⟩
end Go.Proofs.YtmnncbgibngmiaaGreatDoor
namespace Go.Proofs.YtmnncbgibngmiaaGreatDoor
open Go.RowKit
set_option maxRecDepth 100000 in
set_option maxHeartbeats 400000 in
/-- The closure adds the number of a word's bits to the variable that it captures. -/
theorem count_any (z : Int) (x t : Nat) (b : Nat) (w : World) (hz : z = x) (hx : x < 1099511627776) (ht : t < 1000000) (hA : Arr w b 3 [.int .i64 (t : Int)]) :
    Calls Tryz.prog 104 #[.int .i64 z, .pointer (some ⟨b, 0, none⟩)] w fun e w' => (∃ v, e = .returned v) ∧ Arr w' b 3 [.int .i64 ((t + popW x 40 : Nat) : Int)] ∧ (∀ B, B ≤ b → Below B w w') := by
  have hp := popW_le x 40
  have hc := fun w => ones_any z x w hz hx
  generalize popW x 40 = p at *
  have hz0 : 0 ≤ z := by omega
  have hz1 : z ≤ 1099511627775 := by omega
  have hw : IntKind.u64.wrap z = z := by rw [IntKind.wrap_u64]; omega
  have hcell := hA.cell (j := 0) rfl
  have hfree := hA.free 0
  have HA := Lib.hid hA
  have HW2 : Hid (IntKind.i64.wrap ((t : Int) + p) = ((t + p : Nat) : Int)) := Lib.hid (by rw [i64_wraps]; omega)
  clear hA hz hx
  go_enter Tryz.func104, Tryz.ntmps104
  go_wp2_with fail
  go_region_with ((go_at_call 105; refine (hc _).mono ?_; rintro e w1 ⟨rfl, rfl⟩))
  all_goals go_end0
  all_goals exact ⟨⟨_, rfl⟩, by rw [HW2.out]; exact ((HA.out.set 0 _).keep (bel_drew _)), fun B hB => ((Below.refl B w).setCell (p := ⟨b, 0, none⟩) hB _).drew⟩
theorem pop_small (ws : List Nat) : popL ws ≤ 40 * ws.length := by
  induction ws with
  | nil => simp [popL]
  | cons n r ih => have := popW_le n 40; simp only [popL, List.length_cons]; omega
set_option maxRecDepth 100000 in
set_option maxHeartbeats 1000000 in
theorem onesF_any (ws : List Nat) (c : Nat) (w : World) (h8 : ws.length = 8) (hs : ∀ x ∈ ws, x < 1099511627776) (hc : c < 1099511627776) :
    Calls Tryz.prog 94 #[.agg (iv (ci ws)).toArray, .int .i64 (c : Int)] w fun e w' => e = .returned (.int .i64 (popT ws c : Nat)) ∧ Below w.heap.size w w' := by
  have hmf : ∀ (fn : Fn) (first cap : Array Value) (w : World), (Instr.makeFunc fn first cap).run Tryz.prog w = .ok (.func fn first cap) w := fun _ _ _ _ => rfl
  have HI := Lib.hid (size22' (l := ci ws) (by rw [ci_len, h8]))
  have HS := Lib.hid hs
  have HC := Lib.hid hc
  clear hs hc
  obtain ⟨p, hp⟩ : ∃ p, popT ws c = p := ⟨_, rfl⟩
  rw [hp]
  have HP := Lib.hid hp
  clear hp
  have hA0 : Arr ((w.alloc (.cells (iv (ci ws)).toArray 39)).alloc (.cells #[.int .i64 0] 3)) w.heap.size 39 (iv (ci ws)) := a2_0 w _ _
  go_enter Tryz.func94, Tryz.ntmps94
  go_wp2_with ((with_reducible refine arm_row 39 w.heap.size 39 _ hA0 _ Tryz.underlying39 rfl HI.out rfl _ rfl ?_ ?_); focus rfl)
  have HA : Hid (Arr ((w.alloc (.cells (iv (ci ws)).toArray 39)).alloc (.cells #[.int .i64 0] 3)) (w.heap.size + 1) 3 [.int .i64 ((0 : Nat) : Int)]) := Lib.hid (a2_1 w _ _)
  have HB := Lib.hid (bel2 w (.cells (iv (ci ws)).toArray 39) (.cells #[.int .i64 0] 3))
  obtain ⟨W, hW⟩ : ∃ W, ((w.alloc (.cells (iv (ci ws)).toArray 39)).alloc (.cells #[.int .i64 0] 3)) = W := ⟨_, rfl⟩
  rw [hW] at HA HB ⊢
  clear hW hA0
  go_loopw [11] (fun i wr => ∃ k : Nat, i = .int .i64 (k : Int) ∧ k ≤ 8 ∧ Hid (Arr wr (w.heap.size + 1) 3 [.int .i64 ((popL (ws.take k) : Nat) : Int)]) ∧ Hid (Below w.heap.size w wr)) (fun i _ => 8 - (intOf i).toNat)
  case atStart => exact ⟨0, rfl, by omega, HA, HB⟩
  case round =>
    clear HA HB
    obtain ⟨k, rfl, hk, HA, HB⟩ := hrel
    by_cases hlt : k < 8
    · have hks : k < ws.length := by omega
      have hidx := index22 (ci ws) k hlt (by rw [ci_len, h8]) wr
      rw [ci_get] at hidx
      have hsm : ws.getD k 0 < 1099511627776 := by
        have e : ws.getD k 0 = ws[k] := by simp [hks]
        rw [e]
        exact HS.out _ (List.getElem_mem hks)
      have hst := (take_step ws k hks).2
      have hpl := pop_small (ws.take k)
      rw [List.length_take] at hpl
      generalize ws.getD k 0 = x at *
      have hcl := count_any (x : Int) x (popL (ws.take k)) (w.heap.size + 1) wr rfl hsm (by omega) HA.out
      rw [← hst] at hcl
      have HCL := Lib.hid hcl
      clear hsm hst hpl hcl
      go_wp2_with fail
      refine HCL.out.mono ?_
      rintro e w2 ⟨⟨v, rfl⟩, hA2, hB2⟩
      have HA2 := Lib.hid hA2
      have HB2 := Lib.hid (HB.out.trans (hB2 w.heap.size (by omega)))
      clear hA2 hB2
      go_wp2_with fail
      go_roundw
      case rel => exact ⟨k + 1, by simp, by omega, HA2, HB2⟩
      case measure => simp [intOf]; omega
    · obtain rfl : k = 8 := by omega
      have hpl := pop_small ws
      have hcl := count_any (c : Int) c (popL (ws.take 8)) (w.heap.size + 1) wr rfl HC.out (by rw [List.take_of_length_le (by omega)]; omega) HA.out
      have e : popL (ws.take 8) + popW c 40 = p := by
        rw [← HP.out]
        rw [List.take_of_length_le (by omega)]
        unfold popT
        rw [popL_append]
        simp [popL]
      rw [e] at hcl
      have HCL := Lib.hid hcl
      clear e hcl hpl
      go_wp2_with fail
      refine HCL.out.mono ?_
      rintro e w2 ⟨⟨v, rfl⟩, hA2, hB2⟩
      have hcell := hA2.cell (j := 0) rfl
      have HB2 := Lib.hid (HB.out.trans (hB2 w.heap.size (by omega)))
      clear hA2 hB2
      go_wp2_with fail
      go_ret
      exact ⟨rfl, HB2.out⟩
end Go.Proofs.YtmnncbgibngmiaaGreatDoor
namespace Go.Proofs.YtmnncbgibngmiaaGreatDoor
open Go.RowKit
def nw (L : List Int) : List Nat := L.map Int.toNat
theorem okW_of {z : Int} (h : okW z = true) : 0 ≤ z ∧ z ≤ 1099511627775 := by unfold okW at h; simpa using h
theorem of_all {L : List Int} (h : L.all okW = true) : L = ci (nw L) ∧ ∀ x ∈ nw L, x < 1099511627776 := by
  rw [List.all_eq_true] at h
  constructor
  · unfold ci nw
    rw [List.map_map]
    refine (List.map_id L).symm.trans (List.map_congr_left fun z hz => ?_)
    have := okW_of (h z hz)
    show z = ((z.toNat : Nat) : Int)
    omega
  · intro x hx
    obtain ⟨z, hz, rfl⟩ := List.mem_map.1 hx
    have := okW_of (h z hz)
    omega
theorem nw_len (L : List Int) : (nw L).length = L.length := by simp [nw]
theorem nw_ci (ws : List Nat) : nw (ci ws) = ws := by
  unfold nw ci
  rw [List.map_map]
  exact List.map_id ws
theorem all_ci {ws : List Nat} (h : ∀ x ∈ ws, x < 1099511627776) : (ci ws).all okW = true := by
  rw [List.all_eq_true]
  intro z hz
  obtain ⟨x, hx, rfl⟩ := List.mem_map.1 hz
  have := h x hx
  unfold okW
  simp
  omega
theorem valid_ci {ws : List Nat} (h : ∀ x ∈ ws, x < 1099511627776) (c : Nat) : validB (ci ws) (c : Int) = decide (c < 1024) := by
  unfold validB
  rw [all_ci h, Bool.true_and, decide_eq_decide]
  omega
theorem nine_of {ws : List Nat} {c : Nat} (h8 : ws.length = 8) (hs : ∀ x ∈ ws, x < 1099511627776) (hc : c < 1024) : Nine (ws ++ [c]) := by
  refine ⟨by simp [h8], ?_, ?_⟩
  · intro n hn
    rcases List.mem_append.1 hn with h | h
    · exact hs n h
    · rw [List.mem_singleton.1 h]; exact Nat.lt_trans hc (by decide)
  · rw [List.getD_eq_getElem?_getD, List.getElem?_append_right (by omega), h8]
    simpa using hc
theorem synT_lt {ws : List Nat} {c : Nat} (h8 : ws.length = 8) (hs : ∀ x ∈ ws, x < 1099511627776) (hc : c < 1024) : synT ws c < 512 := (nine_of h8 hs hc).syn
set_option maxRecDepth 100000 in
set_option maxHeartbeats 400000 in
theorem parity_any (ws : List Nat) (c : Nat) (w : World) (h8 : ws.length = 8) (hs : ∀ x ∈ ws, x < 1099511627776) (hc : c < 1099511627776) :
    Calls Tryz.prog 83 #[.agg (iv (ci ws)).toArray, .int .i64 (c : Int)] w fun e w' => e = .returned (.int .i64 (popT ws c % 2 : Nat)) ∧ Below w.heap.size w w' := by
  have HI := Lib.hid (size22' (l := ci ws) (by rw [ci_len, h8]))
  have HA := Lib.hid (Arr.new w (iv (ci ws)) 39)
  have HB := Lib.hid (bel_new w (.cells (iv (ci ws)).toArray 39))
  have HO := Lib.hid fun w => onesF_any ws c w h8 hs hc
  clear hs hc
  have hand : bits .and .i64 ((popT ws c : Nat) : Int) 1 = ((popT ws c % 2 : Nat) : Int) := by rw [i64_and1]; omega
  generalize popT ws c % 2 = q at *
  generalize popT ws c = p at *
  go_enter Tryz.func83, Tryz.ntmps83
  go_wp2_with ((with_reducible refine arm_row 39 w.heap.size 39 _ HA.out _ Tryz.underlying39 rfl HI.out rfl _ rfl ?_ ?_); focus rfl)
  refine (HO.out _).mono ?_
  rintro e w1 ⟨rfl, hb⟩
  have HB2 := Lib.hid (bel_on HB.out hb)
  clear hb
  go_wp2_with fail
  go_ret
  exact ⟨rfl, HB2.out⟩
/-- The code of a line, if all words are in their ranges; else -1. -/
def encZ (L : List Int) : Int := if L.all okW then ((encN (nw L) : Nat) : Int) else -1
theorem valid0 (L : List Int) : validB L 0 = L.all okW := by unfold validB; simp
set_option maxRecDepth 100000 in
set_option maxHeartbeats 1000000 in
theorem encode_any (L : List Int) (w : World) (h8 : L.length = 8) (hT : Tab w) :
    Calls Tryz.prog 88 #[.agg (iv L).toArray] w fun e w' => e = .returned (.int .i64 (encZ L)) ∧ Below w.heap.size w w' := by
  have HI := Lib.hid (size22' (l := L) h8)
  have HA := Lib.hid (Arr.new w (iv L) 39)
  have HB := Lib.hid (bel_new w (.cells (iv L).toArray 39))
  have HT := Lib.hid hT
  have HV := Lib.hid fun w => valid_any L 0 w h8
  rw [valid0] at HV
  clear hT
  cases hv : L.all okW with
  | false =>
    rw [hv] at HV
    unfold encZ
    rw [hv, if_neg (by decide)]
    go_enter Tryz.func88, Tryz.ntmps88
    go_wp2_with ((with_reducible refine arm_row 39 w.heap.size 39 _ HA.out _ Tryz.underlying39 rfl HI.out rfl _ rfl ?_ ?_); focus rfl)
    refine (HV.out _).mono ?_
    rintro e w1 ⟨rfl, hb⟩
    have HB2 := Lib.hid (bel_on HB.out hb)
    clear hb
    go_wp2_with fail
    go_ret
    exact ⟨rfl, HB2.out⟩
  | true =>
    rw [hv] at HV
    unfold encZ
    rw [hv, if_pos rfl]
    obtain ⟨hL, hs⟩ := of_all hv
    have hlen : (nw L).length = 8 := by rw [nw_len, h8]
    generalize nw L = ws at *
    subst hL
    have HS := Lib.hid fun w (hT : Tab w) => syn_any ws 0 w hlen hs (by decide) hT
    have hlt : synT ws 0 < 512 := synT_lt hlen hs (by decide)
    have HP := Lib.hid fun w => parity_any ws (synT ws 0) w hlen hs (by omega)
    have hq : popT ws (synT ws 0) % 2 < 2 := by omega
    unfold encN
    generalize popT ws (synT ws 0) % 2 = q at *
    generalize synT ws 0 = s at *
    have hor : bits .or .i64 (s : Int) ((512 * q : Nat) : Int) = ((s + 512 * q : Nat) : Int) := by
      rw [i64_or_nat _ _ (by omega) (by omega)]
      congr 1
      rw [Nat.or_comm, nat_join 9 (512 * q) s (by omega) hlt]
      omega
    have HOR := Lib.hid hor
    clear hs hv hor
    go_enter Tryz.func88, Tryz.ntmps88
    go_wp2_with ((with_reducible refine arm_row 39 w.heap.size 39 _ HA.out _ Tryz.underlying39 rfl HI.out rfl _ rfl ?_ ?_); focus rfl)
    refine (HV.out _).mono ?_
    rintro e w1 ⟨rfl, hb⟩
    have HB2 := Lib.hid (bel_on HB.out hb)
    have HA2 := Lib.hid (HA.out.keep hb)
    clear hb HA HB
    go_wp2_with ((with_reducible refine arm_row 39 w.heap.size 39 _ HA2.out _ Tryz.underlying39 rfl HI.out rfl _ rfl ?_ ?_); focus rfl)
    refine (HS.out _ (HT.out.keep HB2.out)).mono ?_
    rintro e w2 ⟨rfl, hb⟩
    have HB3 := Lib.hid (bel_on HB2.out hb)
    have HA3 := Lib.hid (HA2.out.keep hb)
    clear hb HA2 HB2
    go_wp2_with ((with_reducible refine arm_row 39 w.heap.size 39 _ HA3.out _ Tryz.underlying39 rfl HI.out rfl _ rfl ?_ ?_); focus rfl)
    refine (HP.out _).mono ?_
    rintro e w3 ⟨rfl, hb⟩
    have HB4 := Lib.hid (bel_on HB3.out hb)
    clear hb HA3 HB3
    go_wp2_with fail
    go_ret
    have e : (q : Int) * 512 = ((512 * q : Nat) : Int) := by omega
    refine ⟨ret_i64 ?_, HB4.out⟩
    rw [e]
    exact HOR.out
end Go.Proofs.YtmnncbgibngmiaaGreatDoor
