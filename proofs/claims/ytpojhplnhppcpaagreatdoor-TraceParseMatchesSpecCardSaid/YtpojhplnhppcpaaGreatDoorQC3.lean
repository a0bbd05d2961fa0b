/-
  What code's ones does. What code's parity and Encode do. What code's Check does. What code's Flip does. What code's Fix does.
-/
import Derived.Test.YtpojhplnhppcpaaGreatDoorQB2
import Derived.StillTailTactics
import Derived.Deep.RegionHeld3
namespace Go.Proofs.YtpojhplnhppcpaaGreatDoor
open Go.RowKit
set_option maxRecDepth 100000 in
set_option maxHeartbeats 400000 in
/-- The closure adds the number of a word's bits to the variable that it captures. -/
theorem count_any (z : Int) (x t : Nat) (b : Nat) (w : World) (hz : z = x) (hx : x < 1099511627776) (ht : t < 1000000) (hA : Arr w b 3 [.int .i64 (t : Int)]) :
    Calls Tryz.prog 204 #[.int .i64 z, .pointer (some ⟨b, 0, none⟩)] w fun e w' => (∃ v, e = .returned v) ∧ Arr w' b 3 [.int .i64 ((t + popW x 40 : Nat) : Int)] ∧ (∀ B, B ≤ b → Below B w w') := by
  have hp := popW_le x 40
  have hc := fun w => ones_any z x w hz hx
  generalize popW x 40 = p at *
  have hz0 : 0 ≤ z := by omega
  have hz1 : z ≤ 1099511627775 := by omega
  have hw : IntKind.u64.wrap z = z := by rw [IntKind.wrap_u64]; omega
  have hcell := hA.cell (j := 0) rfl
  have hfree := hA.free 0
  have HA := Lib.hid hA
  have HW2 : Hid (IntKind.i64.wrap ((t : Int) + p) = ((t + p : Nat) : Int)) := Lib.hid (by rw [i64_wraps]; omega)
  clear hA hz hx
  go_enter Tryz.func204, Tryz.ntmps204
  go_wp2_with fail
  go_region_with ((go_at_call 205; refine (hc _).mono ?_; rintro e w1 ⟨rfl, rfl⟩))
  all_goals go_end0
  all_goals exact ⟨⟨_, rfl⟩, by rw [HW2.out]; exact ((HA.out.set 0 _).keep (bel_drew _)), fun B hB => ((Below.refl B w).setCell (p := ⟨b, 0, none⟩) hB _).drew⟩
theorem pop_small (ws : List Nat) : popL ws ≤ 40 * ws.length := by
  induction ws with
  | nil => simp [popL]
  | cons n r ih => have := popW_le n 40; simp only [popL, List.length_cons]; omega
set_option maxRecDepth 100000 in
set_option maxHeartbeats 1000000 in
theorem onesF_any (ws : List Nat) (c : Nat) (w : World) (h8 : ws.length = 8) (hs : ∀ x ∈ ws, x < 1099511627776) (hc : c < 1099511627776) :
    Calls Tryz.prog 181 #[.agg (iv (ci ws)).toArray, .int .i64 (c : Int)] w fun e w' => e = .returned (.int .i64 (popT ws c : Nat)) ∧ Below w.heap.size w w' := by
  have hmf : ∀ (fn : Fn) (first cap : Array Value) (w : World), (Instr.makeFunc fn first cap).run Tryz.prog w = .ok (.func fn first cap) w := fun _ _ _ _ => rfl
  have HI := Lib.hid (size22' (l := ci ws) (by rw [ci_len, h8]))
  have HS := Lib.hid hs
  have HC := Lib.hid hc
  clear hs hc
  obtain ⟨p, hp⟩ : ∃ p, popT ws c = p := ⟨_, rfl⟩
  rw [hp]
  have HP := Lib.hid hp
  clear hp
  have hA0 : Arr ((w.alloc (.cells (iv (ci ws)).toArray 66)).alloc (.cells #[.int .i64 0] 3)) w.heap.size 66 (iv (ci ws)) := a2_0 w _ _
  go_enter Tryz.func181, Tryz.ntmps181
  go_wp2_with ((with_reducible refine arm_row 66 w.heap.size 66 _ hA0 _ Tryz.underlying66 rfl HI.out rfl _ rfl ?_ ?_); focus rfl)
  have HA : Hid (Arr ((w.alloc (.cells (iv (ci ws)).toArray 66)).alloc (.cells #[.int .i64 0] 3)) (w.heap.size + 1) 3 [.int .i64 ((0 : Nat) : Int)]) := Lib.hid (a2_1 w _ _)
  have HB := Lib.hid (bel2 w (.cells (iv (ci ws)).toArray 66) (.cells #[.int .i64 0] 3))
  obtain ⟨W, hW⟩ : ∃ W, ((w.alloc (.cells (iv (ci ws)).toArray 66)).alloc (.cells #[.int .i64 0] 3)) = W := ⟨_, rfl⟩
  rw [hW] at HA HB ⊢
  clear hW hA0
  go_loopw [11] (fun i wr => ∃ k : Nat, i = .int .i64 (k : Int) ∧ k ≤ 8 ∧ Hid (Arr wr (w.heap.size + 1) 3 [.int .i64 ((popL (ws.take k) : Nat) : Int)]) ∧ Hid (Below w.heap.size w wr)) (fun i _ => 8 - (intOf i).toNat)
  case atStart => exact ⟨0, rfl, by omega, HA, HB⟩
  case round =>
    clear HA HB
    obtain ⟨k, rfl, hk, HA, HB⟩ := hrel
    by_cases hlt : k < 8
    · have hks : k < ws.length := by omega
      have hidx := index22 (ci ws) k hlt (by rw [ci_len, h8]) wr
      rw [ci_get] at hidx
      have hsm : ws.getD k 0 < 1099511627776 := by
        have e : ws.getD k 0 = ws[k] := by simp [hks]
        rw [e]
        exact HS.out _ (List.getElem_mem hks)
      have hst := (take_step ws k hks).2
      have hpl := pop_small (ws.take k)
      rw [List.length_take] at hpl
      generalize ws.getD k 0 = x at *
      have hcl := count_any (x : Int) x (popL (ws.take k)) (w.heap.size + 1) wr rfl hsm (by omega) HA.out
      rw [← hst] at hcl
      have HCL := Lib.hid hcl
      clear hsm hst hpl hcl
      go_wp2_with fail
      refine HCL.out.mono ?_
      rintro e w2 ⟨⟨v, rfl⟩, hA2, hB2⟩
      have HA2 := Lib.hid hA2
      have HB2 := Lib.hid (HB.out.trans (hB2 w.heap.size (by omega)))
      clear hA2 hB2
      go_wp2_with fail
      go_roundw
      case rel => exact ⟨k + 1, by simp, by omega, HA2, HB2⟩
      case measure => simp [intOf]; omega
    · obtain rfl : k = 8 := by omega
      have hpl := pop_small ws
      have hcl := count_any (c : Int) c (popL (ws.take 8)) (w.heap.size + 1) wr rfl HC.out (by rw [List.take_of_length_le (by omega)]; omega) HA.out
      have e : popL (ws.take 8) + popW c 40 = p := by
        rw [← HP.out]
        rw [List.take_of_length_le (by omega)]
        unfold popT
        rw [popL_append]
        simp [popL]
      rw [e] at hcl
      have HCL := Lib.hid hcl
      clear e hcl hpl
      go_wp2_with fail
      refine HCL.out.mono ?_
      rintro e w2 ⟨⟨v, rfl⟩, hA2, hB2⟩
      have hcell := hA2.cell (j := 0) rfl
      have HB2 := Lib.hid (HB.out.trans (hB2 w.heap.size (by omega)))
      clear hA2 hB2
      go_wp2_with fail
      go_ret
      exact ⟨rfl, HB2.out⟩
end Go.Proofs.YtpojhplnhppcpaaGreatDoor
namespace Go.Proofs.YtpojhplnhppcpaaGreatDoor
open Go.RowKit
def nw (L : List Int) : List Nat := L.map Int.toNat
theorem okW_of {z : Int} (h : okW z = true) : 0 ≤ z ∧ z ≤ 1099511627775 := by unfold okW at h; simpa using h
theorem of_all {L : List Int} (h : L.all okW = true) : L = ci (nw L) ∧ ∀ x ∈ nw L, x < 1099511627776 := by
  rw [List.all_eq_true] at h
  constructor
  · unfold ci nw
    rw [List.map_map]
    refine (List.map_id L).symm.trans (List.map_congr_left fun z hz => ?_)
    have := okW_of (h z hz)
    show z = ((z.toNat : Nat) : Int)
    omega
  · intro x hx
    obtain ⟨z, hz, rfl⟩ := List.mem_map.1 hx
    have := okW_of (h z hz)
    omega
theorem nw_len (L : List Int) : (nw L).length = L.length := by simp [nw]
theorem nw_ci (ws : List Nat) : nw (ci ws) = ws := by
  unfold nw ci
  rw [List.map_map]
  exact List.map_id ws
theorem all_ci {ws : List Nat} (h : ∀ x ∈ ws, x < 1099511627776) : (ci ws).all okW = true := by
  rw [List.all_eq_true]
  intro z hz
  obtain ⟨x, hx, rfl⟩ := List.mem_map.1 hz
  have := h x hx
  unfold okW
  simp
  omega
theorem valid_ci {ws : List Nat} (h : ∀ x ∈ ws, x < 1099511627776) (c : Nat) : validB (ci ws) (c : Int) = decide (c < 1024) := by
  unfold validB
  rw [all_ci h, Bool.true_and, decide_eq_decide]
  omega
theorem nine_of {ws : List Nat} {c : Nat} (h8 : ws.length = 8) (hs : ∀ x ∈ ws, x < 1099511627776) (hc : c < 1024) : Nine (ws ++ [c]) := by
  refine ⟨by simp [h8], ?_, ?_⟩
  · intro n hn
    rcases List.mem_append.1 hn with h | h
    · exact hs n h
    · rw [List.mem_singleton.1 h]; exact Nat.lt_trans hc (by decide)
  · rw [List.getD_eq_getElem?_getD, List.getElem?_append_right (by omega), h8]
    simpa using hc
theorem synT_lt {ws : List Nat} {c : Nat} (h8 : ws.length = 8) (hs : ∀ x ∈ ws, x < 1099511627776) (hc : c < 1024) : synT ws c < 512 := (nine_of h8 hs hc).syn
set_option maxRecDepth 100000 in
set_option maxHeartbeats 400000 in
theorem parity_any (ws : List Nat) (c : Nat) (w : World) (h8 : ws.length = 8) (hs : ∀ x ∈ ws, x < 1099511627776) (hc : c < 1099511627776) :
    Calls Tryz.prog 151 #[.agg (iv (ci ws)).toArray, .int .i64 (c : Int)] w fun e w' => e = .returned (.int .i64 (popT ws c % 2 : Nat)) ∧ Below w.heap.size w w' := by
  have HI := Lib.hid (size22' (l := ci ws) (by rw [ci_len, h8]))
  have HA := Lib.hid (Arr.new w (iv (ci ws)) 66)
  have HB := Lib.hid (bel_new w (.cells (iv (ci ws)).toArray 66))
  have HO := Lib.hid fun w => onesF_any ws c w h8 hs hc
  clear hs hc
  have hand : bits .and .i64 ((popT ws c : Nat) : Int) 1 = ((popT ws c % 2 : Nat) : Int) := by rw [i64_and1]; omega
  generalize popT ws c % 2 = q at *
  generalize popT ws c = p at *
  go_enter Tryz.func151, Tryz.ntmps151
  go_wp2_with ((with_reducible refine arm_row 66 w.heap.size 66 _ HA.out _ Tryz.underlying66 rfl HI.out rfl _ rfl ?_ ?_); focus rfl)
  refine (HO.out _).mono ?_
  rintro e w1 ⟨rfl, hb⟩
  have HB2 := Lib.hid (bel_on HB.out hb)
  clear hb
  go_wp2_with fail
  go_ret
  exact ⟨rfl, HB2.out⟩
/-- The code of a line, if all words are in their ranges; else -1. -/
def encZ (L : List Int) : Int := if L.all okW then ((encN (nw L) : Nat) : Int) else -1
theorem valid0 (L : List Int) : validB L 0 = L.all okW := by unfold validB; simp
set_option maxRecDepth 100000 in
set_option maxHeartbeats 1000000 in
theorem encode_any (L : List Int) (w : World) (h8 : L.length = 8) (hT : Tab w) :
    Calls Tryz.prog 132 #[.agg (iv L).toArray] w fun e w' => e = .returned (.int .i64 (encZ L)) ∧ Below w.heap.size w w' := by
  have HI := Lib.hid (size22' (l := L) h8)
  have HA := Lib.hid (Arr.new w (iv L) 66)
  have HB := Lib.hid (bel_new w (.cells (iv L).toArray 66))
  have HT := Lib.hid hT
  have HV := Lib.hid fun w => valid_any L 0 w h8
  rw [valid0] at HV
  clear hT
  cases hv : L.all okW with
  | false =>
    rw [hv] at HV
    unfold encZ
    rw [hv, if_neg (by decide)]
    go_enter Tryz.func132, Tryz.ntmps132
    go_wp2_with ((with_reducible refine arm_row 66 w.heap.size 66 _ HA.out _ Tryz.underlying66 rfl HI.out rfl _ rfl ?_ ?_); focus rfl)
    refine (HV.out _).mono ?_
    rintro e w1 ⟨rfl, hb⟩
    have HB2 := Lib.hid (bel_on HB.out hb)
    clear hb
    go_wp2_with fail
    go_ret
    exact ⟨rfl, HB2.out⟩
  | true =>
    rw [hv] at HV
    unfold encZ
    rw [hv, if_pos rfl]
    obtain ⟨hL, hs⟩ := of_all hv
    have hlen : (nw L).length = 8 := by rw [nw_len, h8]
    generalize nw L = ws at *
    subst hL
    have HS := Lib.hid fun w (hT : Tab w) => syn_any ws 0 w hlen hs (by decide) hT
    have hlt : synT ws 0 < 512 := synT_lt hlen hs (by decide)
    have HP := Lib.hid fun w => parity_any ws (synT ws 0) w hlen hs (by omega)
    have hq : popT ws (synT ws 0) % 2 < 2 := by omega
    unfold encN
    generalize popT ws (synT ws 0) % 2 = q at *
    generalize synT ws 0 = s at *
    have hor : bits .or .i64 (s : Int) ((512 * q : Nat) : Int) = ((s + 512 * q : Nat) : Int) := by
      rw [i64_or_nat _ _ (by omega) (by omega)]
      congr 1
      rw [Nat.or_comm, nat_join 9 (512 * q) s (by omega) hlt]
      omega
    have HOR := Lib.hid hor
    clear hs hv hor
    go_enter Tryz.func132, Tryz.ntmps132
    go_wp2_with ((with_reducible refine arm_row 66 w.heap.size 66 _ HA.out _ Tryz.underlying66 rfl HI.out rfl _ rfl ?_ ?_); focus rfl)
    refine (HV.out _).mono ?_
    rintro e w1 ⟨rfl, hb⟩
    have HB2 := Lib.hid (bel_on HB.out hb)
    have HA2 := Lib.hid (HA.out.keep hb)
    clear hb HA HB
    go_wp2_with ((with_reducible refine arm_row 66 w.heap.size 66 _ HA2.out _ Tryz.underlying66 rfl HI.out rfl _ rfl ?_ ?_); focus rfl)
    refine (HS.out _ (HT.out.keep HB2.out)).mono ?_
    rintro e w2 ⟨rfl, hb⟩
    have HB3 := Lib.hid (bel_on HB2.out hb)
    have HA3 := Lib.hid (HA2.out.keep hb)
    clear hb HA2 HB2
    go_wp2_with ((with_reducible refine arm_row 66 w.heap.size 66 _ HA3.out _ Tryz.underlying66 rfl HI.out rfl _ rfl ?_ ?_); focus rfl)
    refine (HP.out _).mono ?_
    rintro e w3 ⟨rfl, hb⟩
    have HB4 := Lib.hid (bel_on HB3.out hb)
    clear hb HA3 HB3
    go_wp2_with fail
    go_ret
    have e : (q : Int) * 512 = ((512 * q : Nat) : Int) := by omega
    refine ⟨ret_i64 ?_, HB4.out⟩
    rw [e]
    exact HOR.out
end Go.Proofs.YtpojhplnhppcpaaGreatDoor
namespace Go.Proofs.YtpojhplnhppcpaaGreatDoor
open Go.RowKit
theorem chk_find {s p : Nat} (hp : p = 1) : chkF s p = if (findF s).2.2 then (1, (findF s).1, (findF s).2.1) else (2, 0, 0) := by
  subst hp
  unfold chkF
  rw [if_neg (by omega), if_neg (by decide)]
theorem ret_t3 {a b c a' b' c' : Int} (h1 : a = a') (h2 : b = b') (h3 : c = c') : Ending.returned (.tuple #[.int .i64 a, .int .i64 b, .int .i64 c]) = .returned (.tuple #[.int .i64 a', .int .i64 b', .int .i64 c']) := by rw [h1, h2, h3]
/-- What Check says. -/
def chkZ (L : List Int) (c : Int) : Nat × Nat × Nat := if validB L c then chkF (synT (nw L) c.toNat) (popT (nw L) c.toNat % 2) else (2, 0, 0)
def t3 (r : Nat × Nat × Nat) : Value := .tuple #[.int .i64 (r.1 : Int), .int .i64 (r.2.1 : Int), .int .i64 (r.2.2 : Int)]
set_option maxRecDepth 100000 in
set_option maxHeartbeats 1000000 in
theorem check_any (L : List Int) (c : Int) (w : World) (h8 : L.length = 8) (hT : Tab w) :
    Calls Tryz.prog 144 #[.agg (iv L).toArray, .int .i64 c] w fun e w' => e = .returned (t3 (chkZ L c)) ∧ Below w.heap.size w w' := by
  have HI := Lib.hid (size22' (l := L) h8)
  have HA := Lib.hid (Arr.new w (iv L) 66)
  have HB := Lib.hid (bel_new w (.cells (iv L).toArray 66))
  have HT := Lib.hid hT
  have HV := Lib.hid fun w => valid_any L c w h8
  clear hT
  cases hv : validB L c with
  | false =>
    rw [hv] at HV
    unfold chkZ
    rw [hv, if_neg (by decide)]
    go_enter Tryz.func144, Tryz.ntmps144
    go_wp2_with ((with_reducible refine arm_row 66 w.heap.size 66 _ HA.out _ Tryz.underlying66 rfl HI.out rfl _ rfl ?_ ?_); focus rfl)
    refine (HV.out _).mono ?_
    rintro e w1 ⟨rfl, hb⟩
    have HB2 := Lib.hid (bel_on HB.out hb)
    clear hb
    go_wp2_with fail
    go_ret3
    exact ⟨rfl, HB2.out⟩
  | true =>
    rw [hv] at HV
    unfold chkZ
    rw [hv, if_pos rfl]
    have hv2 := hv
    unfold validB at hv2
    simp only [Bool.and_eq_true, decide_eq_true_eq] at hv2
    obtain ⟨ha, hc0, hc1⟩ := hv2
    obtain ⟨hL, hs⟩ := of_all ha
    have hlen : (nw L).length = 8 := by rw [nw_len, h8]
    generalize nw L = ws at *
    subst hL
    obtain ⟨m, rfl⟩ : ∃ m : Nat, c = m := ⟨c.toNat, by omega⟩
    rw [Int.toNat_natCast]
    have hm : m < 1024 := by omega
    have HS := Lib.hid fun w (hT : Tab w) => syn_any ws m w hlen hs hm hT
    have hlt : synT ws m < 512 := synT_lt hlen hs hm
    have HP := Lib.hid fun w => parity_any ws m w hlen hs (by omega)
    have hq : popT ws m % 2 < 2 := by omega
    generalize popT ws m % 2 = q at *
    generalize synT ws m = s at *
    have HF := Lib.hid fun z w hz => find_any z s w hz hlt
    obtain ⟨R, hR⟩ : ∃ R, chkF s q = R := ⟨_, rfl⟩
    rw [hR]
    have HR := Lib.hid hR
    clear hs hv ha hc0 hc1 hm hR
    go_enter Tryz.func144, Tryz.ntmps144
    go_wp2_with ((with_reducible refine arm_row 66 w.heap.size 66 _ HA.out _ Tryz.underlying66 rfl HI.out rfl _ rfl ?_ ?_); focus rfl)
    refine (HV.out _).mono ?_
    rintro e w1 ⟨rfl, hb⟩
    have HB2 := Lib.hid (bel_on HB.out hb)
    have HA2 := Lib.hid (HA.out.keep hb)
    clear hb HA HB
    go_wp2_with fail
    have hbd := bel_drew w1
    have HA3 := Lib.hid (HA2.out.keep hbd)
    have HB3 := Lib.hid (bel_on HB2.out hbd)
    have HT3 := Lib.hid (HT.out.keep HB3.out)
    have hr3 : w1.drew.rangeAt w.heap.size 0 (iv (ci ws)) := HA3.out.range
    have hu22 := Tryz.underlying66
    have hi22 := HI.out
    clear hbd
    refine wp_region_held_drew (S := fun W' => W'.rangeAt w.heap.size 0 (iv (ci ws))) (by kernel_rfl) hr3 (fun hHeld => ?_)
    refine wpAnyH_take (i := 0) (v := .agg (iv (ci ws)).toArray) rfl (by kernel_rfl) (by kernel_rfl) (by kernel_rfl) (fun _ _ _ h => h) (yieldsIf_load_mid (by rfl) _ _ rfl _ _ rfl _ _ (fun w h => h) hu22 rfl hi22) (by assumption) ?_
    change wpAnyH _ _ _ _ _ _ _ (Act.put _ (some 14) _) _
    simp only [Act.put, List.setIfInBounds_toArray, List.set_cons_zero, List.set_cons_succ]
    refine wpAnyH_take (i := 1) (v := .int .i64 (m : Int)) rfl (by kernel_rfl) (by kernel_rfl) (by kernel_rfl) (fun _ _ _ h => h) (Or.inl ⟨by rfl, fun w hSw => by go_simp⟩) (by assumption) ?_
    change wpAnyH _ _ _ _ _ _ _ (Act.put _ (some 15) _) _
    simp only [Act.put, List.setIfInBounds_toArray, List.set_cons_zero, List.set_cons_succ]
    refine wpAnyH_take (i := 3) (v := .agg (iv (ci ws)).toArray) rfl (by kernel_rfl) (by kernel_rfl) (by kernel_rfl) (fun _ _ _ h => h) (yieldsIf_load_mid (by rfl) _ _ rfl _ _ rfl _ _ (fun w h => h) hu22 rfl hi22) (by assumption) ?_
    change wpAnyH _ _ _ _ _ _ _ (Act.put _ (some 17) _) _
    simp only [Act.put, List.setIfInBounds_toArray, List.set_cons_zero, List.set_cons_succ]
    refine wpAnyH_take (i := 4) (v := .int .i64 (m : Int)) rfl (by kernel_rfl) (by kernel_rfl) (by kernel_rfl) (fun _ _ _ h => h) (Or.inl ⟨by rfl, fun w hSw => by go_simp⟩) (by assumption) ?_
    change wpAnyH _ _ _ _ _ _ _ (Act.put _ (some 18) _) _
    simp only [Act.put, List.setIfInBounds_toArray, List.set_cons_zero, List.set_cons_succ]
    refine wpAnyH_ready (rs := [2]) (by kernel_rfl) (by simp) ?_
    refine AllReadyH.cons rfl (fun K hK => ?_) AllReadyH.nil
    go_simp
    refine (HS.out _ HT3.out).mono ?_
    rintro e w4 ⟨rfl, hb⟩
    have HA4 := Lib.hid (HA3.out.keep hb)
    have HB4 := Lib.hid (bel_on HB3.out hb)
    have hr4 : w4.rangeAt w.heap.size 0 (iv (ci ws)) := HA4.out.range
    clear hb
    refine hK.out _ _ hr4 (fun hHeld4 => ?_)
    clear hK K hHeld hr3
    refine wpAnyH_ready (rs := [5]) (by kernel_rfl) (by simp) ?_
    refine AllReadyH.cons rfl (fun K hK => ?_) AllReadyH.nil
    go_simp
    refine (HP.out _).mono ?_
    rintro e w5 ⟨rfl, hb⟩
    have HA5 := Lib.hid (HA4.out.keep hb)
    have HB5 := Lib.hid (bel_on HB4.out hb)
    have hr5 : w5.rangeAt w.heap.size 0 (iv (ci ws)) := HA5.out.range
    clear hb
    refine hK.out _ _ hr5 (fun hHeld5 => ?_)
    clear hK K hHeld4 hr4
    refine wpAnyH_take (i := 6) (v := .int .i64 (s : Int)) rfl (by kernel_rfl) (by kernel_rfl) (by kernel_rfl) (fun _ _ _ h => h) (Or.inl ⟨by rfl, fun w hSw => by go_simp⟩) (by assumption) ?_
    change wpAnyH _ _ _ _ _ _ _ (Act.put _ (some 7) _) _
    simp only [Act.put, List.setIfInBounds_toArray, List.set_cons_zero, List.set_cons_succ]
    refine wpAnyH_take (i := 7) (v := .int .i64 (q : Int)) rfl (by kernel_rfl) (by kernel_rfl) (by kernel_rfl) (fun _ _ _ h => h) (Or.inl ⟨by rfl, fun w hSw => by go_simp⟩) (by assumption) ?_
    change wpAnyH _ _ _ _ _ _ _ (Act.put _ (some 8) _) _
    simp only [Act.put, List.setIfInBounds_toArray, List.set_cons_zero, List.set_cons_succ]
    refine wpAnyH_done (by kernel_rfl) ?_ _
    clear HA2 HB2 HA3 HB3 HT3 HA4 HB4 HA5 hr5
    by_cases hq0 : q = 0
    · subst hq0
      by_cases hs0 : s = 0
      · subst hs0
        have HE : Hid (R = (0, 0, 0)) := Lib.hid (by rw [← HR.out]; rfl)
        go_wp2_with fail
        go_ret3
        exact ⟨by rw [HE.out]; rfl, HB5.out⟩
      · have HE : Hid (R = (2, 0, 0)) := Lib.hid (by rw [← HR.out]; unfold chkF; rw [if_neg (by omega), if_pos rfl])
        have hsp : 0 < (s : Int) := by omega
        go_wp2_with fail
        go_ret3
        exact ⟨by rw [HE.out]; rfl, HB5.out⟩
    · have hq1 : q = 1 := by omega
      have HE := Lib.hid (HR.out.symm.trans (chk_find hq1))
      subst hq1
      generalize (findF s).1 = f1 at *
      generalize (findF s).2.1 = f2 at *
      cases hf3 : (findF s).2.2 with
      | true =>
        rw [hf3] at HE HF
        clear hf3 hq0 HR
        go_wp2_with ((go_at_call 166); refine (HF.out _ _ (by omega)).mono ?_; rintro e w6 ⟨rfl, rfl⟩)
        all_goals go_ret3
        all_goals exact ⟨by rw [HE.out]; rfl, HB5.out⟩
      | false =>
        rw [hf3] at HE HF
        clear hf3 hq0 HR
        go_wp2_with ((go_at_call 166); refine (HF.out _ _ (by omega)).mono ?_; rintro e w6 ⟨rfl, rfl⟩)
        all_goals go_ret3
        all_goals exact ⟨by rw [HE.out]; rfl, HB5.out⟩
end Go.Proofs.YtpojhplnhppcpaaGreatDoor
namespace Go.Proofs.YtpojhplnhppcpaaGreatDoor
open Go.RowKit
theorem wrapEq (x : Int) : IntKind.i64.wrap x = wrap64 x := by rw [IntKind.wrap_i64]; unfold wrap64; rfl
theorem dataB_of {k b : Int} (h : dataB k b = true) : 0 ≤ k ∧ k < 8 ∧ 0 ≤ b ∧ b < 40 := by unfold dataB at h; simpa using h
theorem codeB_of {k b : Int} (h : codeB k b = true) : k = 8 ∧ 0 ≤ b ∧ b < 10 := by unfold codeB at h; simpa using h
/-- One bit inverted. -/
def flipR (ws : List Nat) (c : Nat) (k b : Int) : List Nat × Nat :=
  if dataB k b then (ws.set k.toNat (ws.getD k.toNat 0 ^^^ 2 ^ b.toNat), c) else if codeB k b then (ws, c ^^^ 2 ^ b.toNat) else (ws, c)
def pr (r : List Nat × Nat) : Value := .tuple #[.agg (iv (ci r.1)).toArray, .int .i64 (r.2 : Int)]
/-- A block and a number are handed back. -/
theorem ret_row2 {fn : Func} {p q : Tmp} {ty : TypeId} (h : fn.results = #[.cell p ty, .tmp q]) (tmps : Array Value) (w : World) (g t : Nat) (cs : List Value) (hA : Arr w g t cs) (hp : tmps.getD p undef = .pointer (some ⟨g, 0, none⟩))
    (d : TypeDesc) (hu : Tryz.prog.underlying ty = some d) (hd : d.isRow = true) (hi : (Tryz.prog.info? ty).map (·.size) = some cs.length) (v : Value) (hv : tmps.getD q undef = v) :
    (results fn tmps).run Tryz.prog w = .ok (.tuple #[.agg cs.toArray, v]) w := by
  have hp' : tmps[p]?.getD undef = .pointer (some ⟨g, 0, none⟩) := by simpa using hp
  have hv' : tmps[q]?.getD undef = v := by simpa using hv
  simp [results, h, hp', hv', asAddr, run_loadVar_mid w g 0 ty cs d hA.range hu hd hi]
theorem set_lt {ws : List Nat} (hs : ∀ x ∈ ws, x < 1099511627776) (k b : Nat) (hk : k < ws.length) (hb : b < 40) : ws.getD k 0 < 1099511627776 ∧ ws.getD k 0 ^^^ 2 ^ b < 1099511627776 ∧ ∀ x ∈ ws.set k (ws.getD k 0 ^^^ 2 ^ b), x < 1099511627776 := by
  have e : ws.getD k 0 = ws[k] := by simp [hk]
  have h1 : ws.getD k 0 < 1099511627776 := by rw [e]; exact hs _ (List.getElem_mem hk)
  have h2 : ws.getD k 0 ^^^ 2 ^ b < 2 ^ 40 := Nat.xor_lt_two_pow (n := 40) h1 (two_pow_lt hb)
  refine ⟨h1, h2, fun x hx => ?_⟩
  rcases List.mem_or_eq_of_mem_set hx with h | h
  · exact hs x h
  · rw [h]; exact h2
theorem pow_le39 (b : Nat) (hb : b < 40) : 2 ^ b ≤ 549755813888 := Nat.pow_le_pow_right (n := 2) (i := b) (j := 39) (by decide) (by omega)
def Z8 : List Int := [0, 0, 0, 0, 0, 0, 0, 0]
set_option maxRecDepth 100000 in
set_option maxHeartbeats 1000000 in
theorem flip_any (ws : List Nat) (c : Nat) (k b : Int) (w : World) (h8 : ws.length = 8) (hs : ∀ x ∈ ws, x < 1099511627776) (hc : c < 1024) :
    Calls Tryz.prog 146 #[.agg (iv (ci ws)).toArray, .int .i64 (c : Int), .int .i64 k, .int .i64 b] w fun e w' => e = .returned (pr (flipR ws c k b)) ∧ Below w.heap.size w w' := by
  have hl : (ci ws).length = 8 := by rw [ci_len, h8]
  have HI := Lib.hid (size22' hl)
  have HO := Lib.hid (iv_one (ci ws))
  have HL := Lib.hid (show (iv Z8).length = (iv (ci ws)).length by rw [iv_len, iv_len, hl]; rfl)
  have HD := Lib.hid fun w => isData_any k b w
  have HC := Lib.hid fun w => isCode_any k b w
  have H22 := Lib.hid Tryz.underlying66
  obtain ⟨R, hR⟩ : ∃ R, flipR ws c k b = R := ⟨_, rfl⟩
  rw [hR]
  cases hd : dataB k b with
  | true =>
    have e : R = (ws.set k.toNat (ws.getD k.toNat 0 ^^^ 2 ^ b.toNat), c) := by rw [← hR]; unfold flipR; rw [hd, if_pos rfl]
    rw [hd] at HD
    obtain ⟨h1, h2, h3, h4⟩ := dataB_of hd
    have hkn : k.toNat < ws.length := by omega
    obtain ⟨g1, g2, g3⟩ := set_lt hs k.toNat b.toNat hkn (by omega)
    have hp := pow_le39 b.toNat (by omega)
    have hx := i64_xor_nat (ws.getD k.toNat 0) (2 ^ b.toNat) (by omega) (by omega)
    have hw := pow_w b h3 (by omega)
    have hwi : IntKind.i64.wrap (2 ^ b.toNat) = ((2 ^ b.toNat : Nat) : Int) := by rw [wrapEq, hw]
    obtain ⟨kn, rfl⟩ : ∃ kn : Nat, k = kn := ⟨k.toNat, by omega⟩
    rw [Int.toNat_natCast] at *
    have hset := ci_set ws kn (ws.getD kn 0 ^^^ 2 ^ b.toNat)
    have hcg := iv_at (l := ci ws) (k := kn) (by omega)
    rw [ci_get] at hcg
    have hst := iv_set (ci ws) kn ((ws.getD kn 0 ^^^ 2 ^ b.toNat : Nat) : Int)
    rw [hset] at hst
    have hl2 : (ws.set kn (ws.getD kn 0 ^^^ 2 ^ b.toNat)).length = 8 := by simp [h8]
    have HI2 := Lib.hid (size22' (l := ci (ws.set kn (ws.getD kn 0 ^^^ 2 ^ b.toNat))) (by rw [ci_len, hl2]))
    have HO2 := Lib.hid (iv_one (ci (ws.set kn (ws.getD kn 0 ^^^ 2 ^ b.toNat))))
    have HL2 := Lib.hid (show (iv Z8).length = (iv (ci (ws.set kn (ws.getD kn 0 ^^^ 2 ^ b.toNat)))).length by rw [iv_len, iv_len, ci_len, hl2]; rfl)
    generalize ws.set kn (ws.getD kn 0 ^^^ 2 ^ b.toNat) = ws2 at *
    generalize ws.getD kn 0 ^^^ 2 ^ b.toNat = y at *
    generalize ws.getD kn 0 = x at *
    generalize 2 ^ b.toNat = p at *
    have HE := Lib.hid e
    have HST := Lib.hid hst
    have HCG := Lib.hid hcg
    clear e hst hcg hset hR hd g1 g2 g3 hp hs hl2 hc
    go_enter Tryz.func146, Tryz.ntmps146
    go_wp2_with fail
    refine (HD.out _).mono ?_
    rintro e w1 ⟨rfl, hw1⟩
    have HA : Hid (Arr w1 w.heap.size 66 (iv (ci ws))) := Lib.hid (by rw [hw1]; exact a2_0 _ _ _)
    have HZ : Hid (Arr w1 (w.heap.size + 1) 66 (iv Z8)) := Lib.hid (by rw [hw1]; exact a2_1 _ _ _)
    have HB : Hid (Below w.heap.size w w1) := Lib.hid (by rw [hw1]; exact bel2 _ _ _)
    clear hw1
    have hcell := HA.out.cell HCG.out
    have hfree := HA.out.free kn
    go_wp2_with fail
    go_still_tail 7, (by kernel_rfl)
    change wpList _ _ _ _ _ w1.drew
    have hbd := bel_drew w1
    have HA2 := Lib.hid (HA.out.keep hbd)
    have HZ2 := Lib.hid (HZ.out.keep hbd)
    have HB2 := Lib.hid (bel_on HB.out hbd)
    generalize w1.drew = w2 at *
    clear hbd hcell hfree HA HZ HB
    have hcell := HA2.out.cell HCG.out
    have hfree := HA2.out.free kn
    have hA3 : Arr (w2.setCell ⟨w.heap.size, kn, none⟩ (.int .i64 (y : Int))) w.heap.size 66 (iv (ci ws2)) := by
      have := HA2.out.set kn (.int .i64 (y : Int))
      rwa [HST.out] at this
    have HA3 := Lib.hid hA3
    have HZ3 : Hid (Arr (w2.setCell ⟨w.heap.size, kn, none⟩ (.int .i64 (y : Int))) (w.heap.size + 1) 66 (iv Z8)) := Lib.hid (HZ2.out.other (by simp) _)
    have HB3 : Hid (Below w.heap.size w (w2.setCell ⟨w.heap.size, kn, none⟩ (.int .i64 (y : Int)))) := Lib.hid (HB2.out.setCell (Nat.le_refl _) _)
    clear hA3
    go_wp2_with (first
      | ((with_reducible refine arm_row 66 w.heap.size 66 _ HA3.out _ H22.out rfl HI2.out rfl _ rfl ?_ ?_); focus rfl)
      | ((with_reducible refine arm_put 66 (w.heap.size + 1) 66 _ _ HZ3.out HI2.out HL2.out HO2.out rfl _ _ rfl ?_ ?_ ?_); (focus rfl); (focus rfl)))
    refine bodyPost_ret (v := pr (ws2, c)) (ret_row2 Tryz.results146 _ _ (w.heap.size + 1) 66 (iv (ci ws2)) (HZ3.out.row _) rfl _ H22.out rfl HI2.out _ rfl) rfl ?_
    exact ⟨by rw [HE.out], bel_row HB3.out (by omega) _⟩
  | false =>
    rw [hd] at HD
    cases hcd : codeB k b with
    | true =>
      have e : R = (ws, c ^^^ 2 ^ b.toNat) := by rw [← hR]; unfold flipR; rw [hd, hcd, if_neg (by decide), if_pos rfl]
      rw [hcd] at HC
      obtain ⟨rfl, h3, h4⟩ := codeB_of hcd
      have hp := pow_le39 b.toNat (by omega)
      have hx := i64_xor_nat c (2 ^ b.toNat) (by omega) (by omega)
      have hw := pow_w b h3 (by omega)
      have hwi : IntKind.i64.wrap (2 ^ b.toNat) = ((2 ^ b.toNat : Nat) : Int) := by rw [wrapEq, hw]
      generalize c ^^^ 2 ^ b.toNat = y at *
      generalize 2 ^ b.toNat = p at *
      have HE := Lib.hid e
      clear e hR hd hcd hp hs hc
      go_enter Tryz.func146, Tryz.ntmps146
      go_wp2_with fail
      refine (HD.out _).mono ?_
      rintro e w1 ⟨rfl, hw1⟩
      have HA : Hid (Arr w1 w.heap.size 66 (iv (ci ws))) := Lib.hid (by rw [hw1]; exact a2_0 _ _ _)
      have HZ : Hid (Arr w1 (w.heap.size + 1) 66 (iv Z8)) := Lib.hid (by rw [hw1]; exact a2_1 _ _ _)
      have HB : Hid (Below w.heap.size w w1) := Lib.hid (by rw [hw1]; exact bel2 _ _ _)
      clear hw1
      go_wp2_with fail
      refine (HC.out _).mono ?_
      rintro e w2 ⟨rfl, rfl⟩
      go_wp2_with (first
        | ((with_reducible refine arm_row 66 w.heap.size 66 _ HA.out _ H22.out rfl HI.out rfl _ rfl ?_ ?_); focus rfl)
        | ((with_reducible refine arm_put 66 (w.heap.size + 1) 66 _ _ HZ.out HI.out HL.out HO.out rfl _ _ rfl ?_ ?_ ?_); (focus rfl); (focus rfl)))
      refine bodyPost_ret (v := pr (ws, y)) (ret_row2 Tryz.results146 _ _ (w.heap.size + 1) 66 (iv (ci ws)) (HZ.out.row _) rfl _ H22.out rfl HI.out _ rfl) rfl ?_
      exact ⟨by rw [HE.out], bel_row HB.out (by omega) _⟩
    | false =>
      have e : R = (ws, c) := by rw [← hR]; unfold flipR; rw [hd, hcd, if_neg (by decide), if_neg (by decide)]
      rw [hcd] at HC
      have HE := Lib.hid e
      clear e hR hd hcd hs hc
      go_enter Tryz.func146, Tryz.ntmps146
      go_wp2_with fail
      refine (HD.out _).mono ?_
      rintro e w1 ⟨rfl, hw1⟩
      have HA : Hid (Arr w1 w.heap.size 66 (iv (ci ws))) := Lib.hid (by rw [hw1]; exact a2_0 _ _ _)
      have HZ : Hid (Arr w1 (w.heap.size + 1) 66 (iv Z8)) := Lib.hid (by rw [hw1]; exact a2_1 _ _ _)
      have HB : Hid (Below w.heap.size w w1) := Lib.hid (by rw [hw1]; exact bel2 _ _ _)
      clear hw1
      go_wp2_with fail
      refine (HC.out _).mono ?_
      rintro e w2 ⟨rfl, rfl⟩
      go_wp2_with (first
        | ((with_reducible refine arm_row 66 w.heap.size 66 _ HA.out _ H22.out rfl HI.out rfl _ rfl ?_ ?_); focus rfl)
        | ((with_reducible refine arm_put 66 (w.heap.size + 1) 66 _ _ HZ.out HI.out HL.out HO.out rfl _ _ rfl ?_ ?_ ?_); (focus rfl); (focus rfl)))
      refine bodyPost_ret (v := pr (ws, c)) (ret_row2 Tryz.results146 _ _ (w.heap.size + 1) 66 (iv (ci ws)) (HZ.out.row _) rfl _ H22.out rfl HI.out _ rfl) rfl ?_
      exact ⟨by rw [HE.out], bel_row HB.out (by omega) _⟩
end Go.Proofs.YtpojhplnhppcpaaGreatDoor
namespace Go.Proofs.YtpojhplnhppcpaaGreatDoor
open Go.RowKit
/-- What Fix hands back. -/
def fixZ (L : List Int) (c : Int) : List Int × Int × Int :=
  if validB L c then
    if (chkZ L c).1 = 2 then (Z8, 0, 9)
    else if (chkZ L c).1 = 1 then (ci (flipR (nw L) c.toNat ((chkZ L c).2.1 : Nat) ((chkZ L c).2.2 : Nat)).1, (((flipR (nw L) c.toNat ((chkZ L c).2.1 : Nat) ((chkZ L c).2.2 : Nat)).2 : Nat) : Int), 0)
    else (L, c, 0)
  else (Z8, 0, 1)
def fr (r : List Int × Int × Int) : Value := .tuple #[.agg (iv r.1).toArray, .int .i64 r.2.1, .int .i64 r.2.2]
theorem Arr2_0 (w : World) (cs : List Value) (t : TypeId) (B : Obj) : Arr ((w.alloc (.cells cs.toArray t)).alloc B) w.heap.size t cs := a2_0 w _ B
/-- A block and two numbers are handed back. -/
theorem ret_row3 {fn : Func} {p q r : Tmp} {ty : TypeId} (h : fn.results = #[.cell p ty, .tmp q, .tmp r]) (tmps : Array Value) (w : World) (g t : Nat) (cs : List Value) (hA : Arr w g t cs) (hp : tmps.getD p undef = .pointer (some ⟨g, 0, none⟩))
    (d : TypeDesc) (hu : Tryz.prog.underlying ty = some d) (hd : d.isRow = true) (hi : (Tryz.prog.info? ty).map (·.size) = some cs.length) (v u : Value) (hv : tmps.getD q undef = v) (hw : tmps.getD r undef = u) :
    (results fn tmps).run Tryz.prog w = .ok (.tuple #[.agg cs.toArray, v, u]) w := by
  have hp' : tmps[p]?.getD undef = .pointer (some ⟨g, 0, none⟩) := by simpa using hp
  have hv' : tmps[q]?.getD undef = v := by simpa using hv
  have hw' : tmps[r]?.getD undef = u := by simpa using hw
  simp [results, h, hp', hv', hw', asAddr, run_loadVar_mid w g 0 ty cs d hA.range hu hd hi]
theorem chkZ_state (L : List Int) (c : Int) : (chkZ L c).1 = 0 ∨ (chkZ L c).1 = 1 ∨ (chkZ L c).1 = 2 := by
  unfold chkZ chkF
  split
  · split
    · exact .inl rfl
    · split
      · exact .inr (.inr rfl)
      · split
        · exact .inr (.inl rfl)
        · exact .inr (.inr rfl)
  · exact .inr (.inr rfl)
theorem flipR_len (ws : List Nat) (c : Nat) (k b : Int) : (flipR ws c k b).1.length = ws.length := by
  unfold flipR
  split
  · simp
  · split <;> rfl
set_option maxRecDepth 100000 in
set_option maxHeartbeats 1000000 in
theorem fix_any (L : List Int) (c : Int) (w : World) (h8 : L.length = 8) (hT : Tab w) :
    Calls Tryz.prog 128 #[.agg (iv L).toArray, .int .i64 c] w fun e w' => e = .returned (fr (fixZ L c)) ∧ Below w.heap.size w w' := by
  have HI := Lib.hid (size22' (l := L) h8)
  have HIZ := Lib.hid (size22' (l := Z8) rfl)
  have HOZ := Lib.hid (iv_one Z8)
  have HO := Lib.hid (iv_one L)
  have HL := Lib.hid (show (iv Z8).length = (iv L).length by rw [iv_len, iv_len, h8]; rfl)
  have H22 := Lib.hid Tryz.underlying66
  have HT := Lib.hid hT
  have HV := Lib.hid fun w => valid_any L c w h8
  have HC := Lib.hid fun w hT => check_any L c w h8 hT
  obtain ⟨R, hR⟩ : ∃ R, fixZ L c = R := ⟨_, rfl⟩
  rw [hR]
  clear hT
  cases hv : validB L c with
  | false =>
    have HE : Hid (R = (Z8, 0, 1)) := Lib.hid (by rw [← hR]; unfold fixZ; rw [hv, if_neg (by decide)])
    rw [hv] at HV
    clear hR HC hv
    go_enter Tryz.func128, Tryz.ntmps128
    go_wp2_with ((with_reducible refine arm_row 66 w.heap.size 66 _ (Arr2_0 w (iv L) 66 _) _ H22.out rfl HI.out rfl _ rfl ?_ ?_); focus rfl)
    refine (HV.out _).mono ?_
    rintro e w1 ⟨rfl, hb⟩
    have HZ : Hid (Arr w1 (w.heap.size + 1) 66 (iv Z8)) := Lib.hid (Arr.keep (a2_1 _ _ _) hb)
    have HB : Hid (Below w.heap.size w w1) := Lib.hid (bel_on (bel2 _ _ _) hb)
    clear hb
    go_wp2_with ((with_reducible refine arm_put 66 (w.heap.size + 1) 66 _ _ HZ.out HIZ.out rfl HOZ.out rfl _ _ rfl ?_ ?_ ?_); (focus rfl); (focus rfl))
    refine bodyPost_ret (v := fr (Z8, 0, 1)) (ret_row3 Tryz.results128 _ _ (w.heap.size + 1) 66 (iv Z8) (HZ.out.row _) rfl _ H22.out rfl HIZ.out _ _ rfl rfl) rfl ?_
    exact ⟨by rw [HE.out], bel_row HB.out (by omega) _⟩
  | true =>
    rw [hv] at HV
    have hst := chkZ_state L c
    have HR0 : (chkZ L c).1 = 0 → R = (L, c, 0) := fun h => by rw [← hR]; unfold fixZ; rw [hv, if_pos rfl, if_neg (by omega), if_neg (by omega)]
    have HR2 : (chkZ L c).1 = 2 → R = (Z8, 0, 9) := fun h => by rw [← hR]; unfold fixZ; rw [hv, if_pos rfl, if_pos h]
    have HR1 : (chkZ L c).1 = 1 → R = (ci (flipR (nw L) c.toNat ((chkZ L c).2.1 : Nat) ((chkZ L c).2.2 : Nat)).1, (((flipR (nw L) c.toNat ((chkZ L c).2.1 : Nat) ((chkZ L c).2.2 : Nat)).2 : Nat) : Int), 0) := fun h => by rw [← hR]; unfold fixZ; rw [hv, if_pos rfl, if_neg (by omega), if_pos h]
    unfold validB at hv
    simp only [Bool.and_eq_true, decide_eq_true_eq] at hv
    obtain ⟨ha, hc0, hc1⟩ := hv
    obtain ⟨hL, hs⟩ := of_all ha
    have hlen : (nw L).length = 8 := by rw [nw_len, h8]
    obtain ⟨m, rfl⟩ : ∃ m : Nat, c = m := ⟨c.toNat, by omega⟩
    rw [Int.toNat_natCast] at HR1
    generalize chkZ L (m : Int) = r at *
    obtain ⟨st, kk, bb⟩ := r
    simp only at hst HR0 HR1 HR2
    have HF := Lib.hid fun w => flip_any (nw L) m kk bb w hlen hs (by omega)
    have hfl : (flipR (nw L) m kk bb).1.length = 8 := by rw [flipR_len, hlen]
    rw [← hL] at HF
    have HIF := Lib.hid (size22' (l := ci (flipR (nw L) m kk bb).1) (by rw [ci_len, hfl]))
    have HOF := Lib.hid (iv_one (ci (flipR (nw L) m kk bb).1))
    have HLF := Lib.hid (show (iv L).length = (iv (ci (flipR (nw L) m kk bb).1)).length by rw [iv_len, iv_len, ci_len, hfl, h8])
    have HLF2 := Lib.hid (show (iv Z8).length = (iv (ci (flipR (nw L) m kk bb).1)).length by rw [iv_len, iv_len, ci_len, hfl]; rfl)
    generalize flipR (nw L) m kk bb = f at *
    obtain ⟨fw, fc⟩ := f
    simp only at HIF HOF HLF HLF2 HR1
    clear ha hL hs hlen hfl hc0 hc1 hR
    have HR0' := Lib.hid HR0
    have HR1' := Lib.hid HR1
    have HR2' := Lib.hid HR2
    clear HR0 HR1 HR2
    rcases hst with rfl | rfl | rfl
    · go_enter Tryz.func128, Tryz.ntmps128
      go_wp2_with ((with_reducible refine arm_row 66 w.heap.size 66 _ (Arr2_0 w (iv L) 66 _) _ H22.out rfl HI.out rfl _ rfl ?_ ?_); focus rfl)
      refine (HV.out _).mono ?_
      rintro e w1 ⟨rfl, hb⟩
      have HA : Hid (Arr w1 w.heap.size 66 (iv L)) := Lib.hid (Arr.keep (a2_0 _ _ _) hb)
      have HZ : Hid (Arr w1 (w.heap.size + 1) 66 (iv Z8)) := Lib.hid (Arr.keep (a2_1 _ _ _) hb)
      have HB : Hid (Below w.heap.size w w1) := Lib.hid (bel_on (bel2 _ _ _) hb)
      clear hb
      go_wp2_with ((with_reducible refine arm_row 66 w.heap.size 66 _ HA.out _ H22.out rfl HI.out rfl _ rfl ?_ ?_); focus rfl)
      refine (HC.out _ (HT.out.keep HB.out)).mono ?_
      rintro e w2 ⟨rfl, hb⟩
      have HA2 := Lib.hid (HA.out.keep hb)
      have HZ2 := Lib.hid (HZ.out.keep hb)
      have HB2 := Lib.hid (bel_on HB.out hb)
      clear hb HA HZ HB
      unfold t3
      go_wp2_with (first
        | ((with_reducible refine arm_row 66 w.heap.size 66 _ HA2.out _ H22.out rfl HI.out rfl _ rfl ?_ ?_); focus rfl)
        | ((with_reducible refine arm_put 66 (w.heap.size + 1) 66 _ _ HZ2.out HI.out HL.out HO.out rfl _ _ rfl ?_ ?_ ?_); (focus rfl); (focus rfl)))
      refine bodyPost_ret (v := fr (L, m, 0)) (ret_row3 Tryz.results128 _ _ (w.heap.size + 1) 66 (iv L) (HZ2.out.row _) rfl _ H22.out rfl HI.out _ _ rfl rfl) rfl ?_
      exact ⟨by rw [HR0'.out (by first | exact rfl | trivial)], bel_row HB2.out (by omega) _⟩
    · go_enter Tryz.func128, Tryz.ntmps128
      go_wp2_with ((with_reducible refine arm_row 66 w.heap.size 66 _ (Arr2_0 w (iv L) 66 _) _ H22.out rfl HI.out rfl _ rfl ?_ ?_); focus rfl)
      refine (HV.out _).mono ?_
      rintro e w1 ⟨rfl, hb⟩
      have HA : Hid (Arr w1 w.heap.size 66 (iv L)) := Lib.hid (Arr.keep (a2_0 _ _ _) hb)
      have HZ : Hid (Arr w1 (w.heap.size + 1) 66 (iv Z8)) := Lib.hid (Arr.keep (a2_1 _ _ _) hb)
      have HB : Hid (Below w.heap.size w w1) := Lib.hid (bel_on (bel2 _ _ _) hb)
      clear hb
      go_wp2_with ((with_reducible refine arm_row 66 w.heap.size 66 _ HA.out _ H22.out rfl HI.out rfl _ rfl ?_ ?_); focus rfl)
      refine (HC.out _ (HT.out.keep HB.out)).mono ?_
      rintro e w2 ⟨rfl, hb⟩
      have HA2 := Lib.hid (HA.out.keep hb)
      have HZ2 := Lib.hid (HZ.out.keep hb)
      have HB2 := Lib.hid (bel_on HB.out hb)
      clear hb HA HZ HB
      unfold t3
      go_wp2_with ((with_reducible refine arm_row 66 w.heap.size 66 _ HA2.out _ H22.out rfl HI.out rfl _ rfl ?_ ?_); focus rfl)
      refine (HF.out _).mono ?_
      rintro e w3 ⟨rfl, hb⟩
      have HA3 := Lib.hid (HA2.out.keep hb)
      have HZ3 := Lib.hid (HZ2.out.keep hb)
      have HB3 := Lib.hid (bel_on HB2.out hb)
      clear hb HA2 HZ2 HB2
      unfold pr
      have HA4 : Hid (Arr (w3.setRow w.heap.size (iv (ci fw)).toArray) w.heap.size 66 (iv (ci fw))) := Lib.hid (HA3.out.row _)
      have HZ4 : Hid (Arr (w3.setRow w.heap.size (iv (ci fw)).toArray) (w.heap.size + 1) 66 (iv Z8)) := Lib.hid (HZ3.out.row_other (by omega) _)
      have HB4 : Hid (Below w.heap.size w (w3.setRow w.heap.size (iv (ci fw)).toArray)) := Lib.hid (bel_row HB3.out (Nat.le_refl _) _)
      go_wp2_with (first
        | ((with_reducible refine arm_put 66 w.heap.size 66 _ _ HA3.out HIF.out HLF.out HOF.out rfl _ _ rfl ?_ ?_ ?_); (focus rfl); (focus rfl))
        | ((with_reducible refine arm_row 66 w.heap.size 66 _ HA4.out _ H22.out rfl HIF.out rfl _ rfl ?_ ?_); focus rfl)
        | ((with_reducible refine arm_put 66 (w.heap.size + 1) 66 _ _ HZ4.out HIF.out HLF2.out HOF.out rfl _ _ rfl ?_ ?_ ?_); (focus rfl); (focus rfl)))
      refine bodyPost_ret (v := fr (ci fw, fc, 0)) (ret_row3 Tryz.results128 _ _ (w.heap.size + 1) 66 (iv (ci fw)) (HZ4.out.row _) rfl _ H22.out rfl HIF.out _ _ rfl rfl) rfl ?_
      exact ⟨by rw [HR1'.out (by first | exact rfl | trivial)], bel_row HB4.out (by omega) _⟩
    · go_enter Tryz.func128, Tryz.ntmps128
      go_wp2_with ((with_reducible refine arm_row 66 w.heap.size 66 _ (Arr2_0 w (iv L) 66 _) _ H22.out rfl HI.out rfl _ rfl ?_ ?_); focus rfl)
      refine (HV.out _).mono ?_
      rintro e w1 ⟨rfl, hb⟩
      have HA : Hid (Arr w1 w.heap.size 66 (iv L)) := Lib.hid (Arr.keep (a2_0 _ _ _) hb)
      have HZ : Hid (Arr w1 (w.heap.size + 1) 66 (iv Z8)) := Lib.hid (Arr.keep (a2_1 _ _ _) hb)
      have HB : Hid (Below w.heap.size w w1) := Lib.hid (bel_on (bel2 _ _ _) hb)
      clear hb
      go_wp2_with ((with_reducible refine arm_row 66 w.heap.size 66 _ HA.out _ H22.out rfl HI.out rfl _ rfl ?_ ?_); focus rfl)
      refine (HC.out _ (HT.out.keep HB.out)).mono ?_
      rintro e w2 ⟨rfl, hb⟩
      have HZ2 := Lib.hid (HZ.out.keep hb)
      have HB2 := Lib.hid (bel_on HB.out hb)
      clear hb HA HZ HB
      unfold t3
      go_wp2_with ((with_reducible refine arm_put 66 (w.heap.size + 1) 66 _ _ HZ2.out HIZ.out rfl HOZ.out rfl _ _ rfl ?_ ?_ ?_); (focus rfl); (focus rfl))
      refine bodyPost_ret (v := fr (Z8, 0, 9)) (ret_row3 Tryz.results128 _ _ (w.heap.size + 1) 66 (iv Z8) (HZ2.out.row _) rfl _ H22.out rfl HIZ.out _ _ rfl rfl) rfl ?_
      exact ⟨by rw [HR2'.out (by first | exact rfl | trivial)], bel_row HB2.out (by omega) _⟩
end Go.Proofs.YtpojhplnhppcpaaGreatDoor
