/- What code's parity and Encode do. -/
import Derived.Test.YthidababplamgaaDoorC3
namespace Go.Proofs.YthidababplamgaaDoor
open Go.RowKit
def nw (L : List Int) : List Nat := L.map Int.toNat
theorem okW_of {z : Int} (h : okW z = true) : 0 ≤ z ∧ z ≤ 1099511627775 := by unfold okW at h; simpa using h
theorem of_all {L : List Int} (h : L.all okW = true) : L = ci (nw L) ∧ ∀ x ∈ nw L, x < 1099511627776 := by
  rw [List.all_eq_true] at h
  constructor
  · unfold ci nw
    rw [List.map_map]
    refine (List.map_id L).symm.trans (List.map_congr_left fun z hz => ?_)
    have := okW_of (h z hz)
    show z = ((z.toNat : Nat) : Int)
    omega
  · intro x hx
    obtain ⟨z, hz, rfl⟩ := List.mem_map.1 hx
    have := okW_of (h z hz)
    omega
theorem nw_len (L : List Int) : (nw L).length = L.length := by simp [nw]
theorem nw_ci (ws : List Nat) : nw (ci ws) = ws := by
  unfold nw ci
  rw [List.map_map]
  exact List.map_id ws
theorem all_ci {ws : List Nat} (h : ∀ x ∈ ws, x < 1099511627776) : (ci ws).all okW = true := by
  rw [List.all_eq_true]
  intro z hz
  obtain ⟨x, hx, rfl⟩ := List.mem_map.1 hz
  have := h x hx
  unfold okW
  simp
  omega
theorem valid_ci {ws : List Nat} (h : ∀ x ∈ ws, x < 1099511627776) (c : Nat) : validB (ci ws) (c : Int) = decide (c < 1024) := by
  unfold validB
  rw [all_ci h, Bool.true_and, decide_eq_decide]
  omega
theorem nine_of {ws : List Nat} {c : Nat} (h8 : ws.length = 8) (hs : ∀ x ∈ ws, x < 1099511627776) (hc : c < 1024) : Nine (ws ++ [c]) := by
  refine ⟨by simp [h8], ?_, ?_⟩
  · intro n hn
    rcases List.mem_append.1 hn with h | h
    · exact hs n h
    · rw [List.mem_singleton.1 h]; exact Nat.lt_trans hc (by decide)
  · rw [List.getD_eq_getElem?_getD, List.getElem?_append_right (by omega), h8]
    simpa using hc
theorem synT_lt {ws : List Nat} {c : Nat} (h8 : ws.length = 8) (hs : ∀ x ∈ ws, x < 1099511627776) (hc : c < 1024) : synT ws c < 512 := (nine_of h8 hs hc).syn
set_option maxRecDepth 100000 in
set_option maxHeartbeats 400000 in
theorem parity_any (ws : List Nat) (c : Nat) (w : World) (h8 : ws.length = 8) (hs : ∀ x ∈ ws, x < 1099511627776) (hc : c < 1099511627776) :
    Calls Tryd.prog 34 #[.agg (iv (ci ws)).toArray, .int .i64 (c : Int)] w fun e w' => e = .returned (.int .i64 (popT ws c % 2 : Nat)) ∧ Below w.heap.size w w' := by
  have HI := Lib.hid (size22' (l := ci ws) (by rw [ci_len, h8]))
  have HA := Lib.hid (Arr.new w (iv (ci ws)) 22)
  have HB := Lib.hid (bel_new w (.cells (iv (ci ws)).toArray 22))
  have HO := Lib.hid fun w => onesF_any ws c w h8 hs hc
  clear hs hc
  have hand : bits .and .i64 ((popT ws c : Nat) : Int) 1 = ((popT ws c % 2 : Nat) : Int) := by rw [i64_and1]; omega
  generalize popT ws c % 2 = q at *
  generalize popT ws c = p at *
  go_enter Tryd.func34, Tryd.ntmps34
  go_wp2_with ((with_reducible refine arm_row 22 w.heap.size 22 _ HA.out _ Tryd.underlying22 rfl HI.out rfl _ rfl ?_ ?_); focus rfl)
  refine (HO.out _).mono ?_
  rintro e w1 ⟨rfl, hb⟩
  have HB2 := Lib.hid (bel_on HB.out hb)
  clear hb
  go_wp2_with fail
  go_ret
  exact ⟨rfl, HB2.out⟩
/-- The code of a line, if all words are in their ranges; else -1. -/
def encZ (L : List Int) : Int := if L.all okW then ((encN (nw L) : Nat) : Int) else -1
theorem valid0 (L : List Int) : validB L 0 = L.all okW := by unfold validB; simp
set_option maxRecDepth 100000 in
set_option maxHeartbeats 1000000 in
theorem encode_any (L : List Int) (w : World) (h8 : L.length = 8) (hT : Tab w) :
    Calls Tryd.prog 14 #[.agg (iv L).toArray] w fun e w' => e = .returned (.int .i64 (encZ L)) ∧ Below w.heap.size w w' := by
  have HI := Lib.hid (size22' (l := L) h8)
  have HA := Lib.hid (Arr.new w (iv L) 22)
  have HB := Lib.hid (bel_new w (.cells (iv L).toArray 22))
  have HT := Lib.hid hT
  have HV := Lib.hid fun w => valid_any L 0 w h8
  rw [valid0] at HV
  clear hT
  cases hv : L.all okW with
  | false =>
    rw [hv] at HV
    unfold encZ
    rw [hv, if_neg (by decide)]
    go_enter Tryd.func14, Tryd.ntmps14
    go_wp2_with ((with_reducible refine arm_row 22 w.heap.size 22 _ HA.out _ Tryd.underlying22 rfl HI.out rfl _ rfl ?_ ?_); focus rfl)
    refine (HV.out _).mono ?_
    rintro e w1 ⟨rfl, hb⟩
    have HB2 := Lib.hid (bel_on HB.out hb)
    clear hb
    go_wp2_with fail
    go_ret
    exact ⟨rfl, HB2.out⟩
  | true =>
    rw [hv] at HV
    unfold encZ
    rw [hv, if_pos rfl]
    obtain ⟨hL, hs⟩ := of_all hv
    have hlen : (nw L).length = 8 := by rw [nw_len, h8]
    generalize nw L = ws at *
    subst hL
    have HS := Lib.hid fun w (hT : Tab w) => syn_any ws 0 w hlen hs (by decide) hT
    have hlt : synT ws 0 < 512 := synT_lt hlen hs (by decide)
    have HP := Lib.hid fun w => parity_any ws (synT ws 0) w hlen hs (by omega)
    have hq : popT ws (synT ws 0) % 2 < 2 := by omega
    unfold encN
    generalize popT ws (synT ws 0) % 2 = q at *
    generalize synT ws 0 = s at *
    have hor : bits .or .i64 (s : Int) ((512 * q : Nat) : Int) = ((s + 512 * q : Nat) : Int) := by
      rw [i64_or_nat _ _ (by omega) (by omega)]
      congr 1
      rw [Nat.or_comm, nat_join 9 (512 * q) s (by omega) hlt]
      omega
    have HOR := Lib.hid hor
    clear hs hv hor
    go_enter Tryd.func14, Tryd.ntmps14
    go_wp2_with ((with_reducible refine arm_row 22 w.heap.size 22 _ HA.out _ Tryd.underlying22 rfl HI.out rfl _ rfl ?_ ?_); focus rfl)
    refine (HV.out _).mono ?_
    rintro e w1 ⟨rfl, hb⟩
    have HB2 := Lib.hid (bel_on HB.out hb)
    have HA2 := Lib.hid (HA.out.keep hb)
    clear hb HA HB
    go_wp2_with ((with_reducible refine arm_row 22 w.heap.size 22 _ HA2.out _ Tryd.underlying22 rfl HI.out rfl _ rfl ?_ ?_); focus rfl)
    refine (HS.out _ (HT.out.keep HB2.out)).mono ?_
    rintro e w2 ⟨rfl, hb⟩
    have HB3 := Lib.hid (bel_on HB2.out hb)
    have HA3 := Lib.hid (HA2.out.keep hb)
    clear hb HA2 HB2
    go_wp2_with ((with_reducible refine arm_row 22 w.heap.size 22 _ HA3.out _ Tryd.underlying22 rfl HI.out rfl _ rfl ?_ ?_); focus rfl)
    refine (HP.out _).mono ?_
    rintro e w3 ⟨rfl, hb⟩
    have HB4 := Lib.hid (bel_on HB3.out hb)
    clear hb HA3 HB3
    go_wp2_with fail
    go_ret
    have e : (q : Int) * 512 = ((512 * q : Nat) : Int) := by omega
    refine ⟨ret_i64 ?_, HB4.out⟩
    rw [e]
    exact HOR.out
end Go.Proofs.YthidababplamgaaDoor
