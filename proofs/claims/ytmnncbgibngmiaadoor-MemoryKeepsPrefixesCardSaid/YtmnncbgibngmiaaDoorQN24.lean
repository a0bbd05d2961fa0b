/-
  What alumref04's word, Words, Right and SameImage do.
-/
import Derived.Test.YtmnncbgibngmiaaDoorQN21
import Derived.Test.YtmnncbgibngmiaaDoorQC5
namespace Go.Proofs.YtmnncbgibngmiaaDoor
open Go.RowKit Go.Maps
theorem lits_line (L : List Int) (c : Int) (h8 : L.length = 8) (hz : ∀ z ∈ L, I64 z) (hc : I64 c) : Tryd.prog.keyLits 3 68 (iv (L ++ [c])) = some (litsOf (L ++ [c])) := by
  have c9 : Tryd.prog.cellsOf 68 = 9 := by kernel_rfl
  have c8 : Tryd.prog.cellsOf 47 = 8 := by kernel_rfl
  have c1 : Tryd.prog.cellsOf 3 = 1 := by kernel_rfl
  have e1 : (iv (L ++ [c])).take 8 = iv L := by
    unfold iv
    rw [List.map_append, List.take_append_of_le_length (by rw [List.length_map]; omega), List.take_of_length_le (by rw [List.length_map]; omega)]
  have e2 : ((iv (L ++ [c])).drop 8).take 1 = [.int .i64 c] := by
    unfold iv
    rw [List.map_append, List.drop_append_of_le_length (by rw [List.length_map]; omega), List.drop_of_length_le (by rw [List.length_map]; omega)]
    rfl
  have k1 := lits_row 47 8 Tryd.underlying47 c8 L h8 hz
  have k2 := lits_one 1 c hc
  unfold Program.keyLits
  rw [Tryd.underlying68]
  simp only
  rw [if_pos ⟨by rw [iv_len, List.length_append, h8, c9]; rfl, by kernel_rfl⟩]
  simp only [List.mapM_cons, List.mapM_nil, c8, c1, List.drop_zero, e1, e2, k1, k2, Option.bind_eq_bind, Option.bind_some, Option.pure_def, Option.map_some]
  unfold litsOf
  simp
theorem eq_line68 (L : List Int) (c : Int) (h8 : L.length = 8) (hz : ∀ z ∈ L, I64 z) (hc : I64 c) (w : World) :
    (Op.equalIn 10000 68 (.agg (iv (L ++ [c])).toArray) (.agg (iv (L ++ [c])).toArray)).run Tryd.prog w = .ok true w := by
  have c9 : Tryd.prog.cellsOf 68 = 9 := by kernel_rfl
  have hk : Tryd.prog.keyTypeAt 3 68 = true := by kernel_rfl
  have hf : (Value.agg (iv (L ++ [c])).toArray).formed Tryd.prog 68 = true := by
    unfold Value.formed
    rw [Tryd.underlying68]
    simp [iv_len, h8, c9]
  have hcells : (Value.agg (iv (L ++ [c])).toArray).cells.toList = iv (L ++ [c]) := by simp [Value.cells]
  obtain ⟨r, hr, hiff⟩ := run_equalIn_deep (P := Tryd.prog) 9997 3 68 hk w 3 3 (.agg (iv (L ++ [c])).toArray) (.agg (iv (L ++ [c])).toArray) (litsOf (L ++ [c])) (litsOf (L ++ [c])) hf hf (by rw [hcells]; exact lits_line L c h8 hz hc) (by rw [hcells]; exact lits_line L c h8 hz hc)
  have e : r = true := hiff.2 rfl
  rw [← e]
  exact hr
set_option maxRecDepth 100000 in
set_option maxHeartbeats 400000 in
theorem word_any (z : Int) (w : World) :
    Calls Tryd.prog 60 #[.int .i64 z] w fun e w' => e = .returned (.bool (okW z)) ∧ w' = w := by
  unfold okW
  go_enter Tryd.func60, Tryd.ntmps60
  by_cases h1 : 0 ≤ z
  · by_cases h2 : z ≤ 1099511627775
    · go_wp2_with fail
      go_ret
      exact ⟨ret_bool (by simp; try omega), rfl⟩
    · go_wp2_with fail
      go_ret
      exact ⟨ret_bool (by simp; try omega), rfl⟩
  · go_wp2_with fail
    go_ret
    exact ⟨ret_bool (by simp; try omega), rfl⟩
set_option maxRecDepth 100000 in
set_option maxHeartbeats 1000000 in
theorem words_any (L : List Int) (w : World) (h8 : L.length = 8) :
    Calls Tryd.prog 39 #[.agg (iv L).toArray] w fun e w' => e = .returned (.bool (L.all okW)) ∧ Below w.heap.size w w' := by
  have HI := Lib.hid (size22' h8)
  have hi := HI.out
  have HB := Lib.hid (bel_new w (.cells (iv L).toArray 47))
  have HA := Lib.hid (Arr.new w (iv L) 47)
  obtain ⟨R, hR⟩ : ∃ R, L.all okW = R := ⟨_, rfl⟩
  rw [hR]
  have HR := Lib.hid hR
  clear hR
  go_enter Tryd.func39, Tryd.ntmps39
  go_wp2_with fail
  obtain ⟨W, hW⟩ : ∃ W, w.alloc (.cells (iv L).toArray 47) = W := ⟨_, rfl⟩
  rw [hW] at HB HA ⊢
  clear hW
  obtain ⟨g, hg⟩ : ∃ g, w.heap.size = g := ⟨_, rfl⟩
  rw [hg] at HA ⊢
  go_loopw [3] (fun i wr => ∃ k : Nat, i = .int .i64 (k : Int) ∧ k ≤ 8 ∧ (∀ j, j < k → okW (L.getD j 0) = true) ∧ wr = W) (fun i _ => 8 - (intOf i).toNat)
  case atStart => exact ⟨0, rfl, by omega, fun j hj => by omega, rfl⟩
  case round =>
    obtain ⟨k, rfl, hk, hall, rfl⟩ := hrel
    by_cases hlt : k < 8
    · have hcl := HA.out.cell (getD_of (l := L) (k := k) (by omega))
      have hnot := fun h => not_all (L := L) (k := k) (by omega) h
      have hstep : okW (L.getD k 0) = true → ∀ j, j < k + 1 → okW (L.getD j 0) = true := fun h j hj => by
        rcases Nat.lt_succ_iff_lt_or_eq.1 hj with h1 | h1
        · exact hall j h1
        · subst h1; exact h
      have hc := word_any (L.getD k 0) wr
      have hkI : (k : Int) < 8 := by omega
      generalize L.getD k 0 = v at *
      cases hv : okW v with
      | false =>
        rw [hv] at hc
        have HN := Lib.hid (hnot hv)
        clear hstep hnot hall hv
        go_wp2_with (go_at_call 60; refine hc.mono ?_; rintro e w' ⟨rfl, rfl⟩)
        go_ret
        exact ⟨ret_bool (by rw [← HR.out, HN.out]), HB.out⟩
      | true =>
        rw [hv] at hc
        have HS := Lib.hid (hstep hv)
        clear hstep hnot hall hv
        go_wp2_with (go_at_call 60; refine hc.mono ?_; rintro e w' ⟨rfl, rfl⟩)
        go_roundw
        case rel => exact ⟨k + 1, by simp, by omega, HS.out, trivial⟩
        case measure => simp [intOf]; omega
    · obtain rfl : k = 8 := by omega
      have ha := all_of h8 hall
      have HV := Lib.hid ha
      clear hall ha
      go_wp2_with fail
      go_ret
      exact ⟨ret_bool (by rw [← HR.out, HV.out]), HB.out⟩
end Go.Proofs.YtmnncbgibngmiaaDoor
