/-
  What alumref04's word, Words, Right and SameImage do. What alumref04's Right and SameImage do.
-/
import Derived.Test.YtmnncbgibngmiaaGreatDoorQN21
import Derived.Test.YtmnncbgibngmiaaGreatDoorQC5
namespace Go.Proofs.YtmnncbgibngmiaaGreatDoor
open Go.RowKit Go.Maps
theorem lits_line (L : List Int) (c : Int) (h8 : L.length = 8) (hz : ∀ z ∈ L, I64 z) (hc : I64 c) : Tryz.prog.keyLits 3 57 (iv (L ++ [c])) = some (litsOf (L ++ [c])) := by
  have c9 : Tryz.prog.cellsOf 57 = 9 := by kernel_rfl
  have c8 : Tryz.prog.cellsOf 39 = 8 := by kernel_rfl
  have c1 : Tryz.prog.cellsOf 3 = 1 := by kernel_rfl
  have e1 : (iv (L ++ [c])).take 8 = iv L := by
    unfold iv
    rw [List.map_append, List.take_append_of_le_length (by rw [List.length_map]; omega), List.take_of_length_le (by rw [List.length_map]; omega)]
  have e2 : ((iv (L ++ [c])).drop 8).take 1 = [.int .i64 c] := by
    unfold iv
    rw [List.map_append, List.drop_append_of_le_length (by rw [List.length_map]; omega), List.drop_of_length_le (by rw [List.length_map]; omega)]
    rfl
  have k1 := lits_row 39 8 Tryz.underlying39 c8 L h8 hz
  have k2 := lits_one 1 c hc
  unfold Program.keyLits
  rw [Tryz.underlying57]
  simp only
  rw [if_pos ⟨by rw [iv_len, List.length_append, h8, c9]; rfl, by kernel_rfl⟩]
  simp only [List.mapM_cons, List.mapM_nil, c8, c1, List.drop_zero, e1, e2, k1, k2, Option.bind_eq_bind, Option.bind_some, Option.pure_def, Option.map_some]
  unfold litsOf
  simp
theorem eq_line68 (L : List Int) (c : Int) (h8 : L.length = 8) (hz : ∀ z ∈ L, I64 z) (hc : I64 c) (w : World) :
    (Op.equalIn 10000 57 (.agg (iv (L ++ [c])).toArray) (.agg (iv (L ++ [c])).toArray)).run Tryz.prog w = .ok true w := by
  have c9 : Tryz.prog.cellsOf 57 = 9 := by kernel_rfl
  have hk : Tryz.prog.keyTypeAt 3 57 = true := by kernel_rfl
  have hf : (Value.agg (iv (L ++ [c])).toArray).formed Tryz.prog 57 = true := by
    unfold Value.formed
    rw [Tryz.underlying57]
    simp [iv_len, h8, c9]
  have hcells : (Value.agg (iv (L ++ [c])).toArray).cells.toList = iv (L ++ [c]) := by simp [Value.cells]
  obtain ⟨r, hr, hiff⟩ := run_equalIn_deep (P := Tryz.prog) 9997 3 57 hk w 3 3 (.agg (iv (L ++ [c])).toArray) (.agg (iv (L ++ [c])).toArray) (litsOf (L ++ [c])) (litsOf (L ++ [c])) hf hf (by rw [hcells]; exact lits_line L c h8 hz hc) (by rw [hcells]; exact lits_line L c h8 hz hc)
  have e : r = true := hiff.2 rfl
  rw [← e]
  exact hr
set_option maxRecDepth 100000 in
set_option maxHeartbeats 400000 in
theorem word_any (z : Int) (w : World) :
    Calls Tryz.prog 89 #[.int .i64 z] w fun e w' => e = .returned (.bool (okW z)) ∧ w' = w := by
  unfold okW
  go_enter Tryz.func89, Tryz.ntmps89
  by_cases h1 : 0 ≤ z
  · by_cases h2 : z ≤ 1099511627775
    · go_wp2_with fail
      go_ret
      exact ⟨ret_bool (by simp; try omega), rfl⟩
    · go_wp2_with fail
      go_ret
      exact ⟨ret_bool (by simp; try omega), rfl⟩
  · go_wp2_with fail
    go_ret
    exact ⟨ret_bool (by simp; try omega), rfl⟩
set_option maxRecDepth 100000 in
set_option maxHeartbeats 1000000 in
theorem words_any (L : List Int) (w : World) (h8 : L.length = 8) :
    Calls Tryz.prog 75 #[.agg (iv L).toArray] w fun e w' => e = .returned (.bool (L.all okW)) ∧ Below w.heap.size w w' := by
  have HI := Lib.hid (size22' h8)
  have hi := HI.out
  have HB := Lib.hid (bel_new w (.cells (iv L).toArray 39))
  have HA := Lib.hid (Arr.new w (iv L) 39)
  obtain ⟨R, hR⟩ : ∃ R, L.all okW = R := ⟨_, rfl⟩
  rw [hR]
  have HR := Lib.hid hR
  clear hR
  go_enter Tryz.func75, Tryz.ntmps75
  go_wp2_with fail
  obtain ⟨W, hW⟩ : ∃ W, w.alloc (.cells (iv L).toArray 39) = W := ⟨_, rfl⟩
  rw [hW] at HB HA ⊢
  clear hW
  obtain ⟨g, hg⟩ : ∃ g, w.heap.size = g := ⟨_, rfl⟩
  rw [hg] at HA ⊢
  go_loopw [3] (fun i wr => ∃ k : Nat, i = .int .i64 (k : Int) ∧ k ≤ 8 ∧ (∀ j, j < k → okW (L.getD j 0) = true) ∧ wr = W) (fun i _ => 8 - (intOf i).toNat)
  case atStart => exact ⟨0, rfl, by omega, fun j hj => by omega, rfl⟩
  case round =>
    obtain ⟨k, rfl, hk, hall, rfl⟩ := hrel
    by_cases hlt : k < 8
    · have hcl := HA.out.cell (getD_of (l := L) (k := k) (by omega))
      have hnot := fun h => not_all (L := L) (k := k) (by omega) h
      have hstep : okW (L.getD k 0) = true → ∀ j, j < k + 1 → okW (L.getD j 0) = true := fun h j hj => by
        rcases Nat.lt_succ_iff_lt_or_eq.1 hj with h1 | h1
        · exact hall j h1
        · subst h1; exact h
      have hc := word_any (L.getD k 0) wr
      have hkI : (k : Int) < 8 := by omega
      generalize L.getD k 0 = v at *
      cases hv : okW v with
      | false =>
        rw [hv] at hc
        have HN := Lib.hid (hnot hv)
        clear hstep hnot hall hv
        go_wp2_with (go_at_call 89; refine hc.mono ?_; rintro e w' ⟨rfl, rfl⟩)
        go_ret
        exact ⟨ret_bool (by rw [← HR.out, HN.out]), HB.out⟩
      | true =>
        rw [hv] at hc
        have HS := Lib.hid (hstep hv)
        clear hstep hnot hall hv
        go_wp2_with (go_at_call 89; refine hc.mono ?_; rintro e w' ⟨rfl, rfl⟩)
        go_roundw
        case rel => exact ⟨k + 1, by simp, by omega, HS.out, trivial⟩
        case measure => simp [intOf]; omega
    · obtain rfl : k = 8 := by omega
      have ha := all_of h8 hall
      have HV := Lib.hid ha
      clear hall ha
      go_wp2_with fail
      go_ret
      exact ⟨ret_bool (by rw [← HR.out, HV.out]), HB.out⟩
end Go.Proofs.YtmnncbgibngmiaaGreatDoor
namespace Go.Proofs.YtmnncbgibngmiaaGreatDoor
open Go.RowKit Go.Maps
/-- Words and codes that are numbers. -/
def ImgI (img : List (List Int × Int)) : Prop := ∀ x ∈ img, x.1.length = 8 ∧ (∀ z ∈ x.1, I64 z) ∧ I64 x.2
theorem img_code {w : World} {d o : Nat} {img : List (List Int × Int)} (h8 : ∀ x ∈ img, x.1.length = 8) (hs : ∀ j u, (iv (flatI img))[j]? = some u → w.cell? ⟨d, o + j, none⟩ = some u) {k : Nat} (hk : k < img.length) :
    w.rangeAt d (o + k * 9) (iv img[k].1) ∧ w.cell? ⟨d, o + k * 9 + 8, none⟩ = some (.int .i64 img[k].2) := by
  have h := imgLine h8 hs hk
  have h8k := h8 _ (List.getElem_mem hk)
  constructor
  · intro j v hv
    refine h j v ?_
    unfold iv at hv ⊢
    rw [List.map_append, List.getElem?_append_left (List.getElem?_eq_some_iff.1 hv).1]
    exact hv
  · refine h 8 _ ?_
    unfold iv
    rw [List.getElem?_map, List.getElem?_append_right (by omega), h8k]
    rfl
set_option maxRecDepth 100000 in
set_option maxHeartbeats 4000000 in
set_option linter.unusedSimpArgs false in
/-- Of two images that are the same. -/
theorem sameImage_any (img : List (List Int × Int)) (v u : Value) (w : World) (hI : ImgI img) (hn : img.length ≤ 5000) (hv : Rd w v img.length (iv (flatI img))) (hu : Rd w u img.length (iv (flatI img))) :
    Calls Tryz.prog 24 #[v, u] w fun e w' => e = .returned (.bool true) ∧ Below w.heap.size w w' := by
  obtain ⟨A, cap, rfl, hcap, hcm, hrr⟩ := hv
  obtain ⟨A2, cap2, rfl, hcap2, hcm2, hrr2⟩ := hu
  have HRR := Lib.hid hrr
  have HRR2 := Lib.hid hrr2
  have HII := Lib.hid hI
  obtain ⟨N, hN⟩ : ∃ N, img.length = N := ⟨_, rfl⟩
  have HN := Lib.hid hN
  rw [hN] at hcap hcap2 hn ⊢
  have HB0 : Hid (Below w.heap.size w w) := Lib.hid (Below.refl _ _)
  have hu68 := Tryz.underlying57
  clear hrr hrr2 hI hN
  go_enter Tryz.func24, Tryz.ntmps24
  go_wp2_with fail
  go_loopw [5] (fun i wr => ∃ k : Nat, i = .int .i64 (k : Int) ∧ k ≤ N ∧ Hid (Below w.heap.size w wr)) (fun i _ => N - (intOf i).toNat)
  case atStart => exact ⟨0, rfl, by omega, HB0⟩
  case round =>
    clear HB0
    obtain ⟨k, rfl, hk, HB⟩ := hrel
    by_cases hlt : k < N
    · have hkc : k < img.length := by rw [HN.out]; exact hlt
      obtain ⟨bb, oo, rfl, hbl, hcells⟩ := HRR.out (by omega)
      obtain ⟨bb2, oo2, rfl, hbl2, hcells2⟩ := HRR2.out (by omega)
      have h8 : ∀ x ∈ img, x.1.length = 8 := fun x hx => (HII.out x hx).1
      have r1 : wr.drew.rangeAt bb (oo + k * 9) _ := imgLine h8 (fun j u hj => (HB.out.cell (p := ⟨bb, oo + j, none⟩) hbl).trans (hcells j u hj)) hkc
      have r2 : wr.drew.rangeAt bb2 (oo2 + k * 9) _ := imgLine h8 (fun j u hj => (HB.out.cell (p := ⟨bb2, oo2 + j, none⟩) hbl2).trans (hcells2 j u hj)) hkc
      obtain ⟨q1, q2, q3⟩ := HII.out _ (List.getElem_mem hkc)
      have HEQ := Lib.hid fun w => eq_line68 img[k].1 img[k].2 q1 q2 q3 w
      have hl9 : (iv (img[k].1 ++ [img[k].2])).length = 9 := by rw [iv_len, List.length_append, q1]; rfl
      have hi9 : (Tryz.prog.info? 57).map (·.size) = some (iv (img[k].1 ++ [img[k].2])).length := by rw [size68, hl9]
      generalize img[k].1 ++ [img[k].2] = L at *
      have hkI : (k : Int) < (N : Int) := by omega
      have HBD := Lib.hid HB.out.drew
      have heq := HEQ.out
      clear h8 hcells hcells2 q1 q2 q3 hl9 HEQ
      go_wp2_with fail
      refine wp_region_held_drew (S := fun W => W.rangeAt bb (oo + k * 9) (iv L) ∧ W.rangeAt bb2 (oo2 + k * 9) (iv L)) (by kernel_rfl) ⟨r1, r2⟩ (fun hHeld => ?_)
      generalize wr.drew = w2 at *
      refine wpAnyH_take (i := 0) (v := .slice (some ⟨bb, oo, none⟩) N cap) rfl (by kernel_rfl) (by kernel_rfl) (by kernel_rfl) (fun _ _ _ h => h) (Or.inl ⟨by rfl, fun w hSw => by obtain ⟨h1, h2⟩ := hSw; go_simp⟩) (by assumption) ?_
      change wpAnyH _ _ _ _ _ _ _ (Act.put _ (some 17) _) _
      simp only [Act.put, List.setIfInBounds_toArray, List.set_cons_zero, List.set_cons_succ]
      refine wpAnyH_take (i := 1) (v := .int .i64 (k : Int)) rfl (by kernel_rfl) (by kernel_rfl) (by kernel_rfl) (fun _ _ _ h => h) (Or.inl ⟨by rfl, fun w hSw => by obtain ⟨h1, h2⟩ := hSw; go_simp⟩) (by assumption) ?_
      change wpAnyH _ _ _ _ _ _ _ (Act.put _ (some 18) _) _
      simp only [Act.put, List.setIfInBounds_toArray, List.set_cons_zero, List.set_cons_succ]
      refine wpAnyH_take (i := 2) (v := .pointer (some ⟨bb, oo + k * 9, none⟩)) rfl (by kernel_rfl) (by kernel_rfl) (by kernel_rfl) (fun _ _ _ h => h) (Or.inl ⟨by rfl, fun w hSw => by obtain ⟨h1, h2⟩ := hSw; go_simp⟩) (by assumption) ?_
      change wpAnyH _ _ _ _ _ _ _ (Act.put _ (some 19) _) _
      simp only [Act.put, List.setIfInBounds_toArray, List.set_cons_zero, List.set_cons_succ]
      refine wpAnyH_take (i := 3) (v := .agg (iv L).toArray) rfl (by kernel_rfl) (by kernel_rfl) (by kernel_rfl) (fun _ _ _ h => h) (yieldsIf_load_mid (by rfl) _ _ rfl _ _ rfl _ _ (fun w h => h.1) hu68 rfl hi9) (by assumption) ?_
      change wpAnyH _ _ _ _ _ _ _ (Act.put _ (some 20) _) _
      simp only [Act.put, List.setIfInBounds_toArray, List.set_cons_zero, List.set_cons_succ]
      refine wpAnyH_take (i := 4) (v := .slice (some ⟨bb2, oo2, none⟩) N cap2) rfl (by kernel_rfl) (by kernel_rfl) (by kernel_rfl) (fun _ _ _ h => h) (Or.inl ⟨by rfl, fun w hSw => by obtain ⟨h1, h2⟩ := hSw; go_simp⟩) (by assumption) ?_
      change wpAnyH _ _ _ _ _ _ _ (Act.put _ (some 21) _) _
      simp only [Act.put, List.setIfInBounds_toArray, List.set_cons_zero, List.set_cons_succ]
      refine wpAnyH_take (i := 5) (v := .int .i64 (k : Int)) rfl (by kernel_rfl) (by kernel_rfl) (by kernel_rfl) (fun _ _ _ h => h) (Or.inl ⟨by rfl, fun w hSw => by obtain ⟨h1, h2⟩ := hSw; go_simp⟩) (by assumption) ?_
      change wpAnyH _ _ _ _ _ _ _ (Act.put _ (some 22) _) _
      simp only [Act.put, List.setIfInBounds_toArray, List.set_cons_zero, List.set_cons_succ]
      refine wpAnyH_take (i := 6) (v := .pointer (some ⟨bb2, oo2 + k * 9, none⟩)) rfl (by kernel_rfl) (by kernel_rfl) (by kernel_rfl) (fun _ _ _ h => h) (Or.inl ⟨by rfl, fun w hSw => by obtain ⟨h1, h2⟩ := hSw; go_simp⟩) (by assumption) ?_
      change wpAnyH _ _ _ _ _ _ _ (Act.put _ (some 23) _) _
      simp only [Act.put, List.setIfInBounds_toArray, List.set_cons_zero, List.set_cons_succ]
      refine wpAnyH_take (i := 7) (v := .agg (iv L).toArray) rfl (by kernel_rfl) (by kernel_rfl) (by kernel_rfl) (fun _ _ _ h => h) (yieldsIf_load_mid (by rfl) _ _ rfl _ _ rfl _ _ (fun w h => h.2) hu68 rfl hi9) (by assumption) ?_
      change wpAnyH _ _ _ _ _ _ _ (Act.put _ (some 24) _) _
      simp only [Act.put, List.setIfInBounds_toArray, List.set_cons_zero, List.set_cons_succ]
      refine wpAnyH_take (i := 8) (v := .bool false) rfl (by kernel_rfl) (by kernel_rfl) (by kernel_rfl) (fun _ _ _ h => h) (Or.inl ⟨by rfl, fun w hSw => by obtain ⟨h1, h2⟩ := hSw; go_simp⟩) (by assumption) ?_
      change wpAnyH _ _ _ _ _ _ _ (Act.put _ (some 25) _) _
      simp only [Act.put, List.setIfInBounds_toArray, List.set_cons_zero, List.set_cons_succ]
      refine wpAnyH_done (by kernel_rfl) ?_ _
      go_wp2_with fail
      go_roundw
      case rel => exact ⟨k + 1, by simp, by omega, HBD⟩
      case measure => simp [intOf]; omega
    · obtain rfl : k = N := by omega
      go_wp2_with fail
      go_ret
      exact ⟨rfl, HB.out⟩
end Go.Proofs.YtmnncbgibngmiaaGreatDoor
