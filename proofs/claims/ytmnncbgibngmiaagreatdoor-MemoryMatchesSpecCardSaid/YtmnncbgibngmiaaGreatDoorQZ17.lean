/-
  What alumref04's SameEvents and SameStores and the law's same do.
-/
import Derived.Test.YtmnncbgibngmiaaGreatDoorQZ15
import Derived.Test.YtmnncbgibngmiaaGreatDoorQN27z
namespace Go.Proofs.YtmnncbgibngmiaaGreatDoor
open Go.RowKit Go.Maps
theorem lits_event (k a v s : Int) (L : List Int) (h8 : L.length = 8) (hz : ∀ z ∈ L, I64 z) (hk : I64 k) (ha : I64 a) (hv : I64 v) (hs : I64 s) : Tryz.prog.keyLits 3 79 (iv ([k, a, v, s] ++ L)) = some (litsOf ([k, a, v, s] ++ L)) := by
  have c12 : Tryz.prog.cellsOf 79 = 12 := by kernel_rfl
  have c8 : Tryz.prog.cellsOf 39 = 8 := by kernel_rfl
  have c1 : Tryz.prog.cellsOf 3 = 1 := by kernel_rfl
  have e0 : ((iv ([k, a, v, s] ++ L)).drop 0).take 1 = [.int .i64 k] := rfl
  have e1 : ((iv ([k, a, v, s] ++ L)).drop 1).take 1 = [.int .i64 a] := rfl
  have e2 : ((iv ([k, a, v, s] ++ L)).drop 2).take 1 = [.int .i64 v] := rfl
  have e3 : ((iv ([k, a, v, s] ++ L)).drop 3).take 1 = [.int .i64 s] := rfl
  have e4 : ((iv ([k, a, v, s] ++ L)).drop 4).take 8 = iv L := by
    show (iv L).take 8 = iv L
    rw [List.take_of_length_le (by rw [iv_len, h8]; exact Nat.le_refl _)]
  have k4 := lits_row 39 8 Tryz.underlying39 c8 L h8 hz
  have q0 := lits_one 1 k hk
  have q1 := lits_one 1 a ha
  have q2 := lits_one 1 v hv
  have q3 := lits_one 1 s hs
  unfold Program.keyLits
  rw [Tryz.underlying79]
  simp only
  rw [if_pos ⟨by rw [iv_len, List.length_append, h8, c12]; rfl, by kernel_rfl⟩]
  simp only [List.mapM_cons, List.mapM_nil, c8, c1, e0, e1, e2, e3, e4, q0, q1, q2, q3, k4, Option.bind_eq_bind, Option.bind_some, Option.pure_def, Option.map_some]
  unfold litsOf
  simp
theorem eq_event (E : List Int) (h12 : E.length = 12) (hz : ∀ z ∈ E, I64 z) (w : World) :
    (Op.equalIn 10000 79 (.agg (iv E).toArray) (.agg (iv E).toArray)).run Tryz.prog w = .ok true w := by
  obtain ⟨a0, a1, a2, a3, a4, a5, a6, a7, a8, a9, b0, b1, rfl⟩ := line12 h12
  have c12 : Tryz.prog.cellsOf 79 = 12 := by kernel_rfl
  have hk : Tryz.prog.keyTypeAt 3 79 = true := by kernel_rfl
  have hl := lits_event a0 a1 a2 a3 [a4, a5, a6, a7, a8, a9, b0, b1] rfl (fun z h => hz z (List.mem_append_right [a0, a1, a2, a3] h)) (hz _ (by simp)) (hz _ (by simp)) (hz _ (by simp)) (hz _ (by simp))
  generalize hE : ([a0, a1, a2, a3] ++ [a4, a5, a6, a7, a8, a9, b0, b1] : List Int) = E at hl
  have hEl : E.length = 12 := by rw [← hE]; rfl
  show (Op.equalIn 10000 79 (.agg (iv ([a0, a1, a2, a3] ++ [a4, a5, a6, a7, a8, a9, b0, b1])).toArray) (.agg (iv ([a0, a1, a2, a3] ++ [a4, a5, a6, a7, a8, a9, b0, b1])).toArray)).run Tryz.prog w = .ok true w
  rw [hE]
  have hf : (Value.agg (iv E).toArray).formed Tryz.prog 79 = true := by
    unfold Value.formed
    rw [Tryz.underlying79]
    simp [iv_len, hEl, c12]
  have hcells : (Value.agg (iv E).toArray).cells.toList = iv E := by simp [Value.cells]
  obtain ⟨r, hr, hiff⟩ := run_equalIn_deep (P := Tryz.prog) 9997 3 79 hk w 3 3 (.agg (iv E).toArray) (.agg (iv E).toArray) (litsOf E) (litsOf E) hf hf (by rw [hcells]; exact hl) (by rw [hcells]; exact hl)
  have e : r = true := hiff.2 rfl
  rw [← e]
  exact hr
/-- An event of a list. -/
theorem evLine {w : World} {d o : Nat} {S : List (List Int)} (h8 : ∀ x ∈ S, x.length = 12) (hs : ∀ j u, (iv S.flatten)[j]? = some u → w.cell? ⟨d, o + j, none⟩ = some u) {k : Nat} (hk : k < S.length) : w.rangeAt d (o + k * 12) (iv S[k]) := fun j v hv => by
  have hj : j < 12 := by
    have := (List.getElem?_eq_some_iff.1 hv).1
    rw [iv_len, h8 _ (List.getElem_mem hk)] at this
    exact this
  have hb := flat_block (fun x : List Int => x) 12 S k j hk h8 hj
  rw [List.flatMap_id'] at hb
  have := hs (k * 12 + j) v (by
    unfold iv at hv ⊢
    rw [List.getElem?_map] at hv ⊢
    rw [hb]
    exact hv)
  rw [← Nat.add_assoc] at this
  exact this
theorem size79 : (Tryz.prog.info? 79).map (·.size) = some 12 := by kernel_rfl
set_option maxRecDepth 100000 in
set_option maxHeartbeats 8000000 in
set_option linter.unusedSimpArgs false in
theorem sameEvents_any (S : List (List Int)) (v u : Value) (w : World) (hI : ∀ x ∈ S, x.length = 12 ∧ ∀ z ∈ x, I64 z) (hn : S.length ≤ 5000) (hv : Rd w v S.length (iv S.flatten)) (hu : Rd w u S.length (iv S.flatten)) :
    Calls Tryz.prog 29 #[v, u] w fun e w' => e = .returned (.bool true) ∧ Below w.heap.size w w' := by
  obtain ⟨A, cap, rfl, hcap, hcm, hrr⟩ := hv
  obtain ⟨A2, cap2, rfl, hcap2, hcm2, hrr2⟩ := hu
  have HRR := Lib.hid hrr
  have HRR2 := Lib.hid hrr2
  have HII := Lib.hid hI
  obtain ⟨N, hN⟩ : ∃ N, S.length = N := ⟨_, rfl⟩
  have HN := Lib.hid hN
  rw [hN] at hcap hcap2 hn ⊢
  have HB0 : Hid (Below w.heap.size w w) := Lib.hid (Below.refl _ _)
  have hu79 := Tryz.underlying79
  clear hrr hrr2 hI hN
  go_enter Tryz.func29, Tryz.ntmps29
  go_wp2_with fail
  go_loopw [5] (fun i wr => ∃ k : Nat, i = .int .i64 (k : Int) ∧ k ≤ N ∧ Hid (Below w.heap.size w wr)) (fun i _ => N - (intOf i).toNat)
  case atStart => exact ⟨0, rfl, by omega, HB0⟩
  case round =>
    clear HB0
    obtain ⟨k, rfl, hk, HB⟩ := hrel
    by_cases hlt : k < N
    · have hkc : k < S.length := by rw [HN.out]; exact hlt
      obtain ⟨bb, oo, rfl, hbl, hcells⟩ := HRR.out (by omega)
      obtain ⟨bb2, oo2, rfl, hbl2, hcells2⟩ := HRR2.out (by omega)
      have h8 : ∀ x ∈ S, x.length = 12 := fun x hx => (HII.out x hx).1
      have r1 : wr.drew.rangeAt bb (oo + k * 12) _ := evLine h8 (fun j u hj => (HB.out.cell (p := ⟨bb, oo + j, none⟩) hbl).trans (hcells j u hj)) hkc
      have r2 : wr.drew.rangeAt bb2 (oo2 + k * 12) _ := evLine h8 (fun j u hj => (HB.out.cell (p := ⟨bb2, oo2 + j, none⟩) hbl2).trans (hcells2 j u hj)) hkc
      obtain ⟨q1, q2⟩ := HII.out _ (List.getElem_mem hkc)
      have HEQ := Lib.hid fun w => eq_event S[k] q1 q2 w
      have hi12 : (Tryz.prog.info? 79).map (·.size) = some (iv S[k]).length := by rw [size79, iv_len, q1]
      generalize S[k] = L at *
      have hkI : (k : Int) < (N : Int) := by omega
      have HBD := Lib.hid HB.out.drew
      have heq := HEQ.out
      clear h8 hcells hcells2 q1 q2 HEQ
      go_wp2_with fail
      refine wp_region_held_drew (S := fun W => W.rangeAt bb (oo + k * 12) (iv L) ∧ W.rangeAt bb2 (oo2 + k * 12) (iv L)) (by kernel_rfl) ⟨r1, r2⟩ (fun hHeld => ?_)
      generalize wr.drew = w2 at *
      refine wpAnyH_take (i := 0) (v := .slice (some ⟨bb, oo, none⟩) N cap) rfl (by kernel_rfl) (by kernel_rfl) (by kernel_rfl) (fun _ _ _ h => h) (Or.inl ⟨by rfl, fun w hSw => by obtain ⟨h1, h2⟩ := hSw; go_simp⟩) (by assumption) ?_
      change wpAnyH _ _ _ _ _ _ _ (Act.put _ (some 17) _) _
      simp only [Act.put, List.setIfInBounds_toArray, List.set_cons_zero, List.set_cons_succ]
      refine wpAnyH_take (i := 1) (v := .int .i64 (k : Int)) rfl (by kernel_rfl) (by kernel_rfl) (by kernel_rfl) (fun _ _ _ h => h) (Or.inl ⟨by rfl, fun w hSw => by obtain ⟨h1, h2⟩ := hSw; go_simp⟩) (by assumption) ?_
      change wpAnyH _ _ _ _ _ _ _ (Act.put _ (some 18) _) _
      simp only [Act.put, List.setIfInBounds_toArray, List.set_cons_zero, List.set_cons_succ]
      refine wpAnyH_take (i := 2) (v := .pointer (some ⟨bb, oo + k * 12, none⟩)) rfl (by kernel_rfl) (by kernel_rfl) (by kernel_rfl) (fun _ _ _ h => h) (Or.inl ⟨by rfl, fun w hSw => by obtain ⟨h1, h2⟩ := hSw; go_simp⟩) (by assumption) ?_
      change wpAnyH _ _ _ _ _ _ _ (Act.put _ (some 19) _) _
      simp only [Act.put, List.setIfInBounds_toArray, List.set_cons_zero, List.set_cons_succ]
      refine wpAnyH_take (i := 3) (v := .agg (iv L).toArray) rfl (by kernel_rfl) (by kernel_rfl) (by kernel_rfl) (fun _ _ _ h => h) (yieldsIf_load_mid (by rfl) _ _ rfl _ _ rfl _ _ (fun w h => h.1) hu79 rfl hi12) (by assumption) ?_
      change wpAnyH _ _ _ _ _ _ _ (Act.put _ (some 20) _) _
      simp only [Act.put, List.setIfInBounds_toArray, List.set_cons_zero, List.set_cons_succ]
      refine wpAnyH_take (i := 4) (v := .slice (some ⟨bb2, oo2, none⟩) N cap2) rfl (by kernel_rfl) (by kernel_rfl) (by kernel_rfl) (fun _ _ _ h => h) (Or.inl ⟨by rfl, fun w hSw => by obtain ⟨h1, h2⟩ := hSw; go_simp⟩) (by assumption) ?_
      change wpAnyH _ _ _ _ _ _ _ (Act.put _ (some 21) _) _
      simp only [Act.put, List.setIfInBounds_toArray, List.set_cons_zero, List.set_cons_succ]
      refine wpAnyH_take (i := 5) (v := .int .i64 (k : Int)) rfl (by kernel_rfl) (by kernel_rfl) (by kernel_rfl) (fun _ _ _ h => h) (Or.inl ⟨by rfl, fun w hSw => by obtain ⟨h1, h2⟩ := hSw; go_simp⟩) (by assumption) ?_
      change wpAnyH _ _ _ _ _ _ _ (Act.put _ (some 22) _) _
      simp only [Act.put, List.setIfInBounds_toArray, List.set_cons_zero, List.set_cons_succ]
      refine wpAnyH_take (i := 6) (v := .pointer (some ⟨bb2, oo2 + k * 12, none⟩)) rfl (by kernel_rfl) (by kernel_rfl) (by kernel_rfl) (fun _ _ _ h => h) (Or.inl ⟨by rfl, fun w hSw => by obtain ⟨h1, h2⟩ := hSw; go_simp⟩) (by assumption) ?_
      change wpAnyH _ _ _ _ _ _ _ (Act.put _ (some 23) _) _
      simp only [Act.put, List.setIfInBounds_toArray, List.set_cons_zero, List.set_cons_succ]
      refine wpAnyH_take (i := 7) (v := .agg (iv L).toArray) rfl (by kernel_rfl) (by kernel_rfl) (by kernel_rfl) (fun _ _ _ h => h) (yieldsIf_load_mid (by rfl) _ _ rfl _ _ rfl _ _ (fun w h => h.2) hu79 rfl hi12) (by assumption) ?_
      change wpAnyH _ _ _ _ _ _ _ (Act.put _ (some 24) _) _
      simp only [Act.put, List.setIfInBounds_toArray, List.set_cons_zero, List.set_cons_succ]
      refine wpAnyH_take (i := 8) (v := .bool false) rfl (by kernel_rfl) (by kernel_rfl) (by kernel_rfl) (fun _ _ _ h => h) (Or.inl ⟨by rfl, fun w hSw => by obtain ⟨h1, h2⟩ := hSw; go_simp⟩) (by assumption) ?_
      change wpAnyH _ _ _ _ _ _ _ (Act.put _ (some 25) _) _
      simp only [Act.put, List.setIfInBounds_toArray, List.set_cons_zero, List.set_cons_succ]
      refine wpAnyH_done (by kernel_rfl) ?_ _
      go_wp2_with fail
      go_roundw
      case rel => exact ⟨k + 1, by simp, by omega, HBD⟩
      case measure => simp [intOf]; omega
    · obtain rfl : k = N := by omega
      go_wp2_with fail
      go_ret
      exact ⟨rfl, HB.out⟩
theorem size54 : (Tryz.prog.info? 66).map (·.size) = some 2 := by kernel_rfl
/-- A store of a list. -/
theorem storeAt {w : World} {d o : Nat} {S : List (Int × Int)} (hs : ∀ j u, (iv (flatS S))[j]? = some u → w.cell? ⟨d, o + j, none⟩ = some u) {k : Nat} (hk : k < S.length) : w.rangeAt d (o + k * 2) [.int .i64 S[k].1, .int .i64 S[k].2] := fun j v hv => by
  have hj : j < 2 := (List.getElem?_eq_some_iff.1 hv).1
  have hb := flat_block (fun x : Int × Int => [x.1, x.2]) 2 S k j hk (fun _ _ => rfl) hj
  have := hs (k * 2 + j) v (by
    have e : [Value.int .i64 S[k].1, .int .i64 S[k].2] = iv [S[k].1, S[k].2] := rfl
    rw [e] at hv
    unfold iv at hv ⊢
    unfold flatS
    rw [List.getElem?_map] at hv ⊢
    rw [hb]
    exact hv)
  rw [← Nat.add_assoc] at this
  exact this
set_option maxRecDepth 100000 in
set_option maxHeartbeats 4000000 in
set_option linter.unusedSimpArgs false in
/-- Of two lists of stores that are the same. -/
theorem sameStores_any (S : List (Int × Int)) (v u : Value) (w : World) (hn : S.length ≤ 5000) (hv : Rd w v S.length (iv (flatS S))) (hu : Rd w u S.length (iv (flatS S))) :
    Calls Tryz.prog 31 #[v, u] w fun e w' => e = .returned (.bool true) ∧ Below w.heap.size w w' := by
  obtain ⟨A, cap, rfl, hcap, hcm, hrr⟩ := hv
  obtain ⟨A2, cap2, rfl, hcap2, hcm2, hrr2⟩ := hu
  have HRR := Lib.hid hrr
  have HRR2 := Lib.hid hrr2
  obtain ⟨N, hN⟩ : ∃ N, S.length = N := ⟨_, rfl⟩
  have HN := Lib.hid hN
  rw [hN] at hcap hcap2 hn ⊢
  have HB0 : Hid (Below w.heap.size w w) := Lib.hid (Below.refl _ _)
  have hu54 := Tryz.underlying66
  clear hrr hrr2 hN
  go_enter Tryz.func31, Tryz.ntmps31
  go_wp2_with fail
  go_loopw [5] (fun i wr => ∃ k : Nat, i = .int .i64 (k : Int) ∧ k ≤ N ∧ Hid (Below w.heap.size w wr)) (fun i _ => N - (intOf i).toNat)
  case atStart => exact ⟨0, rfl, by omega, HB0⟩
  case round =>
    clear HB0
    obtain ⟨k, rfl, hk, HB⟩ := hrel
    by_cases hlt : k < N
    · have hkc : k < S.length := by rw [HN.out]; exact hlt
      obtain ⟨bb, oo, rfl, hbl, hcells⟩ := HRR.out (by omega)
      obtain ⟨bb2, oo2, rfl, hbl2, hcells2⟩ := HRR2.out (by omega)
      have r1 : wr.drew.rangeAt bb (oo + k * 2) _ := storeAt (fun j u hj => (HB.out.cell (p := ⟨bb, oo + j, none⟩) hbl).trans (hcells j u hj)) hkc
      have r2 : wr.drew.rangeAt bb2 (oo2 + k * 2) _ := storeAt (fun j u hj => (HB.out.cell (p := ⟨bb2, oo2 + j, none⟩) hbl2).trans (hcells2 j u hj)) hkc
      generalize S[k].1 = a at *
      generalize S[k].2 = b at *
      have hi2 : (Tryz.prog.info? 66).map (·.size) = some [Value.int .i64 a, .int .i64 b].length := size54
      have hkI : (k : Int) < (N : Int) := by omega
      have HBD := Lib.hid HB.out.drew
      clear hcells hcells2
      go_wp2_with fail
      refine wp_region_held_drew (S := fun W => W.rangeAt bb (oo + k * 2) [.int .i64 a, .int .i64 b] ∧ W.rangeAt bb2 (oo2 + k * 2) [.int .i64 a, .int .i64 b]) (by kernel_rfl) ⟨r1, r2⟩ (fun hHeld => ?_)
      generalize wr.drew = w2 at *
      refine wpAnyH_take (i := 0) (v := .slice (some ⟨bb, oo, none⟩) N cap) rfl (by kernel_rfl) (by kernel_rfl) (by kernel_rfl) (fun _ _ _ h => h) (Or.inl ⟨by rfl, fun w hSw => by obtain ⟨h1, h2⟩ := hSw; go_simp⟩) (by assumption) ?_
      change wpAnyH _ _ _ _ _ _ _ (Act.put _ (some 17) _) _
      simp only [Act.put, List.setIfInBounds_toArray, List.set_cons_zero, List.set_cons_succ]
      refine wpAnyH_take (i := 1) (v := .int .i64 (k : Int)) rfl (by kernel_rfl) (by kernel_rfl) (by kernel_rfl) (fun _ _ _ h => h) (Or.inl ⟨by rfl, fun w hSw => by obtain ⟨h1, h2⟩ := hSw; go_simp⟩) (by assumption) ?_
      change wpAnyH _ _ _ _ _ _ _ (Act.put _ (some 18) _) _
      simp only [Act.put, List.setIfInBounds_toArray, List.set_cons_zero, List.set_cons_succ]
      refine wpAnyH_take (i := 2) (v := .pointer (some ⟨bb, oo + k * 2, none⟩)) rfl (by kernel_rfl) (by kernel_rfl) (by kernel_rfl) (fun _ _ _ h => h) (Or.inl ⟨by rfl, fun w hSw => by obtain ⟨h1, h2⟩ := hSw; go_simp⟩) (by assumption) ?_
      change wpAnyH _ _ _ _ _ _ _ (Act.put _ (some 19) _) _
      simp only [Act.put, List.setIfInBounds_toArray, List.set_cons_zero, List.set_cons_succ]
      refine wpAnyH_take (i := 3) (v := .agg #[.int .i64 a, .int .i64 b]) rfl (by kernel_rfl) (by kernel_rfl) (by kernel_rfl) (fun _ _ _ h => h) (yieldsIf_load_mid (by rfl) _ _ rfl _ _ rfl _ _ (fun w h => h.1) hu54 rfl hi2) (by assumption) ?_
      change wpAnyH _ _ _ _ _ _ _ (Act.put _ (some 20) _) _
      simp only [Act.put, List.setIfInBounds_toArray, List.set_cons_zero, List.set_cons_succ]
      refine wpAnyH_take (i := 4) (v := .slice (some ⟨bb2, oo2, none⟩) N cap2) rfl (by kernel_rfl) (by kernel_rfl) (by kernel_rfl) (fun _ _ _ h => h) (Or.inl ⟨by rfl, fun w hSw => by obtain ⟨h1, h2⟩ := hSw; go_simp⟩) (by assumption) ?_
      change wpAnyH _ _ _ _ _ _ _ (Act.put _ (some 21) _) _
      simp only [Act.put, List.setIfInBounds_toArray, List.set_cons_zero, List.set_cons_succ]
      refine wpAnyH_take (i := 5) (v := .int .i64 (k : Int)) rfl (by kernel_rfl) (by kernel_rfl) (by kernel_rfl) (fun _ _ _ h => h) (Or.inl ⟨by rfl, fun w hSw => by obtain ⟨h1, h2⟩ := hSw; go_simp⟩) (by assumption) ?_
      change wpAnyH _ _ _ _ _ _ _ (Act.put _ (some 22) _) _
      simp only [Act.put, List.setIfInBounds_toArray, List.set_cons_zero, List.set_cons_succ]
      refine wpAnyH_take (i := 6) (v := .pointer (some ⟨bb2, oo2 + k * 2, none⟩)) rfl (by kernel_rfl) (by kernel_rfl) (by kernel_rfl) (fun _ _ _ h => h) (Or.inl ⟨by rfl, fun w hSw => by obtain ⟨h1, h2⟩ := hSw; go_simp⟩) (by assumption) ?_
      change wpAnyH _ _ _ _ _ _ _ (Act.put _ (some 23) _) _
      simp only [Act.put, List.setIfInBounds_toArray, List.set_cons_zero, List.set_cons_succ]
      refine wpAnyH_take (i := 7) (v := .agg #[.int .i64 a, .int .i64 b]) rfl (by kernel_rfl) (by kernel_rfl) (by kernel_rfl) (fun _ _ _ h => h) (yieldsIf_load_mid (by rfl) _ _ rfl _ _ rfl _ _ (fun w h => h.2) hu54 rfl hi2) (by assumption) ?_
      change wpAnyH _ _ _ _ _ _ _ (Act.put _ (some 24) _) _
      simp only [Act.put, List.setIfInBounds_toArray, List.set_cons_zero, List.set_cons_succ]
      refine wpAnyH_take (i := 8) (v := .bool false) rfl (by kernel_rfl) (by kernel_rfl) (by kernel_rfl) (fun _ _ _ h => h) (Or.inl ⟨by rfl, fun w hSw => by obtain ⟨h1, h2⟩ := hSw; go_simp⟩) (by assumption) ?_
      change wpAnyH _ _ _ _ _ _ _ (Act.put _ (some 25) _) _
      simp only [Act.put, List.setIfInBounds_toArray, List.set_cons_zero, List.set_cons_succ]
      refine wpAnyH_done (by kernel_rfl) ?_ _
      go_wp2_with fail
      go_roundw
      case rel => exact ⟨k + 1, by simp, by omega, HBD⟩
      case measure => simp [intOf]; omega
    · obtain rfl : k = N := by omega
      go_wp2_with fail
      go_ret
      exact ⟨rfl, HB.out⟩
set_option maxRecDepth 100000 in
set_option maxHeartbeats 8000000 in
set_option linter.unusedSimpArgs false in
theorem same_any (p q : Nat) (m : PM) (F G : Nat → Prop) (w : World) (hm : m.Ok) (hs : m.Small 1000) (hf : m.L.length ≤ 100) (hp : Rep w p m F) (hq : Ref w q m G) (hT : Tab w) :
    Calls Tryz.prog 8 #[.pointer (some ⟨p, 0, none⟩), .pointer (some ⟨q, 0, none⟩)] w fun e w' => e = .returned (.bool true) ∧ Below w.heap.size w w' := by
  have hp1 := hp.below (bel_drew w)
  have hq1 := hq.below (bel_drew w)
  have hT1 := hT.keep (bel_drew w)
  have HB0 := Lib.hid (bel_drew w)
  obtain ⟨d, o, cap, ev, X, hat⟩ := hq1
  have c0 := hat.c0
  have c2 := hat.c2
  have hcp := hat.cap_
  have HEVR := Lib.hid (Rd.of_sl hat.evs)
  obtain ⟨EA, ecap, rfl, _⟩ := hat.evs.shape
  have hne := hs.ev
  have HP := Lib.hid hp1
  have HQ := Lib.hid (show Ref w.drew q m G from ⟨d, o, cap, _, X, hat⟩)
  have HT := Lib.hid hT1
  have HM := Lib.hid hm
  have HSM := Lib.hid hs
  obtain ⟨w1, hw1⟩ : ∃ w1, w.drew = w1 := ⟨_, rfl⟩
  rw [hw1] at c0 c2 HEVR HP HQ HT HB0
  have HLI := Lib.hid fun (W : World) (h : Rep W p m F) => lines_any p m F W h
  have himl : (imgOf m).length = m.L.length := List.length_map ..
  have HIM := Lib.hid fun (W : World) (hW : Below w1.heap.size w1 W) => image_any p m F W (by omega) (HP.out.below hW)
  have HRI := Lib.hid fun (W : World) (hW : Below w1.heap.size w1 W) => rImage_any q m G W hm (HQ.out.below hW)
  have HSE := Lib.hid fun (W : World) (hW : Below w1.heap.size w1 W) => seen_any p m F W hm (HP.out.below hW) (HT.out.keep hW)
  have HRS := Lib.hid fun (W : World) (hW : Below w1.heap.size w1 W) => rSeen_any q m G W hm (HQ.out.below hW)
  have HEVT := Lib.hid fun (W : World) (hW : Below w1.heap.size w1 W) => events_any p m F W (by omega) (HP.out.below hW)
  have HSAI := Lib.hid fun (v u : Value) (W : World) (hv : Rd W v m.L.length (iv (flatL m.L))) (hu : Rd W u m.L.length (iv (flatL m.L))) => sameImage_any (imgOf m) v u W (imgOf_ok hm) (by rw [himl]; omega) (by rw [himl, imgOf_flat]; exact hv) (by rw [himl, imgOf_flat]; exact hu)
  have hsl : m.seen.length = m.L.length := List.length_map ..
  have HSAS := Lib.hid fun (v u : Value) (W : World) (hv : Rd W v m.L.length (iv m.seen.flatten)) (hu : Rd W u m.L.length (iv m.seen.flatten)) => sameSeen_any m.seen v u W (seen_ok hm) (by rw [hsl]; omega) (by rw [hsl]; exact hv) (by rw [hsl]; exact hu)
  have HSAE := Lib.hid fun (v u : Value) (W : World) (hv : Rd W v m.ev.length (iv m.ev.flatten)) (hu : Rd W u m.ev.length (iv m.ev.flatten)) => sameEvents_any m.ev v u W hm.evs (by omega) hv hu
  have HST := Lib.hid fun (z : Int) (hz : I64 z) (W : World) (hW : Below w1.heap.size w1 W) => state_any p z m F W hz hm (HP.out.below hW) (HT.out.keep hW)
  have HRST := Lib.hid fun (z : Int) (W : World) (hW : Below w1.heap.size w1 W) => rState_any q z m G W hm (HQ.out.below hW)
  have hpl : ∀ z, (pendP m z).length ≤ 1000 := fun z => by
    unfold pendP
    split
    · rename_i hh
      have hin : 0 ≤ z ∧ z < (m.L.length : Int) := by unfold PM.has at hh; simpa using hh
      exact hs.pend _ (PM.line_mem (by omega))
    · exact Nat.zero_le _
  have HPL := Lib.hid hpl
  have HPN := Lib.hid fun (z : Int) (hz : I64 z) (W : World) (hW : Below w1.heap.size w1 W) => pending_any p z m F W hz (by omega) (by have := hpl z; omega) (HP.out.below hW)
  have HRPN := Lib.hid fun (z : Int) (W : World) (hW : Below w1.heap.size w1 W) => rPending_any q z m G W hm hs (HQ.out.below hW)
  clear hp hq hp1 hat hT hT1 hm hs himl hsl hpl
  generalize hNE : m.ev.length = NE at *
  generalize hN : m.L.length = N at *
  clear hNE hN
  go_enter Tryz.func8, Tryz.ntmps8
  go_wp2_with fail
  · refine wp_region_held_drew (S := fun W => Below w1.heap.size w1 W) (by kernel_rfl) (by rw [hw1]; exact Below.refl _ _) (fun hHeld => ?_)
    rw [hw1] at hHeld ⊢
    refine wpAnyH_take (i := 0) (v := .pointer (some ⟨p, 0, none⟩)) rfl (by kernel_rfl) (by kernel_rfl) (by kernel_rfl) (fun _ _ _ h => h) (Or.inl ⟨by rfl, fun w hSw => by go_simp⟩) (by assumption) ?_
    change wpAnyH _ _ _ _ _ _ _ (Act.put _ (some 6) _) _
    simp only [Act.put, List.setIfInBounds_toArray, List.set_cons_zero, List.set_cons_succ]
    refine wpAnyH_take (i := 2) (v := .pointer (some ⟨q, 0, none⟩)) rfl (by kernel_rfl) (by kernel_rfl) (by kernel_rfl) (fun _ _ _ h => h) (Or.inl ⟨by rfl, fun w hSw => by go_simp⟩) (by assumption) ?_
    change wpAnyH _ _ _ _ _ _ _ (Act.put _ (some 8) _) _
    simp only [Act.put, List.setIfInBounds_toArray, List.set_cons_zero, List.set_cons_succ]
    refine wpAnyH_take (i := 3) (v := .pointer (some ⟨q, 0, none⟩)) rfl (by kernel_rfl) (by kernel_rfl) (by kernel_rfl) (fun _ _ _ h => h) (Or.inl ⟨by rfl, fun w hSw => by go_simp⟩) (by assumption) ?_
    change wpAnyH _ _ _ _ _ _ _ (Act.put _ (some 9) _) _
    simp only [Act.put, List.setIfInBounds_toArray, List.set_cons_zero, List.set_cons_succ]
    refine wpAnyH_take (i := 4) (v := .pointer (some ⟨q, 0, none⟩)) rfl (by kernel_rfl) (by kernel_rfl) (by kernel_rfl) (fun _ _ _ h => h) (Or.inl ⟨by rfl, fun w hSw => by go_simp⟩) (by assumption) ?_
    change wpAnyH _ _ _ _ _ _ _ (Act.put _ (some 10) _) _
    simp only [Act.put, List.setIfInBounds_toArray, List.set_cons_zero, List.set_cons_succ]
    refine wpAnyH_take (i := 5) (v := .slice (some ⟨d, o, none⟩) N cap) rfl (by kernel_rfl) (by kernel_rfl) (by kernel_rfl) (fun _ _ _ h => h) (Or.inl ⟨by rfl, fun w hSw => by have h1 := cell_below hSw c0; go_simp⟩) (by assumption) ?_
    change wpAnyH _ _ _ _ _ _ _ (Act.put _ (some 11) _) _
    simp only [Act.put, List.setIfInBounds_toArray, List.set_cons_zero, List.set_cons_succ]
    refine wpAnyH_take (i := 6) (v := .int .i64 (N : Int)) rfl (by kernel_rfl) (by kernel_rfl) (by kernel_rfl) (fun _ _ _ h => h) (Or.inl ⟨by rfl, fun w hSw => by go_simp⟩) (by assumption) ?_
    change wpAnyH _ _ _ _ _ _ _ (Act.put _ (some 12) _) _
    simp only [Act.put, List.setIfInBounds_toArray, List.set_cons_zero, List.set_cons_succ]
    refine wpAnyH_ready (rs := [1]) (by kernel_rfl) (by simp) ?_
    refine AllReadyH.cons rfl (fun K hK => ?_) AllReadyH.nil
    go_simp
    refine (HLI.out _ (HP.out.below hHeld)).mono ?_
    rintro e w' ⟨rfl, hw'⟩
    obtain rfl := hw'.symm
    refine hK.out _ _ hHeld (fun hHeld => ?_)
    clear hK K
    refine wpAnyH_take (i := 7) (v := .bool false) rfl (by kernel_rfl) (by kernel_rfl) (by kernel_rfl) (fun _ _ _ h => h) (Or.inl ⟨by rfl, fun w hSw => by go_simp⟩) (by assumption) ?_
    change wpAnyH _ _ _ _ _ _ _ (Act.put _ (some 13) _) _
    simp only [Act.put, List.setIfInBounds_toArray, List.set_cons_zero, List.set_cons_succ]
    refine wpAnyH_take (i := 8) (v := .bool false) rfl (by kernel_rfl) (by kernel_rfl) (by kernel_rfl) (fun _ _ _ h => h) (Or.inl ⟨by rfl, fun w hSw => by go_simp⟩) (by assumption) ?_
    change wpAnyH _ _ _ _ _ _ _ (Act.put _ (some 14) _) _
    simp only [Act.put, List.setIfInBounds_toArray, List.set_cons_zero, List.set_cons_succ]
    refine wpAnyH_take (i := 9) (v := .pointer (some ⟨p, 0, none⟩)) rfl (by kernel_rfl) (by kernel_rfl) (by kernel_rfl) (fun _ _ _ h => h) (Or.inl ⟨by rfl, fun w hSw => by go_simp⟩) (by assumption) ?_
    change wpAnyH _ _ _ _ _ _ _ (Act.put _ (some 15) _) _
    simp only [Act.put, List.setIfInBounds_toArray, List.set_cons_zero, List.set_cons_succ]
    refine wpAnyH_take (i := 11) (v := .pointer (some ⟨q, 0, none⟩)) rfl (by kernel_rfl) (by kernel_rfl) (by kernel_rfl) (fun _ _ _ h => h) (Or.inl ⟨by rfl, fun w hSw => by go_simp⟩) (by assumption) ?_
    change wpAnyH _ _ _ _ _ _ _ (Act.put _ (some 17) _) _
    simp only [Act.put, List.setIfInBounds_toArray, List.set_cons_zero, List.set_cons_succ]
    refine wpAnyH_ready (rs := [10]) (by kernel_rfl) (by simp) ?_
    refine AllReadyH.cons rfl (fun K hK => ?_) AllReadyH.nil
    go_simp
    refine (HIM.out _ hHeld).mono ?_
    rintro e w2 ⟨va, rfl, hsa, _, hb⟩
    obtain ⟨A1, cap1, rfl, _⟩ := hsa.shape
    have R1 := Lib.hid (Rd.of_sl hsa)
    have h2 := bel_on hHeld hb
    refine hK.out _ _ h2 (fun hHeld => ?_)
    clear hK K h2 hb hsa
    refine wpAnyH_ready (rs := [12]) (by kernel_rfl) (by simp) ?_
    refine AllReadyH.cons rfl (fun K hK => ?_) AllReadyH.nil
    go_simp
    refine (HRI.out _ hHeld).mono ?_
    rintro e w3 ⟨vb, rfl, hsb, _, hb⟩
    obtain ⟨A2, cap2, rfl, _⟩ := hsb.shape
    have HSI := Lib.hid (HSAI.out _ _ w3 (R1.out.below hb) (Rd.of_sl hsb))
    have h2 := bel_on hHeld hb
    refine hK.out _ _ h2 (fun hHeld => ?_)
    clear hK K h2 hb hsb R1
    refine wpAnyH_ready (rs := [13]) (by kernel_rfl) (by simp) ?_
    refine AllReadyH.cons rfl (fun K hK => ?_) AllReadyH.nil
    go_simp
    refine HSI.out.mono ?_
    rintro e w4 ⟨rfl, hb⟩
    have h2 := bel_on hHeld hb
    refine hK.out _ _ h2 (fun hHeld => ?_)
    clear hK K h2 hb HSI
    refine wpAnyH_take (i := 14) (v := .bool false) rfl (by kernel_rfl) (by kernel_rfl) (by kernel_rfl) (fun _ _ _ h => h) (Or.inl ⟨by rfl, fun w hSw => by go_simp⟩) (by assumption) ?_
    change wpAnyH _ _ _ _ _ _ _ (Act.put _ (some 20) _) _
    simp only [Act.put, List.setIfInBounds_toArray, List.set_cons_zero, List.set_cons_succ]
    refine wpAnyH_take (i := 15) (v := .bool false) rfl (by kernel_rfl) (by kernel_rfl) (by kernel_rfl) (fun _ _ _ h => h) (Or.inl ⟨by rfl, fun w hSw => by go_simp⟩) (by assumption) ?_
    change wpAnyH _ _ _ _ _ _ _ (Act.put _ (some 21) _) _
    simp only [Act.put, List.setIfInBounds_toArray, List.set_cons_zero, List.set_cons_succ]
    refine wpAnyH_take (i := 16) (v := .bool false) rfl (by kernel_rfl) (by kernel_rfl) (by kernel_rfl) (fun _ _ _ h => h) (Or.inl ⟨by rfl, fun w hSw => by go_simp⟩) (by assumption) ?_
    change wpAnyH _ _ _ _ _ _ _ (Act.put _ (some 22) _) _
    simp only [Act.put, List.setIfInBounds_toArray, List.set_cons_zero, List.set_cons_succ]
    refine wpAnyH_take (i := 17) (v := .pointer (some ⟨p, 0, none⟩)) rfl (by kernel_rfl) (by kernel_rfl) (by kernel_rfl) (fun _ _ _ h => h) (Or.inl ⟨by rfl, fun w hSw => by go_simp⟩) (by assumption) ?_
    change wpAnyH _ _ _ _ _ _ _ (Act.put _ (some 23) _) _
    simp only [Act.put, List.setIfInBounds_toArray, List.set_cons_zero, List.set_cons_succ]
    refine wpAnyH_take (i := 19) (v := .pointer (some ⟨q, 0, none⟩)) rfl (by kernel_rfl) (by kernel_rfl) (by kernel_rfl) (fun _ _ _ h => h) (Or.inl ⟨by rfl, fun w hSw => by go_simp⟩) (by assumption) ?_
    change wpAnyH _ _ _ _ _ _ _ (Act.put _ (some 25) _) _
    simp only [Act.put, List.setIfInBounds_toArray, List.set_cons_zero, List.set_cons_succ]
    refine wpAnyH_ready (rs := [18]) (by kernel_rfl) (by simp) ?_
    refine AllReadyH.cons rfl (fun K hK => ?_) AllReadyH.nil
    go_simp
    refine (HSE.out _ hHeld).mono ?_
    rintro e w5 ⟨va, rfl, hsa, _, hb⟩
    obtain ⟨A3, cap3, rfl, _⟩ := hsa.shape
    have R1 := Lib.hid (Rd.of_sl hsa)
    have h2 := bel_on hHeld hb
    refine hK.out _ _ h2 (fun hHeld => ?_)
    clear hK K h2 hb hsa
    refine wpAnyH_ready (rs := [20]) (by kernel_rfl) (by simp) ?_
    refine AllReadyH.cons rfl (fun K hK => ?_) AllReadyH.nil
    go_simp
    refine (HRS.out _ hHeld).mono ?_
    rintro e w6 ⟨vb, rfl, hsb, _, hb⟩
    obtain ⟨A4, cap4, rfl, _⟩ := hsb.shape
    have HSI := Lib.hid (HSAS.out _ _ w6 (R1.out.below hb) (Rd.of_sl hsb))
    have h2 := bel_on hHeld hb
    refine hK.out _ _ h2 (fun hHeld => ?_)
    clear hK K h2 hb hsb R1
    refine wpAnyH_ready (rs := [21]) (by kernel_rfl) (by simp) ?_
    refine AllReadyH.cons rfl (fun K hK => ?_) AllReadyH.nil
    go_simp
    refine HSI.out.mono ?_
    rintro e w7 ⟨rfl, hb⟩
    have h2 := bel_on hHeld hb
    refine hK.out _ _ h2 (fun hHeld => ?_)
    clear hK K h2 hb HSI
    refine wpAnyH_take (i := 22) (v := .bool false) rfl (by kernel_rfl) (by kernel_rfl) (by kernel_rfl) (fun _ _ _ h => h) (Or.inl ⟨by rfl, fun w hSw => by go_simp⟩) (by assumption) ?_
    change wpAnyH _ _ _ _ _ _ _ (Act.put _ (some 28) _) _
    simp only [Act.put, List.setIfInBounds_toArray, List.set_cons_zero, List.set_cons_succ]
    refine wpAnyH_take (i := 23) (v := .bool false) rfl (by kernel_rfl) (by kernel_rfl) (by kernel_rfl) (fun _ _ _ h => h) (Or.inl ⟨by rfl, fun w hSw => by go_simp⟩) (by assumption) ?_
    change wpAnyH _ _ _ _ _ _ _ (Act.put _ (some 29) _) _
    simp only [Act.put, List.setIfInBounds_toArray, List.set_cons_zero, List.set_cons_succ]
    refine wpAnyH_take (i := 24) (v := .bool false) rfl (by kernel_rfl) (by kernel_rfl) (by kernel_rfl) (fun _ _ _ h => h) (Or.inl ⟨by rfl, fun w hSw => by go_simp⟩) (by assumption) ?_
    change wpAnyH _ _ _ _ _ _ _ (Act.put _ (some 30) _) _
    simp only [Act.put, List.setIfInBounds_toArray, List.set_cons_zero, List.set_cons_succ]
    refine wpAnyH_take (i := 25) (v := .pointer (some ⟨p, 0, none⟩)) rfl (by kernel_rfl) (by kernel_rfl) (by kernel_rfl) (fun _ _ _ h => h) (Or.inl ⟨by rfl, fun w hSw => by go_simp⟩) (by assumption) ?_
    change wpAnyH _ _ _ _ _ _ _ (Act.put _ (some 31) _) _
    simp only [Act.put, List.setIfInBounds_toArray, List.set_cons_zero, List.set_cons_succ]
    refine wpAnyH_take (i := 27) (v := .pointer (some ⟨q, 0, none⟩)) rfl (by kernel_rfl) (by kernel_rfl) (by kernel_rfl) (fun _ _ _ h => h) (Or.inl ⟨by rfl, fun w hSw => by go_simp⟩) (by assumption) ?_
    change wpAnyH _ _ _ _ _ _ _ (Act.put _ (some 33) _) _
    simp only [Act.put, List.setIfInBounds_toArray, List.set_cons_zero, List.set_cons_succ]
    refine wpAnyH_take (i := 28) (v := .pointer (some ⟨q, 0, none⟩)) rfl (by kernel_rfl) (by kernel_rfl) (by kernel_rfl) (fun _ _ _ h => h) (Or.inl ⟨by rfl, fun w hSw => by go_simp⟩) (by assumption) ?_
    change wpAnyH _ _ _ _ _ _ _ (Act.put _ (some 34) _) _
    simp only [Act.put, List.setIfInBounds_toArray, List.set_cons_zero, List.set_cons_succ]
    refine wpAnyH_take (i := 29) (v := .pointer (some ⟨q, 2, none⟩)) rfl (by kernel_rfl) (by kernel_rfl) (by kernel_rfl) (fun _ _ _ h => h) (Or.inl ⟨by rfl, fun w hSw => by go_simp⟩) (by assumption) ?_
    change wpAnyH _ _ _ _ _ _ _ (Act.put _ (some 35) _) _
    simp only [Act.put, List.setIfInBounds_toArray, List.set_cons_zero, List.set_cons_succ]
    refine wpAnyH_take (i := 30) (v := .slice EA NE ecap) rfl (by kernel_rfl) (by kernel_rfl) (by kernel_rfl) (fun _ _ _ h => h) (Or.inl ⟨by rfl, fun w hSw => by have h1 := cell_below hSw c2; go_simp⟩) (by assumption) ?_
    change wpAnyH _ _ _ _ _ _ _ (Act.put _ (some 36) _) _
    simp only [Act.put, List.setIfInBounds_toArray, List.set_cons_zero, List.set_cons_succ]
    refine wpAnyH_ready (rs := [26]) (by kernel_rfl) (by simp) ?_
    refine AllReadyH.cons rfl (fun K hK => ?_) AllReadyH.nil
    go_simp
    refine (HEVT.out _ hHeld).mono ?_
    rintro e w8 ⟨va, rfl, hsa, _, hb⟩
    obtain ⟨A5, cap5, rfl, _⟩ := hsa.shape
    have h2 := bel_on hHeld hb
    have HSI := Lib.hid (HSAE.out _ _ w8 (Rd.of_sl hsa) (HEVR.out.below h2))
    refine hK.out _ _ h2 (fun hHeld => ?_)
    clear hK K h2 hb hsa
    refine wpAnyH_ready (rs := [31]) (by kernel_rfl) (by simp) ?_
    refine AllReadyH.cons rfl (fun K hK => ?_) AllReadyH.nil
    go_simp
    refine HSI.out.mono ?_
    rintro e w9 ⟨rfl, hb⟩
    have h2 := bel_on hHeld hb
    refine hK.out _ _ h2 (fun hHeld => ?_)
    clear hK K h2 hb HSI
    refine wpAnyH_take (i := 32) (v := .bool false) rfl (by kernel_rfl) (by kernel_rfl) (by kernel_rfl) (fun _ _ _ h => h) (Or.inl ⟨by rfl, fun w hSw => by go_simp⟩) (by assumption) ?_
    change wpAnyH _ _ _ _ _ _ _ (Act.put _ (some 38) _) _
    simp only [Act.put, List.setIfInBounds_toArray, List.set_cons_zero, List.set_cons_succ]
    refine wpAnyH_take (i := 33) (v := .bool false) rfl (by kernel_rfl) (by kernel_rfl) (by kernel_rfl) (fun _ _ _ h => h) (Or.inl ⟨by rfl, fun w hSw => by go_simp⟩) (by assumption) ?_
    change wpAnyH _ _ _ _ _ _ _ (Act.put _ (some 39) _) _
    simp only [Act.put, List.setIfInBounds_toArray, List.set_cons_zero, List.set_cons_succ]
    refine wpAnyH_done (by kernel_rfl) ?_ _
    have HB1 := Lib.hid hHeld
    clear hHeld
    have hNI : (0 : Int) ≤ (N : Int) := by omega
    go_wp2_with fail
    go_loopw [5] (fun u wr => ∃ z : Int, u = .int .i64 z ∧ -1 ≤ z ∧ z ≤ (N : Int) + 1 ∧ Hid (Below w1.heap.size w1 wr)) (fun u _ => ((N : Int) + 1 - intOf u).toNat)
    case atStart => exact ⟨-1, rfl, by omega, by omega, HB1⟩
    case round =>
      clear HB1
      obtain ⟨z, rfl, hz1, hz2, HB⟩ := hrel
      have d0 := cell_below HB.out c0
      by_cases hlt : z ≤ (N : Int)
      · have hzI : I64 z := by unfold I64; omega
        have hw64 : wrap64 (z + 1) = z + 1 := w64 _ (by omega) (by omega)
        have hwr : IntKind.i64.wrap (z + 1) = z + 1 := by rw [wrapEq, hw64]
        have HS1 := Lib.hid (HST.out z hzI _ HB.out)
        have hRST := Lib.hid fun W hW => HRST.out z W hW
        have hPN := Lib.hid fun W hW => HPN.out z hzI W hW
        have hRPN := Lib.hid fun W hW => HRPN.out z W hW
        have hpl := HPL.out z
        generalize stateP m z = st at *
        generalize pendP m z = ps at *
        clear hzI
        go_wp2_with fail
        refine HS1.out.mono ?_
        rintro e u1 ⟨rfl, hb⟩
        have B1 := Lib.hid (bel_on HB.out hb)
        clear hb HS1 HB
        go_wp2_with fail
        refine (hRST.out _ B1.out).mono ?_
        rintro e u2 ⟨rfl, hb⟩
        have B2 := Lib.hid (bel_on B1.out hb)
        clear hb B1
        go_wp2_with fail
        refine (hPN.out _ B2.out).mono ?_
        rintro e u3 ⟨pv, rfl, hs1, _, hb⟩
        obtain ⟨A6, cap6, rfl, _⟩ := hs1.shape
        have B3 := Lib.hid (bel_on B2.out hb)
        have R3 := Lib.hid (Rd.of_sl hs1)
        clear hb hs1 B2
        go_wp2_with fail
        refine (hRPN.out _ B3.out).mono ?_
        rintro e u4 ⟨pv, rfl, hs2, _, hb⟩
        obtain ⟨A7, cap7, rfl, _⟩ := hs2.shape
        have B4 := Lib.hid (bel_on B3.out hb)
        have HSS := Lib.hid (sameStores_any ps _ _ u4 (by omega) (R3.out.below hb) (Rd.of_sl hs2))
        clear hb hs2 B3 R3
        go_wp2_with fail
        refine HSS.out.mono ?_
        rintro e u5 ⟨rfl, hb⟩
        have B5 := Lib.hid (bel_on B4.out hb)
        clear hb B4 HSS
        go_wp2_with fail
        go_roundw
        case rel => exact ⟨z + 1, by simp, by omega, by omega, B5⟩
        case measure => simp [intOf]; omega
      · have hlt2 : ¬ z ≤ (N : Int) := hlt
        go_wp2_with fail
        go_ret
        exact ⟨rfl, bel_on HB0.out HB.out⟩
end Go.Proofs.YtmnncbgibngmiaaGreatDoor
