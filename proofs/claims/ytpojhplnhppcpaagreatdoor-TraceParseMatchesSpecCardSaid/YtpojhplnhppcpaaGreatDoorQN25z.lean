/-
  What alumref04's Right and SameImage do. What the law's least and alumref04's SameSeen do; what eviction and fences come to. MemoryEvictsLikeFences answers true: the walk. What alumref04's SameEvents and SameStores and the law's same do.
-/
import Derived.Test.YtpojhplnhppcpaaGreatDoorQZ2
import Derived.Test.YtpojhplnhppcpaaGreatDoorQZ13
import Derived.Test.YtpojhplnhppcpaaGreatDoorQU1
namespace Go.Proofs.YtpojhplnhppcpaaGreatDoor
open Go.RowKit Go.Maps
/-- Words and codes that are numbers. -/
def ImgI (img : List (List Int × Int)) : Prop := ∀ x ∈ img, x.1.length = 8 ∧ (∀ z ∈ x.1, I64 z) ∧ I64 x.2
theorem img_code {w : World} {d o : Nat} {img : List (List Int × Int)} (h8 : ∀ x ∈ img, x.1.length = 8) (hs : ∀ j u, (iv (flatI img))[j]? = some u → w.cell? ⟨d, o + j, none⟩ = some u) {k : Nat} (hk : k < img.length) :
    w.rangeAt d (o + k * 9) (iv img[k].1) ∧ w.cell? ⟨d, o + k * 9 + 8, none⟩ = some (.int .i64 img[k].2) := by
  have h := imgLine h8 hs hk
  have h8k := h8 _ (List.getElem_mem hk)
  constructor
  · intro j v hv
    refine h j v ?_
    unfold iv at hv ⊢
    rw [List.map_append, List.getElem?_append_left (List.getElem?_eq_some_iff.1 hv).1]
    exact hv
  · refine h 8 _ ?_
    unfold iv
    rw [List.getElem?_map, List.getElem?_append_right (by omega), h8k]
    rfl
set_option maxRecDepth 100000 in
set_option maxHeartbeats 4000000 in
set_option linter.unusedSimpArgs false in
/-- Of two images that are the same. -/
theorem sameImage_any (img : List (List Int × Int)) (v u : Value) (w : World) (hI : ImgI img) (hn : img.length ≤ 5000) (hv : Rd w v img.length (iv (flatI img))) (hu : Rd w u img.length (iv (flatI img))) :
    Calls Tryz.prog 22 #[v, u] w fun e w' => e = .returned (.bool true) ∧ Below w.heap.size w w' := by
  obtain ⟨A, cap, rfl, hcap, hcm, hrr⟩ := hv
  obtain ⟨A2, cap2, rfl, hcap2, hcm2, hrr2⟩ := hu
  have HRR := Lib.hid hrr
  have HRR2 := Lib.hid hrr2
  have HII := Lib.hid hI
  obtain ⟨N, hN⟩ : ∃ N, img.length = N := ⟨_, rfl⟩
  have HN := Lib.hid hN
  rw [hN] at hcap hcap2 hn ⊢
  have HB0 : Hid (Below w.heap.size w w) := Lib.hid (Below.refl _ _)
  have hu68 := Tryz.underlying77
  clear hrr hrr2 hI hN
  go_enter Tryz.func22, Tryz.ntmps22
  go_wp2_with fail
  go_loopw [5] (fun i wr => ∃ k : Nat, i = .int .i64 (k : Int) ∧ k ≤ N ∧ Hid (Below w.heap.size w wr)) (fun i _ => N - (intOf i).toNat)
  case atStart => exact ⟨0, rfl, by omega, HB0⟩
  case round =>
    clear HB0
    obtain ⟨k, rfl, hk, HB⟩ := hrel
    by_cases hlt : k < N
    · have hkc : k < img.length := by rw [HN.out]; exact hlt
      obtain ⟨bb, oo, rfl, hbl, hcells⟩ := HRR.out (by omega)
      obtain ⟨bb2, oo2, rfl, hbl2, hcells2⟩ := HRR2.out (by omega)
      have h8 : ∀ x ∈ img, x.1.length = 8 := fun x hx => (HII.out x hx).1
      have r1 : wr.drew.rangeAt bb (oo + k * 9) _ := imgLine h8 (fun j u hj => (HB.out.cell (p := ⟨bb, oo + j, none⟩) hbl).trans (hcells j u hj)) hkc
      have r2 : wr.drew.rangeAt bb2 (oo2 + k * 9) _ := imgLine h8 (fun j u hj => (HB.out.cell (p := ⟨bb2, oo2 + j, none⟩) hbl2).trans (hcells2 j u hj)) hkc
      obtain ⟨q1, q2, q3⟩ := HII.out _ (List.getElem_mem hkc)
      have HEQ := Lib.hid fun w => eq_line68 img[k].1 img[k].2 q1 q2 q3 w
      have hl9 : (iv (img[k].1 ++ [img[k].2])).length = 9 := by rw [iv_len, List.length_append, q1]; rfl
      have hi9 : (Tryz.prog.info? 77).map (·.size) = some (iv (img[k].1 ++ [img[k].2])).length := by rw [size68, hl9]
      generalize img[k].1 ++ [img[k].2] = L at *
      have hkI : (k : Int) < (N : Int) := by omega
      have HBD := Lib.hid HB.out.drew
      have heq := HEQ.out
      clear h8 hcells hcells2 q1 q2 q3 hl9 HEQ
      go_wp2_with fail
      refine wp_region_held_drew (S := fun W => W.rangeAt bb (oo + k * 9) (iv L) ∧ W.rangeAt bb2 (oo2 + k * 9) (iv L)) (by kernel_rfl) ⟨r1, r2⟩ (fun hHeld => ?_)
      generalize wr.drew = w2 at *
      refine wpAnyH_take (i := 0) (v := .slice (some ⟨bb, oo, none⟩) N cap) rfl (by kernel_rfl) (by kernel_rfl) (by kernel_rfl) (fun _ _ _ h => h) (Or.inl ⟨by rfl, fun w hSw => by obtain ⟨h1, h2⟩ := hSw; go_simp⟩) (by assumption) ?_
      change wpAnyH _ _ _ _ _ _ _ (Act.put _ (some 17) _) _
      simp only [Act.put, List.setIfInBounds_toArray, List.set_cons_zero, List.set_cons_succ]
      refine wpAnyH_take (i := 1) (v := .int .i64 (k : Int)) rfl (by kernel_rfl) (by kernel_rfl) (by kernel_rfl) (fun _ _ _ h => h) (Or.inl ⟨by rfl, fun w hSw => by obtain ⟨h1, h2⟩ := hSw; go_simp⟩) (by assumption) ?_
      change wpAnyH _ _ _ _ _ _ _ (Act.put _ (some 18) _) _
      simp only [Act.put, List.setIfInBounds_toArray, List.set_cons_zero, List.set_cons_succ]
      refine wpAnyH_take (i := 2) (v := .pointer (some ⟨bb, oo + k * 9, none⟩)) rfl (by kernel_rfl) (by kernel_rfl) (by kernel_rfl) (fun _ _ _ h => h) (Or.inl ⟨by rfl, fun w hSw => by obtain ⟨h1, h2⟩ := hSw; go_simp⟩) (by assumption) ?_
      change wpAnyH _ _ _ _ _ _ _ (Act.put _ (some 19) _) _
      simp only [Act.put, List.setIfInBounds_toArray, List.set_cons_zero, List.set_cons_succ]
      refine wpAnyH_take (i := 3) (v := .agg (iv L).toArray) rfl (by kernel_rfl) (by kernel_rfl) (by kernel_rfl) (fun _ _ _ h => h) (yieldsIf_load_mid (by rfl) _ _ rfl _ _ rfl _ _ (fun w h => h.1) hu68 rfl hi9) (by assumption) ?_
      change wpAnyH _ _ _ _ _ _ _ (Act.put _ (some 20) _) _
      simp only [Act.put, List.setIfInBounds_toArray, List.set_cons_zero, List.set_cons_succ]
      refine wpAnyH_take (i := 4) (v := .slice (some ⟨bb2, oo2, none⟩) N cap2) rfl (by kernel_rfl) (by kernel_rfl) (by kernel_rfl) (fun _ _ _ h => h) (Or.inl ⟨by rfl, fun w hSw => by obtain ⟨h1, h2⟩ := hSw; go_simp⟩) (by assumption) ?_
      change wpAnyH _ _ _ _ _ _ _ (Act.put _ (some 21) _) _
      simp only [Act.put, List.setIfInBounds_toArray, List.set_cons_zero, List.set_cons_succ]
      refine wpAnyH_take (i := 5) (v := .int .i64 (k : Int)) rfl (by kernel_rfl) (by kernel_rfl) (by kernel_rfl) (fun _ _ _ h => h) (Or.inl ⟨by rfl, fun w hSw => by obtain ⟨h1, h2⟩ := hSw; go_simp⟩) (by assumption) ?_
      change wpAnyH _ _ _ _ _ _ _ (Act.put _ (some 22) _) _
      simp only [Act.put, List.setIfInBounds_toArray, List.set_cons_zero, List.set_cons_succ]
      refine wpAnyH_take (i := 6) (v := .pointer (some ⟨bb2, oo2 + k * 9, none⟩)) rfl (by kernel_rfl) (by kernel_rfl) (by kernel_rfl) (fun _ _ _ h => h) (Or.inl ⟨by rfl, fun w hSw => by obtain ⟨h1, h2⟩ := hSw; go_simp⟩) (by assumption) ?_
      change wpAnyH _ _ _ _ _ _ _ (Act.put _ (some 23) _) _
      simp only [Act.put, List.setIfInBounds_toArray, List.set_cons_zero, List.set_cons_succ]
      refine wpAnyH_take (i := 7) (v := .agg (iv L).toArray) rfl (by kernel_rfl) (by kernel_rfl) (by kernel_rfl) (fun _ _ _ h => h) (yieldsIf_load_mid (by rfl) _ _ rfl _ _ rfl _ _ (fun w h => h.2) hu68 rfl hi9) (by assumption) ?_
      change wpAnyH _ _ _ _ _ _ _ (Act.put _ (some 24) _) _
      simp only [Act.put, List.setIfInBounds_toArray, List.set_cons_zero, List.set_cons_succ]
      refine wpAnyH_take (i := 8) (v := .bool false) rfl (by kernel_rfl) (by kernel_rfl) (by kernel_rfl) (fun _ _ _ h => h) (Or.inl ⟨by rfl, fun w hSw => by obtain ⟨h1, h2⟩ := hSw; go_simp⟩) (by assumption) ?_
      change wpAnyH _ _ _ _ _ _ _ (Act.put _ (some 25) _) _
      simp only [Act.put, List.setIfInBounds_toArray, List.set_cons_zero, List.set_cons_succ]
      refine wpAnyH_done (by kernel_rfl) ?_ _
      go_wp2_with fail
      go_roundw
      case rel => exact ⟨k + 1, by simp, by omega, HBD⟩
      case measure => simp [intOf]; omega
    · obtain rfl : k = N := by omega
      go_wp2_with fail
      go_ret
      exact ⟨rfl, HB.out⟩
end Go.Proofs.YtpojhplnhppcpaaGreatDoor
namespace Go.Proofs.YtpojhplnhppcpaaGreatDoor
open Go.RowKit Go.Maps
/-- A line of what is seen. -/
theorem seenLine {w : World} {d o : Nat} {S : List (List Int)} (h8 : ∀ x ∈ S, x.length = 8) (hs : ∀ j u, (iv S.flatten)[j]? = some u → w.cell? ⟨d, o + j, none⟩ = some u) {k : Nat} (hk : k < S.length) : w.rangeAt d (o + k * 8) (iv S[k]) := fun j v hv => by
  have hj : j < 8 := by
    have := (List.getElem?_eq_some_iff.1 hv).1
    rw [iv_len, h8 _ (List.getElem_mem hk)] at this
    exact this
  have hb := flat_block (fun x : List Int => x) 8 S k j hk h8 hj
  rw [List.flatMap_id'] at hb
  have := hs (k * 8 + j) v (by
    unfold iv at hv ⊢
    rw [List.getElem?_map] at hv ⊢
    rw [hb]
    exact hv)
  rw [← Nat.add_assoc] at this
  exact this
set_option maxRecDepth 100000 in
set_option maxHeartbeats 4000000 in
set_option linter.unusedSimpArgs false in
/-- Of two views that are the same. -/
theorem sameSeen_any (S : List (List Int)) (v u : Value) (w : World) (hI : ∀ x ∈ S, x.length = 8 ∧ ∀ z ∈ x, I64 z) (hn : S.length ≤ 5000) (hv : Rd w v S.length (iv S.flatten)) (hu : Rd w u S.length (iv S.flatten)) :
    Calls Tryz.prog 24 #[v, u] w fun e w' => e = .returned (.bool true) ∧ Below w.heap.size w w' := by
  obtain ⟨A, cap, rfl, hcap, hcm, hrr⟩ := hv
  obtain ⟨A2, cap2, rfl, hcap2, hcm2, hrr2⟩ := hu
  have HRR := Lib.hid hrr
  have HRR2 := Lib.hid hrr2
  have HII := Lib.hid hI
  obtain ⟨N, hN⟩ : ∃ N, S.length = N := ⟨_, rfl⟩
  have HN := Lib.hid hN
  rw [hN] at hcap hcap2 hn ⊢
  have HB0 : Hid (Below w.heap.size w w) := Lib.hid (Below.refl _ _)
  have hu47 := Tryz.underlying66
  clear hrr hrr2 hI hN
  go_enter Tryz.func24, Tryz.ntmps24
  go_wp2_with fail
  go_loopw [5] (fun i wr => ∃ k : Nat, i = .int .i64 (k : Int) ∧ k ≤ N ∧ Hid (Below w.heap.size w wr)) (fun i _ => N - (intOf i).toNat)
  case atStart => exact ⟨0, rfl, by omega, HB0⟩
  case round =>
    clear HB0
    obtain ⟨k, rfl, hk, HB⟩ := hrel
    by_cases hlt : k < N
    · have hkc : k < S.length := by rw [HN.out]; exact hlt
      obtain ⟨bb, oo, rfl, hbl, hcells⟩ := HRR.out (by omega)
      obtain ⟨bb2, oo2, rfl, hbl2, hcells2⟩ := HRR2.out (by omega)
      have h8 : ∀ x ∈ S, x.length = 8 := fun x hx => (HII.out x hx).1
      have r1 : wr.drew.rangeAt bb (oo + k * 8) _ := seenLine h8 (fun j u hj => (HB.out.cell (p := ⟨bb, oo + j, none⟩) hbl).trans (hcells j u hj)) hkc
      have r2 : wr.drew.rangeAt bb2 (oo2 + k * 8) _ := seenLine h8 (fun j u hj => (HB.out.cell (p := ⟨bb2, oo2 + j, none⟩) hbl2).trans (hcells2 j u hj)) hkc
      obtain ⟨q1, q2⟩ := HII.out _ (List.getElem_mem hkc)
      have heq := fun w => eq_line S[k] S[k] q1 q1 q2 q2 w
      have hi8 := size22' q1
      generalize S[k] = L at *
      have heq2 : ∀ w, (Op.equalIn 10000 66 (.agg (iv L).toArray) (.agg (iv L).toArray)).run Tryz.prog w = .ok true w := fun w => by rw [heq w, decide_eq_true rfl]
      have hkI : (k : Int) < (N : Int) := by omega
      have HBD := Lib.hid HB.out.drew
      clear h8 hcells hcells2 q1 q2 heq
      go_wp2_with fail
      refine wp_region_held_drew (S := fun W => W.rangeAt bb (oo + k * 8) (iv L) ∧ W.rangeAt bb2 (oo2 + k * 8) (iv L)) (by kernel_rfl) ⟨r1, r2⟩ (fun hHeld => ?_)
      generalize wr.drew = w2 at *
      refine wpAnyH_take (i := 0) (v := .slice (some ⟨bb, oo, none⟩) N cap) rfl (by kernel_rfl) (by kernel_rfl) (by kernel_rfl) (fun _ _ _ h => h) (Or.inl ⟨by rfl, fun w hSw => by obtain ⟨h1, h2⟩ := hSw; go_simp⟩) (by assumption) ?_
      change wpAnyH _ _ _ _ _ _ _ (Act.put _ (some 17) _) _
      simp only [Act.put, List.setIfInBounds_toArray, List.set_cons_zero, List.set_cons_succ]
      refine wpAnyH_take (i := 1) (v := .int .i64 (k : Int)) rfl (by kernel_rfl) (by kernel_rfl) (by kernel_rfl) (fun _ _ _ h => h) (Or.inl ⟨by rfl, fun w hSw => by obtain ⟨h1, h2⟩ := hSw; go_simp⟩) (by assumption) ?_
      change wpAnyH _ _ _ _ _ _ _ (Act.put _ (some 18) _) _
      simp only [Act.put, List.setIfInBounds_toArray, List.set_cons_zero, List.set_cons_succ]
      refine wpAnyH_take (i := 2) (v := .pointer (some ⟨bb, oo + k * 8, none⟩)) rfl (by kernel_rfl) (by kernel_rfl) (by kernel_rfl) (fun _ _ _ h => h) (Or.inl ⟨by rfl, fun w hSw => by obtain ⟨h1, h2⟩ := hSw; go_simp⟩) (by assumption) ?_
      change wpAnyH _ _ _ _ _ _ _ (Act.put _ (some 19) _) _
      simp only [Act.put, List.setIfInBounds_toArray, List.set_cons_zero, List.set_cons_succ]
      refine wpAnyH_take (i := 3) (v := .agg (iv L).toArray) rfl (by kernel_rfl) (by kernel_rfl) (by kernel_rfl) (fun _ _ _ h => h) (yieldsIf_load_mid (by rfl) _ _ rfl _ _ rfl _ _ (fun w h => h.1) hu47 rfl hi8) (by assumption) ?_
      change wpAnyH _ _ _ _ _ _ _ (Act.put _ (some 20) _) _
      simp only [Act.put, List.setIfInBounds_toArray, List.set_cons_zero, List.set_cons_succ]
      refine wpAnyH_take (i := 4) (v := .slice (some ⟨bb2, oo2, none⟩) N cap2) rfl (by kernel_rfl) (by kernel_rfl) (by kernel_rfl) (fun _ _ _ h => h) (Or.inl ⟨by rfl, fun w hSw => by obtain ⟨h1, h2⟩ := hSw; go_simp⟩) (by assumption) ?_
      change wpAnyH _ _ _ _ _ _ _ (Act.put _ (some 21) _) _
      simp only [Act.put, List.setIfInBounds_toArray, List.set_cons_zero, List.set_cons_succ]
      refine wpAnyH_take (i := 5) (v := .int .i64 (k : Int)) rfl (by kernel_rfl) (by kernel_rfl) (by kernel_rfl) (fun _ _ _ h => h) (Or.inl ⟨by rfl, fun w hSw => by obtain ⟨h1, h2⟩ := hSw; go_simp⟩) (by assumption) ?_
      change wpAnyH _ _ _ _ _ _ _ (Act.put _ (some 22) _) _
      simp only [Act.put, List.setIfInBounds_toArray, List.set_cons_zero, List.set_cons_succ]
      refine wpAnyH_take (i := 6) (v := .pointer (some ⟨bb2, oo2 + k * 8, none⟩)) rfl (by kernel_rfl) (by kernel_rfl) (by kernel_rfl) (fun _ _ _ h => h) (Or.inl ⟨by rfl, fun w hSw => by obtain ⟨h1, h2⟩ := hSw; go_simp⟩) (by assumption) ?_
      change wpAnyH _ _ _ _ _ _ _ (Act.put _ (some 23) _) _
      simp only [Act.put, List.setIfInBounds_toArray, List.set_cons_zero, List.set_cons_succ]
      refine wpAnyH_take (i := 7) (v := .agg (iv L).toArray) rfl (by kernel_rfl) (by kernel_rfl) (by kernel_rfl) (fun _ _ _ h => h) (yieldsIf_load_mid (by rfl) _ _ rfl _ _ rfl _ _ (fun w h => h.2) hu47 rfl hi8) (by assumption) ?_
      change wpAnyH _ _ _ _ _ _ _ (Act.put _ (some 24) _) _
      simp only [Act.put, List.setIfInBounds_toArray, List.set_cons_zero, List.set_cons_succ]
      refine wpAnyH_take (i := 8) (v := .bool false) rfl (by kernel_rfl) (by kernel_rfl) (by kernel_rfl) (fun _ _ _ h => h) (Or.inl ⟨by rfl, fun w hSw => by obtain ⟨h1, h2⟩ := hSw; go_simp⟩) (by assumption) ?_
      change wpAnyH _ _ _ _ _ _ _ (Act.put _ (some 25) _) _
      simp only [Act.put, List.setIfInBounds_toArray, List.set_cons_zero, List.set_cons_succ]
      refine wpAnyH_done (by kernel_rfl) ?_ _
      go_wp2_with fail
      go_roundw
      case rel => exact ⟨k + 1, by simp, by omega, HBD⟩
      case measure => simp [intOf]; omega
    · obtain rfl : k = N := by omega
      go_wp2_with fail
      go_ret
      exact ⟨rfl, HB.out⟩
/-! ### what settles -/
theorem PL.Ok.settle_shows {l : PL} (h : l.Ok) {n : Nat} (hn : n ≤ l.pend.length) : (l.settle n).shows = l.shows := by
  by_cases h0 : n = 0
  · subst h0
    rfl
  · unfold PL.settle
    rw [if_neg h0]
    obtain ⟨a1, a2⟩ := h.after n
    obtain ⟨_, _, e3, _⟩ := enc_facts a1 a2
    show applyS (fixZ (l.after n) (encZ (l.after n))).1 ((l.pend.drop n).take (l.pend.drop n).length) = applyS l.fixW (l.pend.take l.pend.length)
    rw [e3, List.take_length, List.take_length]
    unfold PL.after applyS
    rw [← List.foldl_append, List.take_append_drop]
theorem PL.settle_zero (l : PL) : l.settle 0 = l := by unfold PL.settle; rw [if_pos rfl]
/-- After a fence nothing is marked. -/
theorem fence_mark (l : PL) : (l.settle l.mark).mark = 0 := by
  by_cases h0 : l.mark = 0
  · rw [h0, PL.settle_zero, h0]
  · unfold PL.settle
    rw [if_neg h0]
    show l.mark - l.mark = 0
    omega
theorem flushed_settle (l : PL) (h : l.mark = 0) : l.flushed.settle l.flushed.mark = l.settle l.pend.length := by
  show l.flushed.settle l.pend.length = l.settle l.pend.length
  by_cases h0 : l.pend.length = 0
  · rw [h0, PL.settle_zero, PL.settle_zero]
    exact PL.flushed_idle (List.eq_nil_of_length_eq_zero h0) h
  · unfold PL.settle
    rw [if_neg h0, if_neg h0]
    have e : l.flushed.after l.pend.length = l.after l.pend.length := rfl
    rw [e]
    congr 1
    show l.pend.length - l.pend.length = l.mark - l.pend.length
    omega
/-- Flush and fence do what eviction of all does, where nothing is marked. -/
theorem fence_evict {m : PM} (h0 : ∀ l ∈ m.L, l.mark = 0) {k : Nat} (hk : k < m.L.length) : fenceP (m.upd k (·.flushed)) = m.upd k (·.settle (m.line k).pend.length) := by
  unfold fenceP PM.upd
  simp only
  congr 1
  refine List.ext_getElem (by simp) fun i h1 h2 => ?_
  have hi : i < m.L.length := by simpa using h2
  rw [List.getElem_map, List.getElem_set, List.getElem_set]
  by_cases e : k = i
  · subst e
    rw [if_pos rfl, if_pos rfl]
    exact flushed_settle _ (h0 _ (PM.line_mem hk))
  · rw [if_neg e, if_neg e, h0 _ (List.getElem_mem hi), PL.settle_zero]
theorem seen_settle {m : PM} (hm : m.Ok) {k n : Nat} (hk : k < m.L.length) (hn : n ≤ (m.line k).pend.length) : (m.upd k (·.settle n)).seen = m.seen := by
  unfold PM.seen PM.upd
  simp only
  refine List.ext_getElem (by simp) fun i h1 h2 => ?_
  rw [List.getElem_map, List.getElem_map, List.getElem_set]
  by_cases e : k = i
  · subst e
    rw [if_pos rfl, (hm.line hk).settle_shows hn, PM.line_eq hk]
  · rw [if_neg e]
end Go.Proofs.YtpojhplnhppcpaaGreatDoor
namespace Go.Proofs.YtpojhplnhppcpaaGreatDoor
open Go.RowKit Go.Maps
def imgOf (m : PM) : List (List Int × Int) := m.L.map fun l => (l.ws, l.code)
theorem imgOf_flat (m : PM) : flatI (imgOf m) = flatL m.L := by
  unfold flatI imgOf flatL
  rw [List.flatMap_map]
theorem imgOf_ok {m : PM} (h : m.Ok) : ImgI (imgOf m) := fun x hx => by
  obtain ⟨l, hl, rfl⟩ := List.mem_map.1 hx
  obtain ⟨ha, h0, h1⟩ := valid_words (h.lines l hl).val
  exact ⟨(h.lines l hl).len, fun z hz => okW_i64 (all_ok ha z hz), by show I64 l.code; unfold I64; omega⟩
theorem seen_ok {m : PM} (h : m.Ok) : ∀ x ∈ m.seen, x.length = 8 ∧ ∀ z ∈ x, I64 z := fun x hx => by
  obtain ⟨l, hl, rfl⟩ := List.mem_map.1 hx
  obtain ⟨h1, h2⟩ := (h.lines l hl).after l.pend.length
  exact ⟨h1, fun z hz => okW_i64 (all_ok h2 z hz)⟩
theorem copied {w w5 w6 : World} {p q : Nat} {m : PM} {F : Nat → Prop} (h : Has w w5 p m F) (hr : Rep w6 q m (New w5 w6)) (hb : Below w5.heap.size w5 w6) : Has w w6 q m (New w5 w6) :=
  ⟨hr, h.ok, h.tab.keep hb, fun h1 => by have := h.tab.lt; have := h1.1; omega, bel_on h.below hb, fun k hk => Nat.le_trans h.below.size hk.1⟩
theorem has_k {m : PM} {k : Nat} (hk : k < m.L.length) : m.has (k : Int) = true := by
  unfold PM.has
  simp
  omega
theorem pend_k {m : PM} {k : Nat} (hk : k < m.L.length) : pendP m (k : Int) = (m.line k).pend := by
  unfold pendP
  rw [has_k hk, if_pos rfl, Int.toNat_natCast]
theorem evict_k {m : PM} {k n : Nat} (hk : k < m.L.length) (hn : 1 ≤ n ∧ n ≤ (m.line k).pend.length) (e : List Int) : rec_ (evictP m (k : Int) (n : Int)) e = (0, (m.upd k (·.settle n)).add e) := by
  unfold evictP
  rw [has_k hk, if_neg (by simp), if_neg (by rw [Int.toNat_natCast]; omega), rec_0 rfl, Int.toNat_natCast, Int.toNat_natCast]
theorem evict_none {m : PM} {k : Nat} (hk : k < m.L.length) (hn : (m.line k).pend.length = 0) (e : List Int) : rec_ (evictP m (k : Int) 1) e = (1, m) := by
  unfold evictP
  rw [has_k hk, if_neg (by simp), if_pos (.inr (by rw [Int.toNat_natCast, hn]; decide)), rec_1 (show (1 : Int) ≠ 0 by decide)]
theorem flush_k {m : PM} {k : Nat} (hk : k < m.L.length) (e : List Int) : rec_ (flushP m (k : Int)) e = (0, (m.upd k (·.flushed)).add e) := by
  unfold flushP
  rw [has_k hk, if_neg (by simp), rec_0 rfl, Int.toNat_natCast]
end Go.Proofs.YtpojhplnhppcpaaGreatDoor
namespace Go.Proofs.YtpojhplnhppcpaaGreatDoor
open Go.RowKit Go.Maps
theorem eq_event (E : List Int) (h12 : E.length = 12) (hz : ∀ z ∈ E, I64 z) (w : World) :
    (Op.equalIn 10000 68 (.agg (iv E).toArray) (.agg (iv E).toArray)).run Tryz.prog w = .ok true w := by
  obtain ⟨a0, a1, a2, a3, a4, a5, a6, a7, a8, a9, b0, b1, rfl⟩ := line12 h12
  have c12 : Tryz.prog.cellsOf 68 = 12 := by kernel_rfl
  have hk : Tryz.prog.keyTypeAt 3 68 = true := by kernel_rfl
  have hl := lits_event a0 a1 a2 a3 [a4, a5, a6, a7, a8, a9, b0, b1] rfl (fun z h => hz z (List.mem_append_right [a0, a1, a2, a3] h)) (hz _ (by simp)) (hz _ (by simp)) (hz _ (by simp)) (hz _ (by simp))
  generalize hE : ([a0, a1, a2, a3] ++ [a4, a5, a6, a7, a8, a9, b0, b1] : List Int) = E at hl
  have hEl : E.length = 12 := by rw [← hE]; rfl
  show (Op.equalIn 10000 68 (.agg (iv ([a0, a1, a2, a3] ++ [a4, a5, a6, a7, a8, a9, b0, b1])).toArray) (.agg (iv ([a0, a1, a2, a3] ++ [a4, a5, a6, a7, a8, a9, b0, b1])).toArray)).run Tryz.prog w = .ok true w
  rw [hE]
  have hf : (Value.agg (iv E).toArray).formed Tryz.prog 68 = true := by
    unfold Value.formed
    rw [Tryz.underlying68]
    simp [iv_len, hEl, c12]
  have hcells : (Value.agg (iv E).toArray).cells.toList = iv E := by simp [Value.cells]
  obtain ⟨r, hr, hiff⟩ := run_equalIn_deep (P := Tryz.prog) 9997 3 68 hk w 3 3 (.agg (iv E).toArray) (.agg (iv E).toArray) (litsOf E) (litsOf E) hf hf (by rw [hcells]; exact hl) (by rw [hcells]; exact hl)
  have e : r = true := hiff.2 rfl
  rw [← e]
  exact hr
set_option maxRecDepth 100000 in
set_option maxHeartbeats 8000000 in
set_option linter.unusedSimpArgs false in
theorem sameEvents_any (S : List (List Int)) (v u : Value) (w : World) (hI : ∀ x ∈ S, x.length = 12 ∧ ∀ z ∈ x, I64 z) (hn : S.length ≤ 5000) (hv : Rd w v S.length (iv S.flatten)) (hu : Rd w u S.length (iv S.flatten)) :
    Calls Tryz.prog 26 #[v, u] w fun e w' => e = .returned (.bool true) ∧ Below w.heap.size w w' := by
  obtain ⟨A, cap, rfl, hcap, hcm, hrr⟩ := hv
  obtain ⟨A2, cap2, rfl, hcap2, hcm2, hrr2⟩ := hu
  have HRR := Lib.hid hrr
  have HRR2 := Lib.hid hrr2
  have HII := Lib.hid hI
  obtain ⟨N, hN⟩ : ∃ N, S.length = N := ⟨_, rfl⟩
  have HN := Lib.hid hN
  rw [hN] at hcap hcap2 hn ⊢
  have HB0 : Hid (Below w.heap.size w w) := Lib.hid (Below.refl _ _)
  have hu79 := Tryz.underlying68
  clear hrr hrr2 hI hN
  go_enter Tryz.func26, Tryz.ntmps26
  go_wp2_with fail
  go_loopw [5] (fun i wr => ∃ k : Nat, i = .int .i64 (k : Int) ∧ k ≤ N ∧ Hid (Below w.heap.size w wr)) (fun i _ => N - (intOf i).toNat)
  case atStart => exact ⟨0, rfl, by omega, HB0⟩
  case round =>
    clear HB0
    obtain ⟨k, rfl, hk, HB⟩ := hrel
    by_cases hlt : k < N
    · have hkc : k < S.length := by rw [HN.out]; exact hlt
      obtain ⟨bb, oo, rfl, hbl, hcells⟩ := HRR.out (by omega)
      obtain ⟨bb2, oo2, rfl, hbl2, hcells2⟩ := HRR2.out (by omega)
      have h8 : ∀ x ∈ S, x.length = 12 := fun x hx => (HII.out x hx).1
      have r1 : wr.drew.rangeAt bb (oo + k * 12) _ := evLine h8 (fun j u hj => (HB.out.cell (p := ⟨bb, oo + j, none⟩) hbl).trans (hcells j u hj)) hkc
      have r2 : wr.drew.rangeAt bb2 (oo2 + k * 12) _ := evLine h8 (fun j u hj => (HB.out.cell (p := ⟨bb2, oo2 + j, none⟩) hbl2).trans (hcells2 j u hj)) hkc
      obtain ⟨q1, q2⟩ := HII.out _ (List.getElem_mem hkc)
      have HEQ := Lib.hid fun w => eq_event S[k] q1 q2 w
      have hi12 : (Tryz.prog.info? 68).map (·.size) = some (iv S[k]).length := by rw [size79, iv_len, q1]
      generalize S[k] = L at *
      have hkI : (k : Int) < (N : Int) := by omega
      have HBD := Lib.hid HB.out.drew
      have heq := HEQ.out
      clear h8 hcells hcells2 q1 q2 HEQ
      go_wp2_with fail
      refine wp_region_held_drew (S := fun W => W.rangeAt bb (oo + k * 12) (iv L) ∧ W.rangeAt bb2 (oo2 + k * 12) (iv L)) (by kernel_rfl) ⟨r1, r2⟩ (fun hHeld => ?_)
      generalize wr.drew = w2 at *
      refine wpAnyH_take (i := 0) (v := .slice (some ⟨bb, oo, none⟩) N cap) rfl (by kernel_rfl) (by kernel_rfl) (by kernel_rfl) (fun _ _ _ h => h) (Or.inl ⟨by rfl, fun w hSw => by obtain ⟨h1, h2⟩ := hSw; go_simp⟩) (by assumption) ?_
      change wpAnyH _ _ _ _ _ _ _ (Act.put _ (some 17) _) _
      simp only [Act.put, List.setIfInBounds_toArray, List.set_cons_zero, List.set_cons_succ]
      refine wpAnyH_take (i := 1) (v := .int .i64 (k : Int)) rfl (by kernel_rfl) (by kernel_rfl) (by kernel_rfl) (fun _ _ _ h => h) (Or.inl ⟨by rfl, fun w hSw => by obtain ⟨h1, h2⟩ := hSw; go_simp⟩) (by assumption) ?_
      change wpAnyH _ _ _ _ _ _ _ (Act.put _ (some 18) _) _
      simp only [Act.put, List.setIfInBounds_toArray, List.set_cons_zero, List.set_cons_succ]
      refine wpAnyH_take (i := 2) (v := .pointer (some ⟨bb, oo + k * 12, none⟩)) rfl (by kernel_rfl) (by kernel_rfl) (by kernel_rfl) (fun _ _ _ h => h) (Or.inl ⟨by rfl, fun w hSw => by obtain ⟨h1, h2⟩ := hSw; go_simp⟩) (by assumption) ?_
      change wpAnyH _ _ _ _ _ _ _ (Act.put _ (some 19) _) _
      simp only [Act.put, List.setIfInBounds_toArray, List.set_cons_zero, List.set_cons_succ]
      refine wpAnyH_take (i := 3) (v := .agg (iv L).toArray) rfl (by kernel_rfl) (by kernel_rfl) (by kernel_rfl) (fun _ _ _ h => h) (yieldsIf_load_mid (by rfl) _ _ rfl _ _ rfl _ _ (fun w h => h.1) hu79 rfl hi12) (by assumption) ?_
      change wpAnyH _ _ _ _ _ _ _ (Act.put _ (some 20) _) _
      simp only [Act.put, List.setIfInBounds_toArray, List.set_cons_zero, List.set_cons_succ]
      refine wpAnyH_take (i := 4) (v := .slice (some ⟨bb2, oo2, none⟩) N cap2) rfl (by kernel_rfl) (by kernel_rfl) (by kernel_rfl) (fun _ _ _ h => h) (Or.inl ⟨by rfl, fun w hSw => by obtain ⟨h1, h2⟩ := hSw; go_simp⟩) (by assumption) ?_
      change wpAnyH _ _ _ _ _ _ _ (Act.put _ (some 21) _) _
      simp only [Act.put, List.setIfInBounds_toArray, List.set_cons_zero, List.set_cons_succ]
      refine wpAnyH_take (i := 5) (v := .int .i64 (k : Int)) rfl (by kernel_rfl) (by kernel_rfl) (by kernel_rfl) (fun _ _ _ h => h) (Or.inl ⟨by rfl, fun w hSw => by obtain ⟨h1, h2⟩ := hSw; go_simp⟩) (by assumption) ?_
      change wpAnyH _ _ _ _ _ _ _ (Act.put _ (some 22) _) _
      simp only [Act.put, List.setIfInBounds_toArray, List.set_cons_zero, List.set_cons_succ]
      refine wpAnyH_take (i := 6) (v := .pointer (some ⟨bb2, oo2 + k * 12, none⟩)) rfl (by kernel_rfl) (by kernel_rfl) (by kernel_rfl) (fun _ _ _ h => h) (Or.inl ⟨by rfl, fun w hSw => by obtain ⟨h1, h2⟩ := hSw; go_simp⟩) (by assumption) ?_
      change wpAnyH _ _ _ _ _ _ _ (Act.put _ (some 23) _) _
      simp only [Act.put, List.setIfInBounds_toArray, List.set_cons_zero, List.set_cons_succ]
      refine wpAnyH_take (i := 7) (v := .agg (iv L).toArray) rfl (by kernel_rfl) (by kernel_rfl) (by kernel_rfl) (fun _ _ _ h => h) (yieldsIf_load_mid (by rfl) _ _ rfl _ _ rfl _ _ (fun w h => h.2) hu79 rfl hi12) (by assumption) ?_
      change wpAnyH _ _ _ _ _ _ _ (Act.put _ (some 24) _) _
      simp only [Act.put, List.setIfInBounds_toArray, List.set_cons_zero, List.set_cons_succ]
      refine wpAnyH_take (i := 8) (v := .bool false) rfl (by kernel_rfl) (by kernel_rfl) (by kernel_rfl) (fun _ _ _ h => h) (Or.inl ⟨by rfl, fun w hSw => by obtain ⟨h1, h2⟩ := hSw; go_simp⟩) (by assumption) ?_
      change wpAnyH _ _ _ _ _ _ _ (Act.put _ (some 25) _) _
      simp only [Act.put, List.setIfInBounds_toArray, List.set_cons_zero, List.set_cons_succ]
      refine wpAnyH_done (by kernel_rfl) ?_ _
      go_wp2_with fail
      go_roundw
      case rel => exact ⟨k + 1, by simp, by omega, HBD⟩
      case measure => simp [intOf]; omega
    · obtain rfl : k = N := by omega
      go_wp2_with fail
      go_ret
      exact ⟨rfl, HB.out⟩
theorem size54 : (Tryz.prog.info? 105).map (·.size) = some 2 := by kernel_rfl
/-- A store of a list. -/
theorem storeAt {w : World} {d o : Nat} {S : List (Int × Int)} (hs : ∀ j u, (iv (flatS S))[j]? = some u → w.cell? ⟨d, o + j, none⟩ = some u) {k : Nat} (hk : k < S.length) : w.rangeAt d (o + k * 2) [.int .i64 S[k].1, .int .i64 S[k].2] := fun j v hv => by
  have hj : j < 2 := (List.getElem?_eq_some_iff.1 hv).1
  have hb := flat_block (fun x : Int × Int => [x.1, x.2]) 2 S k j hk (fun _ _ => rfl) hj
  have := hs (k * 2 + j) v (by
    have e : [Value.int .i64 S[k].1, .int .i64 S[k].2] = iv [S[k].1, S[k].2] := rfl
    rw [e] at hv
    unfold iv at hv ⊢
    unfold flatS
    rw [List.getElem?_map] at hv ⊢
    rw [hb]
    exact hv)
  rw [← Nat.add_assoc] at this
  exact this
set_option maxRecDepth 100000 in
set_option maxHeartbeats 4000000 in
set_option linter.unusedSimpArgs false in
/-- Of two lists of stores that are the same. -/
theorem sameStores_any (S : List (Int × Int)) (v u : Value) (w : World) (hn : S.length ≤ 5000) (hv : Rd w v S.length (iv (flatS S))) (hu : Rd w u S.length (iv (flatS S))) :
    Calls Tryz.prog 27 #[v, u] w fun e w' => e = .returned (.bool true) ∧ Below w.heap.size w w' := by
  obtain ⟨A, cap, rfl, hcap, hcm, hrr⟩ := hv
  obtain ⟨A2, cap2, rfl, hcap2, hcm2, hrr2⟩ := hu
  have HRR := Lib.hid hrr
  have HRR2 := Lib.hid hrr2
  obtain ⟨N, hN⟩ : ∃ N, S.length = N := ⟨_, rfl⟩
  have HN := Lib.hid hN
  rw [hN] at hcap hcap2 hn ⊢
  have HB0 : Hid (Below w.heap.size w w) := Lib.hid (Below.refl _ _)
  have hu54 := Tryz.underlying105
  clear hrr hrr2 hN
  go_enter Tryz.func27, Tryz.ntmps27
  go_wp2_with fail
  go_loopw [5] (fun i wr => ∃ k : Nat, i = .int .i64 (k : Int) ∧ k ≤ N ∧ Hid (Below w.heap.size w wr)) (fun i _ => N - (intOf i).toNat)
  case atStart => exact ⟨0, rfl, by omega, HB0⟩
  case round =>
    clear HB0
    obtain ⟨k, rfl, hk, HB⟩ := hrel
    by_cases hlt : k < N
    · have hkc : k < S.length := by rw [HN.out]; exact hlt
      obtain ⟨bb, oo, rfl, hbl, hcells⟩ := HRR.out (by omega)
      obtain ⟨bb2, oo2, rfl, hbl2, hcells2⟩ := HRR2.out (by omega)
      have r1 : wr.drew.rangeAt bb (oo + k * 2) _ := storeAt (fun j u hj => (HB.out.cell (p := ⟨bb, oo + j, none⟩) hbl).trans (hcells j u hj)) hkc
      have r2 : wr.drew.rangeAt bb2 (oo2 + k * 2) _ := storeAt (fun j u hj => (HB.out.cell (p := ⟨bb2, oo2 + j, none⟩) hbl2).trans (hcells2 j u hj)) hkc
      generalize S[k].1 = a at *
      generalize S[k].2 = b at *
      have hi2 : (Tryz.prog.info? 105).map (·.size) = some [Value.int .i64 a, .int .i64 b].length := size54
      have hkI : (k : Int) < (N : Int) := by omega
      have HBD := Lib.hid HB.out.drew
      clear hcells hcells2
      go_wp2_with fail
      refine wp_region_held_drew (S := fun W => W.rangeAt bb (oo + k * 2) [.int .i64 a, .int .i64 b] ∧ W.rangeAt bb2 (oo2 + k * 2) [.int .i64 a, .int .i64 b]) (by kernel_rfl) ⟨r1, r2⟩ (fun hHeld => ?_)
      generalize wr.drew = w2 at *
      refine wpAnyH_take (i := 0) (v := .slice (some ⟨bb, oo, none⟩) N cap) rfl (by kernel_rfl) (by kernel_rfl) (by kernel_rfl) (fun _ _ _ h => h) (Or.inl ⟨by rfl, fun w hSw => by obtain ⟨h1, h2⟩ := hSw; go_simp⟩) (by assumption) ?_
      change wpAnyH _ _ _ _ _ _ _ (Act.put _ (some 17) _) _
      simp only [Act.put, List.setIfInBounds_toArray, List.set_cons_zero, List.set_cons_succ]
      refine wpAnyH_take (i := 1) (v := .int .i64 (k : Int)) rfl (by kernel_rfl) (by kernel_rfl) (by kernel_rfl) (fun _ _ _ h => h) (Or.inl ⟨by rfl, fun w hSw => by obtain ⟨h1, h2⟩ := hSw; go_simp⟩) (by assumption) ?_
      change wpAnyH _ _ _ _ _ _ _ (Act.put _ (some 18) _) _
      simp only [Act.put, List.setIfInBounds_toArray, List.set_cons_zero, List.set_cons_succ]
      refine wpAnyH_take (i := 2) (v := .pointer (some ⟨bb, oo + k * 2, none⟩)) rfl (by kernel_rfl) (by kernel_rfl) (by kernel_rfl) (fun _ _ _ h => h) (Or.inl ⟨by rfl, fun w hSw => by obtain ⟨h1, h2⟩ := hSw; go_simp⟩) (by assumption) ?_
      change wpAnyH _ _ _ _ _ _ _ (Act.put _ (some 19) _) _
      simp only [Act.put, List.setIfInBounds_toArray, List.set_cons_zero, List.set_cons_succ]
      refine wpAnyH_take (i := 3) (v := .agg #[.int .i64 a, .int .i64 b]) rfl (by kernel_rfl) (by kernel_rfl) (by kernel_rfl) (fun _ _ _ h => h) (yieldsIf_load_mid (by rfl) _ _ rfl _ _ rfl _ _ (fun w h => h.1) hu54 rfl hi2) (by assumption) ?_
      change wpAnyH _ _ _ _ _ _ _ (Act.put _ (some 20) _) _
      simp only [Act.put, List.setIfInBounds_toArray, List.set_cons_zero, List.set_cons_succ]
      refine wpAnyH_take (i := 4) (v := .slice (some ⟨bb2, oo2, none⟩) N cap2) rfl (by kernel_rfl) (by kernel_rfl) (by kernel_rfl) (fun _ _ _ h => h) (Or.inl ⟨by rfl, fun w hSw => by obtain ⟨h1, h2⟩ := hSw; go_simp⟩) (by assumption) ?_
      change wpAnyH _ _ _ _ _ _ _ (Act.put _ (some 21) _) _
      simp only [Act.put, List.setIfInBounds_toArray, List.set_cons_zero, List.set_cons_succ]
      refine wpAnyH_take (i := 5) (v := .int .i64 (k : Int)) rfl (by kernel_rfl) (by kernel_rfl) (by kernel_rfl) (fun _ _ _ h => h) (Or.inl ⟨by rfl, fun w hSw => by obtain ⟨h1, h2⟩ := hSw; go_simp⟩) (by assumption) ?_
      change wpAnyH _ _ _ _ _ _ _ (Act.put _ (some 22) _) _
      simp only [Act.put, List.setIfInBounds_toArray, List.set_cons_zero, List.set_cons_succ]
      refine wpAnyH_take (i := 6) (v := .pointer (some ⟨bb2, oo2 + k * 2, none⟩)) rfl (by kernel_rfl) (by kernel_rfl) (by kernel_rfl) (fun _ _ _ h => h) (Or.inl ⟨by rfl, fun w hSw => by obtain ⟨h1, h2⟩ := hSw; go_simp⟩) (by assumption) ?_
      change wpAnyH _ _ _ _ _ _ _ (Act.put _ (some 23) _) _
      simp only [Act.put, List.setIfInBounds_toArray, List.set_cons_zero, List.set_cons_succ]
      refine wpAnyH_take (i := 7) (v := .agg #[.int .i64 a, .int .i64 b]) rfl (by kernel_rfl) (by kernel_rfl) (by kernel_rfl) (fun _ _ _ h => h) (yieldsIf_load_mid (by rfl) _ _ rfl _ _ rfl _ _ (fun w h => h.2) hu54 rfl hi2) (by assumption) ?_
      change wpAnyH _ _ _ _ _ _ _ (Act.put _ (some 24) _) _
      simp only [Act.put, List.setIfInBounds_toArray, List.set_cons_zero, List.set_cons_succ]
      refine wpAnyH_take (i := 8) (v := .bool false) rfl (by kernel_rfl) (by kernel_rfl) (by kernel_rfl) (fun _ _ _ h => h) (Or.inl ⟨by rfl, fun w hSw => by obtain ⟨h1, h2⟩ := hSw; go_simp⟩) (by assumption) ?_
      change wpAnyH _ _ _ _ _ _ _ (Act.put _ (some 25) _) _
      simp only [Act.put, List.setIfInBounds_toArray, List.set_cons_zero, List.set_cons_succ]
      refine wpAnyH_done (by kernel_rfl) ?_ _
      go_wp2_with fail
      go_roundw
      case rel => exact ⟨k + 1, by simp, by omega, HBD⟩
      case measure => simp [intOf]; omega
    · obtain rfl : k = N := by omega
      go_wp2_with fail
      go_ret
      exact ⟨rfl, HB.out⟩
end Go.Proofs.YtpojhplnhppcpaaGreatDoor
