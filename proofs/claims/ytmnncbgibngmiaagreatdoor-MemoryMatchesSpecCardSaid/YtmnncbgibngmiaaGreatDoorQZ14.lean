/-
  What the reference's Seen and Image do.
-/
import Derived.Test.YtmnncbgibngmiaaGreatDoorQZ12
import Derived.Great.BuildSlice
namespace Go.Proofs.YtmnncbgibngmiaaGreatDoor
open Go.RowKit Go.Maps
theorem infoRow8 : (Tryz.prog.info? 39).map (fun i => (i.zero, i.size, i.bytes)) = some (some (.agg #[.int .i64 0, .int .i64 0, .int .i64 0, .int .i64 0, .int .i64 0, .int .i64 0, .int .i64 0, .int .i64 0]), 8, 64) := by kernel_rfl
theorem seen_take {m : PM} {k : Nat} (hk : k < m.L.length) : m.seen.take (k + 1) = m.seen.take k ++ [(m.line k).shows] := by
  have h1 : k < m.seen.length := by unfold PM.seen; rw [List.length_map]; exact hk
  rw [take_snoc' _ k h1]
  congr 2
  rw [PM.line_eq hk]
  exact List.getElem_map _
theorem img_take {m : PM} {k : Nat} (hk : k < m.L.length) : flatL (m.L.take (k + 1)) = flatL (m.L.take k) ++ ((m.line k).ws ++ [(m.line k).code]) := by
  rw [take_snoc' _ k hk, ← PM.line_eq hk]
  unfold flatL
  rw [List.flatMap_append]
  simp
set_option maxRecDepth 100000 in
set_option maxHeartbeats 8000000 in
set_option linter.unusedSimpArgs false in
theorem rSeen_any (p : Nat) (m : PM) (F : Nat → Prop) (w : World) (hm : m.Ok) (h : Ref w p m F) :
    Calls Tryz.prog 28 #[.pointer (some ⟨p, 0, none⟩)] w (Cloned w 39 8 m.L.length (iv m.seen.flatten)) := by
  have HRF := Lib.hid h
  have HM := Lib.hid hm
  have HB0 : Hid (Below w.heap.size w w) := Lib.hid (Below.refl _ _)
  have HS0 : Hid (Sl w 39 8 (.slice none 0 0) 0 (iv (m.seen.take 0).flatten)) := Lib.hid (Sl.nil _ _ _)
  have HO0 : Hid (∀ q, (Value.slice none 0 0).ownBlock = some q → w.heap.size ≤ q) := Lib.hid (fun q hq => by cases hq)
  have hsl : m.seen.take m.L.length = m.seen := List.take_of_length_le (by unfold PM.seen; rw [List.length_map]; exact Nat.le_refl _)
  have HSL := Lib.hid hsl
  obtain ⟨N, hN⟩ : ∃ N, m.L.length = N := ⟨_, rfl⟩
  have HN := Lib.hid hN
  have hN2 : N ≤ 4096 := by rw [← hN]; exact hm.few
  rw [hN] at HSL ⊢
  obtain ⟨i0, his, hz0, hz1, hz2⟩ := info_parts infoRow8
  have HIS := Lib.hid his
  have HZ0 := Lib.hid hz0
  have HZ1 := Lib.hid hz1
  have HZ2 := Lib.hid hz2
  clear h hm hsl hN his hz0 hz1 hz2
  go_enter Tryz.func28, Tryz.ntmps28
  go_wp2_with fail
  go_loopw [3, 4] (fun u i wr => ∃ k : Nat, i = .int .i64 (k : Int) ∧ k ≤ N ∧ Hid (Sl wr 39 8 u k (iv (m.seen.take k).flatten)) ∧ Hid (∀ q, u.ownBlock = some q → w.heap.size ≤ q) ∧ Hid (Below w.heap.size w wr)) (fun _ i _ => N - (intOf i).toNat)
  case atStart => exact ⟨0, rfl, by omega, HS0, HO0, HB0⟩
  case round =>
    clear HS0 HO0 HB0
    obtain ⟨k, rfl, hk, HS, HO, HB⟩ := hrel
    have hrf := HRF.out.below HB.out
    have hrf2 := hrf
    obtain ⟨d, o, cap, ev, X, h⟩ := hrf2
    have c0 := h.c0
    have hcp := h.cap_
    rw [HN.out] at c0 hcp
    obtain ⟨UA, ucap, rfl, _⟩ := HS.out.shape
    by_cases hlt : k < N
    · have hkl : k < m.L.length := by rw [HN.out]; exact hlt
      have hsh := rShows_any p k m F wr hkl HM.out hrf
      have h88 : (m.line k).shows.length = 8 := ((HM.out.line hkl).after _).1
      obtain ⟨a0, a1, a2, a3, a4, a5, a6, a7, hS8⟩ := line8 h88
      have htk := seen_take hkl
      rw [hS8] at hsh htk
      rw [show (iv [a0, a1, a2, a3, a4, a5, a6, a7]).toArray = #[.int .i64 a0, .int .i64 a1, .int .i64 a2, .int .i64 a3, .int .i64 a4, .int .i64 a5, .int .i64 a6, .int .i64 a7] from rfl] at hsh
      have HSH := Lib.hid hsh
      have HTK := Lib.hid htk
      have hkI : (k : Int) < (N : Int) := by omega
      clear hsh htk hS8 hkl h hrf h88
      go_wp2_with fail
      refine HSH.out.mono ?_
      rintro e w2 ⟨rfl, hb⟩
      have HB2 := Lib.hid (bel_on HB.out hb)
      have HS2 := Lib.hid ((HS.out.keep fun q hq => hb.block q (HS.out.lt hq)).keep (w' := w2.alloc (.cells #[.int .i64 a0, .int .i64 a1, .int .i64 a2, .int .i64 a3, .int .i64 a4, .int .i64 a5, .int .i64 a6, .int .i64 a7] 39)) fun q hq => (bel_new w2 _).block q (Nat.lt_of_lt_of_le (HS.out.lt hq) hb.size))
      have HNW : Hid (∀ j u, (iv [a0, a1, a2, a3, a4, a5, a6, a7])[j]? = some u → (w2.alloc (.cells #[.int .i64 a0, .int .i64 a1, .int .i64 a2, .int .i64 a3, .int .i64 a4, .int .i64 a5, .int .i64 a6, .int .i64 a7] 39)).cell? ((⟨w2.heap.size, 0, none⟩ : Addr).add j) = some u) := Lib.hid (fun j u hu => by
        rw [Addr.add_lit, Nat.zero_add]
        exact (Arr.new w2 (iv [a0, a1, a2, a3, a4, a5, a6, a7]) 39).cell hu)
      clear hb HSH HS
      go_wp2_with (at_builtin; refine wpList_append_sl _ rfl _ _ 71 rfl 39 i0 _ 8 64 Tryz.underlying71 HIS.out HZ0.out HZ1.out HZ2.out rfl (by decide) _ k (iv (m.seen.take k).flatten) rfl HS2.out ⟨w2.heap.size, 0, none⟩ 1 1 (iv [a0, a1, a2, a3, a4, a5, a6, a7]) rfl rfl HNW.out (iv_one _) (by unfold maxLen; omega) (by omega) ?_)
      intro v' w5 hs5 hg5 ho5
      have hB4 := bel_on HB2.out (bel_new w2 (.cells #[.int .i64 a0, .int .i64 a1, .int .i64 a2, .int .i64 a3, .int .i64 a4, .int .i64 a5, .int .i64 a6, .int .i64 a7] 39))
      have HB5 := Lib.hid (hB4.grown hg5 hB4.size (fun q hq => HO.out q hq))
      have HO5 : Hid (∀ q, v'.ownBlock = some q → w.heap.size ≤ q) := Lib.hid (own_of (by have := HB2.out.size; simp; omega) HO.out ho5)
      have HS5 : Hid (Sl w5 39 8 v' (k + 1) (iv (m.seen.take (k + 1)).flatten)) := Lib.hid (by
        rw [HTK.out, List.flatten_append, show iv ((m.seen.take k).flatten ++ [[a0, a1, a2, a3, a4, a5, a6, a7]].flatten) = iv (m.seen.take k).flatten ++ iv [a0, a1, a2, a3, a4, a5, a6, a7] by unfold iv; simp]
        exact hs5)
      obtain ⟨VA, vcap, rfl, _⟩ := hs5.shape
      clear hs5 hg5 ho5 hB4 HS2 HNW HB2 HO HTK
      go_wp2_with fail
      go_roundw
      case rel => exact ⟨k + 1, by simp, by omega, HS5, HO5, HB5⟩
      case measure => simp [intOf]; omega
    · obtain rfl : k = N := by omega
      have hs9 := HS.out
      rw [HSL.out] at hs9
      have HS9 := Lib.hid hs9
      clear hs9 HS h hrf
      go_wp2_with fail
      go_ret
      exact ⟨_, rfl, HS9.out, HO.out, HB.out⟩
theorem fill9 {L : List Int} (h8 : L.length = 8) (e : Int) (n : Nat) (hn : n = 9) : Instr.fill (fun i => some (i * n, n)) ((Array.range (1 * n)).map ((Value.agg #[.int .i64 0, .int .i64 0, .int .i64 0, .int .i64 0, .int .i64 0, .int .i64 0, .int .i64 0, .int .i64 0, .int .i64 0]).cells[· % (Value.agg #[.int .i64 0, .int .i64 0, .int .i64 0, .int .i64 0, .int .i64 0, .int .i64 0, .int .i64 0, .int .i64 0, .int .i64 0]).cells.size]!)) [(0, Value.agg (iv (L ++ [e])).toArray)] = some (iv (L ++ [e])).toArray := by
  subst hn
  obtain ⟨a0, a1, a2, a3, a4, a5, a6, a7, rfl⟩ := line8 h8
  kernel_rfl
set_option maxRecDepth 100000 in
set_option maxHeartbeats 8000000 in
set_option linter.unusedSimpArgs false in
theorem rImage_any (p : Nat) (m : PM) (F : Nat → Prop) (w : World) (hm : m.Ok) (h : Ref w p m F) :
    Calls Tryz.prog 25 #[.pointer (some ⟨p, 0, none⟩)] w (Cloned w 57 9 m.L.length (iv (flatL m.L))) := by
  have HRF := Lib.hid h
  have HM := Lib.hid hm
  have HB0 : Hid (Below w.heap.size w w) := Lib.hid (Below.refl _ _)
  have HS0 : Hid (Sl w 57 9 (.slice none 0 0) 0 (iv (flatL (m.L.take 0)))) := Lib.hid (Sl.nil _ _ _)
  have HO0 : Hid (∀ q, (Value.slice none 0 0).ownBlock = some q → w.heap.size ≤ q) := Lib.hid (fun q hq => by cases hq)
  have HSL : Hid (m.L.take m.L.length = m.L) := Lib.hid List.take_length
  obtain ⟨N, hN⟩ : ∃ N, m.L.length = N := ⟨_, rfl⟩
  have HN := Lib.hid hN
  have hN2 : N ≤ 4096 := by rw [← hN]; exact hm.few
  rw [hN] at HSL ⊢
  obtain ⟨i0, his, hz0, hz1, hz2⟩ := info_parts infoLine
  have HIS := Lib.hid his
  have HZ0 := Lib.hid hz0
  have HZ1 := Lib.hid hz1
  have HZ2 := Lib.hid hz2
  have hu22 := Tryz.underlying39
  clear h hm hN his hz0 hz1 hz2
  go_enter Tryz.func25, Tryz.ntmps25
  go_wp2_with fail
  go_loopw [3, 4] (fun u i wr => ∃ k : Nat, i = .int .i64 (k : Int) ∧ k ≤ N ∧ Hid (Sl wr 57 9 u k (iv (flatL (m.L.take k)))) ∧ Hid (∀ q, u.ownBlock = some q → w.heap.size ≤ q) ∧ Hid (Below w.heap.size w wr)) (fun _ i _ => N - (intOf i).toNat)
  case atStart => exact ⟨0, rfl, by omega, HS0, HO0, HB0⟩
  case round =>
    clear HS0 HO0 HB0
    obtain ⟨k, rfl, hk, HS, HO, HB⟩ := hrel
    obtain ⟨d, o, cap, ev, X, h⟩ := HRF.out.below HB.out
    have c0 := h.c0
    have hcp := h.cap_
    rw [HN.out] at c0 hcp
    obtain ⟨UA, ucap, rfl, _⟩ := HS.out.shape
    by_cases hlt : k < N
    · have hkl : k < m.L.length := by rw [HN.out]; exact hlt
      obtain ⟨_, _, _, r1, r2, _, _, _⟩ := h.at HM.out hkl
      have h8 := (HM.out.line hkl).len
      have HTK := Lib.hid (img_take hkl)
      have hi22 := size22' h8
      have HBU := Lib.hid fun W => built_line h8 (m.line k).code W
      have HF9 := Lib.hid fun n hn => fill9 h8 (m.line k).code n hn
      have d0 := cell_below (bel_drew wr) c0
      have d1 := range_below (bel_drew wr) r1
      have d2 := cell_below (bel_drew wr) r2
      generalize (m.line k).ws = ws at *
      generalize (m.line k).code = c at *
      have hkI : (k : Int) < (N : Int) := by omega
      have HSd : Hid (Sl wr.drew 57 9 (.slice UA k ucap) k (iv (flatL (m.L.take k)))) := Lib.hid (HS.out.keep fun _ _ => rfl)
      have HBd := Lib.hid (bel_on HB.out (bel_drew wr))
      have hl9 : (iv (ws ++ [c])).length = 9 := by rw [iv_len, List.length_append, h8]; rfl
      have HL9 := Lib.hid hl9
      have hbd : p < wr.heap.size ∧ d < wr.heap.size := ⟨h.mem.lt, h.lt d h.ownD⟩
      have hpd9 : ∀ q, (Value.slice UA k ucap).ownBlock = some q → q ≠ p ∧ q ≠ d := fun q hq => by
        have h1 := HO.out q hq
        have h2 := HRF.out.lt
        obtain ⟨d', o', cap', ev', X', h'⟩ := HRF.out
        have e1 : p < w.heap.size := h'.mem.lt
        have e2 : d < w.heap.size := HRF.out.lt d h.ownD
        omega
      have HPD := Lib.hid hpd9
      clear h r1 r2 HS HB hl9 hpd9
      go_wp2_with fail
      clear c0
      refine wp_region_held_drew (S := fun W => W.cell? ⟨p, 0, none⟩ = some (.slice (some ⟨d, o, none⟩) N cap) ∧ W.cell? ⟨d, o + k * 11 + 8, none⟩ = some (.int .i64 c) ∧ W.rangeAt d (o + k * 11) (iv ws)) (by kernel_rfl) ⟨d0, d2, d1⟩ (fun hHeld => ?_)
      generalize wr.drew = w2 at *
      refine wpAnyH_take (i := 0) (v := .slice UA k ucap) rfl (by kernel_rfl) (by kernel_rfl) (by kernel_rfl) (fun _ _ _ h => h) (Or.inl ⟨by rfl, fun w hSw => by obtain ⟨h1, h2, h3⟩ := hSw; go_simp⟩) (by assumption) ?_
      change wpAnyH _ _ _ _ _ _ _ (Act.put _ (some 14) _) _
      simp only [Act.put, List.setIfInBounds_toArray, List.set_cons_zero, List.set_cons_succ]
      refine wpAnyH_take (i := 1) (v := .pointer (some ⟨p, 0, none⟩)) rfl (by kernel_rfl) (by kernel_rfl) (by kernel_rfl) (fun _ _ _ h => h) (Or.inl ⟨by rfl, fun w hSw => by obtain ⟨h1, h2, h3⟩ := hSw; go_simp⟩) (by assumption) ?_
      change wpAnyH _ _ _ _ _ _ _ (Act.put _ (some 15) _) _
      simp only [Act.put, List.setIfInBounds_toArray, List.set_cons_zero, List.set_cons_succ]
      refine wpAnyH_take (i := 2) (v := .pointer (some ⟨p, 0, none⟩)) rfl (by kernel_rfl) (by kernel_rfl) (by kernel_rfl) (fun _ _ _ h => h) (Or.inl ⟨by rfl, fun w hSw => by obtain ⟨h1, h2, h3⟩ := hSw; go_simp⟩) (by assumption) ?_
      change wpAnyH _ _ _ _ _ _ _ (Act.put _ (some 16) _) _
      simp only [Act.put, List.setIfInBounds_toArray, List.set_cons_zero, List.set_cons_succ]
      refine wpAnyH_take (i := 3) (v := .pointer (some ⟨p, 0, none⟩)) rfl (by kernel_rfl) (by kernel_rfl) (by kernel_rfl) (fun _ _ _ h => h) (Or.inl ⟨by rfl, fun w hSw => by obtain ⟨h1, h2, h3⟩ := hSw; go_simp⟩) (by assumption) ?_
      change wpAnyH _ _ _ _ _ _ _ (Act.put _ (some 17) _) _
      simp only [Act.put, List.setIfInBounds_toArray, List.set_cons_zero, List.set_cons_succ]
      refine wpAnyH_take (i := 4) (v := .slice (some ⟨d, o, none⟩) N cap) rfl (by kernel_rfl) (by kernel_rfl) (by kernel_rfl) (fun _ _ _ h => h) (Or.inl ⟨by rfl, fun w hSw => by obtain ⟨h1, h2, h3⟩ := hSw; go_simp⟩) (by assumption) ?_
      change wpAnyH _ _ _ _ _ _ _ (Act.put _ (some 18) _) _
      simp only [Act.put, List.setIfInBounds_toArray, List.set_cons_zero, List.set_cons_succ]
      refine wpAnyH_take (i := 5) (v := .int .i64 (k : Int)) rfl (by kernel_rfl) (by kernel_rfl) (by kernel_rfl) (fun _ _ _ h => h) (Or.inl ⟨by rfl, fun w hSw => by obtain ⟨h1, h2, h3⟩ := hSw; go_simp⟩) (by assumption) ?_
      change wpAnyH _ _ _ _ _ _ _ (Act.put _ (some 19) _) _
      simp only [Act.put, List.setIfInBounds_toArray, List.set_cons_zero, List.set_cons_succ]
      refine wpAnyH_take (i := 6) (v := .pointer (some ⟨d, o + k * 11, none⟩)) rfl (by kernel_rfl) (by kernel_rfl) (by kernel_rfl) (fun _ _ _ h => h) (Or.inl ⟨by rfl, fun w hSw => by obtain ⟨h1, h2, h3⟩ := hSw; go_simp⟩) (by assumption) ?_
      change wpAnyH _ _ _ _ _ _ _ (Act.put _ (some 20) _) _
      simp only [Act.put, List.setIfInBounds_toArray, List.set_cons_zero, List.set_cons_succ]
      refine wpAnyH_take (i := 7) (v := .pointer (some ⟨d, o + k * 11, none⟩)) rfl (by kernel_rfl) (by kernel_rfl) (by kernel_rfl) (fun _ _ _ h => h) (Or.inl ⟨by rfl, fun w hSw => by obtain ⟨h1, h2, h3⟩ := hSw; go_simp⟩) (by assumption) ?_
      change wpAnyH _ _ _ _ _ _ _ (Act.put _ (some 21) _) _
      simp only [Act.put, List.setIfInBounds_toArray, List.set_cons_zero, List.set_cons_succ]
      refine wpAnyH_take (i := 8) (v := .agg (iv ws).toArray) rfl (by kernel_rfl) (by kernel_rfl) (by kernel_rfl) (fun _ _ _ h => h) (yieldsIf_load_mid (by rfl) _ _ rfl _ _ rfl _ _ (fun w h => h.2.2) hu22 rfl hi22) (by assumption) ?_
      change wpAnyH _ _ _ _ _ _ _ (Act.put _ (some 22) _) _
      simp only [Act.put, List.setIfInBounds_toArray, List.set_cons_zero, List.set_cons_succ]
      refine wpAnyH_take (i := 9) (v := .pointer (some ⟨p, 0, none⟩)) rfl (by kernel_rfl) (by kernel_rfl) (by kernel_rfl) (fun _ _ _ h => h) (Or.inl ⟨by rfl, fun w hSw => by obtain ⟨h1, h2, h3⟩ := hSw; go_simp⟩) (by assumption) ?_
      change wpAnyH _ _ _ _ _ _ _ (Act.put _ (some 23) _) _
      simp only [Act.put, List.setIfInBounds_toArray, List.set_cons_zero, List.set_cons_succ]
      refine wpAnyH_take (i := 10) (v := .pointer (some ⟨p, 0, none⟩)) rfl (by kernel_rfl) (by kernel_rfl) (by kernel_rfl) (fun _ _ _ h => h) (Or.inl ⟨by rfl, fun w hSw => by obtain ⟨h1, h2, h3⟩ := hSw; go_simp⟩) (by assumption) ?_
      change wpAnyH _ _ _ _ _ _ _ (Act.put _ (some 24) _) _
      simp only [Act.put, List.setIfInBounds_toArray, List.set_cons_zero, List.set_cons_succ]
      refine wpAnyH_take (i := 11) (v := .pointer (some ⟨p, 0, none⟩)) rfl (by kernel_rfl) (by kernel_rfl) (by kernel_rfl) (fun _ _ _ h => h) (Or.inl ⟨by rfl, fun w hSw => by obtain ⟨h1, h2, h3⟩ := hSw; go_simp⟩) (by assumption) ?_
      change wpAnyH _ _ _ _ _ _ _ (Act.put _ (some 25) _) _
      simp only [Act.put, List.setIfInBounds_toArray, List.set_cons_zero, List.set_cons_succ]
      refine wpAnyH_take (i := 12) (v := .slice (some ⟨d, o, none⟩) N cap) rfl (by kernel_rfl) (by kernel_rfl) (by kernel_rfl) (fun _ _ _ h => h) (Or.inl ⟨by rfl, fun w hSw => by obtain ⟨h1, h2, h3⟩ := hSw; go_simp⟩) (by assumption) ?_
      change wpAnyH _ _ _ _ _ _ _ (Act.put _ (some 26) _) _
      simp only [Act.put, List.setIfInBounds_toArray, List.set_cons_zero, List.set_cons_succ]
      refine wpAnyH_take (i := 13) (v := .int .i64 (k : Int)) rfl (by kernel_rfl) (by kernel_rfl) (by kernel_rfl) (fun _ _ _ h => h) (Or.inl ⟨by rfl, fun w hSw => by obtain ⟨h1, h2, h3⟩ := hSw; go_simp⟩) (by assumption) ?_
      change wpAnyH _ _ _ _ _ _ _ (Act.put _ (some 27) _) _
      simp only [Act.put, List.setIfInBounds_toArray, List.set_cons_zero, List.set_cons_succ]
      refine wpAnyH_take (i := 14) (v := .pointer (some ⟨d, o + k * 11, none⟩)) rfl (by kernel_rfl) (by kernel_rfl) (by kernel_rfl) (fun _ _ _ h => h) (Or.inl ⟨by rfl, fun w hSw => by obtain ⟨h1, h2, h3⟩ := hSw; go_simp⟩) (by assumption) ?_
      change wpAnyH _ _ _ _ _ _ _ (Act.put _ (some 28) _) _
      simp only [Act.put, List.setIfInBounds_toArray, List.set_cons_zero, List.set_cons_succ]
      refine wpAnyH_take (i := 15) (v := .pointer (some ⟨d, o + k * 11 + 8, none⟩)) rfl (by kernel_rfl) (by kernel_rfl) (by kernel_rfl) (fun _ _ _ h => h) (Or.inl ⟨by rfl, fun w hSw => by obtain ⟨h1, h2, h3⟩ := hSw; go_simp⟩) (by assumption) ?_
      change wpAnyH _ _ _ _ _ _ _ (Act.put _ (some 29) _) _
      simp only [Act.put, List.setIfInBounds_toArray, List.set_cons_zero, List.set_cons_succ]
      refine wpAnyH_take (i := 16) (v := .int .i64 c) rfl (by kernel_rfl) (by kernel_rfl) (by kernel_rfl) (fun _ _ _ h => h) (Or.inl ⟨by rfl, fun w hSw => by obtain ⟨h1, h2, h3⟩ := hSw; go_simp⟩) (by assumption) ?_
      change wpAnyH _ _ _ _ _ _ _ (Act.put _ (some 30) _) _
      simp only [Act.put, List.setIfInBounds_toArray, List.set_cons_zero, List.set_cons_succ]
      refine wpAnyH_take (i := 17) (v := .agg (iv (ws ++ [c])).toArray) rfl (by kernel_rfl) (by kernel_rfl) (by kernel_rfl) (fun _ _ _ h => h) (yields_build (by rfl) _ _ rfl (fun w => by simpa [Act.eval] using HBU.out w)) (by assumption) ?_
      change wpAnyH _ _ _ _ _ _ _ (Act.put _ (some 31) _) _
      simp only [Act.put, List.setIfInBounds_toArray, List.set_cons_zero, List.set_cons_succ]
      refine wpAnyH_ready (rs := [18]) (by kernel_rfl) (by simp) ?_
      refine AllReadyH.cons rfl (fun K hK => ?_) AllReadyH.nil
      refine wp_buildSlice 47 57 1 _ rfl (iv (ws ++ [c])).toArray i0 _ Tryz.underlying47 HIS.out HZ0.out (by rw [HZ1.out]; decide) (by rw [HZ1.out]; decide) (by simpa [Act.eval] using HF9.out _ HZ1.out) ?_
      refine hK.out _ _ ⟨cell_below (bel_new _ _) d0, cell_below (bel_new _ _) d2, range_below (bel_new _ _) d1⟩ (fun hHeld1 => ?_)
      clear hK K hHeld
      have HS2 := Lib.hid (HSd.out.keep (w' := w2.alloc (.cells (iv (ws ++ [c])).toArray 57)) fun q hq => (bel_new w2 _).block q (HSd.out.lt hq))
      have HNW : Hid (∀ j u, (iv (ws ++ [c]))[j]? = some u → (w2.alloc (.cells (iv (ws ++ [c])).toArray 57)).cell? ((⟨w2.heap.size, 0, none⟩ : Addr).add j) = some u) := Lib.hid (fun j u hu => by
        rw [Addr.add_lit, Nat.zero_add]
        exact (Arr.new w2 (iv (ws ++ [c])) 57).cell hu)
      refine wpAnyH_ready (rs := [19]) (by kernel_rfl) (by simp) ?_
      refine AllReadyH.cons rfl (fun K hK => ?_) AllReadyH.nil
      refine wp_append_sl _ _ 47 rfl 57 i0 _ 9 72 Tryz.underlying47 HIS.out HZ0.out HZ1.out HZ2.out rfl (by decide) (.slice UA k ucap) k (iv (flatL (m.L.take k))) rfl HS2.out ⟨w2.heap.size, 0, none⟩ 1 1 (iv (ws ++ [c])) rfl (by rw [HL9.out]) HNW.out (iv_one _) (by unfold maxLen; omega) (by omega) ?_
      intro v' w5 hs5 hg5 ho5
      have hB4 := bel_on HBd.out (bel_new w2 (.cells (iv (ws ++ [c])).toArray 57))
      have HB5 := Lib.hid (hB4.grown hg5 hB4.size (fun q hq => HO.out q hq))
      have HO5 : Hid (∀ q, v'.ownBlock = some q → w.heap.size ≤ q) := Lib.hid (own_of (by have := hB4.size; exact this) HO.out ho5)
      have HS5 : Hid (Sl w5 57 9 v' (k + 1) (iv (flatL (m.L.take (k + 1))))) := Lib.hid (by
        rw [HTK.out, show iv (flatL (m.L.take k) ++ (ws ++ [c])) = iv (flatL (m.L.take k)) ++ iv (ws ++ [c]) by unfold iv; simp]
        exact hs5)
      obtain ⟨VA, vcap, rfl, _⟩ := hs5.shape
      refine hK.out _ _ ⟨hg5.cell hHeld1.1 (fun e => (HPD.out _ e.symm).1 rfl), hg5.cell hHeld1.2.1 (fun e => (HPD.out _ e.symm).2 rfl), fun j u hj => hg5.cell (hHeld1.2.2 j u hj) (fun e => (HPD.out _ e.symm).2 rfl)⟩ (fun hHeld2 => ?_)
      clear hK K hs5 hg5 ho5 hB4 HS2 HNW HBd HO HTK hHeld1
      refine wpAnyH_take (i := 20) (v := .slice VA (k + 1) vcap) rfl (by kernel_rfl) (by kernel_rfl) (by kernel_rfl) (fun _ _ _ h => h) (Or.inl ⟨by rfl, fun w hSw => by obtain ⟨h1, h2, h3⟩ := hSw; go_simp⟩) (by assumption) ?_
      change wpAnyH _ _ _ _ _ _ _ (Act.put _ (some 3) _) _
      simp only [Act.put, List.setIfInBounds_toArray, List.set_cons_zero, List.set_cons_succ]
      refine wpAnyH_done (by kernel_rfl) ?_ _
      go_wp2_with fail
      go_roundw
      case rel => exact ⟨k + 1, by simp, by omega, HS5, HO5, HB5⟩
      case measure => simp [intOf]; omega
    · obtain rfl : k = N := by omega
      have hs9 := HS.out
      rw [HSL.out] at hs9
      have HS9 := Lib.hid hs9
      clear hs9 HS h
      go_wp2_with fail
      go_ret
      exact ⟨_, rfl, HS9.out, HO.out, HB.out⟩
end Go.Proofs.YtmnncbgibngmiaaGreatDoor
