/-
  What the reference's Evict and Fence do.
-/
import Derived.Test.YtmnncbgibngmiaaGreatDoorQZ7
namespace Go.Proofs.YtmnncbgibngmiaaGreatDoor
open Go.RowKit Go.Maps
set_option maxRecDepth 100000 in
set_option maxHeartbeats 8000000 in
set_option linter.unusedSimpArgs false in
theorem rEvict_any (p : Nat) (z n : Int) (m : PM) (F : Nat → Prop) (w : World) (hm : m.Ok) (hs : m.Small 1000) (h : Ref w p m F) :
    Calls Tryz.prog 48 #[.pointer (some ⟨p, 0, none⟩), .int .i64 z, .int .i64 n] w fun e w' => e = .returned (.int .i64 (rec_ (evictP m z n) (evt 5 z n 0 Z8)).1) ∧ RStep F w p (rec_ (evictP m z n) (evt 5 z n 0 Z8)).2 w' := by
  have hha := rHas_any p z m F w h
  have HS := Lib.hid (RStep.refl h)
  obtain ⟨R, hR⟩ : ∃ R, rec_ (evictP m z n) (evt 5 z n 0 Z8) = R := ⟨_, rfl⟩
  rw [hR]
  unfold evictP at hR
  cases hh : m.has z with
  | false =>
    rw [hh, if_pos rfl, rec_1 (show (40 : Int) ≠ 0 by decide)] at hR
    subst hR
    rw [hh] at hha
    have HH := Lib.hid hha
    clear hha h hm hs
    go_enter Tryz.func48, Tryz.ntmps48
    go_wp2_with (go_at_call 66; refine HH.out.mono ?_; rintro e w' ⟨rfl, hw'⟩; obtain rfl := hw'.symm)
    go_ret
    exact ⟨rfl, HS.out⟩
  | true =>
    have hin : 0 ≤ z ∧ z < (m.L.length : Int) := by unfold PM.has at hh; simpa using hh
    obtain ⟨i, rfl⟩ : ∃ i : Nat, z = i := ⟨z.toNat, by omega⟩
    have hi : i < m.L.length := by omega
    rw [hh] at hha
    rw [hh, if_neg (by simp), Int.toNat_natCast] at hR
    have HH := Lib.hid hha
    have hrf := h
    obtain ⟨d, o, cap, ev, X, h⟩ := h
    obtain ⟨v, _, _, _, _, h9, _, hsl⟩ := h.at hm hi
    obtain ⟨VA, vcap, rfl, _⟩ := hsl.shape
    have c0 := h.c0
    have hcp := h.cap_
    have hiI : (i : Int) < (m.L.length : Int) := by omega
    by_cases hbad : n < 1 ∨ ((m.line i).pend.length : Int) < n
    · rw [if_pos hbad, rec_1 (show (1 : Int) ≠ 0 by decide)] at hR
      subst hR
      generalize (m.line i).pend.length = pl at *
      generalize m.L.length = N at *
      clear hha hh h hm hs hrf hsl
      by_cases hb1 : n < 1
      · clear hbad
        go_enter Tryz.func48, Tryz.ntmps48
        go_wp2_with (go_at_call 66; refine HH.out.mono ?_; rintro e w' ⟨rfl, hw'⟩; obtain rfl := hw'.symm)
        go_ret
        exact ⟨rfl, HS.out⟩
      · have hb2 : (pl : Int) < n := hbad.resolve_left hb1
        clear hbad
        go_enter Tryz.func48, Tryz.ntmps48
        go_wp2_with (go_at_call 66; refine HH.out.mono ?_; rintro e w' ⟨rfl, hw'⟩; obtain rfl := hw'.symm)
        go_ret
        exact ⟨rfl, HS.out⟩
    · have hb1 : ¬ n < 1 := fun h => hbad (.inl h)
      have hb2 : ¬ ((m.line i).pend.length : Int) < n := fun h => hbad (.inr h)
      obtain ⟨k, rfl⟩ : ∃ k : Nat, n = k := ⟨n.toNat, by omega⟩
      rw [if_neg hbad, rec_0 rfl, Int.toNat_natCast] at hR
      have HSE := Lib.hid (rSettle_any p i k m F w hi (by omega) hm hs hrf)
      have hne : (m.upd i (·.settle k)).ev.length ≤ 1000 := hs.ev
      generalize m.upd i (·.settle k) = m1 at *
      generalize (m.line i).pend.length = pl at *
      generalize m.L.length = N at *
      clear hha hh h hm hs hrf hsl hbad HS
      go_enter Tryz.func48, Tryz.ntmps48
      go_wp2_with (go_at_call 66; refine HH.out.mono ?_; rintro e w' ⟨rfl, hw'⟩; obtain rfl := hw'.symm)
      refine HSE.out.mono ?_
      rintro e w2 ⟨rfl, hst⟩
      obtain ⟨d2, o2, cap2, ev, X2, h2⟩ := hst.1
      obtain ⟨A, ecap, rfl, _⟩ := h2.evs.shape
      have HB1 := bel_new w2 (.cells (iv (evt 5 (i : Int) (k : Int) 0 Z8)).toArray 79)
      have HREC := Lib.hid fun (ev' : Value) (w3 : World) hsl hg ho => hst.trans (h2.recorded (evt 5 (i : Int) (k : Int) 0 Z8) HB1 (ev' := ev') (w3 := w3) hsl hg ho)
      have HC2 := Lib.hid fun (w3 : World) hg => h2.cells2 HB1 (w3 := w3) hg
      have HEV := Lib.hid (h2.evs.keep fun q hq => HB1.block q (h2.evs.lt hq))
      have HNW : Hid (∀ j u, (iv (evt 5 (i : Int) (k : Int) 0 Z8))[j]? = some u → (w2.alloc (.cells (iv (evt 5 (i : Int) (k : Int) 0 Z8)).toArray 79)).cell? ((⟨w2.heap.size, 0, none⟩ : Addr).add j) = some u) := Lib.hid (fun j u hu => by
        rw [Addr.add_lit, Nat.zero_add]
        exact (Arr.new w2 _ _).cell hu)
      have c2 := h2.c2
      obtain ⟨i0, his, hz0, hz1, hz2⟩ := info_parts infoEvent
      have HIS := Lib.hid his
      have HZ0 := Lib.hid hz0
      have HZ1 := Lib.hid hz1
      have HZ2 := Lib.hid hz2
      clear his hz0 hz1 hz2 HB1
      generalize hNE : m1.ev.length = NE at *
      subst hR
      clear hst h2 HSE c0 h9 hNE
      go_wp2_with (at_builtin; refine wpList_append_sl _ rfl _ _ 29 rfl 79 i0 _ 12 96 Tryz.underlying29 HIS.out HZ0.out HZ1.out HZ2.out rfl (by decide) (.slice A NE ecap) NE (iv m1.ev.flatten) rfl HEV.out ⟨w2.heap.size, 0, none⟩ 1 1 (iv (evt 5 (i : Int) (k : Int) 0 Z8)) rfl rfl HNW.out (iv_one _) (by unfold maxLen; omega) (by omega) ?_; intro ev' w3 hsl hg ho; obtain ⟨EA2, ecap2, rfl, _⟩ := hsl.shape; have HFIN := Lib.hid (HREC.out _ _ hsl hg ho); obtain ⟨e2, ef2⟩ := HC2.out _ hg; clear hsl hg ho)
      go_ret
      exact ⟨rfl, HFIN.out⟩
/-! ### the fence -/
def fenceTo (m : PM) : Nat → PM
  | 0 => m
  | k + 1 => (fenceTo m k).upd k fun l => l.settle l.mark
theorem fenceTo_len (m : PM) : ∀ k, (fenceTo m k).L.length = m.L.length
  | 0 => rfl
  | k + 1 => by unfold fenceTo; rw [PM.upd_len, fenceTo_len m k]
theorem fenceTo_line (m : PM) : ∀ k, k ≤ m.L.length → ∀ j, (fenceTo m k).line j = if j < k then (m.line j).settle (m.line j).mark else m.line j
  | 0, _, _ => rfl
  | k + 1, h, j => by
    unfold fenceTo
    rw [PM.upd_line _ (by rw [fenceTo_len]; omega), fenceTo_line m k (by omega), fenceTo_line m k (by omega)]
    by_cases e : j = k
    · subst e
      rw [if_pos rfl, if_neg (by omega), if_pos (by omega)]
    · rw [if_neg e]
      by_cases h2 : j < k
      · rw [if_pos h2, if_pos (by omega)]
      · rw [if_neg h2, if_neg (by omega)]
theorem fenceTo_rest (m : PM) : ∀ k, (fenceTo m k).span = m.span ∧ (fenceTo m k).ev = m.ev
  | 0 => ⟨rfl, rfl⟩
  | k + 1 => fenceTo_rest m k
theorem fenceTo_ok {m : PM} (hm : m.Ok) : ∀ k, k ≤ m.L.length → (fenceTo m k).Ok
  | 0, _ => hm
  | k + 1, h => by
    have ih := fenceTo_ok hm k (by omega)
    exact settle_ok ih (by rw [fenceTo_len]; omega)
theorem settle_pendR (l : PL) (n : Nat) : (l.settle n).pend.length ≤ l.pend.length := by
  unfold PL.settle
  split
  · exact Nat.le_refl _
  · rw [List.length_drop]
    omega
theorem fenceTo_small {m : PM} {n : Nat} (hs : m.Small n) : ∀ k, k ≤ m.L.length → (fenceTo m k).Small n
  | 0, _ => hs
  | k + 1, h => by
    have ih := fenceTo_small hs k (by omega)
    refine ih.upd (Nat.le_refl _) (Nat.le_trans (settle_pendR _ _) (ih.pend _ (PM.line_mem (by rw [fenceTo_len]; omega))))
theorem fenceTo_all (m : PM) : fenceTo m m.L.length = fenceP m := by
  have hL : (fenceTo m m.L.length).L = (fenceP m).L := by
    have hl : (fenceP m).L.length = m.L.length := by simp [fenceP]
    refine List.ext_getElem (by rw [fenceTo_len, hl]) fun i h1 h2 => ?_
    have hi : i < m.L.length := by rw [hl] at h2; exact h2
    rw [← PM.line_eq h1, fenceTo_line m _ (Nat.le_refl _), if_pos hi, PM.line_eq hi]
    exact (List.getElem_map (fun l : PL => l.settle l.mark)).symm
  obtain ⟨h1, h2⟩ := fenceTo_rest m m.L.length
  unfold fenceP at hL ⊢
  generalize fenceTo m m.L.length = T at *
  obtain ⟨L, sp, ev⟩ := T
  simp only at hL h1 h2
  rw [hL, h1, h2]
set_option maxRecDepth 100000 in
set_option maxHeartbeats 8000000 in
set_option linter.unusedSimpArgs false in
theorem rFence_any (p : Nat) (m : PM) (F : Nat → Prop) (w : World) (hm : m.Ok) (hs : m.Small 1000) (h : Ref w p m F) :
    Calls Tryz.prog 47 #[.pointer (some ⟨p, 0, none⟩)] w fun e w' => e = .returned (.tuple #[]) ∧ RStep F w p ((fenceP m).add (evt 4 0 0 0 Z8)) w' := by
  have HFA := Lib.hid (fenceTo_all m)
  have HOK := Lib.hid fun k hk => fenceTo_ok hm k hk
  have HSM := Lib.hid fun k hk => fenceTo_small hs k hk
  have HLN := Lib.hid fun k => fenceTo_len m k
  have HEVL := Lib.hid fun k => (fenceTo_rest m k).2
  have HS0 : Hid (RStep F w p (fenceTo m 0) w) := Lib.hid (RStep.refl h)
  have hne := hs.ev
  obtain ⟨N, hN⟩ : ∃ N, m.L.length = N := ⟨_, rfl⟩
  rw [hN] at HFA HOK HSM HLN
  have hN2 : N ≤ 4096 := by rw [← hN]; exact hm.few
  clear hm hs h hN
  go_enter Tryz.func47, Tryz.ntmps47
  go_wp2_with fail
  go_loopw [2] (fun u wr => ∃ k : Nat, u = .int .i64 (k : Int) ∧ k ≤ N ∧ Hid (RStep F w p (fenceTo m k) wr)) (fun u _ => N - (intOf u).toNat)
  case atStart => exact ⟨0, rfl, by omega, HS0⟩
  case round =>
    clear HS0
    obtain ⟨k, rfl, hk, HST⟩ := hrel
    have hrf := HST.out.1
    obtain ⟨d, o, cap, ev, X, h⟩ := hrf
    have c0 := h.c0
    rw [HLN.out k] at c0
    have hcp := h.cap_
    rw [HLN.out k] at hcp
    by_cases hlt : k < N
    · have hkl : k < (fenceTo m k).L.length := by rw [HLN.out]; exact hlt
      obtain ⟨v, _, _, _, _, _, h10, _⟩ := h.at (HOK.out k (by omega)) hkl
      have hse := rSettle_any p k ((fenceTo m k).line k).mark (fenceTo m k) _ wr hkl ((HOK.out k (by omega)).line hkl).mark (HOK.out k (by omega)) (HSM.out k (by omega)) HST.out.1
      have hup : (fenceTo m k).upd k (·.settle ((fenceTo m k).line k).mark) = fenceTo m (k + 1) := PM.upd_congr rfl
      rw [hup] at hse
      have HSE := Lib.hid hse
      generalize ((fenceTo m k).line k).mark = mk at *
      have hkI : (k : Int) < (N : Int) := by omega
      clear h hse hup hkl
      go_wp2_with fail
      refine HSE.out.mono ?_
      rintro e w2 ⟨rfl, hst⟩
      have HST2 := Lib.hid (HST.out.trans hst)
      clear hst HSE HST
      go_wp2_with fail
      go_roundw
      case rel => exact ⟨k + 1, by simp, by omega, HST2⟩
      case measure => simp [intOf]; omega
    · obtain rfl : k = N := by omega
      have hne1 : (fenceTo m k).ev.length ≤ 1000 := by rw [HEVL.out]; exact hne
      obtain ⟨A, ecap, rfl, _⟩ := h.evs.shape
      have HB1 := bel_new wr (.cells (iv (evt 4 0 0 0 Z8)).toArray 79)
      have HREC := Lib.hid fun (ev' : Value) (w3 : World) hsl hg ho => HST.out.trans (h.recorded (evt 4 0 0 0 Z8) HB1 (ev' := ev') (w3 := w3) hsl hg ho)
      have HC2 := Lib.hid fun (w3 : World) hg => h.cells2 HB1 (w3 := w3) hg
      have HEV := Lib.hid (h.evs.keep fun q hq => HB1.block q (h.evs.lt hq))
      have HNW : Hid (∀ j u, (iv (evt 4 0 0 0 Z8))[j]? = some u → (wr.alloc (.cells (iv (evt 4 0 0 0 Z8)).toArray 79)).cell? ((⟨wr.heap.size, 0, none⟩ : Addr).add j) = some u) := Lib.hid (fun j u hu => by
        rw [Addr.add_lit, Nat.zero_add]
        exact (Arr.new wr _ _).cell hu)
      have c2 := h.c2
      obtain ⟨i0, his, hz0, hz1, hz2⟩ := info_parts infoEvent
      have HIS := Lib.hid his
      have HZ0 := Lib.hid hz0
      have HZ1 := Lib.hid hz1
      have HZ2 := Lib.hid hz2
      clear his hz0 hz1 hz2 HB1
      rw [HFA.out] at HREC HEV HC2 hne1 c2
      obtain ⟨m1, hm1⟩ : ∃ m1, fenceP m = m1 := ⟨_, rfl⟩
      rw [hm1] at HREC HEV HC2 hne1 c2
      have HM1 := Lib.hid hm1
      clear hm1
      generalize hNE : m1.ev.length = NE at *
      clear h hNE
      go_wp2_with (at_builtin; refine wpList_append_sl _ rfl _ _ 29 rfl 79 i0 _ 12 96 Tryz.underlying29 HIS.out HZ0.out HZ1.out HZ2.out rfl (by decide) (.slice A NE ecap) NE (iv m1.ev.flatten) rfl HEV.out ⟨wr.heap.size, 0, none⟩ 1 1 (iv (evt 4 0 0 0 Z8)) rfl rfl HNW.out (iv_one _) (by unfold maxLen; omega) (by omega) ?_; intro ev' w3 hsl hg ho; obtain ⟨EA2, ecap2, rfl, _⟩ := hsl.shape; have HFIN := Lib.hid (HREC.out _ _ hsl hg ho); obtain ⟨e2, ef2⟩ := HC2.out _ hg; clear hsl hg ho)
      refine bodyPost_end (results_none rfl _ _ _) rfl ?_
      exact ⟨rfl, by rw [HM1.out]; exact HFIN.out⟩
end Go.Proofs.YtmnncbgibngmiaaGreatDoor
