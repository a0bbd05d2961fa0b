/-
  TraceCutsMatchSpec: what alumref05's Chosen and Choice and alumlaw05's sameCuts do; the walk.
-/
import Derived.Test.YtpojhplnhppcpaaGreatDoorQU5
import Derived.Test.YtpojhplnhppcpaaGreatDoorQY7Differ
import Derived.Test.YtpojhplnhppcpaaGreatDoorQU1
import Derived.Test.YtpojhplnhppcpaaGreatDoorQL1Differ
namespace Go.Proofs.YtpojhplnhppcpaaGreatDoor
open Go.RowKit Go.Maps
theorem choP_len : ∀ (L : List PL) (i d : Nat), (choP i d L).length ≤ L.length
  | [], _, _ => Nat.le_refl _
  | x :: r, i, d => by
    unfold choP
    split
    · have := choP_len r (i + 1) d
      simp only [List.length_cons]; omega
    · have := choP_len r (i + 1) (d / (x.pend.length + 1))
      simp only [List.length_cons]; omega
theorem sizeCut : (Tryz.prog.info? 48).map (·.size) = some 2 := by kernel_rfl
theorem lits_cut (a b : Int) (ha : I64 a) (hb : I64 b) : Tryz.prog.keyLits 2 48 (iv [a, b]) = some (litsOf [a, b]) := by
  have c2 : Tryz.prog.cellsOf 48 = 2 := by kernel_rfl
  have c1 : Tryz.prog.cellsOf 3 = 1 := by kernel_rfl
  have e0 : ((iv [a, b]).drop 0).take 1 = [.int .i64 a] := rfl
  have e1 : ((iv [a, b]).drop 1).take 1 = [.int .i64 b] := rfl
  have q0 := lits_one 0 a ha
  have q1 := lits_one 0 b hb
  unfold Program.keyLits
  rw [Tryz.underlying48]
  simp only
  rw [if_pos ⟨by rw [iv_len, c2]; rfl, by kernel_rfl⟩]
  simp only [List.mapM_cons, List.mapM_nil, c1, e0, e1, q0, q1, Option.bind_eq_bind, Option.bind_some, Option.pure_def, Option.map_some]
  unfold litsOf
  simp
theorem eq_cut (c d : Int × Int) (hc : I64 c.1 ∧ I64 c.2) (hd : I64 d.1 ∧ I64 d.2) (w : World) :
    (Op.equalIn 10000 48 (.agg (iv [c.1, c.2]).toArray) (.agg (iv [d.1, d.2]).toArray)).run Tryz.prog w = .ok (decide (c = d)) w := by
  have c2 : Tryz.prog.cellsOf 48 = 2 := by kernel_rfl
  have hk : Tryz.prog.keyTypeAt 2 48 = true := by kernel_rfl
  have hf : ∀ a b : Int, (Value.agg (iv [a, b]).toArray).formed Tryz.prog 48 = true := by
    intro a b
    unfold Value.formed
    rw [Tryz.underlying48]
    simp [iv_len, c2]
  have hcells : ∀ q : List Int, (Value.agg (iv q).toArray).cells.toList = iv q := fun q => by simp [Value.cells]
  obtain ⟨r, hr, hiff⟩ := run_equalIn_deep (P := Tryz.prog) 9998 2 48 hk w 2 2 (.agg (iv [c.1, c.2]).toArray) (.agg (iv [d.1, d.2]).toArray) (litsOf [c.1, c.2]) (litsOf [d.1, d.2]) (hf _ _) (hf _ _) (by rw [hcells]; exact lits_cut _ _ hc.1 hc.2) (by rw [hcells]; exact lits_cut _ _ hd.1 hd.2)
  have e : r = decide (c = d) := by
    rw [Bool.eq_iff_iff, hiff, decide_eq_true_iff]
    exact ⟨fun h => by
      have := litsOf_inj h
      simp only [List.cons.injEq, and_true] at this
      exact Prod.ext this.1 this.2, fun h => by rw [h]⟩
  rw [← e]
  exact hr
theorem cut_range {w : World} {d o : Nat} {S : List (Int × Int)} (hs : ∀ j u, (iv (flatS S))[j]? = some u → w.cell? ⟨d, o + j, none⟩ = some u) {k : Nat} (hk : k < S.length) : w.rangeAt d (o + k * 2) (iv [S[k].1, S[k].2]) := fun j v hv => by
  obtain ⟨h0, h1⟩ := rd_get hk hs
  match j with
  | 0 => simp [iv] at hv; subst hv; exact h0
  | 1 => simp [iv] at hv; subst hv; exact h1
  | j + 2 => simp [iv] at hv
set_option maxRecDepth 100000 in
set_option maxHeartbeats 4000000 in
set_option linter.unusedSimpArgs false in
theorem sameCuts_any (a b : List (Int × Int)) (v u : Value) (w : World) (ha : ∀ c ∈ a, I64 c.1 ∧ I64 c.2) (hb : ∀ c ∈ b, I64 c.1 ∧ I64 c.2) (hn : a.length ≤ 5000) (hn2 : b.length ≤ 5000) (hv : Rd w v a.length (iv (flatS a))) (hu : Rd w u b.length (iv (flatS b))) :
    Calls Tryz.prog 35 #[v, u] w fun e w' => e = .returned (.bool (decide (a = b))) ∧ Below w.heap.size w w' := by
  obtain ⟨A, cap, rfl, hcap, hcm, hrr⟩ := hv
  obtain ⟨A2, cap2, rfl, hcap2, hcm2, hrr2⟩ := hu
  have HRR := Lib.hid hrr
  have HRR2 := Lib.hid hrr2
  have HA := Lib.hid ha
  have HBI := Lib.hid hb
  by_cases hl : a.length = b.length
  case neg =>
    have hd : decide (a = b) = false := by rw [decide_eq_false_iff_not]; exact fun h => hl (by rw [h])
    rw [hd]
    have hlI : ¬ (a.length : Int) = (b.length : Int) := by omega
    clear hrr hrr2 ha hb hd hl
    go_enter Tryz.func35, Tryz.ntmps35
    go_wp2_with fail
    go_ret
    exact ⟨rfl, .refl _ _⟩
  case pos =>
  obtain ⟨N, hN⟩ : ∃ N, a.length = N := ⟨_, rfl⟩
  have HN := Lib.hid hN
  have HN2 : Hid (b.length = N) := Lib.hid (by rw [← hN]; exact hl.symm)
  rw [HN2.out] at hcap2 ⊢
  rw [hN] at hcap hn ⊢
  have HB0 : Hid (Below w.heap.size w w) := Lib.hid (Below.refl _ _)
  have hu48 := Tryz.underlying48
  have HD : Hid (∀ k, a.take k = b.take k → k = N → decide (a = b) = true) := Lib.hid fun k h hk => by
    rw [decide_eq_true_iff]
    rw [hk, List.take_of_length_le (by rw [HN.out]; exact Nat.le_refl _), List.take_of_length_le (by rw [HN2.out]; exact Nat.le_refl _)] at h
    exact h
  have HE : Hid (∀ k (h1 : k < a.length) (h2 : k < b.length), a[k] ≠ b[k] → decide (a = b) = false) := Lib.hid fun k h1 h2 hne => by
    rw [decide_eq_false_iff_not]
    intro h
    subst h
    exact hne rfl
  obtain ⟨R, hR⟩ : ∃ R, decide (a = b) = R := ⟨_, rfl⟩
  rw [hR] at HD HE ⊢
  clear hrr hrr2 ha hb hN hl hn2 hR
  go_enter Tryz.func35, Tryz.ntmps35
  go_wp2_with fail
  go_loopw [5] (fun i wr => ∃ k : Nat, i = .int .i64 (k : Int) ∧ k ≤ N ∧ Hid (a.take k = b.take k) ∧ Hid (Below w.heap.size w wr)) (fun i _ => N - (intOf i).toNat)
  case atStart => exact ⟨0, rfl, by omega, Lib.hid rfl, HB0⟩
  case round =>
    clear HB0
    obtain ⟨k, rfl, hk, HTK, HB⟩ := hrel
    by_cases hlt : k < N
    · have hkc : k < a.length := by rw [HN.out]; exact hlt
      have hkd : k < b.length := by rw [HN2.out]; exact hlt
      obtain ⟨bb, oo, rfl, hbl, hcells⟩ := HRR.out (by omega)
      obtain ⟨bb2, oo2, rfl, hbl2, hcells2⟩ := HRR2.out (by omega)
      have r1 : wr.drew.rangeAt bb (oo + k * 2) _ := cut_range (fun j u hj => (HB.out.cell (p := ⟨bb, oo + j, none⟩) hbl).trans (hcells j u hj)) hkc
      have r2 : wr.drew.rangeAt bb2 (oo2 + k * 2) _ := cut_range (fun j u hj => (HB.out.cell (p := ⟨bb2, oo2 + j, none⟩) hbl2).trans (hcells2 j u hj)) hkd
      have HEQ := Lib.hid fun w => eq_cut a[k] b[k] (HA.out _ (List.getElem_mem hkc)) (HBI.out _ (List.getElem_mem hkd)) w
      have HF := Lib.hid (HE.out k hkc hkd)
      have HG : Hid (a[k] = b[k] → a.take (k + 1) = b.take (k + 1)) := Lib.hid fun h => by
        rw [take_snoc' a k hkc, take_snoc' b k hkd, HTK.out, h]
      have hi9 : ∀ c : Int × Int, (Tryz.prog.info? 48).map (·.size) = some (iv [c.1, c.2]).length := fun c => sizeCut
      generalize a[k] = c at *
      generalize b[k] = d at *
      have hkI : (k : Int) < (N : Int) := by omega
      have HBD := Lib.hid HB.out.drew
      have hic := hi9 c
      have hid := hi9 d
      generalize hL : iv [c.1, c.2] = L at *
      generalize hL2 : iv [d.1, d.2] = L2 at *
      obtain ⟨r, hr⟩ : ∃ r, decide (c = d) = r := ⟨_, rfl⟩
      rw [hr] at HEQ
      clear hcells hcells2 hi9
      go_wp2_with fail
      refine wp_region_held_drew (S := fun W => W.rangeAt bb (oo + k * 2) L ∧ W.rangeAt bb2 (oo2 + k * 2) L2) (by kernel_rfl) ⟨r1, r2⟩ (fun hHeld => ?_)
      generalize wr.drew = w2 at *
      refine wpAnyH_take (i := 0) (v := .slice (some ⟨bb, oo, none⟩) N cap) rfl (by kernel_rfl) (by kernel_rfl) (by kernel_rfl) (fun _ _ _ h => h) (Or.inl ⟨by rfl, fun w hSw => by obtain ⟨h1, h2⟩ := hSw; go_simp⟩) (by assumption) ?_
      change wpAnyH _ _ _ _ _ _ _ (Act.put _ (some 17) _) _
      simp only [Act.put, List.setIfInBounds_toArray, List.set_cons_zero, List.set_cons_succ]
      refine wpAnyH_take (i := 1) (v := .int .i64 (k : Int)) rfl (by kernel_rfl) (by kernel_rfl) (by kernel_rfl) (fun _ _ _ h => h) (Or.inl ⟨by rfl, fun w hSw => by obtain ⟨h1, h2⟩ := hSw; go_simp⟩) (by assumption) ?_
      change wpAnyH _ _ _ _ _ _ _ (Act.put _ (some 18) _) _
      simp only [Act.put, List.setIfInBounds_toArray, List.set_cons_zero, List.set_cons_succ]
      refine wpAnyH_take (i := 2) (v := .pointer (some ⟨bb, oo + k * 2, none⟩)) rfl (by kernel_rfl) (by kernel_rfl) (by kernel_rfl) (fun _ _ _ h => h) (Or.inl ⟨by rfl, fun w hSw => by obtain ⟨h1, h2⟩ := hSw; go_simp⟩) (by assumption) ?_
      change wpAnyH _ _ _ _ _ _ _ (Act.put _ (some 19) _) _
      simp only [Act.put, List.setIfInBounds_toArray, List.set_cons_zero, List.set_cons_succ]
      refine wpAnyH_take (i := 3) (v := .agg L.toArray) rfl (by kernel_rfl) (by kernel_rfl) (by kernel_rfl) (fun _ _ _ h => h) (yieldsIf_load_mid (by rfl) _ _ rfl _ _ rfl _ _ (fun w h => h.1) hu48 rfl hic) (by assumption) ?_
      change wpAnyH _ _ _ _ _ _ _ (Act.put _ (some 20) _) _
      simp only [Act.put, List.setIfInBounds_toArray, List.set_cons_zero, List.set_cons_succ]
      refine wpAnyH_take (i := 4) (v := .slice (some ⟨bb2, oo2, none⟩) N cap2) rfl (by kernel_rfl) (by kernel_rfl) (by kernel_rfl) (fun _ _ _ h => h) (Or.inl ⟨by rfl, fun w hSw => by obtain ⟨h1, h2⟩ := hSw; go_simp⟩) (by assumption) ?_
      change wpAnyH _ _ _ _ _ _ _ (Act.put _ (some 21) _) _
      simp only [Act.put, List.setIfInBounds_toArray, List.set_cons_zero, List.set_cons_succ]
      refine wpAnyH_take (i := 5) (v := .int .i64 (k : Int)) rfl (by kernel_rfl) (by kernel_rfl) (by kernel_rfl) (fun _ _ _ h => h) (Or.inl ⟨by rfl, fun w hSw => by obtain ⟨h1, h2⟩ := hSw; go_simp⟩) (by assumption) ?_
      change wpAnyH _ _ _ _ _ _ _ (Act.put _ (some 22) _) _
      simp only [Act.put, List.setIfInBounds_toArray, List.set_cons_zero, List.set_cons_succ]
      refine wpAnyH_take (i := 6) (v := .pointer (some ⟨bb2, oo2 + k * 2, none⟩)) rfl (by kernel_rfl) (by kernel_rfl) (by kernel_rfl) (fun _ _ _ h => h) (Or.inl ⟨by rfl, fun w hSw => by obtain ⟨h1, h2⟩ := hSw; go_simp⟩) (by assumption) ?_
      change wpAnyH _ _ _ _ _ _ _ (Act.put _ (some 23) _) _
      simp only [Act.put, List.setIfInBounds_toArray, List.set_cons_zero, List.set_cons_succ]
      refine wpAnyH_take (i := 7) (v := .agg L2.toArray) rfl (by kernel_rfl) (by kernel_rfl) (by kernel_rfl) (fun _ _ _ h => h) (yieldsIf_load_mid (by rfl) _ _ rfl _ _ rfl _ _ (fun w h => h.2) hu48 rfl hid) (by assumption) ?_
      change wpAnyH _ _ _ _ _ _ _ (Act.put _ (some 24) _) _
      simp only [Act.put, List.setIfInBounds_toArray, List.set_cons_zero, List.set_cons_succ]
      refine wpAnyH_take (i := 8) (v := .bool (!r)) rfl (by kernel_rfl) (by kernel_rfl) (by kernel_rfl) (fun _ _ _ h => h) (Or.inl ⟨by rfl, fun w hSw => exec_neq _ _ 48 _ _ _ _ _ _ w rfl rfl rfl (by kernel_rfl) (HEQ.out w)⟩) (by assumption) ?_
      change wpAnyH _ _ _ _ _ _ _ (Act.put _ (some 25) _) _
      simp only [Act.put, List.setIfInBounds_toArray, List.set_cons_zero, List.set_cons_succ]
      refine wpAnyH_done (by kernel_rfl) ?_ _
      cases r with
      | true =>
        have HT1 := Lib.hid (HG.out (of_decide_eq_true hr))
        clear HG HF hr
        go_wp2_with fail
        go_roundw
        case rel => exact ⟨k + 1, by simp, by omega, HT1, HBD⟩
        case measure => simp [intOf]; omega
      | false =>
        obtain rfl := HF.out (of_decide_eq_false hr)
        clear HG HF hr
        go_wp2_with fail
        go_ret
        exact ⟨rfl, HBD.out⟩
    · obtain rfl : k = N := by omega
      have hkI : ¬ (k : Int) < (k : Int) := by omega
      obtain rfl := HD.out k HTK.out rfl
      go_wp2_with fail
      go_ret
      exact ⟨rfl, HB.out⟩
end Go.Proofs.YtpojhplnhppcpaaGreatDoor
