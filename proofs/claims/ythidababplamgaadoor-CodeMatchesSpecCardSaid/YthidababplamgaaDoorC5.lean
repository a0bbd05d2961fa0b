/- What code's Check does. -/
import Derived.Test.YthidababplamgaaDoorC4
import Derived.Deep.RegionHeld3
namespace Go.Proofs.YthidababplamgaaDoor
open Go.RowKit
theorem chk_find {s p : Nat} (hp : p = 1) : chkF s p = if (findF s).2.2 then (1, (findF s).1, (findF s).2.1) else (2, 0, 0) := by
  subst hp
  unfold chkF
  rw [if_neg (by omega), if_neg (by decide)]
theorem ret_t3 {a b c a' b' c' : Int} (h1 : a = a') (h2 : b = b') (h3 : c = c') : Ending.returned (.tuple #[.int .i64 a, .int .i64 b, .int .i64 c]) = .returned (.tuple #[.int .i64 a', .int .i64 b', .int .i64 c']) := by rw [h1, h2, h3]
/-- What Check says. -/
def chkZ (L : List Int) (c : Int) : Nat × Nat × Nat := if validB L c then chkF (synT (nw L) c.toNat) (popT (nw L) c.toNat % 2) else (2, 0, 0)
def t3 (r : Nat × Nat × Nat) : Value := .tuple #[.int .i64 (r.1 : Int), .int .i64 (r.2.1 : Int), .int .i64 (r.2.2 : Int)]
set_option maxRecDepth 100000 in
set_option maxHeartbeats 1000000 in
theorem check_any (L : List Int) (c : Int) (w : World) (h8 : L.length = 8) (hT : Tab w) :
    Calls Tryd.prog 25 #[.agg (iv L).toArray, .int .i64 c] w fun e w' => e = .returned (t3 (chkZ L c)) ∧ Below w.heap.size w w' := by
  have HI := Lib.hid (size22' (l := L) h8)
  have HA := Lib.hid (Arr.new w (iv L) 22)
  have HB := Lib.hid (bel_new w (.cells (iv L).toArray 22))
  have HT := Lib.hid hT
  have HV := Lib.hid fun w => valid_any L c w h8
  clear hT
  cases hv : validB L c with
  | false =>
    rw [hv] at HV
    unfold chkZ
    rw [hv, if_neg (by decide)]
    go_enter Tryd.func25, Tryd.ntmps25
    go_wp2_with ((with_reducible refine arm_row 22 w.heap.size 22 _ HA.out _ Tryd.underlying22 rfl HI.out rfl _ rfl ?_ ?_); focus rfl)
    refine (HV.out _).mono ?_
    rintro e w1 ⟨rfl, hb⟩
    have HB2 := Lib.hid (bel_on HB.out hb)
    clear hb
    go_wp2_with fail
    go_ret3
    exact ⟨rfl, HB2.out⟩
  | true =>
    rw [hv] at HV
    unfold chkZ
    rw [hv, if_pos rfl]
    have hv2 := hv
    unfold validB at hv2
    simp only [Bool.and_eq_true, decide_eq_true_eq] at hv2
    obtain ⟨ha, hc0, hc1⟩ := hv2
    obtain ⟨hL, hs⟩ := of_all ha
    have hlen : (nw L).length = 8 := by rw [nw_len, h8]
    generalize nw L = ws at *
    subst hL
    obtain ⟨m, rfl⟩ : ∃ m : Nat, c = m := ⟨c.toNat, by omega⟩
    rw [Int.toNat_natCast]
    have hm : m < 1024 := by omega
    have HS := Lib.hid fun w (hT : Tab w) => syn_any ws m w hlen hs hm hT
    have hlt : synT ws m < 512 := synT_lt hlen hs hm
    have HP := Lib.hid fun w => parity_any ws m w hlen hs (by omega)
    have hq : popT ws m % 2 < 2 := by omega
    generalize popT ws m % 2 = q at *
    generalize synT ws m = s at *
    have HF := Lib.hid fun z w hz => find_any z s w hz hlt
    obtain ⟨R, hR⟩ : ∃ R, chkF s q = R := ⟨_, rfl⟩
    rw [hR]
    have HR := Lib.hid hR
    clear hs hv ha hc0 hc1 hm hR
    go_enter Tryd.func25, Tryd.ntmps25
    go_wp2_with ((with_reducible refine arm_row 22 w.heap.size 22 _ HA.out _ Tryd.underlying22 rfl HI.out rfl _ rfl ?_ ?_); focus rfl)
    refine (HV.out _).mono ?_
    rintro e w1 ⟨rfl, hb⟩
    have HB2 := Lib.hid (bel_on HB.out hb)
    have HA2 := Lib.hid (HA.out.keep hb)
    clear hb HA HB
    go_wp2_with fail
    have hbd := bel_drew w1
    have HA3 := Lib.hid (HA2.out.keep hbd)
    have HB3 := Lib.hid (bel_on HB2.out hbd)
    have HT3 := Lib.hid (HT.out.keep HB3.out)
    have hr3 : w1.drew.rangeAt w.heap.size 0 (iv (ci ws)) := HA3.out.range
    have hu22 := Tryd.underlying22
    have hi22 := HI.out
    clear hbd
    refine wp_region_held_drew (S := fun W' => W'.rangeAt w.heap.size 0 (iv (ci ws))) (by kernel_rfl) hr3 (fun hHeld => ?_)
    refine wpAnyH_take (i := 0) (v := .agg (iv (ci ws)).toArray) rfl (by kernel_rfl) (by kernel_rfl) (by kernel_rfl) (fun _ _ _ h => h) (yieldsIf_load_mid (by rfl) _ _ rfl _ _ rfl _ _ (fun w h => h) hu22 rfl hi22) (by assumption) ?_
    change wpAnyH _ _ _ _ _ _ _ (Act.put _ (some 14) _) _
    simp only [Act.put, List.setIfInBounds_toArray, List.set_cons_zero, List.set_cons_succ]
    refine wpAnyH_take (i := 1) (v := .int .i64 (m : Int)) rfl (by kernel_rfl) (by kernel_rfl) (by kernel_rfl) (fun _ _ _ h => h) (Or.inl ⟨by rfl, fun w hSw => by go_simp⟩) (by assumption) ?_
    change wpAnyH _ _ _ _ _ _ _ (Act.put _ (some 15) _) _
    simp only [Act.put, List.setIfInBounds_toArray, List.set_cons_zero, List.set_cons_succ]
    refine wpAnyH_take (i := 3) (v := .agg (iv (ci ws)).toArray) rfl (by kernel_rfl) (by kernel_rfl) (by kernel_rfl) (fun _ _ _ h => h) (yieldsIf_load_mid (by rfl) _ _ rfl _ _ rfl _ _ (fun w h => h) hu22 rfl hi22) (by assumption) ?_
    change wpAnyH _ _ _ _ _ _ _ (Act.put _ (some 17) _) _
    simp only [Act.put, List.setIfInBounds_toArray, List.set_cons_zero, List.set_cons_succ]
    refine wpAnyH_take (i := 4) (v := .int .i64 (m : Int)) rfl (by kernel_rfl) (by kernel_rfl) (by kernel_rfl) (fun _ _ _ h => h) (Or.inl ⟨by rfl, fun w hSw => by go_simp⟩) (by assumption) ?_
    change wpAnyH _ _ _ _ _ _ _ (Act.put _ (some 18) _) _
    simp only [Act.put, List.setIfInBounds_toArray, List.set_cons_zero, List.set_cons_succ]
    refine wpAnyH_ready (rs := [2]) (by kernel_rfl) (by simp) ?_
    refine AllReadyH.cons rfl (fun K hK => ?_) AllReadyH.nil
    go_simp
    refine (HS.out _ HT3.out).mono ?_
    rintro e w4 ⟨rfl, hb⟩
    have HA4 := Lib.hid (HA3.out.keep hb)
    have HB4 := Lib.hid (bel_on HB3.out hb)
    have hr4 : w4.rangeAt w.heap.size 0 (iv (ci ws)) := HA4.out.range
    clear hb
    refine hK.out _ _ hr4 (fun hHeld4 => ?_)
    clear hK K hHeld hr3
    refine wpAnyH_ready (rs := [5]) (by kernel_rfl) (by simp) ?_
    refine AllReadyH.cons rfl (fun K hK => ?_) AllReadyH.nil
    go_simp
    refine (HP.out _).mono ?_
    rintro e w5 ⟨rfl, hb⟩
    have HA5 := Lib.hid (HA4.out.keep hb)
    have HB5 := Lib.hid (bel_on HB4.out hb)
    have hr5 : w5.rangeAt w.heap.size 0 (iv (ci ws)) := HA5.out.range
    clear hb
    refine hK.out _ _ hr5 (fun hHeld5 => ?_)
    clear hK K hHeld4 hr4
    refine wpAnyH_take (i := 6) (v := .int .i64 (s : Int)) rfl (by kernel_rfl) (by kernel_rfl) (by kernel_rfl) (fun _ _ _ h => h) (Or.inl ⟨by rfl, fun w hSw => by go_simp⟩) (by assumption) ?_
    change wpAnyH _ _ _ _ _ _ _ (Act.put _ (some 7) _) _
    simp only [Act.put, List.setIfInBounds_toArray, List.set_cons_zero, List.set_cons_succ]
    refine wpAnyH_take (i := 7) (v := .int .i64 (q : Int)) rfl (by kernel_rfl) (by kernel_rfl) (by kernel_rfl) (fun _ _ _ h => h) (Or.inl ⟨by rfl, fun w hSw => by go_simp⟩) (by assumption) ?_
    change wpAnyH _ _ _ _ _ _ _ (Act.put _ (some 8) _) _
    simp only [Act.put, List.setIfInBounds_toArray, List.set_cons_zero, List.set_cons_succ]
    refine wpAnyH_done (by kernel_rfl) ?_ _
    clear HA2 HB2 HA3 HB3 HT3 HA4 HB4 HA5 hr5
    by_cases hq0 : q = 0
    · subst hq0
      by_cases hs0 : s = 0
      · subst hs0
        have HE : Hid (R = (0, 0, 0)) := Lib.hid (by rw [← HR.out]; rfl)
        go_wp2_with fail
        go_ret3
        exact ⟨by rw [HE.out]; rfl, HB5.out⟩
      · have HE : Hid (R = (2, 0, 0)) := Lib.hid (by rw [← HR.out]; unfold chkF; rw [if_neg (by omega), if_pos rfl])
        have hsp : 0 < (s : Int) := by omega
        go_wp2_with fail
        go_ret3
        exact ⟨by rw [HE.out]; rfl, HB5.out⟩
    · have hq1 : q = 1 := by omega
      have HE := Lib.hid (HR.out.symm.trans (chk_find hq1))
      subst hq1
      generalize (findF s).1 = f1 at *
      generalize (findF s).2.1 = f2 at *
      cases hf3 : (findF s).2.2 with
      | true =>
        rw [hf3] at HE HF
        clear hf3 hq0 HR
        go_wp2_with ((go_at_call 38); refine (HF.out _ _ (by omega)).mono ?_; rintro e w6 ⟨rfl, rfl⟩)
        all_goals go_ret3
        all_goals exact ⟨by rw [HE.out]; rfl, HB5.out⟩
      | false =>
        rw [hf3] at HE HF
        clear hf3 hq0 HR
        go_wp2_with ((go_at_call 38); refine (HF.out _ _ (by omega)).mono ?_; rintro e w6 ⟨rfl, rfl⟩)
        all_goals go_ret3
        all_goals exact ⟨by rw [HE.out]; rfl, HB5.out⟩
end Go.Proofs.YthidababplamgaaDoor
