/- What the reference's Flip does. -/
import Derived.Test.YthidababplamgaaDoorR5
import Derived.Deep.RegionHeld3
import Derived.StillTailTactics
namespace Go.Proofs.YthidababplamgaaDoor
open Go.RowKit
set_option maxRecDepth 100000 in
set_option maxHeartbeats 1000000 in
theorem rFlip_any (ws : List Nat) (c : Nat) (k b : Int) (w : World) (h8 : ws.length = 8) (hs : ∀ x ∈ ws, x < 1099511627776) (hc : c < 1024) :
    Calls Tryd.prog 23 #[.agg (iv (ci ws)).toArray, .int .i64 (c : Int), .int .i64 k, .int .i64 b] w fun e w' => e = .returned (pr (flipR ws c k b)) ∧ Below w.heap.size w w' := by
  have hl : (ci ws).length = 8 := by rw [ci_len, h8]
  have HI := Lib.hid (size22' hl)
  have HO := Lib.hid (iv_one (ci ws))
  have HL := Lib.hid (show (iv Z8).length = (iv (ci ws)).length by rw [iv_len, iv_len, hl]; rfl)
  have HX := Lib.hid fun w => exists_any k b w
  have H22 := Lib.hid Tryd.underlying22
  obtain ⟨R, hR⟩ : ∃ R, flipR ws c k b = R := ⟨_, rfl⟩
  rw [hR]
  cases hd : dataB k b with
  | true =>
    have e : R = (ws.set k.toNat (ws.getD k.toNat 0 ^^^ 2 ^ b.toNat), c) := by rw [← hR]; unfold flipR; rw [hd, if_pos rfl]
    rw [hd, Bool.true_or] at HX
    obtain ⟨h1, h2, h3, h4⟩ := dataB_of hd
    have hkn : k.toNat < ws.length := by omega
    obtain ⟨g1, g2, g3⟩ := set_lt hs k.toNat b.toNat hkn (by omega)
    have hp := pow_le39 b.toNat (by omega)
    have hx := i64_xor_nat (ws.getD k.toNat 0) (2 ^ b.toNat) (by omega) (by omega)
    have hw := pow_w b h3 (by omega)
    have hwi : IntKind.i64.wrap (2 ^ b.toNat) = ((2 ^ b.toNat : Nat) : Int) := by rw [wrapEq, hw]
    have hk8 : (k == 8) = false := by simp; omega
    obtain ⟨kn, rfl⟩ : ∃ kn : Nat, k = kn := ⟨k.toNat, by omega⟩
    rw [Int.toNat_natCast] at *
    have hset := ci_set ws kn (ws.getD kn 0 ^^^ 2 ^ b.toNat)
    have hcg := iv_at (l := ci ws) (k := kn) (by omega)
    rw [ci_get] at hcg
    have hst := iv_set (ci ws) kn ((ws.getD kn 0 ^^^ 2 ^ b.toNat : Nat) : Int)
    rw [hset] at hst
    have hl2 : (ws.set kn (ws.getD kn 0 ^^^ 2 ^ b.toNat)).length = 8 := by simp [h8]
    have HI2 := Lib.hid (size22' (l := ci (ws.set kn (ws.getD kn 0 ^^^ 2 ^ b.toNat))) (by rw [ci_len, hl2]))
    have HO2 := Lib.hid (iv_one (ci (ws.set kn (ws.getD kn 0 ^^^ 2 ^ b.toNat))))
    have HL2 := Lib.hid (show (iv Z8).length = (iv (ci (ws.set kn (ws.getD kn 0 ^^^ 2 ^ b.toNat)))).length by rw [iv_len, iv_len, ci_len, hl2]; rfl)
    generalize ws.set kn (ws.getD kn 0 ^^^ 2 ^ b.toNat) = ws2 at *
    generalize ws.getD kn 0 ^^^ 2 ^ b.toNat = y at *
    generalize ws.getD kn 0 = x at *
    generalize 2 ^ b.toNat = p at *
    have HE := Lib.hid e
    have HST := Lib.hid hst
    have HCG := Lib.hid hcg
    clear e hst hcg hset hR hd g1 g2 g3 hp hs hl2 hc
    go_enter Tryd.func23, Tryd.ntmps23
    go_wp2_with fail
    refine (HX.out _).mono ?_
    rintro e w1 ⟨rfl, hw1⟩
    have HA : Hid (Arr w1 w.heap.size 22 (iv (ci ws))) := Lib.hid (by rw [hw1]; exact a2_0 _ _ _)
    have HZ : Hid (Arr w1 (w.heap.size + 1) 22 (iv Z8)) := Lib.hid (by rw [hw1]; exact a2_1 _ _ _)
    have HB : Hid (Below w.heap.size w w1) := Lib.hid (by rw [hw1]; exact bel2 _ _ _)
    clear hw1
    have hcell := HA.out.cell HCG.out
    have hfree := HA.out.free kn
    go_wp2_with fail
    go_still_tail 8, (by kernel_rfl)
    change wpList _ _ _ _ _ w1.drew
    have hbd := bel_drew w1
    have HA2 := Lib.hid (HA.out.keep hbd)
    have HZ2 := Lib.hid (HZ.out.keep hbd)
    have HB2 := Lib.hid (bel_on HB.out hbd)
    generalize w1.drew = w2 at *
    clear hbd hcell hfree HA HZ HB
    have hcell := HA2.out.cell HCG.out
    have hfree := HA2.out.free kn
    have hA3 : Arr (w2.setCell ⟨w.heap.size, kn, none⟩ (.int .i64 (y : Int))) w.heap.size 22 (iv (ci ws2)) := by
      have := HA2.out.set kn (.int .i64 (y : Int))
      rwa [HST.out] at this
    have HA3 := Lib.hid hA3
    have HZ3 : Hid (Arr (w2.setCell ⟨w.heap.size, kn, none⟩ (.int .i64 (y : Int))) (w.heap.size + 1) 22 (iv Z8)) := Lib.hid (HZ2.out.other (by simp) _)
    have HB3 : Hid (Below w.heap.size w (w2.setCell ⟨w.heap.size, kn, none⟩ (.int .i64 (y : Int)))) := Lib.hid (HB2.out.setCell (Nat.le_refl _) _)
    clear hA3
    go_wp2_with (first
      | ((with_reducible refine arm_row 22 w.heap.size 22 _ HA3.out _ H22.out rfl HI2.out rfl _ rfl ?_ ?_); focus rfl)
      | ((with_reducible refine arm_put 22 (w.heap.size + 1) 22 _ _ HZ3.out HI2.out HL2.out HO2.out rfl _ _ rfl ?_ ?_ ?_); (focus rfl); (focus rfl)))
    refine bodyPost_ret (v := pr (ws2, c)) (ret_row2 Tryd.results23 _ _ (w.heap.size + 1) 22 (iv (ci ws2)) (HZ3.out.row _) rfl _ H22.out rfl HI2.out _ rfl) rfl ?_
    exact ⟨by rw [HE.out], bel_row HB3.out (by omega) _⟩
  | false =>
    cases hcd : codeB k b with
    | true =>
      have e : R = (ws, c ^^^ 2 ^ b.toNat) := by rw [← hR]; unfold flipR; rw [hd, hcd, if_neg (by decide), if_pos rfl]
      rw [hd, hcd] at HX
      obtain ⟨rfl, h3, h4⟩ := codeB_of hcd
      have hp := pow_le39 b.toNat (by omega)
      have hx := i64_xor_nat c (2 ^ b.toNat) (by omega) (by omega)
      have hw := pow_w b h3 (by omega)
      have hwi : IntKind.i64.wrap (2 ^ b.toNat) = ((2 ^ b.toNat : Nat) : Int) := by rw [wrapEq, hw]
      generalize c ^^^ 2 ^ b.toNat = y at *
      generalize 2 ^ b.toNat = p at *
      have HE := Lib.hid e
      clear e hR hd hcd hp hs hc
      go_enter Tryd.func23, Tryd.ntmps23
      go_wp2_with fail
      refine (HX.out _).mono ?_
      rintro e w1 ⟨rfl, hw1⟩
      have HA : Hid (Arr w1 w.heap.size 22 (iv (ci ws))) := Lib.hid (by rw [hw1]; exact a2_0 _ _ _)
      have HZ : Hid (Arr w1 (w.heap.size + 1) 22 (iv Z8)) := Lib.hid (by rw [hw1]; exact a2_1 _ _ _)
      have HB : Hid (Below w.heap.size w w1) := Lib.hid (by rw [hw1]; exact bel2 _ _ _)
      clear hw1
      go_wp2_with fail
      have hbd := bel_drew w1
      have HA2 := Lib.hid (HA.out.keep hbd)
      have HZ2 := Lib.hid (HZ.out.keep hbd)
      have HB2 := Lib.hid (bel_on HB.out hbd)
      have hr2 : w1.drew.rangeAt w.heap.size 0 (iv (ci ws)) := HA2.out.range
      have hu22 := Tryd.underlying22
      have hi22 := HI.out
      clear hbd
      refine wp_region_held_drew (S := fun W' => W'.rangeAt w.heap.size 0 (iv (ci ws))) (by kernel_rfl) hr2 (fun hHeld => ?_)
      refine wpAnyH_take (i := 0) (v := .agg (iv (ci ws)).toArray) rfl (by kernel_rfl) (by kernel_rfl) (by kernel_rfl) (fun _ _ _ h => h) (yieldsIf_load_mid (by rfl) _ _ rfl _ _ rfl _ _ (fun w h => h) hu22 rfl hi22) (by assumption) ?_
      change wpAnyH _ _ _ _ _ _ _ (Act.put _ (some 20) _) _
      simp only [Act.put, List.setIfInBounds_toArray, List.set_cons_zero, List.set_cons_succ]
      refine wpAnyH_take (i := 1) (v := .int .i64 (c : Int)) rfl (by kernel_rfl) (by kernel_rfl) (by kernel_rfl) (fun _ _ _ h => h) (Or.inl ⟨by rfl, fun w hSw => by go_simp⟩) (by assumption) ?_
      change wpAnyH _ _ _ _ _ _ _ (Act.put _ (some 21) _) _
      simp only [Act.put, List.setIfInBounds_toArray, List.set_cons_zero, List.set_cons_succ]
      refine wpAnyH_take (i := 2) (v := .int .i64 b) rfl (by kernel_rfl) (by kernel_rfl) (by kernel_rfl) (fun _ _ _ h => h) (Or.inl ⟨by rfl, fun w hSw => by go_simp⟩) (by assumption) ?_
      change wpAnyH _ _ _ _ _ _ _ (Act.put _ (some 22) _) _
      simp only [Act.put, List.setIfInBounds_toArray, List.set_cons_zero, List.set_cons_succ]
      refine wpAnyH_take (i := 3) (v := .int .i64 (p : Int)) rfl (by kernel_rfl) (by kernel_rfl) (by kernel_rfl) (fun _ _ _ h => h) (Or.inl ⟨by rfl, fun w hSw => by go_simp⟩) (by assumption) ?_
      change wpAnyH _ _ _ _ _ _ _ (Act.put _ (some 23) _) _
      simp only [Act.put, List.setIfInBounds_toArray, List.set_cons_zero, List.set_cons_succ]
      refine wpAnyH_take (i := 4) (v := .int .i64 (y : Int)) rfl (by kernel_rfl) (by kernel_rfl) (by kernel_rfl) (fun _ _ _ h => h) (Or.inl ⟨by rfl, fun w hSw => by go_simp⟩) (by assumption) ?_
      change wpAnyH _ _ _ _ _ _ _ (Act.put _ (some 24) _) _
      simp only [Act.put, List.setIfInBounds_toArray, List.set_cons_zero, List.set_cons_succ]
      refine wpAnyH_ready (rs := [5]) (by kernel_rfl) (by simp) ?_
      refine AllReadyH.cons rfl (fun K hK => ?_) AllReadyH.nil
      rw [if_pos (by rfl)]
      refine wp_store_row 22 (.tmp 8) (.tmp 20) rfl (w.heap.size + 1) (iv (ci ws)).toArray rfl rfl 22 (iv Z8).toArray HZ2.out (by simpa using HI.out) (by simpa using HL.out) (all_oneCell_toArray HO.out) ?_
      have HA3 : Hid (Arr (w1.drew.setRow (w.heap.size + 1) (iv (ci ws)).toArray) w.heap.size 22 (iv (ci ws))) := Lib.hid (HA2.out.row_other (by omega) _)
      have HZ3 : Hid (Arr (w1.drew.setRow (w.heap.size + 1) (iv (ci ws)).toArray) (w.heap.size + 1) 22 (iv (ci ws))) := Lib.hid (HZ2.out.row _)
      have HB3 : Hid (Below w.heap.size w (w1.drew.setRow (w.heap.size + 1) (iv (ci ws)).toArray)) := Lib.hid (bel_row HB2.out (by omega) _)
      refine hK.out _ _ HA3.out.range (fun hHeld3 => ?_)
      clear hK K hHeld hr2
      generalize w1.drew.setRow (w.heap.size + 1) (iv (ci ws)).toArray = w3 at *
      change wpAnyH _ _ _ _ _ _ _ (Act.put _ none _) _
      simp only [Act.put]
      refine wpAnyH_take (i := 6) (v := .int .i64 (y : Int)) rfl (by kernel_rfl) (by kernel_rfl) (by kernel_rfl) (fun _ _ _ h => h) (Or.inl ⟨by rfl, fun w hSw => by go_simp⟩) (by assumption) ?_
      change wpAnyH _ _ _ _ _ _ _ (Act.put _ (some 9) _) _
      simp only [Act.put, List.setIfInBounds_toArray, List.set_cons_zero, List.set_cons_succ]
      refine wpAnyH_done (by kernel_rfl) ?_ _
      clear HA HZ HB HA2 HZ2 HB2 hHeld3
      go_wp2_with fail
      refine bodyPost_ret (v := pr (ws, y)) (ret_row2 Tryd.results23 _ _ (w.heap.size + 1) 22 (iv (ci ws)) HZ3.out rfl _ H22.out rfl HI.out _ rfl) rfl ?_
      exact ⟨by rw [HE.out], HB3.out⟩
    | false =>
      have e : R = (ws, c) := by rw [← hR]; unfold flipR; rw [hd, hcd, if_neg (by decide), if_neg (by decide)]
      rw [hd, hcd] at HX
      have HE := Lib.hid e
      clear e hR hd hcd hs hc
      go_enter Tryd.func23, Tryd.ntmps23
      go_wp2_with fail
      refine (HX.out _).mono ?_
      rintro e w1 ⟨rfl, hw1⟩
      have HA : Hid (Arr w1 w.heap.size 22 (iv (ci ws))) := Lib.hid (by rw [hw1]; exact a2_0 _ _ _)
      have HZ : Hid (Arr w1 (w.heap.size + 1) 22 (iv Z8)) := Lib.hid (by rw [hw1]; exact a2_1 _ _ _)
      have HB : Hid (Below w.heap.size w w1) := Lib.hid (by rw [hw1]; exact bel2 _ _ _)
      clear hw1
      go_wp2_with (first
        | ((with_reducible refine arm_row 22 w.heap.size 22 _ HA.out _ H22.out rfl HI.out rfl _ rfl ?_ ?_); focus rfl)
        | ((with_reducible refine arm_put 22 (w.heap.size + 1) 22 _ _ HZ.out HI.out HL.out HO.out rfl _ _ rfl ?_ ?_ ?_); (focus rfl); (focus rfl)))
      refine bodyPost_ret (v := pr (ws, c)) (ret_row2 Tryd.results23 _ _ (w.heap.size + 1) 22 (iv (ci ws)) (HZ.out.row _) rfl _ H22.out rfl HI.out _ rfl) rfl ?_
      exact ⟨by rw [HE.out], bel_row HB.out (by omega) _⟩
end Go.Proofs.YthidababplamgaaDoor
