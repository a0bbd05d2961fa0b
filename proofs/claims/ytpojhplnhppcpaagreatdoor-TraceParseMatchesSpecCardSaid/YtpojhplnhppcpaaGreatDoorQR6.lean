/-
  What the reference's Flip does. What the reference's Fix does. The reference's memory in the heap: a row of lines, each with its words, code, pending stores and mark.
-/
import Derived.Test.YtpojhplnhppcpaaGreatDoorQN22z
import Derived.Deep.RegionHeld3
import Derived.StillTailTactics
import Derived.Test.YtpojhplnhppcpaaGreatDoorQN17
import Derived.Laws.IdiomCopy
namespace Go.Proofs.YtpojhplnhppcpaaGreatDoor
open Go.RowKit
set_option maxRecDepth 100000 in
set_option maxHeartbeats 1000000 in
theorem rFlip_any (ws : List Nat) (c : Nat) (k b : Int) (w : World) (h8 : ws.length = 8) (hs : ∀ x ∈ ws, x < 1099511627776) (hc : c < 1024) :
    Calls Tryz.prog 155 #[.agg (iv (ci ws)).toArray, .int .i64 (c : Int), .int .i64 k, .int .i64 b] w fun e w' => e = .returned (pr (flipR ws c k b)) ∧ Below w.heap.size w w' := by
  have hl : (ci ws).length = 8 := by rw [ci_len, h8]
  have HI := Lib.hid (size22' hl)
  have HO := Lib.hid (iv_one (ci ws))
  have HL := Lib.hid (show (iv Z8).length = (iv (ci ws)).length by rw [iv_len, iv_len, hl]; rfl)
  have HX := Lib.hid fun w => exists_any k b w
  have H22 := Lib.hid Tryz.underlying66
  obtain ⟨R, hR⟩ : ∃ R, flipR ws c k b = R := ⟨_, rfl⟩
  rw [hR]
  cases hd : dataB k b with
  | true =>
    have e : R = (ws.set k.toNat (ws.getD k.toNat 0 ^^^ 2 ^ b.toNat), c) := by rw [← hR]; unfold flipR; rw [hd, if_pos rfl]
    rw [hd, Bool.true_or] at HX
    obtain ⟨h1, h2, h3, h4⟩ := dataB_of hd
    have hkn : k.toNat < ws.length := by omega
    obtain ⟨g1, g2, g3⟩ := set_lt hs k.toNat b.toNat hkn (by omega)
    have hp := pow_le39 b.toNat (by omega)
    have hx := i64_xor_nat (ws.getD k.toNat 0) (2 ^ b.toNat) (by omega) (by omega)
    have hw := pow_w b h3 (by omega)
    have hwi : IntKind.i64.wrap (2 ^ b.toNat) = ((2 ^ b.toNat : Nat) : Int) := by rw [wrapEq, hw]
    have hk8 : (k == 8) = false := by simp; omega
    obtain ⟨kn, rfl⟩ : ∃ kn : Nat, k = kn := ⟨k.toNat, by omega⟩
    rw [Int.toNat_natCast] at *
    have hset := ci_set ws kn (ws.getD kn 0 ^^^ 2 ^ b.toNat)
    have hcg := iv_at (l := ci ws) (k := kn) (by omega)
    rw [ci_get] at hcg
    have hst := iv_set (ci ws) kn ((ws.getD kn 0 ^^^ 2 ^ b.toNat : Nat) : Int)
    rw [hset] at hst
    have hl2 : (ws.set kn (ws.getD kn 0 ^^^ 2 ^ b.toNat)).length = 8 := by simp [h8]
    have HI2 := Lib.hid (size22' (l := ci (ws.set kn (ws.getD kn 0 ^^^ 2 ^ b.toNat))) (by rw [ci_len, hl2]))
    have HO2 := Lib.hid (iv_one (ci (ws.set kn (ws.getD kn 0 ^^^ 2 ^ b.toNat))))
    have HL2 := Lib.hid (show (iv Z8).length = (iv (ci (ws.set kn (ws.getD kn 0 ^^^ 2 ^ b.toNat)))).length by rw [iv_len, iv_len, ci_len, hl2]; rfl)
    generalize ws.set kn (ws.getD kn 0 ^^^ 2 ^ b.toNat) = ws2 at *
    generalize ws.getD kn 0 ^^^ 2 ^ b.toNat = y at *
    generalize ws.getD kn 0 = x at *
    generalize 2 ^ b.toNat = p at *
    have HE := Lib.hid e
    have HST := Lib.hid hst
    have HCG := Lib.hid hcg
    clear e hst hcg hset hR hd g1 g2 g3 hp hs hl2 hc
    go_enter Tryz.func155, Tryz.ntmps155
    go_wp2_with fail
    refine (HX.out _).mono ?_
    rintro e w1 ⟨rfl, hw1⟩
    have HA : Hid (Arr w1 w.heap.size 66 (iv (ci ws))) := Lib.hid (by rw [hw1]; exact a2_0 _ _ _)
    have HZ : Hid (Arr w1 (w.heap.size + 1) 66 (iv Z8)) := Lib.hid (by rw [hw1]; exact a2_1 _ _ _)
    have HB : Hid (Below w.heap.size w w1) := Lib.hid (by rw [hw1]; exact bel2 _ _ _)
    clear hw1
    have hcell := HA.out.cell HCG.out
    have hfree := HA.out.free kn
    go_wp2_with fail
    go_still_tail 8, (by kernel_rfl)
    change wpList _ _ _ _ _ w1.drew
    have hbd := bel_drew w1
    have HA2 := Lib.hid (HA.out.keep hbd)
    have HZ2 := Lib.hid (HZ.out.keep hbd)
    have HB2 := Lib.hid (bel_on HB.out hbd)
    generalize w1.drew = w2 at *
    clear hbd hcell hfree HA HZ HB
    have hcell := HA2.out.cell HCG.out
    have hfree := HA2.out.free kn
    have hA3 : Arr (w2.setCell ⟨w.heap.size, kn, none⟩ (.int .i64 (y : Int))) w.heap.size 66 (iv (ci ws2)) := by
      have := HA2.out.set kn (.int .i64 (y : Int))
      rwa [HST.out] at this
    have HA3 := Lib.hid hA3
    have HZ3 : Hid (Arr (w2.setCell ⟨w.heap.size, kn, none⟩ (.int .i64 (y : Int))) (w.heap.size + 1) 66 (iv Z8)) := Lib.hid (HZ2.out.other (by simp) _)
    have HB3 : Hid (Below w.heap.size w (w2.setCell ⟨w.heap.size, kn, none⟩ (.int .i64 (y : Int)))) := Lib.hid (HB2.out.setCell (Nat.le_refl _) _)
    clear hA3
    go_wp2_with (first
      | ((with_reducible refine arm_row 66 w.heap.size 66 _ HA3.out _ H22.out rfl HI2.out rfl _ rfl ?_ ?_); focus rfl)
      | ((with_reducible refine arm_put 66 (w.heap.size + 1) 66 _ _ HZ3.out HI2.out HL2.out HO2.out rfl _ _ rfl ?_ ?_ ?_); (focus rfl); (focus rfl)))
    refine bodyPost_ret (v := pr (ws2, c)) (ret_row2 Tryz.results155 _ _ (w.heap.size + 1) 66 (iv (ci ws2)) (HZ3.out.row _) rfl _ H22.out rfl HI2.out _ rfl) rfl ?_
    exact ⟨by rw [HE.out], bel_row HB3.out (by omega) _⟩
  | false =>
    cases hcd : codeB k b with
    | true =>
      have e : R = (ws, c ^^^ 2 ^ b.toNat) := by rw [← hR]; unfold flipR; rw [hd, hcd, if_neg (by decide), if_pos rfl]
      rw [hd, hcd] at HX
      obtain ⟨rfl, h3, h4⟩ := codeB_of hcd
      have hp := pow_le39 b.toNat (by omega)
      have hx := i64_xor_nat c (2 ^ b.toNat) (by omega) (by omega)
      have hw := pow_w b h3 (by omega)
      have hwi : IntKind.i64.wrap (2 ^ b.toNat) = ((2 ^ b.toNat : Nat) : Int) := by rw [wrapEq, hw]
      generalize c ^^^ 2 ^ b.toNat = y at *
      generalize 2 ^ b.toNat = p at *
      have HE := Lib.hid e
      clear e hR hd hcd hp hs hc
      go_enter Tryz.func155, Tryz.ntmps155
      go_wp2_with fail
      refine (HX.out _).mono ?_
      rintro e w1 ⟨rfl, hw1⟩
      have HA : Hid (Arr w1 w.heap.size 66 (iv (ci ws))) := Lib.hid (by rw [hw1]; exact a2_0 _ _ _)
      have HZ : Hid (Arr w1 (w.heap.size + 1) 66 (iv Z8)) := Lib.hid (by rw [hw1]; exact a2_1 _ _ _)
      have HB : Hid (Below w.heap.size w w1) := Lib.hid (by rw [hw1]; exact bel2 _ _ _)
      clear hw1
      go_wp2_with fail
      have hbd := bel_drew w1
      have HA2 := Lib.hid (HA.out.keep hbd)
      have HZ2 := Lib.hid (HZ.out.keep hbd)
      have HB2 := Lib.hid (bel_on HB.out hbd)
      have hr2 : w1.drew.rangeAt w.heap.size 0 (iv (ci ws)) := HA2.out.range
      have hu22 := Tryz.underlying66
      have hi22 := HI.out
      clear hbd
      refine wp_region_held_drew (S := fun W' => W'.rangeAt w.heap.size 0 (iv (ci ws))) (by kernel_rfl) hr2 (fun hHeld => ?_)
      refine wpAnyH_take (i := 0) (v := .agg (iv (ci ws)).toArray) rfl (by kernel_rfl) (by kernel_rfl) (by kernel_rfl) (fun _ _ _ h => h) (yieldsIf_load_mid (by rfl) _ _ rfl _ _ rfl _ _ (fun w h => h) hu22 rfl hi22) (by assumption) ?_
      change wpAnyH _ _ _ _ _ _ _ (Act.put _ (some 20) _) _
      simp only [Act.put, List.setIfInBounds_toArray, List.set_cons_zero, List.set_cons_succ]
      refine wpAnyH_take (i := 1) (v := .int .i64 (c : Int)) rfl (by kernel_rfl) (by kernel_rfl) (by kernel_rfl) (fun _ _ _ h => h) (Or.inl ⟨by rfl, fun w hSw => by go_simp⟩) (by assumption) ?_
      change wpAnyH _ _ _ _ _ _ _ (Act.put _ (some 21) _) _
      simp only [Act.put, List.setIfInBounds_toArray, List.set_cons_zero, List.set_cons_succ]
      refine wpAnyH_take (i := 2) (v := .int .i64 b) rfl (by kernel_rfl) (by kernel_rfl) (by kernel_rfl) (fun _ _ _ h => h) (Or.inl ⟨by rfl, fun w hSw => by go_simp⟩) (by assumption) ?_
      change wpAnyH _ _ _ _ _ _ _ (Act.put _ (some 22) _) _
      simp only [Act.put, List.setIfInBounds_toArray, List.set_cons_zero, List.set_cons_succ]
      refine wpAnyH_take (i := 3) (v := .int .i64 (p : Int)) rfl (by kernel_rfl) (by kernel_rfl) (by kernel_rfl) (fun _ _ _ h => h) (Or.inl ⟨by rfl, fun w hSw => by go_simp⟩) (by assumption) ?_
      change wpAnyH _ _ _ _ _ _ _ (Act.put _ (some 23) _) _
      simp only [Act.put, List.setIfInBounds_toArray, List.set_cons_zero, List.set_cons_succ]
      refine wpAnyH_take (i := 4) (v := .int .i64 (y : Int)) rfl (by kernel_rfl) (by kernel_rfl) (by kernel_rfl) (fun _ _ _ h => h) (Or.inl ⟨by rfl, fun w hSw => by go_simp⟩) (by assumption) ?_
      change wpAnyH _ _ _ _ _ _ _ (Act.put _ (some 24) _) _
      simp only [Act.put, List.setIfInBounds_toArray, List.set_cons_zero, List.set_cons_succ]
      refine wpAnyH_ready (rs := [5]) (by kernel_rfl) (by simp) ?_
      refine AllReadyH.cons rfl (fun K hK => ?_) AllReadyH.nil
      rw [if_pos (by rfl)]
      refine wp_store_row 66 (.tmp 8) (.tmp 20) rfl (w.heap.size + 1) (iv (ci ws)).toArray rfl rfl 66 (iv Z8).toArray HZ2.out (by simpa using HI.out) (by simpa using HL.out) (all_oneCell_toArray HO.out) ?_
      have HA3 : Hid (Arr (w1.drew.setRow (w.heap.size + 1) (iv (ci ws)).toArray) w.heap.size 66 (iv (ci ws))) := Lib.hid (HA2.out.row_other (by omega) _)
      have HZ3 : Hid (Arr (w1.drew.setRow (w.heap.size + 1) (iv (ci ws)).toArray) (w.heap.size + 1) 66 (iv (ci ws))) := Lib.hid (HZ2.out.row _)
      have HB3 : Hid (Below w.heap.size w (w1.drew.setRow (w.heap.size + 1) (iv (ci ws)).toArray)) := Lib.hid (bel_row HB2.out (by omega) _)
      refine hK.out _ _ HA3.out.range (fun hHeld3 => ?_)
      clear hK K hHeld hr2
      generalize w1.drew.setRow (w.heap.size + 1) (iv (ci ws)).toArray = w3 at *
      change wpAnyH _ _ _ _ _ _ _ (Act.put _ none _) _
      simp only [Act.put]
      refine wpAnyH_take (i := 6) (v := .int .i64 (y : Int)) rfl (by kernel_rfl) (by kernel_rfl) (by kernel_rfl) (fun _ _ _ h => h) (Or.inl ⟨by rfl, fun w hSw => by go_simp⟩) (by assumption) ?_
      change wpAnyH _ _ _ _ _ _ _ (Act.put _ (some 9) _) _
      simp only [Act.put, List.setIfInBounds_toArray, List.set_cons_zero, List.set_cons_succ]
      refine wpAnyH_done (by kernel_rfl) ?_ _
      clear HA HZ HB HA2 HZ2 HB2 hHeld3
      go_wp2_with fail
      refine bodyPost_ret (v := pr (ws, y)) (ret_row2 Tryz.results155 _ _ (w.heap.size + 1) 66 (iv (ci ws)) HZ3.out rfl _ H22.out rfl HI.out _ rfl) rfl ?_
      exact ⟨by rw [HE.out], HB3.out⟩
    | false =>
      have e : R = (ws, c) := by rw [← hR]; unfold flipR; rw [hd, hcd, if_neg (by decide), if_neg (by decide)]
      rw [hd, hcd] at HX
      have HE := Lib.hid e
      clear e hR hd hcd hs hc
      go_enter Tryz.func155, Tryz.ntmps155
      go_wp2_with fail
      refine (HX.out _).mono ?_
      rintro e w1 ⟨rfl, hw1⟩
      have HA : Hid (Arr w1 w.heap.size 66 (iv (ci ws))) := Lib.hid (by rw [hw1]; exact a2_0 _ _ _)
      have HZ : Hid (Arr w1 (w.heap.size + 1) 66 (iv Z8)) := Lib.hid (by rw [hw1]; exact a2_1 _ _ _)
      have HB : Hid (Below w.heap.size w w1) := Lib.hid (by rw [hw1]; exact bel2 _ _ _)
      clear hw1
      go_wp2_with (first
        | ((with_reducible refine arm_row 66 w.heap.size 66 _ HA.out _ H22.out rfl HI.out rfl _ rfl ?_ ?_); focus rfl)
        | ((with_reducible refine arm_put 66 (w.heap.size + 1) 66 _ _ HZ.out HI.out HL.out HO.out rfl _ _ rfl ?_ ?_ ?_); (focus rfl); (focus rfl)))
      refine bodyPost_ret (v := pr (ws, c)) (ret_row2 Tryz.results155 _ _ (w.heap.size + 1) 66 (iv (ci ws)) (HZ.out.row _) rfl _ H22.out rfl HI.out _ rfl) rfl ?_
      exact ⟨by rw [HE.out], bel_row HB.out (by omega) _⟩
end Go.Proofs.YtpojhplnhppcpaaGreatDoor
namespace Go.Proofs.YtpojhplnhppcpaaGreatDoor
open Go.RowKit
set_option maxRecDepth 100000 in
set_option maxHeartbeats 1000000 in
theorem rFix_any (L : List Int) (c : Int) (w : World) (h8 : L.length = 8) :
    Calls Tryz.prog 135 #[.agg (iv L).toArray, .int .i64 c] w fun e w' => e = .returned (fr (fixZ L c)) ∧ Below w.heap.size w w' := by
  have HI := Lib.hid (size22' (l := L) h8)
  have HIZ := Lib.hid (size22' (l := Z8) rfl)
  have HOZ := Lib.hid (iv_one Z8)
  have HO := Lib.hid (iv_one L)
  have HL := Lib.hid (show (iv Z8).length = (iv L).length by rw [iv_len, iv_len, h8]; rfl)
  have H22 := Lib.hid Tryz.underlying66
  have H22s := Lib.hid size22
  have H29s := Lib.hid size29
  have HV := Lib.hid fun w => rvalid_any L c w h8
  have HC := Lib.hid fun w => rChecked_any L c w h8
  obtain ⟨R, hR⟩ : ∃ R, fixZ L c = R := ⟨_, rfl⟩
  rw [hR]
  cases hv : validB L c with
  | false =>
    have HE : Hid (R = (Z8, 0, 1)) := Lib.hid (by rw [← hR]; unfold fixZ; rw [hv, if_neg (by decide)])
    rw [hv] at HV
    clear hR HC hv
    go_enter Tryz.func135, Tryz.ntmps135
    go_wp2_with ((with_reducible refine arm_row 66 w.heap.size 66 _ (Arr2_0 w (iv L) 66 _) _ H22.out rfl HI.out rfl _ rfl ?_ ?_); focus rfl)
    refine (HV.out _).mono ?_
    rintro e w1 ⟨rfl, hb⟩
    have HZ : Hid (Arr w1 (w.heap.size + 1) 66 (iv Z8)) := Lib.hid (Arr.keep (a2_1 _ _ _) hb)
    have HB : Hid (Below w.heap.size w w1) := Lib.hid (bel_on (bel2 _ _ _) hb)
    clear hb
    go_wp2_with ((with_reducible refine arm_put 66 (w.heap.size + 1) 66 _ _ HZ.out HIZ.out rfl HOZ.out rfl _ _ rfl ?_ ?_ ?_); (focus rfl); (focus rfl))
    refine bodyPost_ret (v := fr (Z8, 0, 1)) (ret_row3 Tryz.results135 _ _ (w.heap.size + 1) 66 (iv Z8) (HZ.out.row _) rfl _ H22.out rfl HIZ.out _ _ rfl rfl) rfl ?_
    exact ⟨by rw [HE.out], bel_row HB.out (by omega) _⟩
  | true =>
    rw [hv] at HV
    have hst := chkZ_state L c
    have HR0 : (chkZ L c).1 = 0 → R = (L, c, 0) := fun h => by rw [← hR]; unfold fixZ; rw [hv, if_pos rfl, if_neg (by omega), if_neg (by omega)]
    have HR2 : (chkZ L c).1 = 2 → R = (Z8, 0, 9) := fun h => by rw [← hR]; unfold fixZ; rw [hv, if_pos rfl, if_pos h]
    have HR1 : (chkZ L c).1 = 1 → R = (ci (flipR (nw L) c.toNat ((chkZ L c).2.1 : Nat) ((chkZ L c).2.2 : Nat)).1, (((flipR (nw L) c.toNat ((chkZ L c).2.1 : Nat) ((chkZ L c).2.2 : Nat)).2 : Nat) : Int), 0) := fun h => by rw [← hR]; unfold fixZ; rw [hv, if_pos rfl, if_neg (by omega), if_pos h]
    unfold validB at hv
    simp only [Bool.and_eq_true, decide_eq_true_eq] at hv
    obtain ⟨ha, hc0, hc1⟩ := hv
    obtain ⟨hL, hs⟩ := of_all ha
    have hlen : (nw L).length = 8 := by rw [nw_len, h8]
    obtain ⟨m, rfl⟩ : ∃ m : Nat, c = m := ⟨c.toNat, by omega⟩
    rw [Int.toNat_natCast] at HR1
    generalize chkZ L (m : Int) = r at *
    obtain ⟨st, kk, bb⟩ := r
    simp only at hst HR0 HR1 HR2
    have HIR : Hid ((iv (stI (st, kk, bb))).length = 3) := Lib.hid rfl
    have HOR := Lib.hid (iv_one (stI (st, kk, bb)))
    have HF := Lib.hid fun w => rFlip_any (nw L) m kk bb w hlen hs (by omega)
    have hfl : (flipR (nw L) m kk bb).1.length = 8 := by rw [flipR_len, hlen]
    rw [← hL] at HF
    have HIF := Lib.hid (size22' (l := ci (flipR (nw L) m kk bb).1) (by rw [ci_len, hfl]))
    have HOF := Lib.hid (iv_one (ci (flipR (nw L) m kk bb).1))
    have HNF : Hid ((iv (ci (flipR (nw L) m kk bb).1)).length = 8) := Lib.hid (by rw [iv_len, ci_len, hfl])
    have HLF2 := Lib.hid (show (iv Z8).length = (iv (ci (flipR (nw L) m kk bb).1)).length by rw [iv_len, iv_len, ci_len, hfl]; rfl)
    generalize flipR (nw L) m kk bb = f at *
    obtain ⟨fw, fc⟩ := f
    simp only at HIF HOF HNF HLF2 HR1
    clear ha hL hs hlen hfl hc0 hc1 hR
    have HR0' := Lib.hid HR0
    have HR1' := Lib.hid HR1
    have HR2' := Lib.hid HR2
    clear HR0 HR1 HR2
    obtain ⟨V, hV⟩ : ∃ V, iv (stI (st, kk, bb)) = V := ⟨_, rfl⟩
    have HV0 : Hid (V[0]? = some (.int .i64 (st : Int))) := Lib.hid (by rw [← hV]; rfl)
    have HV1 : Hid (V[1]? = some (.int .i64 (kk : Int))) := Lib.hid (by rw [← hV]; rfl)
    have HV2 : Hid (V[2]? = some (.int .i64 (bb : Int))) := Lib.hid (by rw [← hV]; rfl)
    have HC2 : Hid (∀ w, Calls Tryz.prog 154 #[.agg (iv L).toArray, .int .i64 (m : Int)] w fun e w' => e = .returned (.agg V.toArray) ∧ Below w.heap.size w w') := Lib.hid (by rw [← hV]; exact HC.out)
    rw [hV] at HIR HOR
    clear hV HC
    rcases hst with rfl | rfl | rfl
    · go_enter Tryz.func135, Tryz.ntmps135
      go_wp2_with ((with_reducible refine arm_row 66 w.heap.size 66 _ (Arr2_0 w (iv L) 66 _) _ H22.out rfl HI.out rfl _ rfl ?_ ?_); focus rfl)
      refine (HV.out _).mono ?_
      rintro e w1 ⟨rfl, hb⟩
      have HA : Hid (Arr w1 w.heap.size 66 (iv L)) := Lib.hid (Arr.keep (a2_0 _ _ _) hb)
      have HZ : Hid (Arr w1 (w.heap.size + 1) 66 (iv Z8)) := Lib.hid (Arr.keep (a2_1 _ _ _) hb)
      have HB : Hid (Below w.heap.size w w1) := Lib.hid (bel_on (bel2 _ _ _) hb)
      clear hb
      go_wp2_with ((with_reducible refine arm_row 66 w.heap.size 66 _ HA.out _ H22.out rfl HI.out rfl _ rfl ?_ ?_); focus rfl)
      refine (HC2.out _).mono ?_
      rintro e w2 ⟨rfl, hb⟩
      have HA2 := Lib.hid (HA.out.keep hb)
      have HZ2 := Lib.hid (HZ.out.keep hb)
      have HB2 := Lib.hid (bel_on HB.out hb)
      clear hb HA HZ HB
      go_wp2_with (first
        | ((with_reducible refine arm_new 196 V 3 HIR.out H29s.out HOR.out _ ?_ rfl _ _ rfl ?_ ?_ ?_); (focus rfl); (focus rfl); (focus rfl); (refine nm_l ?_; intro w3 hw3; have HA3 : Hid (Arr w3 w.heap.size 66 (iv L)) := Lib.hid (by rw [hw3]; exact HA2.out.keep (bel_new _ _)); have HZ3 : Hid (Arr w3 (w.heap.size + 1) 66 (iv Z8)) := Lib.hid (by rw [hw3]; exact HZ2.out.keep (bel_new _ _)); have HS3 : Hid (Arr w3 w2.heap.size 196 V) := Lib.hid (by rw [hw3]; exact Arr.new _ _ _); have HB3 : Hid (Below w.heap.size w w3) := Lib.hid (by rw [hw3]; exact bel_on HB2.out (bel_new _ _)); clear hw3 HB2 HA2 HZ2; generalize w2.heap.size = b2 at *; have hc0 := HS3.out.cell HV0.out))
        | ((with_reducible refine arm_row 66 w.heap.size 66 _ HA3.out _ H22.out rfl HI.out rfl _ rfl ?_ ?_); focus rfl)
        | ((with_reducible refine arm_put 66 (w.heap.size + 1) 66 _ _ HZ3.out HI.out HL.out HO.out rfl _ _ rfl ?_ ?_ ?_); (focus rfl); (focus rfl)))
      refine bodyPost_ret (v := fr (L, m, 0)) (ret_row3 Tryz.results135 _ _ (w.heap.size + 1) 66 (iv L) (HZ3.out.row _) rfl _ H22.out rfl HI.out _ _ rfl rfl) rfl ?_
      exact ⟨by rw [HR0'.out (by first | exact rfl | trivial)], bel_row HB3.out (by omega) _⟩
    · go_enter Tryz.func135, Tryz.ntmps135
      go_wp2_with ((with_reducible refine arm_row 66 w.heap.size 66 _ (Arr2_0 w (iv L) 66 _) _ H22.out rfl HI.out rfl _ rfl ?_ ?_); focus rfl)
      refine (HV.out _).mono ?_
      rintro e w1 ⟨rfl, hb⟩
      have HA : Hid (Arr w1 w.heap.size 66 (iv L)) := Lib.hid (Arr.keep (a2_0 _ _ _) hb)
      have HZ : Hid (Arr w1 (w.heap.size + 1) 66 (iv Z8)) := Lib.hid (Arr.keep (a2_1 _ _ _) hb)
      have HB : Hid (Below w.heap.size w w1) := Lib.hid (bel_on (bel2 _ _ _) hb)
      clear hb
      go_wp2_with ((with_reducible refine arm_row 66 w.heap.size 66 _ HA.out _ H22.out rfl HI.out rfl _ rfl ?_ ?_); focus rfl)
      refine (HC2.out _).mono ?_
      rintro e w2 ⟨rfl, hb⟩
      have HA2 := Lib.hid (HA.out.keep hb)
      have HZ2 := Lib.hid (HZ.out.keep hb)
      have HB2 := Lib.hid (bel_on HB.out hb)
      clear hb HA HZ HB
      go_wp2_with (first
        | ((with_reducible refine arm_new 196 V 3 HIR.out H29s.out HOR.out _ ?_ rfl _ _ rfl ?_ ?_ ?_); (focus rfl); (focus rfl); (focus rfl); (refine nm_l ?_; intro w3 hw3; have HA3 : Hid (Arr w3 w.heap.size 66 (iv L)) := Lib.hid (by rw [hw3]; exact HA2.out.keep (bel_new _ _)); have HZ3 : Hid (Arr w3 (w.heap.size + 1) 66 (iv Z8)) := Lib.hid (by rw [hw3]; exact HZ2.out.keep (bel_new _ _)); have HS3 : Hid (Arr w3 w2.heap.size 196 V) := Lib.hid (by rw [hw3]; exact Arr.new _ _ _); have HB3 : Hid (Below w.heap.size w w3) := Lib.hid (by rw [hw3]; exact bel_on HB2.out (bel_new _ _)); clear hw3 HB2 HA2 HZ2; generalize w2.heap.size = b2 at *; have hc0 := HS3.out.cell HV0.out; have hc1 := HS3.out.cell HV1.out; have hc2 := HS3.out.cell HV2.out))
        | ((with_reducible refine arm_row 66 w.heap.size 66 _ HA3.out _ H22.out rfl HI.out rfl _ rfl ?_ ?_); focus rfl))
      refine (HF.out _).mono ?_
      rintro e w4 ⟨rfl, hb⟩
      have HZ4 := Lib.hid (HZ3.out.keep hb)
      have HB4 := Lib.hid (bel_on HB3.out hb)
      clear hb HA3 HZ3 HB3 hc0 hc1 hc2 HS3
      unfold pr
      go_wp2_with (first
        | ((with_reducible refine arm_new 66 (iv (ci fw)) 8 HNF.out H22s.out HOF.out _ ?_ rfl _ _ rfl ?_ ?_ ?_); (focus rfl); (focus rfl); (focus rfl); (refine nm_l ?_; intro w5 hw5; have HZ5 : Hid (Arr w5 (w.heap.size + 1) 66 (iv Z8)) := Lib.hid (by rw [hw5]; exact HZ4.out.keep (bel_new _ _)); have HF5 : Hid (Arr w5 w4.heap.size 66 (iv (ci fw))) := Lib.hid (by rw [hw5]; exact Arr.new _ _ _); have HB5 : Hid (Below w.heap.size w w5) := Lib.hid (by rw [hw5]; exact bel_on HB4.out (bel_new _ _)); clear hw5 HB4 HZ4; generalize w4.heap.size = b3 at *))
        | ((with_reducible refine arm_row 66 b3 66 _ HF5.out _ H22.out rfl HIF.out rfl _ rfl ?_ ?_); focus rfl)
        | ((with_reducible refine arm_put 66 (w.heap.size + 1) 66 _ _ HZ5.out HIF.out HLF2.out HOF.out rfl _ _ rfl ?_ ?_ ?_); (focus rfl); (focus rfl)))
      refine bodyPost_ret (v := fr (ci fw, fc, 0)) (ret_row3 Tryz.results135 _ _ (w.heap.size + 1) 66 (iv (ci fw)) (HZ5.out.row _) rfl _ H22.out rfl HIF.out _ _ rfl rfl) rfl ?_
      exact ⟨by rw [HR1'.out (by first | exact rfl | trivial)], bel_row HB5.out (by omega) _⟩
    · go_enter Tryz.func135, Tryz.ntmps135
      go_wp2_with ((with_reducible refine arm_row 66 w.heap.size 66 _ (Arr2_0 w (iv L) 66 _) _ H22.out rfl HI.out rfl _ rfl ?_ ?_); focus rfl)
      refine (HV.out _).mono ?_
      rintro e w1 ⟨rfl, hb⟩
      have HA : Hid (Arr w1 w.heap.size 66 (iv L)) := Lib.hid (Arr.keep (a2_0 _ _ _) hb)
      have HZ : Hid (Arr w1 (w.heap.size + 1) 66 (iv Z8)) := Lib.hid (Arr.keep (a2_1 _ _ _) hb)
      have HB : Hid (Below w.heap.size w w1) := Lib.hid (bel_on (bel2 _ _ _) hb)
      clear hb
      go_wp2_with ((with_reducible refine arm_row 66 w.heap.size 66 _ HA.out _ H22.out rfl HI.out rfl _ rfl ?_ ?_); focus rfl)
      refine (HC2.out _).mono ?_
      rintro e w2 ⟨rfl, hb⟩
      have HZ2 := Lib.hid (HZ.out.keep hb)
      have HB2 := Lib.hid (bel_on HB.out hb)
      clear hb HA HZ HB
      go_wp2_with (first
        | ((with_reducible refine arm_new 196 V 3 HIR.out H29s.out HOR.out _ ?_ rfl _ _ rfl ?_ ?_ ?_); (focus rfl); (focus rfl); (focus rfl); (refine nm_l ?_; intro w3 hw3; have HZ3 : Hid (Arr w3 (w.heap.size + 1) 66 (iv Z8)) := Lib.hid (by rw [hw3]; exact HZ2.out.keep (bel_new _ _)); have HS3 : Hid (Arr w3 w2.heap.size 196 V) := Lib.hid (by rw [hw3]; exact Arr.new _ _ _); have HB3 : Hid (Below w.heap.size w w3) := Lib.hid (by rw [hw3]; exact bel_on HB2.out (bel_new _ _)); clear hw3 HB2 HZ2; generalize w2.heap.size = b2 at *; have hc0 := HS3.out.cell HV0.out))
        | ((with_reducible refine arm_put 66 (w.heap.size + 1) 66 _ _ HZ3.out HIZ.out rfl HOZ.out rfl _ _ rfl ?_ ?_ ?_); (focus rfl); (focus rfl)))
      refine bodyPost_ret (v := fr (Z8, 0, 9)) (ret_row3 Tryz.results135 _ _ (w.heap.size + 1) 66 (iv Z8) (HZ3.out.row _) rfl _ H22.out rfl HIZ.out _ _ rfl rfl) rfl ?_
      exact ⟨by rw [HR2'.out (by first | exact rfl | trivial)], bel_row HB3.out (by omega) _⟩
end Go.Proofs.YtpojhplnhppcpaaGreatDoor
namespace Go.Proofs.YtpojhplnhppcpaaGreatDoor
open Go.RowKit Go.Maps
/-! ### rows of cells -/
theorem rows_set (u : Value) (n : Nat) : ∀ (S : List (List Value)) (k j : Nat), (∀ x ∈ S, x.length = n) → (h : k < S.length) → j < n → S.flatten.set (k * n + j) u = (S.set k (S[k].set j u)).flatten
  | [], k, j, _, h, _ => by cases h
  | x :: r, 0, j, h8, h, hj => by
    have hx := h8 x (by simp)
    show (x ++ r.flatten).set (0 * n + j) u = x.set j u ++ r.flatten
    rw [Nat.zero_mul, Nat.zero_add, List.set_append_left _ _ (by omega)]
  | x :: r, k + 1, j, h8, h, hj => by
    have hx := h8 x (by simp)
    have e : (k + 1) * n = k * n + n := by rw [Nat.add_mul]; omega
    show (x ++ r.flatten).set ((k + 1) * n + j) u = x ++ (r.set k (r[k]'(by simpa using h) |>.set j u)).flatten
    rw [List.set_append_right _ _ (by omega), ← rows_set u n r k j (fun y hy => h8 y (by simp [hy])) (by simpa using h) hj]
    congr 2
    omega
theorem rows_splice (n : Nat) (x : List Value) (hx : x.length = n) : ∀ (S : List (List Value)) (i : Nat), i < S.length → (∀ y ∈ S, y.length = n) → S.flatten.take (i * n) ++ x ++ S.flatten.drop (i * n + n) = (S.set i x).flatten
  | [], i, h, _ => by cases h
  | y :: r, 0, _, hall => by
    have hy := hall y (by simp)
    simp only [Nat.zero_mul, List.take_zero, List.nil_append, Nat.zero_add, List.set_cons_zero, List.flatten_cons]
    rw [List.drop_append_of_le_length (by omega), List.drop_of_length_le (by omega), List.nil_append]
  | y :: r, i + 1, hi, hall => by
    have hy := hall y (by simp)
    have e : (i + 1) * n = n + i * n := by rw [Nat.add_mul]; omega
    simp only [List.set_cons_succ, List.flatten_cons]
    rw [e, List.take_append, List.take_of_length_le (by omega), List.drop_append, List.drop_of_length_le (by omega), List.nil_append, hy,
      show n + i * n - n = i * n by omega, show n + i * n + n - n = i * n + n by omega, ← rows_splice n x hx r i (by simpa using hi) (fun z hz => hall z (by simp [hz]))]
    simp only [List.append_assoc]
theorem heap_setCells {b k : Nat} (hk : k ≠ b) : ∀ (vs : List Value) (o : Nat) (w : World), (w.setCells b o vs).heap[k]? = w.heap[k]?
  | [], _, _ => rfl
  | v :: r, o, w => (heap_setCells hk r (o + 1) _).trans (heap_setCell_other w _ k v hk)
theorem size_setCells {b : Nat} : ∀ (vs : List Value) (o : Nat) (w : World), (w.setCells b o vs).heap.size = w.heap.size
  | [], _, _ => rfl
  | v :: r, o, w => (size_setCells r (o + 1) _).trans (by simp [World.setCell])
theorem Kept.setCells {F : Nat → Prop} {b : Nat} (h : F b) : ∀ (vs : List Value) (o : Nat) (w : World), Kept F w (w.setCells b o vs)
  | [], _, w => Kept.refl F w
  | v :: r, o, w => (Kept.setCell w (a := ⟨b, o, none⟩) v h).then_ (Kept.setCells h r (o + 1) _)
theorem Sl.setCells {e sz n b o cap : Nat} : ∀ (vs : List Value) (w : World) (xs : List Value) (j : Nat), Sl w e sz (.slice (some ⟨b, o, none⟩) n cap) n xs → j + vs.length ≤ xs.length →
    Sl (w.setCells b (o + j) vs) e sz (.slice (some ⟨b, o, none⟩) n cap) n (xs.take j ++ vs ++ xs.drop (j + vs.length))
  | [], w, xs, j, h, _ => by
    show Sl w e sz _ n _
    rw [List.append_nil, List.length_nil, Nat.add_zero, List.take_append_drop]
    exact h
  | v :: r, w, xs, j, h, hl => by
    simp only [List.length_cons] at hl
    have h1 := Sl.setCells r _ _ (j + 1) (h.set j v) (by rw [List.length_set]; omega)
    have e1 : (xs.set j v).take (j + 1) = xs.take j ++ [v] := by
      rw [List.set_eq_take_append_cons_drop, if_pos (by omega), List.take_append, List.length_take, Nat.min_eq_left (by omega), show j + 1 - j = 1 by omega]
      simp [List.take_take]
    have e2 : (xs.set j v).drop (j + 1 + r.length) = xs.drop (j + (r.length + 1)) := by
      rw [List.drop_set, if_pos (by omega)]
      congr 1
      omega
    rw [e1, e2] at h1
    show Sl ((w.setCell ⟨b, o + j, none⟩ v).setCells b (o + j + 1) r) e sz _ n _
    rw [List.length_cons]
    have e3 : xs.take j ++ v :: r = xs.take j ++ [v] ++ r := by simp
    rw [e3]
    exact h1
theorem Sl.there {w : World} {e sz n b o cap : Nat} {xs : List Value} (h : Sl w e sz (.slice (some ⟨b, o, none⟩) n cap) n xs) {j k : Nat} (hj : j + k ≤ xs.length) : w.there b (o + j) k := fun q hq => by
  have h9 : j + q < xs.length := by omega
  have hc := h.cells rfl (j + q) _ (List.getElem?_eq_getElem h9)
  rw [← Nat.add_assoc] at hc
  refine ⟨by rw [hc]; rfl, ?_⟩
  rcases h.2 with ⟨h0, _⟩ | ⟨g, o', cap', cur, hv, hb, _⟩
  · cases h0
  · simp only [Value.slice.injEq, Option.some.injEq, Addr.mk.injEq, and_true, true_and] at hv
    obtain ⟨⟨rfl, rfl⟩, rfl⟩ := hv
    exact frozen_of_row w b _ cur e hb
theorem Sl.freeR {w : World} {e sz n b o cap : Nat} {xs : List Value} (h : Sl w e sz (.slice (some ⟨b, o, none⟩) n cap) n xs) (j : Nat) : w.frozen? ⟨b, j, none⟩ = false := by
  rcases h.2 with ⟨h0, _⟩ | ⟨g, o', cap', cur, hv, hb, _⟩
  · cases h0
  · simp only [Value.slice.injEq, Option.some.injEq, Addr.mk.injEq, and_true, true_and] at hv
    obtain ⟨⟨rfl, rfl⟩, rfl⟩ := hv
    exact frozen_of_row w b j cur e hb
/-! ### the memory -/
/-- The cells of a line: its words, its code, its pending stores, its mark. -/
def lnR (x : PL × Value) : List Value := iv (x.1.ws ++ [x.1.code]) ++ [x.2, .int .i64 (x.1.mark : Int)]
theorem lnR_len {x : PL × Value} (h : x.1.ws.length = 8) : (lnR x).length = 11 := by
  unfold lnR
  rw [List.length_append, iv_len, List.length_append, h]
  rfl
structure RefAt (w : World) (p : Nat) (m : PM) (F : Nat → Prop) (d o cap : Nat) (ev : Value) (X : List (PL × Value)) : Prop where
  mem : Arr w p 128 [.slice (some ⟨d, o, none⟩) m.L.length cap, .int .i64 m.span, ev]
  lst : m.L = X.map (·.1)
  lin : Sl w 130 11 (.slice (some ⟨d, o, none⟩) m.L.length cap) m.L.length (X.map lnR).flatten
  evs : Sl w 68 12 ev m.ev.length (iv m.ev.flatten)
  pend : ∀ x ∈ X, Sl w 105 2 x.2 x.1.pend.length (iv (flatS x.1.pend))
  ownP : F p
  ownD : F d
  ownE : ∀ k, ev.ownBlock = some k → F k
  ownG : ∀ x ∈ X, ∀ k, x.2.ownBlock = some k → F k
  lt : ∀ k, F k → k < w.heap.size
def Ref (w : World) (p : Nat) (m : PM) (F : Nat → Prop) : Prop := ∃ d o cap ev X, RefAt w p m F d o cap ev X
section
variable {w w' w1 w2 : World} {p d o cap : Nat} {m : PM} {F F' : Nat → Prop} {ev : Value} {X : List (PL × Value)}
theorem RefAt.keep (h : RefAt w p m F d o cap ev X) (hk : ∀ k, F k → w'.heap[k]? = w.heap[k]?) (hF : ∀ k, F k → F' k) (hlt : ∀ k, F' k → k < w'.heap.size) : RefAt w' p m F' d o cap ev X where
  mem := (hk p h.ownP).trans h.mem
  lst := h.lst
  lin := h.lin.keep fun g hg => hk g (by simp [Value.ownBlock] at hg; subst hg; exact h.ownD)
  evs := h.evs.keep fun g hg => hk g (h.ownE g hg)
  pend := fun x hx => (h.pend x hx).keep fun g hg => hk g (h.ownG x hx g hg)
  ownP := hF _ h.ownP
  ownD := hF _ h.ownD
  ownE := fun k hk => hF _ (h.ownE k hk)
  ownG := fun x hx k hk => hF _ (h.ownG x hx k hk)
  lt := hlt
theorem Ref.lt (h : Ref w p m F) : ∀ k, F k → k < w.heap.size := by
  obtain ⟨_, _, _, _, _, h⟩ := h
  exact h.lt
theorem Ref.keep (h : Ref w p m F) (hk : ∀ k, F k → w'.heap[k]? = w.heap[k]?) (hs : w.heap.size ≤ w'.heap.size) : Ref w' p m F := by
  obtain ⟨d, o, cap, ev, X, h⟩ := h
  exact ⟨d, o, cap, ev, X, h.keep hk (fun _ h => h) fun k hk => Nat.lt_of_lt_of_le (h.lt k hk) hs⟩
theorem RefAt.below (h : RefAt w p m F d o cap ev X) (hb : Below w.heap.size w w') : RefAt w' p m F d o cap ev X := h.keep (fun k hk => hb.block k (h.lt k hk)) (fun _ h => h) fun k hk => Nat.lt_of_lt_of_le (h.lt k hk) hb.size
theorem Ref.below (h : Ref w p m F) (hb : Below w.heap.size w w') : Ref w' p m F := h.keep (fun k hk => hb.block k (h.lt k hk)) hb.size
theorem Ref.kept {H : Nat → Prop} (h : Ref w p m F) (hk : Kept H w w') (hd : ∀ k, F k → ¬ H k) : Ref w' p m F := h.keep (fun k hF => hk.block k (h.lt k hF) (hd k hF)) hk.size
theorem Ref.wide (h : Ref w p m F) (hF : ∀ k, F k → F' k) (hlt : ∀ k, F' k → k < w.heap.size) : Ref w p m F' := by
  obtain ⟨d, o, cap, ev, X, h⟩ := h
  exact ⟨d, o, cap, ev, X, h.keep (fun _ _ => rfl) hF hlt⟩
theorem Ref.ex (h : Ref w' p m F) : Ref w' p m (Ex F w w') :=
  h.wide (fun _ h => .inl h) fun k hk => by
    rcases hk with h1 | h1
    · exact h.lt k h1
    · exact h1.2
/-- What has come of it. -/
def RStep (F : Nat → Prop) (w : World) (p : Nat) (m : PM) (w' : World) : Prop := Ref w' p m (Ex F w w') ∧ Kept F w w'
theorem RStep.refl (h : Ref w p m F) : RStep F w p m w := ⟨h.ex, Kept.refl F w⟩
theorem RStep.trans {m' : PM} (h : RStep F w p m w1) (k : RStep (Ex F w w1) w1 p m' w2) : RStep F w p m' w2 :=
  ⟨k.1.wide (fun _ hx => (Ex.trans h.2.size k.2.size).1 hx) fun x hx => k.1.lt x ((Ex.trans h.2.size k.2.size).2 hx), h.2.trans k.2⟩
theorem RStep.below (h : Ref w p m F) (hb : Below w.heap.size w w1) : RStep F w p m w1 := ⟨(h.below hb).ex, Kept.of_below hb⟩
theorem RStep.then_below (h : RStep F w p m w1) (hb : Below w1.heap.size w1 w2) : RStep F w p m w2 := h.trans (RStep.below h.1 hb)
theorem RStep.of (h : Ref w1 p m F) (hk : Kept F w w1) : RStep F w p m w1 := ⟨h.ex, hk⟩
/-- What was made before it. -/
theorem RStep.after (hk : Kept F w w1) (h : RStep F w1 p m w2) : RStep F w p m w2 :=
  ⟨h.1.wide (fun k hk' => by
    rcases hk' with h1 | h1
    · exact .inl h1
    · exact .inr ⟨Nat.le_trans hk.size h1.1, h1.2⟩) (fun k hk' => by
    rcases hk' with h1 | h1
    · exact h.1.lt k (.inl h1)
    · exact h1.2), hk.then_ h.2⟩
theorem RefAt.c0 (h : RefAt w p m F d o cap ev X) : w.cell? ⟨p, 0, none⟩ = some (.slice (some ⟨d, o, none⟩) m.L.length cap) := h.mem.cell rfl
theorem RefAt.c1 (h : RefAt w p m F d o cap ev X) : w.cell? ⟨p, 1, none⟩ = some (.int .i64 m.span) := h.mem.cell rfl
theorem RefAt.c2 (h : RefAt w p m F d o cap ev X) : w.cell? ⟨p, 2, none⟩ = some ev := h.mem.cell rfl
theorem RefAt.cap_ (h : RefAt w p m F d o cap ev X) : m.L.length ≤ cap ∧ cap ≤ 9223372036854775807 := by
  obtain ⟨A, cap', he, h1, h2, _⟩ := h.lin.shape
  simp only [Value.slice.injEq] at he
  unfold maxLen at h2
  omega
theorem RefAt.len (h : RefAt w p m F d o cap ev X) : X.length = m.L.length := by rw [h.lst, List.length_map]
theorem RefAt.len8 (h : RefAt w p m F d o cap ev X) (hm : m.Ok) : ∀ x ∈ X, x.1.ws.length = 8 := fun x hx => (hm.lines x.1 (by rw [h.lst]; exact List.mem_map_of_mem hx)).len
theorem RefAt.rows (h : RefAt w p m F d o cap ev X) (hm : m.Ok) : ∀ y ∈ X.map lnR, y.length = 11 := fun y hy => by
  obtain ⟨x, hx, rfl⟩ := List.mem_map.1 hy
  exact lnR_len (h.len8 hm x hx)
/-- Where a line lies. -/
theorem RefAt.at (h : RefAt w p m F d o cap ev X) (hm : m.Ok) {i : Nat} (hi : i < m.L.length) : ∃ v, X[i]? = some (m.line i, v) ∧ w.rangeAt d (o + i * 11) (lnR (m.line i, v)) ∧ w.rangeAt d (o + i * 11) (iv (m.line i).ws) ∧
    w.cell? ⟨d, o + i * 11 + 8, none⟩ = some (.int .i64 (m.line i).code) ∧ w.cell? ⟨d, o + i * 11 + 9, none⟩ = some v ∧ w.cell? ⟨d, o + i * 11 + 10, none⟩ = some (.int .i64 ((m.line i).mark : Int)) ∧
    Sl w 105 2 v (m.line i).pend.length (iv (flatS (m.line i).pend)) := by
  have hl := h.len
  have hX : i < X.length := by omega
  have hx : X[i].1 = m.line i := by
    rw [PM.line_eq hi]
    have := h.lst
    rw [List.getElem_of_eq this, List.getElem_map]
  have h8 : (m.line i).ws.length = 8 := (hm.line hi).len
  have hr : w.rangeAt d (o + i * 11) (lnR (m.line i, X[i].2)) := fun j u hj => by
    have hj11 : j < 11 := by
      have := (List.getElem?_eq_some_iff.1 hj).1
      rw [lnR_len h8] at this
      exact this
    have h1 := flat_get (h.rows hm) (k := i) (j := j) (by rw [List.length_map]; exact hX) hj11
    rw [List.getElem_map] at h1
    have h2 : X[i] = (m.line i, X[i].2) := by rw [← hx]
    rw [h2, hj] at h1
    have := h.lin.cells rfl _ _ h1
    rw [← Nat.add_assoc] at this
    exact this
  have hlen : (iv ((m.line i).ws ++ [(m.line i).code])).length = 9 := by rw [iv_len, List.length_append, h8]; rfl
  refine ⟨X[i].2, by rw [List.getElem?_eq_getElem hX, ← hx], hr, fun j u hj => hr j u ?_, hr 8 _ ?_, hr 9 _ ?_, hr 10 _ ?_, ?_⟩
  · have hj8 : j < 8 := by
      have := (List.getElem?_eq_some_iff.1 hj).1
      rw [iv_len, h8] at this
      exact this
    unfold lnR
    rw [List.getElem?_append_left (by rw [hlen]; omega)]
    unfold iv at hj ⊢
    rw [List.map_append, List.getElem?_append_left (by rw [List.length_map, h8]; exact hj8)]
    exact hj
  · unfold lnR
    rw [List.getElem?_append_left (by rw [hlen]; omega)]
    unfold iv
    rw [List.map_append, List.getElem?_append_right (by rw [List.length_map, h8]; omega), List.length_map, h8]
    rfl
  · unfold lnR
    rw [List.getElem?_append_right (by rw [hlen]; omega), hlen]
    rfl
  · unfold lnR
    rw [List.getElem?_append_right (by rw [hlen]; omega), hlen]
    rfl
  · have := h.pend X[i] (List.getElem_mem hX)
    rw [hx] at this
    exact this
theorem RefAt.p_ne_d (h : RefAt w p m F d o cap ev X) : p ≠ d := fun e => h.lin.ne_of (g := d) rfl h.mem (by decide) e.symm
/-- A line is another one. -/
theorem RefAt.setLine (h : RefAt w p m F d o cap ev X) {i : Nat} (_hi : i < m.L.length) {l' : PL} {v' : Value} (hk : ∀ k, F k → k ≠ d → w'.heap[k]? = w.heap[k]?)
    (hd : Sl w' 130 11 (.slice (some ⟨d, o, none⟩) m.L.length cap) m.L.length ((X.set i (l', v')).map lnR).flatten)
    (hv : Sl w' 105 2 v' l'.pend.length (iv (flatS l'.pend))) (hF : ∀ k, F k → F' k) (hv' : ∀ k, v'.ownBlock = some k → F' k) (hlt : ∀ k, F' k → k < w'.heap.size) :
    RefAt w' p (m.upd i fun _ => l') F' d o cap ev (X.set i (l', v')) where
  mem := by rw [PM.upd_len]; exact (hk p h.ownP h.p_ne_d).trans h.mem
  lst := by
    show m.L.set i l' = (X.set i (l', v')).map (·.1)
    rw [List.map_set, h.lst]
  lin := by rw [PM.upd_len]; exact hd
  evs := h.evs.keep fun g hg => hk g (h.ownE g hg) (fun e => by
    subst e
    obtain ⟨cur, hc⟩ := h.lin.blk (g := g) rfl
    exact h.evs.ne_of hg hc (by decide) rfl)
  pend := fun x hx => by
    rcases List.mem_or_eq_of_mem_set hx with h1 | rfl
    · exact (h.pend x h1).keep fun g hg => hk g (h.ownG x h1 g hg) (fun e => by
        subst e
        obtain ⟨cur, hc⟩ := h.lin.blk (g := g) rfl
        exact (h.pend x h1).ne_of hg hc (by decide) rfl)
    · exact hv
  ownP := hF _ h.ownP
  ownD := hF _ h.ownD
  ownE := fun k hk => hF _ (h.ownE k hk)
  ownG := fun x hx k hk => by
    rcases List.mem_or_eq_of_mem_set hx with h1 | rfl
    · exact hF _ (h.ownG x h1 k hk)
    · exact hv' k hk
  lt := hlt
/-- A cell of a line is written. -/
theorem RefAt.lineCell (h : RefAt w p m F d o cap ev X) (hm : m.Ok) {i j : Nat} (hi : i < m.L.length) (hj : j < 11) {l' : PL} {v v' u : Value} (hx : X[i]? = some (m.line i, v)) (hu : (lnR (m.line i, v)).set j u = lnR (l', v')) :
    Sl (w.setCell ⟨d, o + i * 11 + j, none⟩ u) 130 11 (.slice (some ⟨d, o, none⟩) m.L.length cap) m.L.length ((X.set i (l', v')).map lnR).flatten := by
  have hX : i < X.length := by rw [h.len]; exact hi
  have := h.lin.set (i * 11 + j) u
  rw [rows_set u 11 (X.map lnR) i j (h.rows hm) (by rw [List.length_map]; exact hX) hj, List.getElem_map] at this
  have e : X[i] = (m.line i, v) := by rw [List.getElem?_eq_getElem hX] at hx; exact Option.some.inj hx
  rw [e, hu, ← Nat.add_assoc, ← List.map_set] at this
  exact this
/-- A whole line is written. -/
theorem RefAt.linePut (h : RefAt w p m F d o cap ev X) (hm : m.Ok) {i : Nat} (hi : i < m.L.length) {l' : PL} {v' : Value} (h8 : l'.ws.length = 8) :
    Sl (w.setCells d (o + i * 11) (lnR (l', v'))) 130 11 (.slice (some ⟨d, o, none⟩) m.L.length cap) m.L.length ((X.set i (l', v')).map lnR).flatten ∧ w.there d (o + i * 11) 11 := by
  have hX : i < (X.map lnR).length := by rw [List.length_map, h.len]; exact hi
  have hl := lnR_len (x := (l', v')) h8
  have ht : i * 11 + 11 ≤ (X.map lnR).flatten.length := by
    rw [h.lin.1]
    omega
  have h1 := Sl.setCells (lnR (l', v')) w _ (i * 11) h.lin (by rw [hl]; exact ht)
  rw [hl, rows_splice 11 (lnR (l', v')) hl _ _ hX (h.rows hm), ← List.map_set] at h1
  exact ⟨h1, h.lin.there ht⟩
/-- The span, the events are others. -/
theorem RefAt.setSpan (h : RefAt w p m F d o cap ev X) (n : Int) : RefAt (w.setCell ⟨p, 1, none⟩ (.int .i64 n)) p { m with span := n } F d o cap ev X where
  mem := h.mem.set 1 _
  lst := h.lst
  lin := h.lin.keep fun g hg => heap_setCell_other w _ g _ (h.lin.ne_of hg h.mem (by decide))
  evs := h.evs.keep fun g hg => heap_setCell_other w _ g _ (h.evs.ne_of hg h.mem (by decide))
  pend := fun x hx => (h.pend x hx).keep fun g hg => heap_setCell_other w _ g _ ((h.pend x hx).ne_of hg h.mem (by decide))
  ownP := h.ownP
  ownD := h.ownD
  ownE := h.ownE
  ownG := h.ownG
  lt := fun k hk => by simpa using h.lt k hk
theorem RefAt.setEv (h : RefAt w p m F d o cap ev X) (hk : ∀ k, F k → ev.ownBlock ≠ some k → w'.heap[k]? = w.heap[k]?) (hs : w.heap.size ≤ w'.heap.size) {ev' : Value} {evs : List (List Int)} (hsl : Sl w' 68 12 ev' evs.length (iv evs.flatten))
    (ho : ∀ k, ev'.ownBlock = some k → F k ∨ w.heap.size ≤ k) : RefAt (w'.setCell ⟨p, 2, none⟩ ev') p { m with ev := evs } (Ex F w w') d o cap ev' X := by
  have hev : ∀ g, ev.ownBlock = some g → g ≠ p ∧ d ≠ g ∧ ∀ x ∈ X, x.2.ownBlock ≠ some g := fun g hg => by
    obtain ⟨cur, hc⟩ := h.evs.blk hg
    exact ⟨h.evs.ne_of hg h.mem (by decide), h.lin.ne_of (g := d) rfl hc (by decide), fun x hx hd => (h.pend x hx).ne_of hd hc (by decide) rfl⟩
  have hmem : Arr w' p 128 [.slice (some ⟨d, o, none⟩) m.L.length cap, .int .i64 m.span, ev] := (hk p h.ownP fun e => (hev p e).1 rfl).trans h.mem
  have hlin := h.lin.keep (w' := w') fun g hg => by
    simp [Value.ownBlock] at hg
    subst hg
    exact hk d h.ownD fun e => (hev d e).2.1 rfl
  have hpend := fun x hx => (h.pend x hx).keep (w' := w') fun g hg => hk g (h.ownG x hx g hg) fun e => (hev g e).2.2 x hx hg
  exact {
    mem := hmem.set 2 _
    lst := h.lst
    lin := hlin.keep fun g hg => heap_setCell_other _ _ g _ (hlin.ne_of hg hmem (by decide))
    evs := hsl.keep fun g hg => heap_setCell_other _ _ g _ (hsl.ne_of hg hmem (by decide))
    pend := fun x hx => (hpend x hx).keep fun g hg => heap_setCell_other _ _ g _ ((hpend x hx).ne_of hg hmem (by decide))
    ownP := .inl h.ownP
    ownD := .inl h.ownD
    ownE := fun k hk => by
      rcases ho k hk with h1 | h1
      · exact .inl h1
      · exact .inr ⟨h1, hsl.lt hk⟩
    ownG := fun x hx k hk => .inl (h.ownG x hx k hk)
    lt := fun k hk => by
      have : k < w'.heap.size := by
        rcases hk with h1 | h1
        · exact Nat.lt_of_lt_of_le (h.lt k h1) hs
        · exact h1.2
      simpa using this }
/-- An event is recorded. -/
theorem RefAt.recorded (h : RefAt w1 p m F d o cap ev X) (E : List Int) (hb : Below w1.heap.size w1 w2) {ev' : Value} {w3 : World} (hsl : Sl w3 68 12 ev' (m.ev.length + 1) (iv m.ev.flatten ++ iv E)) (hg : w2.grownBy w3 ev.ownBlock) (ho : ev'.ownBlock = ev.ownBlock ∨ ev'.ownBlock = some w2.heap.size) :
    RStep F w1 p (m.add E) (w3.setCell ⟨p, 2, none⟩ ev') := by
  have hK : Kept (fun q => ev.ownBlock = some q) w2 w3 := Kept.of_grown hg (fun q hq => hq)
  have hK13 : Kept F w1 w3 := Kept.glue hb hK (fun q _ hq => h.ownE q hq)
  have hs : Sl w3 68 12 ev' (m.ev ++ [E]).length (iv (m.ev ++ [E]).flatten) := by
    rw [List.length_append, List.flatten_append, show iv (m.ev.flatten ++ [E].flatten) = iv m.ev.flatten ++ iv E by unfold iv; simp]
    exact hsl
  have := h.setEv (w' := w3) (fun q hq hne => (hK.block q (Nat.lt_of_lt_of_le (h.lt q hq) hb.size) hne).trans (hb.block q (h.lt q hq))) hK13.size hs (fun q hq => by
    rcases ho with h8 | h8
    · exact .inl (h.ownE q (h8 ▸ hq))
    · rw [h8] at hq
      simp only [Option.some.injEq] at hq
      exact .inr (by have := hb.size; omega))
  exact ⟨⟨_, _, _, _, _, this.keep (fun _ _ => rfl) (fun q hq => by
    rcases hq with h8 | h8
    · exact .inl h8
    · exact .inr ⟨h8.1, by simpa [World.setCell] using h8.2⟩) (fun q hq => by
      rcases hq with h8 | h8
      · simpa using Nat.lt_of_lt_of_le (h.lt q h8) hK13.size
      · exact h8.2)⟩, hK13.then_ (Kept.setCell w3 ev' h.ownP)⟩
end
end Go.Proofs.YtpojhplnhppcpaaGreatDoor
