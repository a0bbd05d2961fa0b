/- What the reference's Fix does. -/
import Derived.Test.YthidababplamgaaDoorR6
namespace Go.Proofs.YthidababplamgaaDoor
open Go.RowKit
set_option maxRecDepth 100000 in
set_option maxHeartbeats 1000000 in
theorem rFix_any (L : List Int) (c : Int) (w : World) (h8 : L.length = 8) :
    Calls Tryd.prog 11 #[.agg (iv L).toArray, .int .i64 c] w fun e w' => e = .returned (fr (fixZ L c)) ∧ Below w.heap.size w w' := by
  have HI := Lib.hid (size22' (l := L) h8)
  have HIZ := Lib.hid (size22' (l := Z8) rfl)
  have HOZ := Lib.hid (iv_one Z8)
  have HO := Lib.hid (iv_one L)
  have HL := Lib.hid (show (iv Z8).length = (iv L).length by rw [iv_len, iv_len, h8]; rfl)
  have H22 := Lib.hid Tryd.underlying22
  have H22s := Lib.hid size22
  have H29s := Lib.hid size29
  have HV := Lib.hid fun w => rvalid_any L c w h8
  have HC := Lib.hid fun w => rChecked_any L c w h8
  obtain ⟨R, hR⟩ : ∃ R, fixZ L c = R := ⟨_, rfl⟩
  rw [hR]
  cases hv : validB L c with
  | false =>
    have HE : Hid (R = (Z8, 0, 1)) := Lib.hid (by rw [← hR]; unfold fixZ; rw [hv, if_neg (by decide)])
    rw [hv] at HV
    clear hR HC hv
    go_enter Tryd.func11, Tryd.ntmps11
    go_wp2_with ((with_reducible refine arm_row 22 w.heap.size 22 _ (Arr2_0 w (iv L) 22 _) _ H22.out rfl HI.out rfl _ rfl ?_ ?_); focus rfl)
    refine (HV.out _).mono ?_
    rintro e w1 ⟨rfl, hb⟩
    have HZ : Hid (Arr w1 (w.heap.size + 1) 22 (iv Z8)) := Lib.hid (Arr.keep (a2_1 _ _ _) hb)
    have HB : Hid (Below w.heap.size w w1) := Lib.hid (bel_on (bel2 _ _ _) hb)
    clear hb
    go_wp2_with ((with_reducible refine arm_put 22 (w.heap.size + 1) 22 _ _ HZ.out HIZ.out rfl HOZ.out rfl _ _ rfl ?_ ?_ ?_); (focus rfl); (focus rfl))
    refine bodyPost_ret (v := fr (Z8, 0, 1)) (ret_row3 Tryd.results11 _ _ (w.heap.size + 1) 22 (iv Z8) (HZ.out.row _) rfl _ H22.out rfl HIZ.out _ _ rfl rfl) rfl ?_
    exact ⟨by rw [HE.out], bel_row HB.out (by omega) _⟩
  | true =>
    rw [hv] at HV
    have hst := chkZ_state L c
    have HR0 : (chkZ L c).1 = 0 → R = (L, c, 0) := fun h => by rw [← hR]; unfold fixZ; rw [hv, if_pos rfl, if_neg (by omega), if_neg (by omega)]
    have HR2 : (chkZ L c).1 = 2 → R = (Z8, 0, 9) := fun h => by rw [← hR]; unfold fixZ; rw [hv, if_pos rfl, if_pos h]
    have HR1 : (chkZ L c).1 = 1 → R = (ci (flipR (nw L) c.toNat ((chkZ L c).2.1 : Nat) ((chkZ L c).2.2 : Nat)).1, (((flipR (nw L) c.toNat ((chkZ L c).2.1 : Nat) ((chkZ L c).2.2 : Nat)).2 : Nat) : Int), 0) := fun h => by rw [← hR]; unfold fixZ; rw [hv, if_pos rfl, if_neg (by omega), if_pos h]
    unfold validB at hv
    simp only [Bool.and_eq_true, decide_eq_true_eq] at hv
    obtain ⟨ha, hc0, hc1⟩ := hv
    obtain ⟨hL, hs⟩ := of_all ha
    have hlen : (nw L).length = 8 := by rw [nw_len, h8]
    obtain ⟨m, rfl⟩ : ∃ m : Nat, c = m := ⟨c.toNat, by omega⟩
    rw [Int.toNat_natCast] at HR1
    generalize chkZ L (m : Int) = r at *
    obtain ⟨st, kk, bb⟩ := r
    simp only at hst HR0 HR1 HR2
    have HIR : Hid ((iv (stI (st, kk, bb))).length = 3) := Lib.hid rfl
    have HOR := Lib.hid (iv_one (stI (st, kk, bb)))
    have HF := Lib.hid fun w => rFlip_any (nw L) m kk bb w hlen hs (by omega)
    have hfl : (flipR (nw L) m kk bb).1.length = 8 := by rw [flipR_len, hlen]
    rw [← hL] at HF
    have HIF := Lib.hid (size22' (l := ci (flipR (nw L) m kk bb).1) (by rw [ci_len, hfl]))
    have HOF := Lib.hid (iv_one (ci (flipR (nw L) m kk bb).1))
    have HNF : Hid ((iv (ci (flipR (nw L) m kk bb).1)).length = 8) := Lib.hid (by rw [iv_len, ci_len, hfl])
    have HLF2 := Lib.hid (show (iv Z8).length = (iv (ci (flipR (nw L) m kk bb).1)).length by rw [iv_len, iv_len, ci_len, hfl]; rfl)
    generalize flipR (nw L) m kk bb = f at *
    obtain ⟨fw, fc⟩ := f
    simp only at HIF HOF HNF HLF2 HR1
    clear ha hL hs hlen hfl hc0 hc1 hR
    have HR0' := Lib.hid HR0
    have HR1' := Lib.hid HR1
    have HR2' := Lib.hid HR2
    clear HR0 HR1 HR2
    obtain ⟨V, hV⟩ : ∃ V, iv (stI (st, kk, bb)) = V := ⟨_, rfl⟩
    have HV0 : Hid (V[0]? = some (.int .i64 (st : Int))) := Lib.hid (by rw [← hV]; rfl)
    have HV1 : Hid (V[1]? = some (.int .i64 (kk : Int))) := Lib.hid (by rw [← hV]; rfl)
    have HV2 : Hid (V[2]? = some (.int .i64 (bb : Int))) := Lib.hid (by rw [← hV]; rfl)
    have HC2 : Hid (∀ w, Calls Tryd.prog 17 #[.agg (iv L).toArray, .int .i64 (m : Int)] w fun e w' => e = .returned (.agg V.toArray) ∧ Below w.heap.size w w') := Lib.hid (by rw [← hV]; exact HC.out)
    rw [hV] at HIR HOR
    clear hV HC
    rcases hst with rfl | rfl | rfl
    · go_enter Tryd.func11, Tryd.ntmps11
      go_wp2_with ((with_reducible refine arm_row 22 w.heap.size 22 _ (Arr2_0 w (iv L) 22 _) _ H22.out rfl HI.out rfl _ rfl ?_ ?_); focus rfl)
      refine (HV.out _).mono ?_
      rintro e w1 ⟨rfl, hb⟩
      have HA : Hid (Arr w1 w.heap.size 22 (iv L)) := Lib.hid (Arr.keep (a2_0 _ _ _) hb)
      have HZ : Hid (Arr w1 (w.heap.size + 1) 22 (iv Z8)) := Lib.hid (Arr.keep (a2_1 _ _ _) hb)
      have HB : Hid (Below w.heap.size w w1) := Lib.hid (bel_on (bel2 _ _ _) hb)
      clear hb
      go_wp2_with ((with_reducible refine arm_row 22 w.heap.size 22 _ HA.out _ H22.out rfl HI.out rfl _ rfl ?_ ?_); focus rfl)
      refine (HC2.out _).mono ?_
      rintro e w2 ⟨rfl, hb⟩
      have HA2 := Lib.hid (HA.out.keep hb)
      have HZ2 := Lib.hid (HZ.out.keep hb)
      have HB2 := Lib.hid (bel_on HB.out hb)
      clear hb HA HZ HB
      go_wp2_with (first
        | ((with_reducible refine arm_new 29 V 3 HIR.out H29s.out HOR.out _ ?_ rfl _ _ rfl ?_ ?_ ?_); (focus rfl); (focus rfl); (focus rfl); (refine nm_l ?_; intro w3 hw3; have HA3 : Hid (Arr w3 w.heap.size 22 (iv L)) := Lib.hid (by rw [hw3]; exact HA2.out.keep (bel_new _ _)); have HZ3 : Hid (Arr w3 (w.heap.size + 1) 22 (iv Z8)) := Lib.hid (by rw [hw3]; exact HZ2.out.keep (bel_new _ _)); have HS3 : Hid (Arr w3 w2.heap.size 29 V) := Lib.hid (by rw [hw3]; exact Arr.new _ _ _); have HB3 : Hid (Below w.heap.size w w3) := Lib.hid (by rw [hw3]; exact bel_on HB2.out (bel_new _ _)); clear hw3 HB2 HA2 HZ2; generalize w2.heap.size = b2 at *; have hc0 := HS3.out.cell HV0.out))
        | ((with_reducible refine arm_row 22 w.heap.size 22 _ HA3.out _ H22.out rfl HI.out rfl _ rfl ?_ ?_); focus rfl)
        | ((with_reducible refine arm_put 22 (w.heap.size + 1) 22 _ _ HZ3.out HI.out HL.out HO.out rfl _ _ rfl ?_ ?_ ?_); (focus rfl); (focus rfl)))
      refine bodyPost_ret (v := fr (L, m, 0)) (ret_row3 Tryd.results11 _ _ (w.heap.size + 1) 22 (iv L) (HZ3.out.row _) rfl _ H22.out rfl HI.out _ _ rfl rfl) rfl ?_
      exact ⟨by rw [HR0'.out (by first | exact rfl | trivial)], bel_row HB3.out (by omega) _⟩
    · go_enter Tryd.func11, Tryd.ntmps11
      go_wp2_with ((with_reducible refine arm_row 22 w.heap.size 22 _ (Arr2_0 w (iv L) 22 _) _ H22.out rfl HI.out rfl _ rfl ?_ ?_); focus rfl)
      refine (HV.out _).mono ?_
      rintro e w1 ⟨rfl, hb⟩
      have HA : Hid (Arr w1 w.heap.size 22 (iv L)) := Lib.hid (Arr.keep (a2_0 _ _ _) hb)
      have HZ : Hid (Arr w1 (w.heap.size + 1) 22 (iv Z8)) := Lib.hid (Arr.keep (a2_1 _ _ _) hb)
      have HB : Hid (Below w.heap.size w w1) := Lib.hid (bel_on (bel2 _ _ _) hb)
      clear hb
      go_wp2_with ((with_reducible refine arm_row 22 w.heap.size 22 _ HA.out _ H22.out rfl HI.out rfl _ rfl ?_ ?_); focus rfl)
      refine (HC2.out _).mono ?_
      rintro e w2 ⟨rfl, hb⟩
      have HA2 := Lib.hid (HA.out.keep hb)
      have HZ2 := Lib.hid (HZ.out.keep hb)
      have HB2 := Lib.hid (bel_on HB.out hb)
      clear hb HA HZ HB
      go_wp2_with (first
        | ((with_reducible refine arm_new 29 V 3 HIR.out H29s.out HOR.out _ ?_ rfl _ _ rfl ?_ ?_ ?_); (focus rfl); (focus rfl); (focus rfl); (refine nm_l ?_; intro w3 hw3; have HA3 : Hid (Arr w3 w.heap.size 22 (iv L)) := Lib.hid (by rw [hw3]; exact HA2.out.keep (bel_new _ _)); have HZ3 : Hid (Arr w3 (w.heap.size + 1) 22 (iv Z8)) := Lib.hid (by rw [hw3]; exact HZ2.out.keep (bel_new _ _)); have HS3 : Hid (Arr w3 w2.heap.size 29 V) := Lib.hid (by rw [hw3]; exact Arr.new _ _ _); have HB3 : Hid (Below w.heap.size w w3) := Lib.hid (by rw [hw3]; exact bel_on HB2.out (bel_new _ _)); clear hw3 HB2 HA2 HZ2; generalize w2.heap.size = b2 at *; have hc0 := HS3.out.cell HV0.out; have hc1 := HS3.out.cell HV1.out; have hc2 := HS3.out.cell HV2.out))
        | ((with_reducible refine arm_row 22 w.heap.size 22 _ HA3.out _ H22.out rfl HI.out rfl _ rfl ?_ ?_); focus rfl))
      refine (HF.out _).mono ?_
      rintro e w4 ⟨rfl, hb⟩
      have HZ4 := Lib.hid (HZ3.out.keep hb)
      have HB4 := Lib.hid (bel_on HB3.out hb)
      clear hb HA3 HZ3 HB3 hc0 hc1 hc2 HS3
      unfold pr
      go_wp2_with (first
        | ((with_reducible refine arm_new 22 (iv (ci fw)) 8 HNF.out H22s.out HOF.out _ ?_ rfl _ _ rfl ?_ ?_ ?_); (focus rfl); (focus rfl); (focus rfl); (refine nm_l ?_; intro w5 hw5; have HZ5 : Hid (Arr w5 (w.heap.size + 1) 22 (iv Z8)) := Lib.hid (by rw [hw5]; exact HZ4.out.keep (bel_new _ _)); have HF5 : Hid (Arr w5 w4.heap.size 22 (iv (ci fw))) := Lib.hid (by rw [hw5]; exact Arr.new _ _ _); have HB5 : Hid (Below w.heap.size w w5) := Lib.hid (by rw [hw5]; exact bel_on HB4.out (bel_new _ _)); clear hw5 HB4 HZ4; generalize w4.heap.size = b3 at *))
        | ((with_reducible refine arm_row 22 b3 22 _ HF5.out _ H22.out rfl HIF.out rfl _ rfl ?_ ?_); focus rfl)
        | ((with_reducible refine arm_put 22 (w.heap.size + 1) 22 _ _ HZ5.out HIF.out HLF2.out HOF.out rfl _ _ rfl ?_ ?_ ?_); (focus rfl); (focus rfl)))
      refine bodyPost_ret (v := fr (ci fw, fc, 0)) (ret_row3 Tryd.results11 _ _ (w.heap.size + 1) 22 (iv (ci fw)) (HZ5.out.row _) rfl _ H22.out rfl HIF.out _ _ rfl rfl) rfl ?_
      exact ⟨by rw [HR1'.out (by first | exact rfl | trivial)], bel_row HB5.out (by omega) _⟩
    · go_enter Tryd.func11, Tryd.ntmps11
      go_wp2_with ((with_reducible refine arm_row 22 w.heap.size 22 _ (Arr2_0 w (iv L) 22 _) _ H22.out rfl HI.out rfl _ rfl ?_ ?_); focus rfl)
      refine (HV.out _).mono ?_
      rintro e w1 ⟨rfl, hb⟩
      have HA : Hid (Arr w1 w.heap.size 22 (iv L)) := Lib.hid (Arr.keep (a2_0 _ _ _) hb)
      have HZ : Hid (Arr w1 (w.heap.size + 1) 22 (iv Z8)) := Lib.hid (Arr.keep (a2_1 _ _ _) hb)
      have HB : Hid (Below w.heap.size w w1) := Lib.hid (bel_on (bel2 _ _ _) hb)
      clear hb
      go_wp2_with ((with_reducible refine arm_row 22 w.heap.size 22 _ HA.out _ H22.out rfl HI.out rfl _ rfl ?_ ?_); focus rfl)
      refine (HC2.out _).mono ?_
      rintro e w2 ⟨rfl, hb⟩
      have HZ2 := Lib.hid (HZ.out.keep hb)
      have HB2 := Lib.hid (bel_on HB.out hb)
      clear hb HA HZ HB
      go_wp2_with (first
        | ((with_reducible refine arm_new 29 V 3 HIR.out H29s.out HOR.out _ ?_ rfl _ _ rfl ?_ ?_ ?_); (focus rfl); (focus rfl); (focus rfl); (refine nm_l ?_; intro w3 hw3; have HZ3 : Hid (Arr w3 (w.heap.size + 1) 22 (iv Z8)) := Lib.hid (by rw [hw3]; exact HZ2.out.keep (bel_new _ _)); have HS3 : Hid (Arr w3 w2.heap.size 29 V) := Lib.hid (by rw [hw3]; exact Arr.new _ _ _); have HB3 : Hid (Below w.heap.size w w3) := Lib.hid (by rw [hw3]; exact bel_on HB2.out (bel_new _ _)); clear hw3 HB2 HZ2; generalize w2.heap.size = b2 at *; have hc0 := HS3.out.cell HV0.out))
        | ((with_reducible refine arm_put 22 (w.heap.size + 1) 22 _ _ HZ3.out HIZ.out rfl HOZ.out rfl _ _ rfl ?_ ?_ ?_); (focus rfl); (focus rfl)))
      refine bodyPost_ret (v := fr (Z8, 0, 9)) (ret_row3 Tryd.results11 _ _ (w.heap.size + 1) 22 (iv Z8) (HZ3.out.row _) rfl _ H22.out rfl HIZ.out _ _ rfl rfl) rfl ?_
      exact ⟨by rw [HR2'.out (by first | exact rfl | trivial)], bel_row HB3.out (by omega) _⟩
end Go.Proofs.YthidababplamgaaDoor
