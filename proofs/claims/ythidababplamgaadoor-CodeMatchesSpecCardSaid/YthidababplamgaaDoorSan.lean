/- The laws' sanity answers true. -/
import Derived.Test.YthidababplamgaaDoorC10
namespace Go.Proofs.YthidababplamgaaDoor
open Go.RowKit
theorem sp0 (w : World) : Calls Tryd.prog 12 #[.int .i64 0, .int .i64 0] w fun e w' => e = .returned (.int .i64 3) ∧ w' = w := by
  have h := Position_any 0 0 w
  rwa [show posZ 0 0 = 3 by decide +kernel] at h
theorem sp1 (w : World) : Calls Tryd.prog 12 #[.int .i64 0, .int .i64 1] w fun e w' => e = .returned (.int .i64 5) ∧ w' = w := by
  have h := Position_any 0 1 w
  rwa [show posZ 0 1 = 5 by decide +kernel] at h
theorem sp2 (w : World) : Calls Tryd.prog 12 #[.int .i64 0, .int .i64 4] w fun e w' => e = .returned (.int .i64 9) ∧ w' = w := by
  have h := Position_any 0 4 w
  rwa [show posZ 0 4 = 9 by decide +kernel] at h
theorem sp3 (w : World) : Calls Tryd.prog 12 #[.int .i64 7, .int .i64 39] w fun e w' => e = .returned (.int .i64 329) ∧ w' = w := by
  have h := Position_any 7 39 w
  rwa [show posZ 7 39 = 329 by decide +kernel] at h
theorem sp4 (w : World) : Calls Tryd.prog 12 #[.int .i64 8, .int .i64 3] w fun e w' => e = .returned (.int .i64 8) ∧ w' = w := by
  have h := Position_any 8 3 w
  rwa [show posZ 8 3 = 8 by decide +kernel] at h
theorem sp5 (w : World) : Calls Tryd.prog 12 #[.int .i64 8, .int .i64 9] w fun e w' => e = .returned (.int .i64 0) ∧ w' = w := by
  have h := Position_any 8 9 w
  rwa [show posZ 8 9 = 0 by decide +kernel] at h
theorem se0 (w : World) (hT : Tab w) : Calls Tryd.prog 14 #[.agg #[.int .i64 0, .int .i64 0, .int .i64 0, .int .i64 0, .int .i64 0, .int .i64 0, .int .i64 0, .int .i64 0]] w fun e w' => e = .returned (.int .i64 0) ∧ Below w.heap.size w w' := by
  have h := encode_any [0, 0, 0, 0, 0, 0, 0, 0] w rfl hT
  rw [show encZ [0, 0, 0, 0, 0, 0, 0, 0] = 0 by decide +kernel] at h
  exact h
theorem se1 (w : World) (hT : Tab w) : Calls Tryd.prog 14 #[.agg #[.int .i64 1, .int .i64 0, .int .i64 0, .int .i64 0, .int .i64 0, .int .i64 0, .int .i64 0, .int .i64 0]] w fun e w' => e = .returned (.int .i64 515) ∧ Below w.heap.size w w' := by
  have h := encode_any [1, 0, 0, 0, 0, 0, 0, 0] w rfl hT
  rw [show encZ [1, 0, 0, 0, 0, 0, 0, 0] = 515 by decide +kernel] at h
  exact h
theorem se2 (w : World) (hT : Tab w) : Calls Tryd.prog 14 #[.agg #[.int .i64 2, .int .i64 0, .int .i64 0, .int .i64 0, .int .i64 0, .int .i64 0, .int .i64 0, .int .i64 0]] w fun e w' => e = .returned (.int .i64 517) ∧ Below w.heap.size w w' := by
  have h := encode_any [2, 0, 0, 0, 0, 0, 0, 0] w rfl hT
  rw [show encZ [2, 0, 0, 0, 0, 0, 0, 0] = 517 by decide +kernel] at h
  exact h
theorem se3 (w : World) (hT : Tab w) : Calls Tryd.prog 14 #[.agg #[.int .i64 3, .int .i64 0, .int .i64 0, .int .i64 0, .int .i64 0, .int .i64 0, .int .i64 0, .int .i64 0]] w fun e w' => e = .returned (.int .i64 6) ∧ Below w.heap.size w w' := by
  have h := encode_any [3, 0, 0, 0, 0, 0, 0, 0] w rfl hT
  rw [show encZ [3, 0, 0, 0, 0, 0, 0, 0] = 6 by decide +kernel] at h
  exact h
theorem se4 (w : World) (hT : Tab w) : Calls Tryd.prog 14 #[.agg #[.int .i64 0, .int .i64 0, .int .i64 0, .int .i64 0, .int .i64 0, .int .i64 0, .int .i64 0, .int .i64 549755813888]] w fun e w' => e = .returned (.int .i64 841) ∧ Below w.heap.size w w' := by
  have h := encode_any [0, 0, 0, 0, 0, 0, 0, 549755813888] w rfl hT
  rw [show encZ [0, 0, 0, 0, 0, 0, 0, 549755813888] = 841 by decide +kernel] at h
  exact h
theorem se5 (w : World) (hT : Tab w) : Calls Tryd.prog 14 #[.agg #[.int .i64 (-1), .int .i64 0, .int .i64 0, .int .i64 0, .int .i64 0, .int .i64 0, .int .i64 0, .int .i64 0]] w fun e w' => e = .returned (.int .i64 (-1)) ∧ Below w.heap.size w w' := by
  have h := encode_any [(-1), 0, 0, 0, 0, 0, 0, 0] w rfl hT
  rw [show encZ [(-1), 0, 0, 0, 0, 0, 0, 0] = (-1) by decide +kernel] at h
  exact h
theorem sc0 (w : World) (hT : Tab w) : Calls Tryd.prog 16 #[.agg #[.int .i64 0, .int .i64 0, .int .i64 0, .int .i64 0, .int .i64 0, .int .i64 0, .int .i64 0, .int .i64 0], .int .i64 512] w fun e w' => e = .returned (.agg #[.int .i64 1, .int .i64 8, .int .i64 9]) ∧ Below w.heap.size w w' := by
  have h := checked_any [0, 0, 0, 0, 0, 0, 0, 0] 512 w rfl hT
  rw [show chkZ [0, 0, 0, 0, 0, 0, 0, 0] 512 = (1, 8, 9) by decide +kernel] at h
  exact h
theorem sc1 (w : World) (hT : Tab w) : Calls Tryd.prog 16 #[.agg #[.int .i64 0, .int .i64 0, .int .i64 0, .int .i64 0, .int .i64 0, .int .i64 0, .int .i64 0, .int .i64 0], .int .i64 4] w fun e w' => e = .returned (.agg #[.int .i64 1, .int .i64 8, .int .i64 2]) ∧ Below w.heap.size w w' := by
  have h := checked_any [0, 0, 0, 0, 0, 0, 0, 0] 4 w rfl hT
  rw [show chkZ [0, 0, 0, 0, 0, 0, 0, 0] 4 = (1, 8, 2) by decide +kernel] at h
  exact h
theorem sc2 (w : World) (hT : Tab w) : Calls Tryd.prog 16 #[.agg #[.int .i64 0, .int .i64 0, .int .i64 0, .int .i64 0, .int .i64 0, .int .i64 0, .int .i64 0, .int .i64 0], .int .i64 7] w fun e w' => e = .returned (.agg #[.int .i64 1, .int .i64 0, .int .i64 3]) ∧ Below w.heap.size w w' := by
  have h := checked_any [0, 0, 0, 0, 0, 0, 0, 0] 7 w rfl hT
  rw [show chkZ [0, 0, 0, 0, 0, 0, 0, 0] 7 = (1, 0, 3) by decide +kernel] at h
  exact h
theorem sc3 (w : World) (hT : Tab w) : Calls Tryd.prog 16 #[.agg #[.int .i64 0, .int .i64 0, .int .i64 0, .int .i64 0, .int .i64 0, .int .i64 0, .int .i64 0, .int .i64 0], .int .i64 5] w fun e w' => e = .returned (.agg #[.int .i64 2, .int .i64 0, .int .i64 0]) ∧ Below w.heap.size w w' := by
  have h := checked_any [0, 0, 0, 0, 0, 0, 0, 0] 5 w rfl hT
  rw [show chkZ [0, 0, 0, 0, 0, 0, 0, 0] 5 = (2, 0, 0) by decide +kernel] at h
  exact h
theorem sc4 (w : World) (hT : Tab w) : Calls Tryd.prog 16 #[.agg #[.int .i64 0, .int .i64 0, .int .i64 0, .int .i64 0, .int .i64 0, .int .i64 0, .int .i64 0, .int .i64 0], .int .i64 511] w fun e w' => e = .returned (.agg #[.int .i64 2, .int .i64 0, .int .i64 0]) ∧ Below w.heap.size w w' := by
  have h := checked_any [0, 0, 0, 0, 0, 0, 0, 0] 511 w rfl hT
  rw [show chkZ [0, 0, 0, 0, 0, 0, 0, 0] 511 = (2, 0, 0) by decide +kernel] at h
  exact h
theorem sc5 (w : World) (hT : Tab w) : Calls Tryd.prog 16 #[.agg #[.int .i64 0, .int .i64 0, .int .i64 0, .int .i64 0, .int .i64 0, .int .i64 0, .int .i64 0, .int .i64 0], .int .i64 0] w fun e w' => e = .returned (.agg #[.int .i64 0, .int .i64 0, .int .i64 0]) ∧ Below w.heap.size w w' := by
  have h := checked_any [0, 0, 0, 0, 0, 0, 0, 0] 0 w rfl hT
  rw [show chkZ [0, 0, 0, 0, 0, 0, 0, 0] 0 = (0, 0, 0) by decide +kernel] at h
  exact h
theorem sf0 (w : World) (hT : Tab w) : Calls Tryd.prog 10 #[.agg #[.int .i64 1, .int .i64 0, .int .i64 0, .int .i64 0, .int .i64 0, .int .i64 0, .int .i64 0, .int .i64 0], .int .i64 0] w fun e w' => e = .returned (.tuple #[.agg #[.int .i64 0, .int .i64 0, .int .i64 0, .int .i64 0, .int .i64 0, .int .i64 0, .int .i64 0, .int .i64 0], .int .i64 0, .int .i64 0]) ∧ Below w.heap.size w w' := by
  have h := fix_any [1, 0, 0, 0, 0, 0, 0, 0] 0 w rfl hT
  rw [show fixZ [1, 0, 0, 0, 0, 0, 0, 0] 0 = ([0, 0, 0, 0, 0, 0, 0, 0], 0, 0) by decide +kernel] at h
  exact h
theorem sf1 (w : World) (hT : Tab w) : Calls Tryd.prog 10 #[.agg #[.int .i64 0, .int .i64 0, .int .i64 0, .int .i64 0, .int .i64 0, .int .i64 0, .int .i64 0, .int .i64 0], .int .i64 5] w fun e w' => e = .returned (.tuple #[.agg #[.int .i64 0, .int .i64 0, .int .i64 0, .int .i64 0, .int .i64 0, .int .i64 0, .int .i64 0, .int .i64 0], .int .i64 0, .int .i64 9]) ∧ Below w.heap.size w w' := by
  have h := fix_any [0, 0, 0, 0, 0, 0, 0, 0] 5 w rfl hT
  rw [show fixZ [0, 0, 0, 0, 0, 0, 0, 0] 5 = ([0, 0, 0, 0, 0, 0, 0, 0], 0, 9) by decide +kernel] at h
  exact h
theorem sf2 (w : World) (hT : Tab w) : Calls Tryd.prog 10 #[.agg #[.int .i64 0, .int .i64 0, .int .i64 0, .int .i64 0, .int .i64 0, .int .i64 0, .int .i64 0, .int .i64 0], .int .i64 1024] w fun e w' => e = .returned (.tuple #[.agg #[.int .i64 0, .int .i64 0, .int .i64 0, .int .i64 0, .int .i64 0, .int .i64 0, .int .i64 0, .int .i64 0], .int .i64 0, .int .i64 1]) ∧ Below w.heap.size w w' := by
  have h := fix_any [0, 0, 0, 0, 0, 0, 0, 0] 1024 w rfl hT
  rw [show fixZ [0, 0, 0, 0, 0, 0, 0, 0] 1024 = ([0, 0, 0, 0, 0, 0, 0, 0], 0, 1) by decide +kernel] at h
  exact h
theorem sd0 (w : World) : Calls Tryd.prog 18 #[.agg #[.int .i64 3, .int .i64 0, .int .i64 0, .int .i64 0, .int .i64 0, .int .i64 0, .int .i64 0, .int .i64 0], .int .i64 0, .agg #[.int .i64 0, .int .i64 0, .int .i64 0, .int .i64 0, .int .i64 0, .int .i64 0, .int .i64 0, .int .i64 0], .int .i64 4] w fun e w' => e = .returned (.int .i64 3) ∧ Below w.heap.size w w' := by
  have h := dist_any [3, 0, 0, 0, 0, 0, 0, 0] 0 [0, 0, 0, 0, 0, 0, 0, 0] 4 w rfl rfl
  rw [show distZ [3, 0, 0, 0, 0, 0, 0, 0] 0 [0, 0, 0, 0, 0, 0, 0, 0] 4 = 3 by decide +kernel] at h
  exact h
def zc : List Value := [.int .i64 0, .int .i64 0, .int .i64 0, .int .i64 0, .int .i64 0, .int .i64 0, .int .i64 0, .int .i64 0]
theorem zc_one : ∀ u ∈ zc, u.oneCell' = true := iv_one Z8
set_option maxRecDepth 100000 in
set_option maxHeartbeats 4000000 in
theorem san_any (w : World) (hT : Tab w) : Calls Tryd.prog 21 #[] w fun e w' => e = .returned (.bool true) ∧ Below w.heap.size w w' := by
  have HT := Lib.hid hT
  have HB0 : Hid (Below w.heap.size w w) := Lib.hid (Below.refl _ _)
  have H8 := Lib.hid (show zc.length = 8 from rfl)
  have HS := Lib.hid (show (Tryd.prog.info? 22).map (·.size) = some zc.length from size22)
  have H22s := Lib.hid size22
  have H1 := Lib.hid zc_one
  have H22 := Lib.hid Tryd.underlying22
  clear hT
  go_enter Tryd.func21, Tryd.ntmps21
  go_wp2_with fail
  refine (sp0 _).mono ?_
  rintro e wp0 ⟨rfl, rfl⟩
  go_wp2_with fail
  refine (sp1 _).mono ?_
  rintro e wp1 ⟨rfl, rfl⟩
  go_wp2_with fail
  refine (sp2 _).mono ?_
  rintro e wp2 ⟨rfl, rfl⟩
  go_wp2_with fail
  refine (sp3 _).mono ?_
  rintro e wp3 ⟨rfl, rfl⟩
  go_wp2_with fail
  refine (sp4 _).mono ?_
  rintro e wp4 ⟨rfl, rfl⟩
  go_wp2_with fail
  refine (sp5 _).mono ?_
  rintro e wp5 ⟨rfl, rfl⟩
  go_wp2_with fail
  refine (se0 _ (HT.out.keep HB0.out)).mono ?_
  rintro e w1 ⟨rfl, hb⟩
  have HB1 := Lib.hid (bel_on HB0.out hb)
  clear hb HB0
  go_wp2_with fail
  refine (se1 _ (HT.out.keep HB1.out)).mono ?_
  rintro e w2 ⟨rfl, hb⟩
  have HB2 := Lib.hid (bel_on HB1.out hb)
  clear hb HB1
  go_wp2_with fail
  refine (se2 _ (HT.out.keep HB2.out)).mono ?_
  rintro e w3 ⟨rfl, hb⟩
  have HB3 := Lib.hid (bel_on HB2.out hb)
  clear hb HB2
  go_wp2_with fail
  refine (se3 _ (HT.out.keep HB3.out)).mono ?_
  rintro e w4 ⟨rfl, hb⟩
  have HB4 := Lib.hid (bel_on HB3.out hb)
  clear hb HB3
  go_wp2_with fail
  refine (se4 _ (HT.out.keep HB4.out)).mono ?_
  rintro e w5 ⟨rfl, hb⟩
  have HB5 := Lib.hid (bel_on HB4.out hb)
  clear hb HB4
  go_wp2_with fail
  refine (se5 _ (HT.out.keep HB5.out)).mono ?_
  rintro e w6 ⟨rfl, hb⟩
  have HB6 := Lib.hid (bel_on HB5.out hb)
  clear hb HB5
  go_wp2_with fail
  refine (sc0 _ (HT.out.keep HB6.out)).mono ?_
  rintro e w7 ⟨rfl, hb⟩
  have HB7 := Lib.hid (bel_on HB6.out hb)
  clear hb HB6
  go_wp2_with fail
  refine (sc1 _ (HT.out.keep HB7.out)).mono ?_
  rintro e w8 ⟨rfl, hb⟩
  have HB8 := Lib.hid (bel_on HB7.out hb)
  clear hb HB7
  go_wp2_with fail
  refine (sc2 _ (HT.out.keep HB8.out)).mono ?_
  rintro e w9 ⟨rfl, hb⟩
  have HB9 := Lib.hid (bel_on HB8.out hb)
  clear hb HB8
  go_wp2_with fail
  refine (sc3 _ (HT.out.keep HB9.out)).mono ?_
  rintro e w10 ⟨rfl, hb⟩
  have HB10 := Lib.hid (bel_on HB9.out hb)
  clear hb HB9
  go_wp2_with fail
  refine (sc4 _ (HT.out.keep HB10.out)).mono ?_
  rintro e w11 ⟨rfl, hb⟩
  have HB11 := Lib.hid (bel_on HB10.out hb)
  clear hb HB10
  go_wp2_with fail
  refine (sc5 _ (HT.out.keep HB11.out)).mono ?_
  rintro e w12 ⟨rfl, hb⟩
  have HB12 := Lib.hid (bel_on HB11.out hb)
  clear hb HB11
  go_wp2_with fail
  refine (sf0 _ (HT.out.keep HB12.out)).mono ?_
  rintro e w13 ⟨rfl, hb⟩
  have HB13 := Lib.hid (bel_on HB12.out hb)
  clear hb HB12
  go_wp2_with ((with_reducible refine arm_new 22 zc 8 H8.out H22s.out H1.out _ ?_ rfl _ _ rfl ?_ ?_ ?_); (focus rfl); (focus rfl); (focus rfl); (refine nm_l ?_; intro w14 hw; have HA14 : Hid (Arr w14 w13.heap.size 22 zc) := Lib.hid (by rw [hw]; exact Arr.new _ _ _); have HB14 := Lib.hid (show Below wp5.heap.size wp5 w14 by rw [hw]; exact bel_on HB13.out (bel_new _ _)); clear hw HB13; generalize w13.heap.size = b1 at *))
  refine (sf1 _ (HT.out.keep HB14.out)).mono ?_
  rintro e w15 ⟨rfl, hb⟩
  have HA15 := Lib.hid (HA14.out.keep hb)
  have HB15 := Lib.hid (bel_on HB14.out hb)
  clear hb HB14 HA14
  go_wp2_with ((with_reducible refine arm_new 22 zc 8 H8.out H22s.out H1.out _ ?_ rfl _ _ rfl ?_ ?_ ?_); (focus rfl); (focus rfl); (focus rfl); (refine nm_l ?_; intro w16 hw; have HA16 : Hid (Arr w16 b1 22 zc) := Lib.hid (by rw [hw]; exact HA15.out.keep (bel_new _ _)); have HB16 := Lib.hid (show Below wp5.heap.size wp5 w16 by rw [hw]; exact bel_on HB15.out (bel_new _ _)); clear hw HB15 HA15))
  refine (sf2 _ (HT.out.keep HB16.out)).mono ?_
  rintro e w17 ⟨rfl, hb⟩
  have HA17 := Lib.hid (HA16.out.keep hb)
  have HB17 := Lib.hid (bel_on HB16.out hb)
  clear hb HB16 HA16
  have hzz : ∀ w, (Op.equalIn 10000 22 (.agg zc.toArray) (.agg #[.int .i64 0, .int .i64 0, .int .i64 0, .int .i64 0, .int .i64 0, .int .i64 0, .int .i64 0, .int .i64 0])).run Tryd.prog w = .ok true w := fun w => eq_line Z8 Z8 rfl rfl z8_i64 z8_i64 w
  go_wp2_with (first
    | ((with_reducible refine arm_new 22 zc 8 H8.out H22s.out H1.out _ ?_ rfl _ _ rfl ?_ ?_ ?_); (focus rfl); (focus rfl); (focus rfl); (refine nm_l ?_; intro w18 hw; have HA18 : Hid (Arr w18 b1 22 zc) := Lib.hid (by rw [hw]; exact HA17.out.keep (bel_new _ _)); have HB18 := Lib.hid (show Below wp5.heap.size wp5 w18 by rw [hw]; exact bel_on HB17.out (bel_new _ _)); clear hw HB17 HA17))
    | ((with_reducible refine arm_rowg 22 b1 22 zc HA18.out _ H22.out rfl HS.out ?_ _ rfl ?_ ?_); (focus rfl); (focus rfl)))
  refine (sd0 _).mono ?_
  rintro e w19 ⟨rfl, hb⟩
  have HB19 := Lib.hid (bel_on HB18.out hb)
  clear hb HB18 HA18
  go_wp2_with fail
  go_ret
  exact ⟨rfl, HB19.out⟩
end Go.Proofs.YthidababplamgaaDoor
