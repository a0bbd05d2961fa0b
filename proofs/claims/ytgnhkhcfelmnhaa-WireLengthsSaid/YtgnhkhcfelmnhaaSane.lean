/- The examples that each law plays first come out true. -/
import Derived.Test.YtgnhkhcfelmnhaaLits
namespace Go.Proofs.Ytgnhkhcfelmnhaa
open Go.RowKit
theorem x1 : getI [128, 1, 9] = (64, 2, 0) := by decide
theorem x2 : getI [128] = (0, 0, 10) := by decide
theorem x3 : getI [128, 0] = (0, 0, 11) := by decide
theorem x4 : getB [4, 97, 98, 7] = ([97, 98], 3, 0) := by decide
theorem x5 : getS getI 1 [4, 2, 1] = ([1, -1], 3, 0) := by decide
theorem x6 : getS getB 1 [4, 0, 2, 97, 5] = ([[], [97]], 4, 0) := by decide
theorem x7 : encL encS [⟨#[]⟩, ⟨#[97]⟩] = [4, 0, 2, 97] := by decide
theorem x8 : enc (-65) = [129, 1] := by decide
theorem x9 : encL enc [1, -1] = [4, 2, 1] := by decide
theorem x10 : encL id [[1, 2, 0, 0, 0, 0, 0, 0, 0, 0, 0, 0, 0, 0, 0, 0]] = [2, 1, 2, 0, 0, 0, 0, 0, 0, 0, 0, 0, 0, 0, 0, 0, 0] := by decide
theorem x11 : getS getD16 16 [2, 1, 2, 0, 0, 0, 0, 0, 0, 0, 0, 0, 0, 0, 0, 0, 0] = ([[1, 2, 0, 0, 0, 0, 0, 0, 0, 0, 0, 0, 0, 0, 0, 0]], 17, 0) := by decide
set_option maxRecDepth 100000 in
set_option maxHeartbeats 4000000 in
theorem sanity_any (w : World) : Calls Try.prog 12 #[] w fun e w' => e = .returned (.bool true) ∧ Below w.heap.size w w' := by
  go_enter Try.func12, Try.ntmps12
  go_wp2_with fail
  refine (s_getInt w _ 3 [128, 1, 9] rfl rfl (by omega) _ _ _ x1).mono ?_
  rintro e w1 ⟨rfl, hb1⟩
  go_wp2_with fail
  refine (s_getInt w1 _ 1 [128] rfl rfl (by omega) _ _ _ x2).mono ?_
  rintro e w2 ⟨rfl, hb2⟩
  go_wp2_with fail
  refine (s_getInt w2 _ 2 [128, 0] rfl rfl (by omega) _ _ _ x3).mono ?_
  rintro e w3 ⟨rfl, hb3⟩
  go_wp2_with fail
  refine (s_getBytes w3 _ 4 [4, 97, 98, 7] _ rfl rfl (by omega) _ _ x4).mono ?_
  rintro e w4 ⟨rfl, hb4⟩
  go_wp2_with fail
  refine (s_getInts w4 _ 3 [4, 2, 1] _ rfl rfl (by omega) _ _ x5).mono ?_
  rintro e w5 ⟨v5, rfl, ho5, hb5⟩
  have hbx5 : (w5.alloc (.cells #[.int .u8 1, .int .u8 2, .int .u8 0, .int .u8 0, .int .u8 0, .int .u8 0, .int .u8 0, .int .u8 0, .int .u8 0, .int .u8 0, .int .u8 0, .int .u8 0, .int .u8 0, .int .u8 0, .int .u8 0, .int .u8 0] 57)).heap[w5.heap.size]? = some (.cells #[.int .u8 1, .int .u8 2, .int .u8 0, .int .u8 0, .int .u8 0, .int .u8 0, .int .u8 0, .int .u8 0, .int .u8 0, .int .u8 0, .int .u8 0, .int .u8 0, .int .u8 0, .int .u8 0, .int .u8 0, .int .u8 0] 57 (0, 0)) := heap_alloc_last w5 _
  have HBX5 := Lib.hid hbx5
  clear hbx5
  have h22 := s_digests (w5.alloc (.cells #[.int .u8 1, .int .u8 2, .int .u8 0, .int .u8 0, .int .u8 0, .int .u8 0, .int .u8 0, .int .u8 0, .int .u8 0, .int .u8 0, .int .u8 0, .int .u8 0, .int .u8 0, .int .u8 0, .int .u8 0, .int .u8 0] 57)) #[.int .u8 1, .int .u8 2, .int .u8 0, .int .u8 0, .int .u8 0, .int .u8 0, .int .u8 0, .int .u8 0, .int .u8 0, .int .u8 0, .int .u8 0, .int .u8 0, .int .u8 0, .int .u8 0, .int .u8 0, .int .u8 0] 1 [[1, 2, 0, 0, 0, 0, 0, 0, 0, 0, 0, 0, 0, 0, 0, 0]] rfl (by decide) rfl (by omega)
  rw [World.size_alloc] at h22
  have H22 := Lib.hid h22
  clear h22
  have hb5' := bel_new w5 (.cells #[.int .u8 1, .int .u8 2, .int .u8 0, .int .u8 0, .int .u8 0, .int .u8 0, .int .u8 0, .int .u8 0, .int .u8 0, .int .u8 0, .int .u8 0, .int .u8 0, .int .u8 0, .int .u8 0, .int .u8 0, .int .u8 0] 57)
  go_wp2_with fail
  refine (H22.out).mono ?_
  rintro e w6 ⟨v6, rfl, ho6, hb6⟩
  rw [x10] at ho6
  obtain ⟨A6, c6, rfl, hc6, _, hR6⟩ := ho6.form
  clear H22
  go_wp2_with fail
  refine (getDigests_any A6 c6 _ w6 hc6 hR6 (by decide)).mono ?_
  rintro e w7 ⟨v7, rfl, ho7, hb7⟩
  rw [x11] at ho7 ⊢
  go_wp2_with fail
  refine (s_getStrings w7 _ 5 [4, 0, 2, 97, 5] _ rfl rfl (by omega) _ _ x6).mono ?_
  rintro e w8 ⟨v8, rfl, ho8, hb8⟩
  go_wp2_with fail
  refine (s_sameTexts w8 _ 2 [[], [97]] ho8 rfl rfl (by omega) rfl).mono ?_
  rintro e w9 ⟨rfl, hb9⟩
  go_wp2_with fail
  refine (s_strings w9 _ 2 [⟨#[]⟩, ⟨#[97]⟩] rfl rfl (by omega) (by decide)).mono ?_
  rintro e w10 ⟨v10, rfl, ho10, hb10⟩
  go_wp2_with fail
  refine (s_same w10 _ 4 [4, 0, 2, 97] ho10 rfl rfl x7).mono ?_
  rintro e w11 ⟨rfl, hb11⟩
  go_wp2_with fail
  refine (int_any (-65) w11 (by unfold I64; omega)).mono ?_
  rintro e w12 ⟨v12, rfl, ho12, hb12⟩
  go_wp2_with fail
  refine (s_same w12 _ 2 [129, 1] ho12 rfl rfl x8).mono ?_
  rintro e w13 ⟨rfl, hb13⟩
  have k7 : Below w7.heap.size w7 w13 := bel_on (bel_on (bel_on (bel_on (bel_on hb8 hb9) hb10) hb11) hb12) hb13
  have k6 : Below w6.heap.size w6 w13 := bel_on hb7 k7
  have hb6' : Below (w5.alloc (.cells #[.int .u8 1, .int .u8 2, .int .u8 0, .int .u8 0, .int .u8 0, .int .u8 0, .int .u8 0, .int .u8 0, .int .u8 0, .int .u8 0, .int .u8 0, .int .u8 0, .int .u8 0, .int .u8 0, .int .u8 0, .int .u8 0] 57)).heap.size (w5.alloc (.cells #[.int .u8 1, .int .u8 2, .int .u8 0, .int .u8 0, .int .u8 0, .int .u8 0, .int .u8 0, .int .u8 0, .int .u8 0, .int .u8 0, .int .u8 0, .int .u8 0, .int .u8 0, .int .u8 0, .int .u8 0, .int .u8 0] 57)) w6 := by rw [World.size_alloc]; exact hb6
  have HB6 := Lib.hid hb6'
  clear hb6'
  have k56 : Below w5.heap.size w5 w6 := bel_on hb5' HB6.out
  have k5 : Below w5.heap.size w5 w13 := bel_on k56 k6
  have ho5b : OI w13 w4.heap.size v5 [1, -1] := row_below ho5 k5
  go_wp2_with fail
  refine (s_sameInts w13 _ 2 [1, -1] ho5b rfl rfl (by omega) rfl).mono ?_
  rintro e w14 ⟨rfl, hb14⟩
  go_wp2_with fail
  refine (bytes_any ⟨#[97, 98]⟩ w14 (by decide)).mono ?_
  rintro e w15 ⟨v15, rfl, ho15, hb15⟩
  go_wp2_with fail
  refine (s_same w15 _ 3 [4, 97, 98] ho15 rfl rfl (by decide)).mono ?_
  rintro e w16 ⟨rfl, hb16⟩
  go_wp2_with fail
  refine (s_ints w16 _ 2 [1, -1] rfl (by unfold I64; decide) rfl (by omega)).mono ?_
  rintro e w17 ⟨v17, rfl, ho17, hb17⟩
  go_wp2_with fail
  refine (s_same w17 _ 3 [4, 2, 1] ho17 rfl rfl x9).mono ?_
  rintro e w18 ⟨rfl, hb18⟩
  have k13 : Below w13.heap.size w13 w18 := bel_on (bel_on (bel_on (bel_on hb14 hb15) hb16) hb17) hb18
  have k7b : Below w7.heap.size w7 w18 := bel_on k7 k13
  have k6b : Below w6.heap.size w6 w18 := bel_on k6 k13
  have ho7b : OD w18 w6.heap.size v7 [[1, 2, 0, 0, 0, 0, 0, 0, 0, 0, 0, 0, 0, 0, 0, 0]] := row_below ho7 k7b
  have hz5 : w5.heap.size < (w5.alloc (.cells #[.int .u8 1, .int .u8 2, .int .u8 0, .int .u8 0, .int .u8 0, .int .u8 0, .int .u8 0, .int .u8 0, .int .u8 0, .int .u8 0, .int .u8 0, .int .u8 0, .int .u8 0, .int .u8 0, .int .u8 0, .int .u8 0] 57)).heap.size := by simp
  have hbx : w18.heap[w5.heap.size]? = some (.cells #[.int .u8 1, .int .u8 2, .int .u8 0, .int .u8 0, .int .u8 0, .int .u8 0, .int .u8 0, .int .u8 0, .int .u8 0, .int .u8 0, .int .u8 0, .int .u8 0, .int .u8 0, .int .u8 0, .int .u8 0, .int .u8 0] 57 (0, 0)) := by
    rw [(bel_on HB6.out k6b).block _ hz5]
    exact HBX5.out
  have hg0 : w18.cell? ⟨w5.heap.size, 0, none⟩ = some (.int .u8 1) := by rw [cell_of_row w18 _ 0 _ 57 (0, 0) hbx]; rfl
  have hg1 : w18.cell? ⟨w5.heap.size, 1, none⟩ = some (.int .u8 2) := by rw [cell_of_row w18 _ 1 _ 57 (0, 0) hbx]; rfl
  have hg2 : w18.cell? ⟨w5.heap.size, 2, none⟩ = some (.int .u8 0) := by rw [cell_of_row w18 _ 2 _ 57 (0, 0) hbx]; rfl
  have hg3 : w18.cell? ⟨w5.heap.size, 3, none⟩ = some (.int .u8 0) := by rw [cell_of_row w18 _ 3 _ 57 (0, 0) hbx]; rfl
  have hg4 : w18.cell? ⟨w5.heap.size, 4, none⟩ = some (.int .u8 0) := by rw [cell_of_row w18 _ 4 _ 57 (0, 0) hbx]; rfl
  have hg5 : w18.cell? ⟨w5.heap.size, 5, none⟩ = some (.int .u8 0) := by rw [cell_of_row w18 _ 5 _ 57 (0, 0) hbx]; rfl
  have hg6 : w18.cell? ⟨w5.heap.size, 6, none⟩ = some (.int .u8 0) := by rw [cell_of_row w18 _ 6 _ 57 (0, 0) hbx]; rfl
  have hg7 : w18.cell? ⟨w5.heap.size, 7, none⟩ = some (.int .u8 0) := by rw [cell_of_row w18 _ 7 _ 57 (0, 0) hbx]; rfl
  have hg8 : w18.cell? ⟨w5.heap.size, 8, none⟩ = some (.int .u8 0) := by rw [cell_of_row w18 _ 8 _ 57 (0, 0) hbx]; rfl
  have hg9 : w18.cell? ⟨w5.heap.size, 9, none⟩ = some (.int .u8 0) := by rw [cell_of_row w18 _ 9 _ 57 (0, 0) hbx]; rfl
  have hg10 : w18.cell? ⟨w5.heap.size, 10, none⟩ = some (.int .u8 0) := by rw [cell_of_row w18 _ 10 _ 57 (0, 0) hbx]; rfl
  have hg11 : w18.cell? ⟨w5.heap.size, 11, none⟩ = some (.int .u8 0) := by rw [cell_of_row w18 _ 11 _ 57 (0, 0) hbx]; rfl
  have hg12 : w18.cell? ⟨w5.heap.size, 12, none⟩ = some (.int .u8 0) := by rw [cell_of_row w18 _ 12 _ 57 (0, 0) hbx]; rfl
  have hg13 : w18.cell? ⟨w5.heap.size, 13, none⟩ = some (.int .u8 0) := by rw [cell_of_row w18 _ 13 _ 57 (0, 0) hbx]; rfl
  have hg14 : w18.cell? ⟨w5.heap.size, 14, none⟩ = some (.int .u8 0) := by rw [cell_of_row w18 _ 14 _ 57 (0, 0) hbx]; rfl
  have hg15 : w18.cell? ⟨w5.heap.size, 15, none⟩ = some (.int .u8 0) := by rw [cell_of_row w18 _ 15 _ 57 (0, 0) hbx]; rfl
  clear hbx hz5 HBX5
  go_wp2_with fail
  refine (s_sameDigests w18 _ 1 [[1, 2, 0, 0, 0, 0, 0, 0, 0, 0, 0, 0, 0, 0, 0, 0]] ho7b rfl (by decide) rfl (by omega) rfl).mono ?_
  rintro e w19 ⟨rfl, hb19⟩
  go_wp2
  go_ret
  exact ⟨rfl, bel_on (bel_on (bel_on (bel_on (bel_on (bel_on hb1 hb2) hb3) hb4) hb5) (bel_on k56 k6b)) hb19⟩
end Go.Proofs.Ytgnhkhcfelmnhaa
