/- What the laws' own look at the program (sanity) answers: true. -/
import Derived.Test.YtkineafacekklaaDoorSan1
import Derived.Test.YtkineafacekklaaDoorSumF
import Derived.Test.YtkineafacekklaaDoorOf
import Derived.Lib.SlBytesConst
namespace Go.Proofs.YtkineafacekklaaDoor
open Go.RowKit
theorem nm_list {P : Program} {ops : Array Oper} {rest : List Oper} {Q : Exit → Act → World → Prop} {a : Act} {W : World} (h : ∀ W', W' = W → wpList P ops Q rest a W') : wpList P ops Q rest a W := h W rfl
theorem arm_rowg {ops : Array Oper} {rest : List Oper} {o : Oper} {a : Act} {Q : Exit → Act → World → Prop} {w : World} (ty g t : Nat) (cs : List Value) (hA : Arr w g t cs) (d : TypeDesc) (hu : Tryd.prog.underlying ty = some d) (hd : d.isRow = true) (hi : (Tryd.prog.info? ty).map (·.size) = some cs.length)
    (hw : Region.wanted o (yielded ops a.tmps) = true) (x : Operand) (ho : o.op = .load ty x) (hx : a.eval x = .pointer (some ⟨g, 0, none⟩))
    (h : wpList Tryd.prog ops Q rest (a.put o.dst (.agg cs.toArray)) w) : wpList Tryd.prog ops Q (o :: rest) a w := by
  refine wpList_step fun K hK => ?_
  rw [if_pos hw]
  exact wp_load_mid ty x ho g 0 hx cs d hA.range hu hd hi (hK _ _ h)
theorem eq47 (w : World) : (Op.equalIn 10000 47 (.agg (bv abc).toArray) (.agg (bv abc).toArray)).run Tryd.prog w = .ok true w := by kernel_rfl
theorem san_sum (w : World) (b : Nat) (hb : ∀ j u, (bv [97, 98, 99])[j]? = some u → w.cell? ⟨b, j, none⟩ = some u) (hT : Tab w 1) : Calls Tryd.prog 29 #[.slice (some ⟨b, 0, none⟩) 3 3] w fun e w' => e = .returned (.agg (bv abc).toArray) ∧ Below w.heap.size w w' := by
  rw [← sha_abc]
  exact sum_any _ 3 3 [97, 98, 99] w rfl (fun _ => ⟨b, 0, rfl, fun j u hu => by rw [Nat.zero_add]; exact hb j u hu⟩) (by omega) hT
theorem san_of (h34 : ∀ w : World, Tab w 1 → Calls Tryd.prog 34 #[.int .i64 1, .slice none 0 0] w fun e w' => e = .returned (.agg (bv one16).toArray) ∧ Below w.heap.size w w')
    (w : World) (hT : Tab w 1) : Calls Tryd.prog 15 #[] w fun e w' => e = .returned (.bool true) ∧ Below w.heap.size w w' := by
  have H34 := Lib.hid h34
  have HT := Lib.hid hT
  have HAL : Hid ((bv abc).length = 32) := Lib.hid rfl
  have HAS := Lib.hid (size47' (l := abc) rfl)
  have HAO := Lib.hid (bv_one abc)
  have HOL : Hid ((bv one16).length = 16) := Lib.hid rfl
  have HOS : Hid ((Tryd.prog.info? 58).map (·.size) = some (bv one16).length) := Lib.hid size58
  have HOO := Lib.hid (bv_one one16)
  clear h34 hT
  have H47 := Lib.hid size47
  have H58 := Lib.hid size58
  go_enter Tryd.func15, Tryd.ntmps15
  have hcv := Go.Lib.run_convert_bytes_const (P := Tryd.prog) w 22 5 #[.int .u8 97, .int .u8 98, .int .u8 99] 3 3 Tryd.underlying22 Tryd.underlying5
  go_wp2_with fail
  refine (san_sum _ w.heap.size ?_ (HT.out.keep (bel_new _ _))).mono ?_
  · intro j u hj
    have : (w.alloc (.cells #[.int .u8 97, .int .u8 98, .int .u8 99] 5 (3, 4))).heap[w.heap.size]? = some (.cells (bv [97, 98, 99]).toArray 5 (3, 4)) := heap_alloc_last w _
    unfold World.cell?
    rw [show (⟨w.heap.size, j, none⟩ : Addr).block = w.heap.size from rfl, this]
    simpa using hj
  rintro e w1 ⟨rfl, hb1⟩
  have HB1 := Lib.hid (bel_on (bel_new w _) hb1)
  have HT1 := Lib.hid (HT.out.keep HB1.out)
  clear hb1 hcv
  generalize hA : bv abc = A at *
  have HA := Lib.hid hA
  clear hA
  generalize hO : bv one16 = O at *
  have HO := Lib.hid hO
  clear hO
  go_wp2_with ((with_reducible refine arm_new 47 A 32 HAL.out H47.out HAO.out _ ?_ rfl _ _ rfl ?_ ?_ ?_); (focus rfl); (focus rfl); (focus rfl); (refine nm_list ?_; intro w2 hw2; have HA2 : Hid (Arr w2 w1.heap.size 47 A) := Lib.hid (by rw [hw2]; exact Arr.new _ _ _); have HB2 : Hid (Below w.heap.size w w2) := Lib.hid (by rw [hw2]; exact bel_on HB1.out (bel_new _ _)); have hg1 : w.heap.size ≤ w1.heap.size := HB1.out.size; clear hw2 HB1 HT1; generalize w1.heap.size = b1 at *))
  have HT2 := Lib.hid (HT.out.keep HB2.out)
  refine (begins_any _).mono ?_
  rintro e w3 ⟨rfl, hb3⟩
  have HA3 := Lib.hid (HA2.out.keep hb3)
  have HB3 := Lib.hid (bel_on HB2.out hb3)
  have HT3 := Lib.hid (HT.out.keep HB3.out)
  clear HA2 HB2 HT2 hb3
  rw [← stm_nil]
  go_wp2_with fail
  refine (adds_any [] _ _ (by decide) HT3.out).mono ?_
  rintro e w4 ⟨rfl, hb4⟩
  have HA4 := Lib.hid (HA3.out.keep hb4)
  have HB4 := Lib.hid (bel_on HB3.out hb4)
  have HT4 := Lib.hid (HT.out.keep HB4.out)
  clear HA3 HB3 HT3 hb4
  rw [show ([] : List UInt8) ++ (⟨#[97]⟩ : ByteArray).data.toList = [97] from rfl]
  go_wp2_with fail
  refine (adds_any [97] _ _ (by decide) HT4.out).mono ?_
  rintro e w5 ⟨rfl, hb5⟩
  have HA5 := Lib.hid (HA4.out.keep hb5)
  have HB5 := Lib.hid (bel_on HB4.out hb5)
  have HT5 := Lib.hid (HT.out.keep HB5.out)
  clear HA4 HB4 HT4 hb5
  rw [show ([97] : List UInt8) ++ (⟨#[98, 99]⟩ : ByteArray).data.toList = [97, 98, 99] from rfl]
  go_wp2_with fail
  refine (summ_any [97, 98, 99] _ (by decide) HT5.out).mono ?_
  rintro e w6 ⟨rfl, hb6⟩
  have HA6 := Lib.hid (HA5.out.keep hb6)
  have HB6 := Lib.hid (bel_on HB5.out hb6)
  have HT6 := Lib.hid (HT.out.keep HB6.out)
  clear HA5 HB5 HT5 hb6
  rw [sha_abc, HA.out]
  go_wp2_with ((with_reducible refine arm_new 47 A 32 HAL.out H47.out HAO.out _ ?_ rfl _ _ rfl ?_ ?_ ?_); (focus rfl); (focus rfl); (focus rfl); (refine nm_list ?_; intro w7 hw7; have HA7 : Hid (Arr w7 b1 47 A) := Lib.hid (by rw [hw7]; exact HA6.out.keep (bel_new _ _)); have HC7 : Hid (Arr w7 w6.heap.size 47 A) := Lib.hid (by rw [hw7]; exact Arr.new _ _ _); have HB7 : Hid (Below w.heap.size w w7) := Lib.hid (by rw [hw7]; exact bel_on HB6.out (bel_new _ _)); clear hw7 HB6 HT6 HA6; generalize w6.heap.size = b2 at *))
  have HT7 := Lib.hid (HT.out.keep HB7.out)
  refine (H34.out _ HT7.out).mono ?_
  rintro e w8 ⟨rfl, hb8⟩
  have HA8 := Lib.hid (HA7.out.keep hb8)
  have HC8 := Lib.hid (HC7.out.keep hb8)
  have HB8 := Lib.hid (bel_on HB7.out hb8)
  have HT8 := Lib.hid (HT.out.keep HB8.out)
  clear HA7 HC7 HB7 HT7 hb8
  go_wp2_with ((with_reducible refine arm_new 58 O 16 HOL.out H58.out HOO.out _ ?_ rfl _ _ rfl ?_ ?_ ?_); (focus rfl); (focus rfl); (focus rfl); (refine nm_list ?_; intro w9 hw9; have HA9 : Hid (Arr w9 b1 47 A) := Lib.hid (by rw [hw9]; exact HA8.out.keep (bel_new _ _)); have HC9 : Hid (Arr w9 b2 47 A) := Lib.hid (by rw [hw9]; exact HC8.out.keep (bel_new _ _)); have HD9 : Hid (Arr w9 w8.heap.size 58 O) := Lib.hid (by rw [hw9]; exact Arr.new _ _ _); have HB9 : Hid (Below w.heap.size w w9) := Lib.hid (by rw [hw9]; exact bel_on HB8.out (bel_new _ _)); clear hw9 HB8 HT8 HA8 HC8; generalize w8.heap.size = b3 at *))
  refine (crc40_any _ 1 1 [254] _ rfl (RV.new _ _ _) (by omega)).mono ?_
  rintro e w10 ⟨rfl, hb10⟩
  have hk10 := (bel_on (bel_new _ _) hb10)
  have HA10 := Lib.hid (HA9.out.keep hk10)
  have HC10 := Lib.hid (HC9.out.keep hk10)
  have HD10 := Lib.hid (HD9.out.keep hk10)
  have HB10 := Lib.hid (bel_on HB9.out hk10)
  clear HA9 HC9 HD9 HB9 hb10 hk10
  rw [num_crc]
  go_wp2_with fail
  refine (begin_any _).mono ?_
  rintro e w11 ⟨rfl, hb11⟩
  have hk11 := hb11
  have HA11 := Lib.hid (HA10.out.keep hk11)
  have HC11 := Lib.hid (HC10.out.keep hk11)
  have HD11 := Lib.hid (HD10.out.keep hk11)
  have HB11 := Lib.hid (bel_on HB10.out hk11)
  clear HA10 HC10 HD10 HB10 hb11 hk11
  go_wp2_with fail
  refine (add_any MASK _ _ MASK_lt (by decide)).mono ?_
  rintro e w12 ⟨rfl, hb12⟩
  have hk12 := hb12
  have HA12 := Lib.hid (HA11.out.keep hk12)
  have HC12 := Lib.hid (HC11.out.keep hk12)
  have HD12 := Lib.hid (HD11.out.keep hk12)
  have HB12 := Lib.hid (bel_on HB11.out hk12)
  clear HA11 HC11 HD11 HB11 hb12 hk12
  rw [show (⟨#[255]⟩ : ByteArray).data.toList = [255] from rfl]
  have hr1 : run MASK [255] < 1099511627776 := by decide +kernel
  have hr2 : run (run MASK [255]) [255] < 1099511627776 := by decide +kernel
  have hn := num_run
  generalize hg1 : run MASK [255] = r1 at *
  go_wp2_with fail
  refine (add_any r1 _ _ hr1 (by decide)).mono ?_
  rintro e w13 ⟨rfl, hb13⟩
  have hk13 := hb13
  have HA13 := Lib.hid (HA12.out.keep hk13)
  have HC13 := Lib.hid (HC12.out.keep hk13)
  have HD13 := Lib.hid (HD12.out.keep hk13)
  have HB13 := Lib.hid (bel_on HB12.out hk13)
  clear HA12 HC12 HD12 HB12 hb13 hk13
  rw [show (⟨#[255]⟩ : ByteArray).data.toList = [255] from rfl]
  generalize run r1 [255] = r2 at *
  go_wp2_with fail
  refine (value_any r2 _ hr2).mono ?_
  rintro e w14 ⟨rfl, hb14⟩
  have hk14 := hb14
  have HA14 := Lib.hid (HA13.out.keep hk14)
  have HC14 := Lib.hid (HC13.out.keep hk14)
  have HD14 := Lib.hid (HD13.out.keep hk14)
  have HB14 := Lib.hid (bel_on HB13.out hk14)
  clear HA13 HC13 HD13 HB13 hb14 hk14
  rw [hn]
  clear hn hr1 hr2 hg1
  go_wp2_with fail
  refine (words_any _ 1 1 [1099511627774] _ rfl (RV.new _ _ _) (by omega) (by intro z hz; rw [List.mem_singleton.1 hz]; unfold I64; omega)).mono ?_
  rintro e w15 ⟨rfl, hb15⟩
  have hk15 := (bel_on (bel_new _ _) hb15)
  have HA15 := Lib.hid (HA14.out.keep hk15)
  have HC15 := Lib.hid (HC14.out.keep hk15)
  have HD15 := Lib.hid (HD14.out.keep hk15)
  have HB15 := Lib.hid (bel_on HB14.out hk15)
  clear HA14 HC14 HD14 HB14 hb15 hk15
  rw [num_words]
  go_wp2_with fail
  refine (join_any 255 255 1 _ (by decide)).mono ?_
  rintro e w16 ⟨rfl, hb16⟩
  have hk16 := hb16
  have HA16 := Lib.hid (HA15.out.keep hk16)
  have HC16 := Lib.hid (HC15.out.keep hk16)
  have HD16 := Lib.hid (HD15.out.keep hk16)
  have HB16 := Lib.hid (bel_on HB15.out hk16)
  clear HA15 HC15 HD15 HB15 hb16 hk16
  rw [num_join1]
  go_wp2_with fail
  refine (join_any 255 0 1 _ (by decide)).mono ?_
  rintro e w17 ⟨rfl, hb17⟩
  have hk17 := hb17
  have HA17 := Lib.hid (HA16.out.keep hk17)
  have HC17 := Lib.hid (HC16.out.keep hk17)
  have HD17 := Lib.hid (HD16.out.keep hk17)
  have HB17 := Lib.hid (bel_on HB16.out hk17)
  clear HA16 HC16 HD16 HB16 hb17 hk17
  rw [num_join2]
  go_wp2_with fail
  refine (join_any 7 9 0 _ (by decide)).mono ?_
  rintro e w18 ⟨rfl, hb18⟩
  have hk18 := hb18
  have HA18 := Lib.hid (HA17.out.keep hk18)
  have HC18 := Lib.hid (HC17.out.keep hk18)
  have HD18 := Lib.hid (HD17.out.keep hk18)
  have HB18 := Lib.hid (bel_on HB17.out hk18)
  clear HA17 HC17 HD17 HB17 hb18 hk18
  rw [num_join3]
  go_wp2_with fail
  refine (join_neg 1 1 (-1) _ (by decide)).mono ?_
  rintro e w19 ⟨rfl, hb19⟩
  have hk19 := hb19
  have HA19 := Lib.hid (HA18.out.keep hk19)
  have HC19 := Lib.hid (HC18.out.keep hk19)
  have HD19 := Lib.hid (HD18.out.keep hk19)
  have HB19 := Lib.hid (bel_on HB18.out hk19)
  clear HA18 HC18 HD18 HB18 hb19 hk19
  go_wp2_with (((with_reducible refine arm_row 47 b1 47 A HA19.out _ Tryd.underlying47 rfl HAS.out rfl _ rfl ?_ ?_); focus rfl))
  rw [← HA.out]
  refine (b32_any abc _ rfl).mono ?_
  rintro e w20 ⟨rfl, hb20⟩
  have hk20 := hb20
  have HA20 := Lib.hid (HA19.out.keep hk20)
  have HC20 := Lib.hid (HC19.out.keep hk20)
  have HD20 := Lib.hid (HD19.out.keep hk20)
  have HB20 := Lib.hid (bel_on HB19.out hk20)
  clear HA19 HC19 HD19 HB19 hb20 hk20
  rw [HA.out]
  go_wp2_with fail
  refine (hex_any _ _ (by decide)).mono ?_
  rintro e w21 ⟨rfl, hb21⟩
  have hk21 := hb21
  have HA21 := Lib.hid (HA20.out.keep hk21)
  have HC21 := Lib.hid (HC20.out.keep hk21)
  have HD21 := Lib.hid (HD20.out.keep hk21)
  have HB21 := Lib.hid (bel_on HB20.out hk21)
  clear HA20 HC20 HD20 HB20 hb21 hk21
  rw [show (⟨(hexL (⟨abc.toArray⟩ : ByteArray).data.toList).toArray⟩ : ByteArray) = _ from num_hex1]
  have hE := eq47 w21
  rw [HA.out] at hE
  go_wp2_with (first
    | ((with_reducible refine arm_rowg 47 b1 47 A HA21.out _ Tryd.underlying47 rfl HAS.out ?_ _ rfl ?_ ?_); (focus rfl); (focus rfl))
    | ((with_reducible refine arm_rowg 47 b2 47 A HC21.out _ Tryd.underlying47 rfl HAS.out ?_ _ rfl ?_ ?_); (focus rfl); (focus rfl))
    | ((with_reducible refine arm_rowg 58 b3 58 O HD21.out _ Tryd.underlying58 rfl HOS.out ?_ _ rfl ?_ ?_); (focus rfl); (focus rfl)))
  rw [← HO.out]
  refine (text_any one16 _ rfl).mono ?_
  rintro e w22 ⟨rfl, hb22⟩
  have hk22 := hb22
  have HB22 := Lib.hid (bel_on HB21.out hk22)
  clear HB21 hb22 hk22
  rw [HO.out]
  go_wp2_with fail
  refine (hex_any _ _ (by decide)).mono ?_
  rintro e w23 ⟨rfl, hb23⟩
  have hk23 := hb23
  have HB23 := Lib.hid (bel_on HB22.out hk23)
  clear HB22 hb23 hk23
  rw [show (⟨(hexL (⟨one16.toArray⟩ : ByteArray).data.toList).toArray⟩ : ByteArray) = _ from num_hex2]
  go_wp2_with fail
  go_ret
  exact ⟨rfl, HB23.out⟩
theorem san_any (w : World) (hT : Tab w 1) : Calls Tryd.prog 15 #[] w fun e w' => e = .returned (.bool true) ∧ Below w.heap.size w w' := by
  refine san_of (fun w hT => ?_) w hT
  have h := of_any 1 none 0 0 [] w rfl (RV.nil _ _) (fun _ h => absurd h List.not_mem_nil) (by omega) hT
  have e : (sha (input 1 [])).take 16 = one16 := by rw [num_input, sha_one]; rfl
  rw [e] at h
  exact h
end Go.Proofs.YtkineafacekklaaDoor
