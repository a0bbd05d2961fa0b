/- HashStreamsAgree answers true. -/
import Derived.Test.YtkineafacekklaaDoorSan
import Derived.Test.YtkineafacekklaaDoorFew
import Derived.Test.YtkineafacekklaaDoorConv2
import Derived.Test.YtkineafacekklaaDoorEqB
import Derived.Test.YtkineafacekklaaDoorOf
import Derived.StillTailTactics
namespace Go.Proofs.YtkineafacekklaaDoor
open Go.RowKit
theorem catT_take (ss : List ByteArray) (k : Nat) (h : k < ss.length) : cat (ss.take (k + 1)) = cat (ss.take k) ++ ss[k].data.toList := by
  unfold cat; exact flat_take _ ss k h
theorem catT_len (ss : List ByteArray) (h : ∀ s ∈ ss, s.size ≤ 400) : (cat ss).length ≤ 400 * ss.length := by
  unfold cat
  exact flat_len _ 400 ss fun s hs => by rw [size_toList]; exact h s hs
theorem catT_le (ss : List ByteArray) (k : Nat) (h : ∀ s ∈ ss, s.size ≤ 400) (hl : ss.length ≤ 12) : (cat (ss.take k)).length ≤ 4800 := by
  have h1 := catT_len (ss.take k) (fun s hs => h s (List.mem_of_mem_take hs))
  rw [List.length_take] at h1
  omega
set_option maxRecDepth 100000 in
set_option maxHeartbeats 1000000 in
theorem lawT_out (A : Option Addr) (n cap : Nat) (ss : List ByteArray) (t : ByteArray) (q : Int) (w : World) (hn : ss.length = n) (hr : RV w A (sv ss)) (hT : Tab w 1) (h : fewB ss = false ∨ 400 < t.size) :
    Calls Tryd.prog 12 #[.slice A n cap, .string t, .int .u8 q] w fun e w' => e = .returned (.bool true) ∧ Below w.heap.size w w' := by
  have HT := Lib.hid hT
  have HF := Lib.hid fun w' (h : RV w' A (sv ss)) => few_any A n cap ss w' hn h
  have HR := Lib.hid hr
  clear hT hr hn
  go_enter Tryd.func12, Tryd.ntmps12
  go_wp2_with fail
  refine (san_any _ HT.out).mono ?_
  rintro e w1 ⟨rfl, hb1⟩
  have HB1 := Lib.hid hb1
  clear hb1
  rcases Bool.eq_false_or_eq_true (fewB ss) with hf | hf
  · have h4 : (400 : Int) < (t.size : Int) := by
      rw [hf] at h
      rcases h with h | h
      · exact absurd h (by decide)
      · omega
    rw [hf] at HF
    clear h
    go_wp2_with fail
    refine (HF.out _ (HR.out.below HB1.out)).mono ?_
    rintro e w2 ⟨rfl, rfl⟩
    go_wp2_with fail
    go_ret
    exact ⟨rfl, HB1.out⟩
  · rw [hf] at HF
    clear h
    go_wp2_with fail
    refine (HF.out _ (HR.out.below HB1.out)).mono ?_
    rintro e w2 ⟨rfl, rfl⟩
    go_wp2_with fail
    go_ret
    exact ⟨rfl, HB1.out⟩
set_option maxRecDepth 100000 in
set_option maxHeartbeats 2000000 in
theorem lawT_in (A : Option Addr) (n cap : Nat) (ss : List ByteArray) (t : ByteArray) (q : Nat) (w : World) (hn : ss.length = n) (hcap : n ≤ cap) (hr : RV w A (sv ss)) (hT : Tab w 1) (hf : fewB ss = true) (ht : t.size ≤ 400) (hq : q < 256) :
    Calls Tryd.prog 12 #[.slice A n cap, .string t, .int .u8 (q : Int)] w fun e w' => e = .returned (.bool true) ∧ Below w.heap.size w w' := by
  have hfew := fewB_of hf
  have hl12 : n ≤ 12 := by rw [← hn]; exact hfew.1
  have HS := Lib.hid hfew.2
  have HLE := Lib.hid fun k => catT_le ss k hfew.2 hfew.1
  have HT := Lib.hid hT
  have HF := Lib.hid fun w' (h : RV w' A (sv ss)) => few_any A n cap ss w' hn h
  rw [hf] at HF
  have HN := Lib.hid hn
  have HR := Lib.hid hr
  clear hT hr hn hf hfew
  have hcutlt : q % (n + 1) ≤ n := by have := Nat.mod_lt q (show 0 < n + 1 by omega); omega
  have hmod : (q : Int) % ((n : Int) + 1) = ((q % (n + 1) : Nat) : Int) := by norm_cast
  generalize q % (n + 1) = c at *
  have hsum : IntKind.i64.wrap ((n : Int) + 1) = (n : Int) + 1 := by rw [i64_wraps]; omega
  have hz53 := zero53
  have H53 := Lib.hid size53
  have HI := Lib.hid fun m => size53' (stm_len m)
  have HO := Lib.hid fun m => stc_one (hashN m (m.length / 64)) (blk m) m.length
  go_enter Tryd.func12, Tryd.ntmps12
  go_wp2_with fail
  refine (san_any _ HT.out).mono ?_
  rintro e w1 ⟨rfl, hb1⟩
  have HB1 := Lib.hid hb1
  clear hb1
  have hit : (t.size : Int) ≤ 400 := by omega
  go_wp2_with fail
  refine (HF.out _ (HR.out.below HB1.out)).mono ?_
  rintro e w2 ⟨rfl, rfl⟩
  go_wp2_with fail
  refine (begins_any _).mono ?_
  rintro e w3 ⟨rfl, hb3⟩
  have HB3 := Lib.hid (bel_on HB1.out hb3)
  clear hb3 HB1
  rw [← stm_nil]
  have hl0 := stm_len []
  have HL0 := Lib.hid hl0
  have hO0 : ∀ u ∈ stm [], u.oneCell' = true := HO.out []
  have HO0 := Lib.hid hO0
  clear hl0 hO0
  go_wp2_with ((with_reducible refine arm_new 53 (stm []) 73 HL0.out H53.out HO0.out _ ?_ rfl _ _ rfl ?_ ?_ ?_); (focus rfl); (focus rfl); (focus rfl))
  refine name_world ?_
  intro W hW
  have hA9 : Arr W w3.heap.size 53 (stm []) := by rw [hW]; exact Arr.new _ _ _
  have hB9 : Below w.heap.size w W := by rw [hW]; exact bel_on HB3.out (bel_new _ _)
  have hb9 : w.heap.size ≤ w3.heap.size := HB3.out.size
  have HA9 := Lib.hid hA9
  have HB9 := Lib.hid hB9
  clear hW hA9 hB9 HB3
  generalize w3.heap.size = b9 at *
  go_loopw [10] (fun i wr => ∃ (k : Nat), i = .int .i64 k ∧ k ≤ c ∧ Hid (Arr wr b9 53 (stm (cat (ss.take k)))) ∧ Hid (Below w.heap.size w wr)) (fun i _ => c - (intOf i).toNat)
  case atStart => exact ⟨0, rfl, by omega, HA9, HB9⟩
  case round =>
    clear HA9 HB9
    obtain ⟨k, rfl, hk, HA, HB⟩ := hrel
    by_cases hlt : k < c
    · have hkl : k < ss.length := by rw [HN.out]; omega
      obtain ⟨b, o, rfl, hc⟩ := HR.out.at_ (w' := wr) HB.out (k := k) (sv_at hkl)
      have hs4 := HS.out _ (List.getElem_mem hkl)
      have HTK : Hid (cat (ss.take (k + 1)) = cat (ss.take k) ++ ss[k].data.toList) := Lib.hid (catT_take ss k hkl)
      have hml : (cat (ss.take k)).length ≤ 4800 := HLE.out k
      have HML := Lib.hid hml
      generalize cat (ss.take k) = m at *
      generalize ss[k] = s at *
      have hkn : k < n := by omega
      have HIM := Lib.hid (HI.out m)
      clear hml
      go_wp2_with fail
      refine wp_region_still_tail 5 (by kernel_rfl) (by kernel_rfl) ?_
      simp only [List.take_succ_cons, List.take_zero, List.drop_succ_cons, List.drop_zero]
      refine still_row 53 b9 53 (stm m) (HA.out.keep (bel_drew wr)) _ Tryd.underlying53 rfl HIM.out (by kernel_rfl) (.tmp 9) rfl rfl ?_
      repeat still_step
      refine wpStill_nil ?_
      change wpList _ _ _ _ _ wr.drew
      have HA4 := Lib.hid (HA.out.keep (bel_drew wr))
      have HB4 := Lib.hid (bel_on HB.out (bel_drew wr))
      generalize wr.drew = w4 at *
      clear HA HB hc
      go_wp2_with fail
      refine (adds_any m s _ (by have := HML.out; omega) (HT.out.keep HB4.out)).mono ?_
      rintro e w5 ⟨rfl, hb5⟩
      rw [← HTK.out]
      have HA5 := Lib.hid (HA4.out.keep hb5)
      have HB5 := Lib.hid (bel_on HB4.out hb5)
      have HI5 := Lib.hid (HI.out (cat (ss.take (k + 1))))
      have HO5 : Hid (∀ u ∈ stm (cat (ss.take (k + 1))), u.oneCell' = true) := Lib.hid (HO.out _)
      have HL5 : Hid ((stm m).length = (stm (cat (ss.take (k + 1)))).length) := Lib.hid (by rw [stm_len, stm_len])
      clear hb5 HA4 HB4 HTK
      generalize hm2 : cat (ss.take (k + 1)) = m2 at *
      have HM2 := Lib.hid hm2
      clear hm2
      go_wp2_with ((with_reducible refine arm_put 53 b9 53 (stm m) (stm m2) HA5.out HI5.out HL5.out HO5.out rfl _ _ rfl ?_ ?_ ?_); (focus rfl); (focus rfl))
      go_roundw
      case rel => exact ⟨k + 1, by go_num, by omega, Lib.hid (by rw [HM2.out]; exact HA5.out.row _), Lib.hid (bel_row HB5.out hb9 _)⟩
      case measure => simp [intOf]; omega
    · obtain rfl : k = c := by omega
      have HIM := Lib.hid (HI.out (cat (ss.take k)))
      have HOM : Hid (∀ u ∈ stm (cat (ss.take k)), u.oneCell' = true) := Lib.hid (HO.out _)
      have HLM := Lib.hid (stm_len (cat (ss.take k)))
      have HML := Lib.hid (HLE.out k)
      generalize hM : cat (ss.take k) = M at *
      have HM := Lib.hid hM
      clear hM hlt
      go_wp2_with (first
        | ((with_reducible refine arm_row 53 b9 53 (stm M) HA.out _ Tryd.underlying53 rfl HIM.out rfl _ rfl ?_ ?_); focus rfl)
        | ((with_reducible refine arm_new 53 (stm M) 73 HLM.out H53.out HOM.out _ ?_ rfl _ _ rfl ?_ ?_ ?_); (focus rfl); (focus rfl); (focus rfl)))
      refine name_world ?_
      intro W hW
      have hA : Arr W b9 53 (stm M) := by rw [hW]; exact HA.out.keep (bel_new _ _)
      have hS : Arr W wr.heap.size 53 (stm M) := by rw [hW]; exact Arr.new _ _ _
      have hBW : Below w.heap.size w W := by rw [hW]; exact bel_on HB.out (bel_new _ _)
      have hb11 : b9 < wr.heap.size := HA.out.lt
      have HAW := Lib.hid hA
      have HSV := Lib.hid hS
      have HBW := Lib.hid hBW
      clear hW hA hS hBW HB HA
      generalize wr.heap.size = b11 at *
      go_loopw [12] (fun i wr => ∃ (j : Nat), i = .int .i64 j ∧ k ≤ j ∧ j ≤ n ∧ Hid (Arr wr b9 53 (stm (cat (ss.take j)))) ∧ Hid (Arr wr b11 53 (stm M)) ∧ Hid (Below w.heap.size w wr)) (fun i _ => n - (intOf i).toNat)
      case atStart => exact ⟨k, rfl, Nat.le_refl _, hcutlt, Lib.hid (by rw [HM.out]; exact HAW.out), HSV, HBW⟩
      case round =>
        clear HAW HSV HBW
        obtain ⟨j, rfl, hkj, hj, HA, HV, HB⟩ := hrel
        by_cases hlt : j < n
        · have hkl : j < ss.length := by rw [HN.out]; omega
          obtain ⟨b, o, rfl, hc⟩ := HR.out.at_ (w' := wr) HB.out (k := j) (sv_at hkl)
          have hs4 := HS.out _ (List.getElem_mem hkl)
          have HTK : Hid (cat (ss.take (j + 1)) = cat (ss.take j) ++ ss[j].data.toList) := Lib.hid (catT_take ss j hkl)
          have hml : (cat (ss.take j)).length ≤ 4800 := HLE.out j
          have HML2 := Lib.hid hml
          generalize cat (ss.take j) = m at *
          generalize ss[j] = s at *
          have HIM2 := Lib.hid (HI.out m)
          clear hml
          go_wp2_with fail
          refine wp_region_still_tail 5 (by kernel_rfl) (by kernel_rfl) ?_
          simp only [List.take_succ_cons, List.take_zero, List.drop_succ_cons, List.drop_zero]
          refine still_row 53 b9 53 (stm m) (HA.out.keep (bel_drew wr)) _ Tryd.underlying53 rfl HIM2.out (by kernel_rfl) (.tmp 9) rfl rfl ?_
          repeat still_step
          refine wpStill_nil ?_
          change wpList _ _ _ _ _ wr.drew
          have HA4 := Lib.hid (HA.out.keep (bel_drew wr))
          have HV4 := Lib.hid (HV.out.keep (bel_drew wr))
          have HB4 := Lib.hid (bel_on HB.out (bel_drew wr))
          generalize wr.drew = w4 at *
          clear HA HB HV hc
          go_wp2_with fail
          refine (adds_any m s _ (by have := HML2.out; omega) (HT.out.keep HB4.out)).mono ?_
          rintro e w5 ⟨rfl, hb5⟩
          rw [← HTK.out]
          have HA5 := Lib.hid (HA4.out.keep hb5)
          have HV5 := Lib.hid (HV4.out.keep hb5)
          have HB5 := Lib.hid (bel_on HB4.out hb5)
          have HI5 := Lib.hid (HI.out (cat (ss.take (j + 1))))
          have HO5 : Hid (∀ u ∈ stm (cat (ss.take (j + 1))), u.oneCell' = true) := Lib.hid (HO.out _)
          have HL5 : Hid ((stm m).length = (stm (cat (ss.take (j + 1)))).length) := Lib.hid (by rw [stm_len, stm_len])
          clear hb5 HA4 HB4 HV4 HTK
          generalize hm2 : cat (ss.take (j + 1)) = m2 at *
          have HM2 := Lib.hid hm2
          clear hm2
          go_wp2_with ((with_reducible refine arm_put 53 b9 53 (stm m) (stm m2) HA5.out HI5.out HL5.out HO5.out rfl _ _ rfl ?_ ?_ ?_); (focus rfl); (focus rfl))
          go_roundw
          case rel => exact ⟨j + 1, by go_num, by omega, by omega, Lib.hid (by rw [HM2.out]; exact HA5.out.row _), Lib.hid (HV5.out.row_other (by omega) _), Lib.hid (bel_row HB5.out hb9 _)⟩
          case measure => simp [intOf]; omega
        · obtain rfl : j = n := by omega
          have hfull : cat (ss.take j) = cat ss := by rw [List.take_of_length_le (by rw [HN.out]; exact Nat.le_refl _)]
          have HMLF := HLE.out j
          rw [hfull] at HA HMLF
          have HCL := Lib.hid HMLF
          clear hfull HMLF hlt
          generalize hF : cat ss = F at *
          have HF2 := Lib.hid hF
          clear hF
          go_wp2_with ((with_reducible refine arm_row 53 b11 53 (stm M) HV.out _ Tryd.underlying53 rfl HIM.out rfl _ rfl ?_ ?_); focus rfl)
          refine (adds_any M t _ (by have := HML.out; omega) (HT.out.keep HB.out)).mono ?_
          rintro e w5 ⟨rfl, hb5⟩
          have HX5 := Lib.hid (HA.out.keep hb5)
          have HS5 := Lib.hid (HV.out.keep hb5)
          have HB5 := Lib.hid (bel_on HB.out hb5)
          have HI5 := Lib.hid (HI.out (M ++ t.data.toList))
          have HO5 : Hid (∀ u ∈ stm (M ++ t.data.toList), u.oneCell' = true) := Lib.hid (HO.out _)
          have HL5 := Lib.hid (stm_len (M ++ t.data.toList))
          have HGL : Hid ((M ++ t.data.toList).length ≤ 6000) := Lib.hid (by rw [List.length_append, size_toList]; have := HML.out; omega)
          clear hb5 HA HV HB
          generalize hG : M ++ t.data.toList = G at *
          have HG := Lib.hid hG
          clear hG
          go_wp2_with ((with_reducible refine arm_new 53 (stm G) 73 HL5.out H53.out HO5.out _ ?_ rfl _ _ rfl ?_ ?_ ?_); (focus rfl); (focus rfl); (focus rfl); (refine nm_list ?_; intro w6 hw6; have HX6 : Hid (Arr w6 b9 53 (stm F)) := Lib.hid (by rw [hw6]; exact HX5.out.keep (bel_new _ _)); have HS6 : Hid (Arr w6 b11 53 (stm M)) := Lib.hid (by rw [hw6]; exact HS5.out.keep (bel_new _ _)); have HT6 : Hid (Arr w6 w5.heap.size 53 (stm G)) := Lib.hid (by rw [hw6]; exact Arr.new _ _ _); have HB6 : Hid (Below w.heap.size w w6) := Lib.hid (by rw [hw6]; exact bel_on HB5.out (bel_new _ _)); clear hw6 HX5 HS5 HB5; generalize w5.heap.size = b13 at *))
          refine (joined_any A j cap ss w6 HN.out (HR.out.below HB6.out) hl12 HS.out).mono ?_
          rintro e w7 ⟨⟨X, rfl, hX⟩, rfl⟩
          rw [HF2.out] at hX
          have hXs : X.size ≤ 4800 := by rw [← size_toList, hX]; exact HCL.out
          have HXC := Lib.hid hX
          clear hX
          go_wp2_with fail
          have hrt : RV w6 A (sv (ss.take k)) := by
            have h := (HR.out.below HB6.out).take k
            rw [show (sv ss).take k = sv (ss.take k) by simp [sv]] at h
            exact h
          refine (joined_any A k cap (ss.take k) w6 (by rw [List.length_take, HN.out]; omega) hrt (by omega) (fun s hs => HS.out s (List.mem_of_mem_take hs))).mono ?_
          rintro e w8 ⟨⟨Y, rfl, hY⟩, rfl⟩
          rw [HM.out] at hY
          have hYs : Y.size ≤ 4800 := by rw [← size_toList, hY]; exact HML.out
          have HYC := Lib.hid hY
          obtain ⟨Z, hZ⟩ : ∃ Z, Y ++ t = Z := ⟨_, rfl⟩
          have HZC : Hid (Z.data.toList = G) := Lib.hid (by rw [← hZ, ← HG.out, ← HYC.out]; simp)
          have hZs : Z.size ≤ 6000 := by rw [← hZ, ByteArray.size_append]; omega
          clear hY hrt
          have hE : ∀ (l : List UInt8) (w : World), (Op.equalIn 10000 47 (.agg (bv (sha l)).toArray) (.agg (bv (sha l)).toArray)).run Tryd.prog w = .ok true w := fun l w => by rw [eq_sum _ _ (sha_len l) (sha_len l)]; simp
          have hE1 := hE F
          have hE2 := hE M
          have hE3 := hE G
          have HIF := Lib.hid (HI.out F)
          have HIG := Lib.hid (HI.out G)
          clear hE
          have HSF := Lib.hid fun w' (h : Tab w' 1) => summ_any F w' (by have := HCL.out; omega) h
          have HSM := Lib.hid fun w' (h : Tab w' 1) => summ_any M w' (by have := HML.out; omega) h
          have HSG := Lib.hid fun w' (h : Tab w' 1) => summ_any G w' (by have := HGL.out; omega) h
          have HQF := Lib.hid fun w9 (h : Tab (Lib.bytesWorld w9 5 X) 1) => sum_any (some ⟨w9.heap.size, 0, none⟩) X.size (grownCap w9 X.size 0 5) X.data.toList (Lib.bytesWorld w9 5 X) (size_toList X) (rv_bytes w9 X) (by omega) h
          have HQM := Lib.hid fun w9 (h : Tab (Lib.bytesWorld w9 5 Y) 1) => sum_any (some ⟨w9.heap.size, 0, none⟩) Y.size (grownCap w9 Y.size 0 5) Y.data.toList (Lib.bytesWorld w9 5 Y) (size_toList Y) (rv_bytes w9 Y) (by omega) h
          have HQG := Lib.hid fun w9 (h : Tab (Lib.bytesWorld w9 5 Z) 1) => sum_any (some ⟨w9.heap.size, 0, none⟩) Z.size (grownCap w9 Z.size 0 5) Z.data.toList (Lib.bytesWorld w9 5 Z) (size_toList Z) (rv_bytes w9 Z) (by omega) h
          rw [HXC.out] at HQF
          rw [HYC.out] at HQM
          rw [HZC.out] at HQG
          generalize bv (sha F) = SF at *
          generalize bv (sha M) = SM at *
          generalize bv (sha G) = SG at *
          go_wp2_with ((with_reducible refine arm_rowg 53 b9 53 (stm F) HX6.out _ Tryd.underlying53 rfl HIF.out ?_ _ rfl ?_ ?_); (focus rfl); (focus rfl))
          refine (HSF.out _ (HT.out.keep HB6.out)).mono ?_
          rintro e w9 ⟨rfl, hb9'⟩
          have hbs1 := run_bytes w9 X
          have hk := bel_on hb9' (bel_bytes w9 X)
          have HS10 := Lib.hid (HS6.out.keep hk)
          have HT10 := Lib.hid (HT6.out.keep hk)
          have HB10 := Lib.hid (bel_on HB6.out hk)
          have HQ1 := Lib.hid (HQF.out w9 (HT.out.keep HB10.out))
          clear hk hb9' HX6 HS6 HT6 HB6
          generalize grownCap w9 X.size 0 5 = gc1 at *
          generalize Lib.bytesWorld w9 5 X = w10 at *
          go_wp2_with fail
          refine HQ1.out.mono ?_
          rintro e w11 ⟨rfl, hb11'⟩
          have HS11 := Lib.hid (HS10.out.keep hb11')
          have HT11 := Lib.hid (HT10.out.keep hb11')
          have HB11 := Lib.hid (bel_on HB10.out hb11')
          clear hb11' hbs1 HQ1 HS10 HT10 HB10
          go_wp2_with ((with_reducible refine arm_rowg 53 b11 53 (stm M) HS11.out _ Tryd.underlying53 rfl HIM.out ?_ _ rfl ?_ ?_); (focus rfl); (focus rfl))
          refine (HSM.out _ (HT.out.keep HB11.out)).mono ?_
          rintro e w12 ⟨rfl, hb12'⟩
          have hbs2 := run_bytes w12 Y
          have hk := bel_on hb12' (bel_bytes w12 Y)
          have HT13 := Lib.hid (HT11.out.keep hk)
          have HB13 := Lib.hid (bel_on HB11.out hk)
          have HQ2 := Lib.hid (HQM.out w12 (HT.out.keep HB13.out))
          clear hk hb12' HS11 HT11 HB11
          generalize grownCap w12 Y.size 0 5 = gc2 at *
          generalize Lib.bytesWorld w12 5 Y = w13 at *
          go_wp2_with fail
          refine HQ2.out.mono ?_
          rintro e w14 ⟨rfl, hb14'⟩
          have HT14 := Lib.hid (HT13.out.keep hb14')
          have HB14 := Lib.hid (bel_on HB13.out hb14')
          clear hb14' hbs2 HQ2 HT13 HB13
          go_wp2_with ((with_reducible refine arm_rowg 53 b13 53 (stm G) HT14.out _ Tryd.underlying53 rfl HIG.out ?_ _ rfl ?_ ?_); (focus rfl); (focus rfl))
          refine (HSG.out _ (HT.out.keep HB14.out)).mono ?_
          rintro e w15 ⟨rfl, hb15'⟩
          have hbs3 := run_bytes w15 Z
          have hk := bel_on hb15' (bel_bytes w15 Z)
          have HB16 := Lib.hid (bel_on HB14.out hk)
          have HQ3 := Lib.hid (HQG.out w15 (HT.out.keep HB16.out))
          clear hk hb15' HT14 HB14
          generalize grownCap w15 Z.size 0 5 = gc3 at *
          generalize Lib.bytesWorld w15 5 Z = w16 at *
          go_wp2_with fail
          refine HQ3.out.mono ?_
          rintro e w17 ⟨rfl, hb17'⟩
          go_wp2_with fail
          go_ret
          exact ⟨rfl, bel_on HB16.out hb17'⟩
theorem lawT (A : Option Addr) (n cap : Nat) (ss : List ByteArray) (t : ByteArray) (q : Int) (w : World) (hn : ss.length = n) (hcap : n ≤ cap) (hr : RV w A (sv ss)) (hq : 0 ≤ q ∧ q < 256) (hT : Tab w 1) :
    Calls Tryd.prog 12 #[.slice A n cap, .string t, .int .u8 q] w fun e w' => e = .returned (.bool true) ∧ Below w.heap.size w w' := by
  obtain ⟨p, rfl⟩ : ∃ p : Nat, q = (p : Int) := ⟨q.toNat, by omega⟩
  by_cases h : fewB ss = true ∧ t.size ≤ 400
  · exact lawT_in A n cap ss t p w hn hcap hr hT h.1 h.2 (by omega)
  · refine lawT_out A n cap ss t p w hn hr hT ?_
    rcases Bool.eq_false_or_eq_true (fewB ss) with hf | hf
    · exact .inr (by have : ¬ t.size ≤ 400 := fun h2 => h ⟨hf, h2⟩; omega)
    · exact .inl hf
end Go.Proofs.YtkineafacekklaaDoor
