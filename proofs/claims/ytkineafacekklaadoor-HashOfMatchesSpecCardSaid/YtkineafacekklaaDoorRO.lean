/- The reference's Short and Of. -/
import Derived.Test.YtkineafacekklaaDoorRS
import Derived.Test.YtkineafacekklaaDoorInp
import Derived.Test.YtkineafacekklaaDoorOf
namespace Go.Proofs.YtkineafacekklaaDoor
open Go.RowKit
theorem bl_set {w : World} {g t : Nat} {l l' : List UInt8} (h : Arr w g t (bv l)) (j : Nat) (c : UInt8) (hl : l' = l.set j c) : Arr (w.setCell ⟨g, j, none⟩ (.int .u8 (c.toNat : Int))) g t (bv l') := by
  subst hl
  rw [← bv_set]
  exact h.set j _
set_option maxRecDepth 100000 in
set_option maxHeartbeats 2000000 in
theorem rshort_any (A : Option Addr) (n cap : Nat) (l : List UInt8) (w : World) (hn : l.length = n) (hr : RV w A (bv l)) (hl : n ≤ 100000) (hT : Tab w 0) :
    Calls Tryd.prog 49 #[.slice A n cap] w fun e w' => e = .returned (.agg (bv ((sha l).take 16)).toArray) ∧ Below w.heap.size w w' := by
  have HT := Lib.hid hT
  have HR := Lib.hid hr
  have HN := Lib.hid hn
  clear hT hr hn
  go_enter Tryd.func49, Tryd.ntmps49
  go_upto_region 1 with fail
  refine name_world ?_
  intro W hW
  have hO : Arr W w.heap.size 58 (bv Z58) := by rw [hW]; exact Arr.new _ _ _
  have hB : Below w.heap.size w W := by rw [hW]; exact bel_new _ _
  have HO := Lib.hid hO
  have HB := Lib.hid hB
  have HG0 : Hid (w.heap.size < W.heap.size) := Lib.hid hO.lt
  clear hW hO hB
  go_wp2_with fail
  refine (rsum_any A n cap l W HN.out (HR.out.below HB.out) hl (HT.out.keep HB.out)).mono ?_
  rintro e w1 ⟨rfl, hb1⟩
  have HO1 := Lib.hid (HO.out.keep hb1)
  have HB1 := Lib.hid (bel_on HB.out hb1)
  have HU := Lib.hid (sha_len l)
  generalize hUE : sha l = U at *
  have HUE := Lib.hid hUE
  clear hUE
  have HU1B : Hid ((bv U).length = 32) := Lib.hid (by rw [bv_len, HU.out])
  have HU1O := Lib.hid (bv_one U)
  have HZB : Hid ((bv Z58).length = 16) := Lib.hid rfl
  have HZO := Lib.hid (bv_one Z58)
  have H47 := Lib.hid size47
  have H58 := Lib.hid size58
  clear HO HB hb1 HG0
  go_wp2_with (first
    | ((with_reducible refine arm_new 47 (bv U) 32 HU1B.out H47.out HU1O.out _ ?_ rfl _ _ rfl ?_ ?_ ?_); (focus rfl); (focus rfl); (focus rfl); (refine nm_l ?_; intro w2 hw2; have HO2 : Hid (Arr w2 w.heap.size 58 (bv Z58)) := Lib.hid (by rw [hw2]; exact HO1.out.keep (bel_new _ _)); have HU2 : Hid (Arr w2 w1.heap.size 47 (bv U)) := Lib.hid (by rw [hw2]; exact Arr.new _ _ _); have HB2 : Hid (Below w.heap.size w w2) := Lib.hid (by rw [hw2]; exact bel_on HB1.out (bel_new _ _)); have HG1 : Hid (w.heap.size < w1.heap.size) := Lib.hid HO1.out.lt; clear hw2 HO1 HB1; generalize w1.heap.size = b3 at *))
    | ((with_reducible refine arm_new 58 (bv Z58) 16 HZB.out H58.out HZO.out _ ?_ rfl _ _ rfl ?_ ?_ ?_); (focus rfl); (focus rfl); (focus rfl); (refine nm_l ?_; intro w3 hw3; have HO3 : Hid (Arr w3 w.heap.size 58 (bv Z58)) := Lib.hid (by rw [hw3]; exact HO2.out.keep (bel_new _ _)); have HU3 : Hid (Arr w3 b3 47 (bv U)) := Lib.hid (by rw [hw3]; exact HU2.out.keep (bel_new _ _)); have HD3 : Hid (Arr w3 w2.heap.size 58 (bv Z58)) := Lib.hid (by rw [hw3]; exact Arr.new _ _ _); have HB3 : Hid (Below w.heap.size w w3) := Lib.hid (by rw [hw3]; exact bel_on HB2.out (bel_new _ _)); have HG2 : Hid (b3 < w2.heap.size) := Lib.hid HU2.out.lt; clear hw3 HO2 HU2 HB2; generalize w2.heap.size = b4 at *)))
  have HM0 : Hid ((U.take 16).take 0 ++ Z58.drop 0 = Z58) := Lib.hid (by simp)
  have HUL : Hid ((U.take 16).length = 16) := Lib.hid (by rw [List.length_take, HU.out]; rfl)
  have HZL : Hid (Z58.length = 16) := Lib.hid rfl
  go_loopw [5] (fun i wr => ∃ k : Nat, i = .int .i64 (k : Int) ∧ k ≤ 16 ∧ Hid (Arr wr b4 58 (bv ((U.take 16).take k ++ Z58.drop k))) ∧ Hid (Arr wr b3 47 (bv U)) ∧ Hid (Arr wr w.heap.size 58 (bv Z58)) ∧ Hid (Below w.heap.size w wr)) (fun i _ => 16 - (intOf i).toNat)
  case atStart => exact ⟨0, rfl, by omega, by rw [HM0.out]; exact HD3, HU3, HO3, HB3⟩
  case round =>
    clear HD3 HU3 HO3 HB3 HM0
    obtain ⟨k, rfl, hk, HD, HUA, HO, HB⟩ := hrel
    by_cases hlt : k < 16
    · have hku : k < U.length := by rw [HU.out]; omega
      have hu := HUA.out.cell (bv_at hku)
      have hml : ((U.take 16).take k ++ Z58.drop k).length = 16 := by rw [List.length_append, List.length_take, List.length_drop, HUL.out, HZL.out]; omega
      have hcell := HD.out.cell (bv_at (k := k) (by rw [hml]; exact hlt))
      have hfree := HD.out.free k
      have HM := Lib.hid (mix_set (U.take 16) Z58 (by rw [HUL.out, HZL.out]) k (by rw [HUL.out]; exact hlt))
      have HG : Hid ((U.take 16)[k]'(by rw [HUL.out]; exact hlt) = U[k]) := Lib.hid (by rw [List.getElem_take])
      rw [HG.out] at HM
      generalize ((U.take 16).take k ++ Z58.drop k)[k].toNat = old at *
      generalize U[k] = x at *
      clear hml HG
      have hk16 : (k : Int) < 16 := by omega
      have hk32 : (k : Int) < 32 := by omega
      go_wp2_with fail
      go_roundw
      case rel => exact ⟨k + 1, by go_num, by omega, Lib.hid (bl_set HD.out k x HM.out.symm), Lib.hid (HUA.out.other (by have := HG2.out; simp only; omega) _), Lib.hid (HO.out.other (by have := HG2.out; have := HG1.out; simp only; omega) _), Lib.hid (HB.out.setCell (by have := HG2.out; have := HG1.out; simp only; omega) _)⟩
      case measure => simp [intOf]; omega
    · obtain rfl : k = 16 := by omega
      rw [show ((16 : Nat) : Int) = 16 from rfl]
      have HE : Hid ((U.take 16).take 16 ++ Z58.drop 16 = U.take 16) := Lib.hid (by rw [List.take_of_length_le (by rw [HUL.out]; exact Nat.le_refl _), List.drop_of_length_le (by rw [HZL.out]; exact Nat.le_refl _), List.append_nil])
      have hD := HD.out
      rw [HE.out] at hD
      have HD2 := Lib.hid hD
      have HDB : Hid ((bv (U.take 16)).length = 16) := Lib.hid (by rw [bv_len, HUL.out])
      have HDS : Hid ((Tryd.prog.info? 58).map (·.size) = some (bv (U.take 16)).length) := Lib.hid (by rw [size58, HDB.out])
      have HDO := Lib.hid (bv_one (U.take 16))
      have HL : Hid ((bv Z58).length = (bv (U.take 16)).length) := Lib.hid (by rw [HDB.out]; rfl)
      generalize hDE : bv (U.take 16) = D at *
      have HDE := Lib.hid hDE
      clear hDE
      clear HD hD HE
      go_wp2_with (first
        | ((with_reducible refine arm_row 58 b4 58 D HD2.out _ Tryd.underlying58 rfl HDS.out rfl _ rfl ?_ ?_); focus rfl)
        | ((with_reducible refine arm_put 58 w.heap.size 58 (bv Z58) D HO.out HDS.out HL.out HDO.out rfl _ _ rfl ?_ ?_ ?_); (focus rfl); (focus rfl)))
      exact bodyPost_ret (v := .agg D.toArray) (ret_row Tryd.results49 _ _ w.heap.size 58 _ (HO.out.row _) rfl _ Tryd.underlying58 rfl HDS.out) rfl ⟨by rw [HUE.out, HDE.out], bel_row HB.out (Nat.le_refl _) _⟩
theorem rinp_len (tag : Int) (ss : List ByteArray) (h : ∀ s ∈ ss, s.size ≤ 400) (hl : ss.length ≤ 12) : (input tag ss).length ≤ 100000 := by
  have := flat_le ss h
  unfold input
  rw [List.length_cons]
  omega
set_option maxRecDepth 100000 in
set_option maxHeartbeats 2000000 in
theorem rof_any (tag : Int) (A : Option Addr) (n cap : Nat) (ss : List ByteArray) (w : World) (hn : ss.length = n) (hr : RV w A (sv ss)) (hs : ∀ s ∈ ss, s.size ≤ 400) (hl : n ≤ 12) (hT : Tab w 0) :
    Calls Tryd.prog 35 #[.int .i64 tag, .slice A n cap] w fun e w' => e = .returned (.agg (bv ((sha (input tag ss)).take 16)).toArray) ∧ Below w.heap.size w w' := by
  have HT := Lib.hid hT
  have HR := Lib.hid hr
  have HN := Lib.hid hn
  have HS := Lib.hid hs
  have HLL : Hid ((input tag ss).length ≤ 100000) := Lib.hid (rinp_len tag ss hs (by omega))
  clear hT hr hn hs
  go_enter Tryd.func35, Tryd.ntmps35
  go_upto_region 1 with fail
  refine name_world ?_
  intro W hW
  have hO : Arr W w.heap.size 58 (bv Z58) := by rw [hW]; exact Arr.new _ _ _
  have hB : Below w.heap.size w W := by rw [hW]; exact bel_new _ _
  have HO := Lib.hid hO
  have HB := Lib.hid hB
  clear hW hO hB
  go_wp2_with fail
  refine (input_any tag A n cap ss W HN.out (HR.out.below HB.out) hl HS.out).mono ?_
  rintro e w1 ⟨v1, rfl, ho1, hb1⟩
  obtain ⟨A1, c1, rfl, _, _, R1⟩ := ho1.form
  have HO1 := Lib.hid (HO.out.keep hb1)
  have HB1 := Lib.hid (bel_on HB.out hb1)
  have HR1 := Lib.hid R1
  generalize hLE : input tag ss = L at *
  have HLE := Lib.hid hLE
  clear hLE
  clear HO HB ho1 R1 hb1
  obtain ⟨q, hq⟩ : ∃ q, L.length = q := ⟨_, rfl⟩
  have HQ := Lib.hid hq
  have HQL : Hid (q ≤ 100000) := Lib.hid (by have := HLL.out; omega)
  rw [hq]
  clear hq
  go_wp2_with fail
  refine (rshort_any A1 q c1 L w1 HQ.out HR1.out HQL.out (HT.out.keep HB1.out)).mono ?_
  rintro e w2 ⟨rfl, hb2⟩
  have HO2 := Lib.hid (HO1.out.keep hb2)
  have HB2 := Lib.hid (bel_on HB1.out hb2)
  have HDB : Hid ((bv ((sha L).take 16)).length = 16) := Lib.hid (by rw [bv_len, List.length_take, sha_len]; rfl)
  have HDS : Hid ((Tryd.prog.info? 58).map (·.size) = some (bv ((sha L).take 16)).length) := Lib.hid (by rw [size58, HDB.out])
  have HDO := Lib.hid (bv_one ((sha L).take 16))
  have HL : Hid ((bv Z58).length = (bv ((sha L).take 16)).length) := Lib.hid (by rw [HDB.out]; rfl)
  generalize hDE : bv ((sha L).take 16) = D at *
  have HDE := Lib.hid hDE
  clear hDE
  clear HO1 HB1 hb2
  go_wp2_with ((with_reducible refine arm_put 58 w.heap.size 58 (bv Z58) D HO2.out HDS.out HL.out HDO.out rfl _ _ rfl ?_ ?_ ?_); (focus rfl); (focus rfl))
  exact bodyPost_ret (v := .agg D.toArray) (ret_row Tryd.results35 _ _ w.heap.size 58 _ (HO2.out.row _) rfl _ Tryd.underlying58 rfl HDS.out) rfl ⟨by rw [HLE.out, HDE.out], bel_row HB2.out (Nat.le_refl _) _⟩
end Go.Proofs.YtkineafacekklaaDoor
