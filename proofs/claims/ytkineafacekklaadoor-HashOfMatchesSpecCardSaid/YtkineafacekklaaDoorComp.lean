/- What hash.compress does. -/
import Derived.Test.YtkineafacekklaaDoorSched
import Derived.Test.YtkineafacekklaaDoorSha3
namespace Go.Proofs.YtkineafacekklaaDoor
open Go.RowKit
set_option maxRecDepth 100000 in
set_option maxHeartbeats 1000000 in
theorem comp_any (v0 : V8) (b : List UInt8) (w : World) (h64 : b.length = 64) (hok : v0.Ok) (hT : Tab w 1) :
    Calls Tryd.prog 52 #[.agg (uv v0.list).toArray, .agg (bv b).toArray] w fun e w' => e = .returned (.agg (uv (comp v0 b).list).toArray) ∧ Below w.heap.size w w' := by
  have hsz : (Tryd.prog.info? 51).map (·.size) = some (bv b).length := by rw [size51, bv_len, h64]
  have HS := Lib.hid hsz
  have hsl : (uv (sched b)).length = 64 := by rw [uv_len, sched_len]
  have HSL := Lib.hid hsl
  have hone := Lib.hid (uv_one (sched b))
  have HT := Lib.hid hT
  have HOK := Lib.hid hok
  have H64 := Lib.hid h64
  clear h64 hsz hsl hT hok
  go_enter Tryd.func52, Tryd.ntmps52
  go_wp2_with ((with_reducible refine arm_row 51 (w.heap.size + 1) 51 (bv b) (Arr3_1 _ _ _ _ _) _ Tryd.underlying51 rfl HS.out rfl _ rfl ?_ ?_); focus rfl)
  refine (sched_any b _ H64.out).mono ?_
  rintro e w1 ⟨rfl, hb1⟩
  have hb0 := Lib.hid (hb1.mono (bel3 w (.cells (uv v0.list).toArray 50) (.cells (bv b).toArray 51) (.cells #[.int .u32 0, .int .u32 0, .int .u32 0, .int .u32 0, .int .u32 0, .int .u32 0, .int .u32 0, .int .u32 0] 50)).size)
  have HB := Lib.hid ((bel3 w _ _ _).trans hb0.out)
  have HV := Lib.hid ((Arr3_0 w (uv v0.list) 50 (.cells (bv b).toArray 51) (.cells #[.int .u32 0, .int .u32 0, .int .u32 0, .int .u32 0, .int .u32 0, .int .u32 0, .int .u32 0, .int .u32 0] 50)).keep hb1)
  have HR : Hid (Arr w1 (w.heap.size + 2) 50 [.int .u32 0, .int .u32 0, .int .u32 0, .int .u32 0, .int .u32 0, .int .u32 0, .int .u32 0, .int .u32 0]) := Lib.hid (blk_keep (a3_2 w _ _ _) hb1)
  clear hb0 hb1
  go_wp2_with ((with_reducible refine arm_new 73 (uv (sched b)) 64 HSL.out size73 hone.out _ ?_ rfl _ _ rfl ?_ ?_ ?_); (focus rfl); (focus rfl); (focus rfl))
  have hW := Arr.new w1 (uv (sched b)) 73
  have hbn := bel_new w1 (.cells (uv (sched b)).toArray 73)
  have HV2 := Lib.hid (HV.out.keep hbn)
  have HR2 := Lib.hid (HR.out.keep hbn)
  have HB2 := Lib.hid (bel_on HB.out hbn)
  have HT2 := Lib.hid (HT.out.keep HB2.out)
  have HW := Lib.hid hW
  generalize w1.alloc (.cells (uv (sched b)).toArray 73) = w2 at *
  generalize w1.heap.size = gw at *
  clear HB HV HR HT hW hbn HSL hone HS H64
  have c0 : w2.cell? ⟨w.heap.size, 0, none⟩ = some (.int .u32 (v0.a : Int)) := HV2.out.cell rfl
  have c1 : w2.cell? ⟨w.heap.size, 1, none⟩ = some (.int .u32 (v0.b : Int)) := HV2.out.cell rfl
  have c2 : w2.cell? ⟨w.heap.size, 2, none⟩ = some (.int .u32 (v0.c : Int)) := HV2.out.cell rfl
  have c3 : w2.cell? ⟨w.heap.size, 3, none⟩ = some (.int .u32 (v0.d : Int)) := HV2.out.cell rfl
  have c4 : w2.cell? ⟨w.heap.size, 4, none⟩ = some (.int .u32 (v0.e : Int)) := HV2.out.cell rfl
  have c5 : w2.cell? ⟨w.heap.size, 5, none⟩ = some (.int .u32 (v0.f : Int)) := HV2.out.cell rfl
  have c6 : w2.cell? ⟨w.heap.size, 6, none⟩ = some (.int .u32 (v0.g : Int)) := HV2.out.cell rfl
  have c7 : w2.cell? ⟨w.heap.size, 7, none⟩ = some (.int .u32 (v0.h : Int)) := HV2.out.cell rfl
  go_quiet (fail)
  have hbd := below_drewN w2 nq
  have HV3 := Lib.hid (HV2.out.keep hbd)
  have HR3 := Lib.hid (HR2.out.keep hbd)
  have HB3 := Lib.hid (bel_on HB2.out hbd)
  have HT3 := Lib.hid (HT2.out.keep hbd)
  have HW3 := Lib.hid (HW.out.keep hbd)
  replace c4 := (World.cell?_of_block (w := w2) (w' := w2.drewN nq) (a := ⟨w.heap.size, 4, none⟩) rfl).trans c4
  replace c5 := (World.cell?_of_block (w := w2) (w' := w2.drewN nq) (a := ⟨w.heap.size, 5, none⟩) rfl).trans c5
  replace c6 := (World.cell?_of_block (w := w2) (w' := w2.drewN nq) (a := ⟨w.heap.size, 6, none⟩) rfl).trans c6
  replace c7 := (World.cell?_of_block (w := w2) (w' := w2.drewN nq) (a := ⟨w.heap.size, 7, none⟩) rfl).trans c7
  generalize w2.drewN nq = w3 at *
  clear HV2 HR2 HB2 HT2 HW hbd c0 c1 c2 c3
  go_wp2_with fail
  go_quiet (fail)
  have hbd := below_drewN w3 nq
  have HV4 := Lib.hid (HV3.out.keep hbd)
  have HR4 := Lib.hid (HR3.out.keep hbd)
  have HB4 := Lib.hid (bel_on HB3.out hbd)
  have HT4 := Lib.hid (HT3.out.keep hbd)
  have HW4 := Lib.hid (HW3.out.keep hbd)
  generalize w3.drewN nq = w4 at *
  clear HV3 HR3 HB3 HT3 HW3 hbd c4 c5 c6 c7
  go_wp2_with fail
  go_loopw [6, 7, 8, 9, 10, 11, 12, 13, 14, 15, 16, 37] (fun s6 s7 s8 s9 s10 s11 s12 s13 _ _ _ i wr => ∃ (t : Nat) (v : V8), i = .int .i64 (t : Int) ∧ t ≤ 64 ∧ v.Ok ∧ s6 = .int .u32 (v.a : Int) ∧ s7 = .int .u32 (v.b : Int) ∧ s8 = .int .u32 (v.c : Int) ∧ s9 = .int .u32 (v.d : Int) ∧ s10 = .int .u32 (v.e : Int) ∧ s11 = .int .u32 (v.f : Int) ∧ s12 = .int .u32 (v.g : Int) ∧ s13 = .int .u32 (v.h : Int) ∧ Hid (v = rnds (sched b) v0 t) ∧ Hid (Arr wr w.heap.size 50 (uv v0.list)) ∧ Hid (Arr wr (w.heap.size + 2) 50 [.int .u32 0, .int .u32 0, .int .u32 0, .int .u32 0, .int .u32 0, .int .u32 0, .int .u32 0, .int .u32 0]) ∧ Hid (Arr wr gw 73 (uv (sched b))) ∧ Hid (Tab wr 1) ∧ Hid (Below w.heap.size w wr)) (fun _ _ _ _ _ _ _ _ _ _ _ i _ => 64 - (intOf i).toNat)
  case atStart => exact ⟨0, v0, rfl, by omega, HOK.out, rfl, rfl, rfl, rfl, rfl, rfl, rfl, rfl, Lib.hid rfl, HV4, HR4, HW4, HT4, HB4⟩
  case round =>
    clear HV4 HR4 HB4 HT4 HW4
    obtain ⟨t, ⟨a, b', c, d, e, f, g, h⟩, rfl, ht, ⟨ha, hb, hc, hd, he, hf, hg, hh⟩, rfl, rfl, rfl, rfl, rfl, rfl, rfl, rfl, HP, HV, HR, HW, HT, HB⟩ := hrel
    simp only at ha hb hc hd he hf hg hh
    by_cases hlt : t < 64
    · have hk := HT.out t hlt
      have hw := arr_get HW.out t (by rw [sched_len]; exact hlt)
      have HN : Hid (rnds (sched b) v0 (t + 1) = rnd (rnds (sched b) v0 t) (KS.getD t 0) ((sched b).getD t 0)) := Lib.hid rfl
      have HKL := KS_lt t
      have hWL := sched_lt b t
      generalize KS.getD t 0 = kt at *
      generalize (sched b).getD t 0 = wt at *
      have hlt' : (t : Int) < 64 := by omega
      have hge' : 0 ≤ (t : Int) := by omega
      go_wp2_with fail
      go_quiet ((first | (go_at_call 56; exact rotr_q e 6 _ _ _ rfl he (by decide) (by decide)) | (go_at_call 56; exact rotr_q e 11 _ _ _ rfl he (by decide) (by decide)) | (go_at_call 56; exact rotr_q e 25 _ _ _ rfl he (by decide) (by decide))))
      have HX := Lib.hid (tx_bits ⟨a, b', c, d, e, f, g, h⟩ kt wt he hf hg)
      have HXL := tx_lt ⟨a, b', c, d, e, f, g, h⟩ kt wt
      simp only at HX
      rw [HX.out]
      have HY := Lib.hid (ty_bits ⟨a, b', c, d, e, f, g, h⟩ ha hb hc)
      have HYL := ty_lt ⟨a, b', c, d, e, f, g, h⟩
      simp only at HY
      have HRN : Hid (rnd ⟨a, b', c, d, e, f, g, h⟩ kt wt = ⟨add (tx ⟨a, b', c, d, e, f, g, h⟩ kt wt) (ty ⟨a, b', c, d, e, f, g, h⟩), a, b', c, add d (tx ⟨a, b', c, d, e, f, g, h⟩ kt wt), e, f, g⟩) := Lib.hid rfl
      generalize tx ⟨a, b', c, d, e, f, g, h⟩ kt wt = x at *
      generalize ty ⟨a, b', c, d, e, f, g, h⟩ = y at *
      have hbd := below_drewN wr nq
      have HV2 := Lib.hid (HV.out.keep hbd)
      have HR2 := Lib.hid (HR.out.keep hbd)
      have HB2 := Lib.hid (bel_on HB.out hbd)
      have HT2 := Lib.hid (HT.out.keep hbd)
      have HW2 := Lib.hid (HW.out.keep hbd)
      generalize wr.drewN nq = w5 at *
      clear HV HR HW HT HB hbd hk hw HX
      go_wp2_with (first | (go_at_call 56; (with_reducible refine (rotr_s a 2 _ _ ?_ ha ?_ ?_).mono ?_); (focus rfl); (focus decide); (focus decide); rintro e1 w' ⟨rfl, rfl⟩) | (go_at_call 56; (with_reducible refine (rotr_s a 13 _ _ ?_ ha ?_ ?_).mono ?_); (focus rfl); (focus decide); (focus decide); rintro e1 w' ⟨rfl, rfl⟩) | (go_at_call 56; (with_reducible refine (rotr_s a 22 _ _ ?_ ha ?_ ?_).mono ?_); (focus rfl); (focus decide); (focus decide); rintro e1 w' ⟨rfl, rfl⟩))
      go_roundw
      case rel =>
        rw [HY.out]
        exact ⟨t + 1, ⟨add x y, a, b', c, add d x, e, f, g⟩, by go_num, by omega, ⟨add_lt _ _, ha, hb, hc, add_lt _ _, he, hf, hg⟩, by rw [add_mod], rfl, rfl, rfl, by rw [add_mod], rfl, rfl, rfl, Lib.hid (by rw [HN.out, ← HP.out, HRN.out]), HV2, HR2, HW2, HT2, HB2⟩
      case measure => simp [intOf]; omega
    · obtain rfl : t = 64 := by omega
      have HE : Hid (addV v0 ⟨a, b', c, d, e, f, g, h⟩ = comp v0 b) := Lib.hid (by rw [HP.out]; rfl)
      rw [show ((64 : Nat) : Int) = 64 from rfl]
      clear HT HW HP
      have hidx := fun (k : Nat) (hk : k < 8) (w : World) => index50 [a, b', c, d, e, f, g, h] k hk rfl w
      have HI : Hid (∀ (k : Nat) (_ : k < 8) (w : World), (Instr.index 50 (.agg #[.int .u32 (a : Int), .int .u32 (b' : Int), .int .u32 (c : Int), .int .u32 (d : Int), .int .u32 (e : Int), .int .u32 (f : Int), .int .u32 (g : Int), .int .u32 (h : Int)]) (.int .i64 (k : Int))).run Tryd.prog w = .ok (.int .u32 ([a, b', c, d, e, f, g, h].getD k 0 : Nat)) w) := Lib.hid hidx
      clear hidx
      go_wp2_with fail
      obtain ⟨wo, hwo⟩ : ∃ wo : World, wo = wr := ⟨_, rfl⟩
      rw [← hwo] at HV HR HB
      go_loopw [17, 18, 109] (fun _ _ i wr => ∃ k : Nat, i = .int .i64 (k : Int) ∧ k ≤ 8 ∧ Hid (Arr wr w.heap.size 50 (uv ((addV v0 ⟨a, b', c, d, e, f, g, h⟩).list.take k ++ v0.list.drop k))) ∧ Hid (Arr wr (w.heap.size + 2) 50 [.int .u32 0, .int .u32 0, .int .u32 0, .int .u32 0, .int .u32 0, .int .u32 0, .int .u32 0, .int .u32 0]) ∧ Hid (Below w.heap.size w wr)) (fun _ _ i _ => 8 - (intOf i).toNat)
      case atStart => exact ⟨0, rfl, by omega, by rw [← hwo]; exact HV, by rw [← hwo]; exact HR, by rw [← hwo]; exact HB⟩
      case round =>
        clear HV HR HB hwo
        obtain ⟨k, rfl, hk, HV, HR, HB⟩ := hrel
        by_cases hlt : k < 8
        · have hx := HI.out k hlt
          have hlen : ((addV v0 ⟨a, b', c, d, e, f, g, h⟩).list.take k ++ v0.list.drop k).length = 8 := by rw [List.length_append, List.length_take, List.length_drop, list_len, list_len]; omega
          have hcell := arr_get HV.out k (by rw [hlen]; exact hlt)
          have hfree := HV.out.free k
          rw [mix_get _ _ (by rw [list_len, list_len]) k (by rw [list_len]; exact hlt)] at hcell
          have HM := Lib.hid (mix_set (addV v0 ⟨a, b', c, d, e, f, g, h⟩).list v0.list (by rw [list_len, list_len]) k (by rw [list_len]; exact hlt))
          have HG : Hid ((addV v0 ⟨a, b', c, d, e, f, g, h⟩).list[k]'(by rw [list_len]; exact hlt) = add (v0.list.getD k 0) ([a, b', c, d, e, f, g, h].getD k 0)) := Lib.hid (by
            have := addV_get v0 ⟨a, b', c, d, e, f, g, h⟩ k hlt
            rw [List.getD_eq_getElem?_getD, List.getElem?_eq_getElem (by rw [list_len]; exact hlt)] at this
            exact this)
          rw [HG.out] at HM
          generalize [a, b', c, d, e, f, g, h].getD k 0 = uk at *
          generalize v0.list.getD k 0 = vk at *
          clear hlen
          go_wp2_with fail
          go_roundw
          case rel => exact ⟨k + 1, by go_num, by omega, Lib.hid (arr_set HV.out k _ _ (add_mod _ _) HM.out.symm), Lib.hid (HR.out.other (by simp) _), Lib.hid (HB.out.setCell (Nat.le_refl _) _)⟩
          case measure => simp [intOf]; omega
        · obtain rfl : k = 8 := by omega
          have hV : Arr wr w.heap.size 50 (uv (comp v0 b).list) := by
            have := HV.out
            rw [List.take_of_length_le (by rw [list_len]; exact Nat.le_refl _), List.drop_of_length_le (by rw [list_len]; exact Nat.le_refl _), List.append_nil, HE.out] at this
            exact this
          have hsl : (uv (comp v0 b).list).length = 8 := rfl
          have hs50 : (Tryd.prog.info? 50).map (·.size) = some (uv (comp v0 b).list).length := size50
          have hone := Lib.hid (uv_one (comp v0 b).list)
          generalize hS : uv (comp v0 b).list = S at *
          have HSE := Lib.hid hS
          have H50 := Lib.hid hs50
          have HSL := Lib.hid hsl
          have HV2 := Lib.hid hV
          clear hS hs50 hsl hV HV HI HE HOK
          rw [show ((8 : Nat) : Int) = 8 from rfl]
          go_wp2_with (first | ((with_reducible refine arm_row 50 w.heap.size 50 S HV2.out _ Tryd.underlying50 rfl H50.out rfl _ rfl ?_ ?_); focus rfl) | ((with_reducible refine arm_put 50 (w.heap.size + 2) 50 _ S HR.out H50.out ?_ hone.out rfl _ _ rfl ?_ ?_ ?_); (focus exact HSL.out.symm); (focus rfl); (focus rfl)))
          exact bodyPost_ret (v := .agg S.toArray) (ret_row Tryd.results52 _ _ (w.heap.size + 2) 50 S (HR.out.row S) rfl _ Tryd.underlying50 rfl H50.out) rfl ⟨by rw [HSE.out], bel_row HB.out (by omega) _⟩
end Go.Proofs.YtkineafacekklaaDoor
