/- The reference's schedule. -/
import Derived.Test.YtkineafacekklaaDoorArr
import Derived.Test.YtkineafacekklaaDoorSched
namespace Go.Proofs.YtkineafacekklaaDoor
open Go.RowKit
def ws (b : List UInt8) (k : Nat) : List Nat := (words16 b).take k ++ List.replicate (64 - k) 0
theorem ws_len (b : List UInt8) (k : Nat) (hk : k ≤ 16) : (ws b k).length = 64 := by
  unfold ws
  rw [List.length_append, List.length_take, words16_len, List.length_replicate]; omega
theorem ws_step (b : List UInt8) (k : Nat) (hk : k < 16) : ws b (k + 1) = (ws b k).set k (word b k) := by
  have h1 : ((words16 b).take k).length = k := by rw [List.length_take, words16_len]; omega
  unfold ws
  rw [List.set_append_right _ _ (by omega), h1, Nat.sub_self, show 64 - k = 64 - (k + 1) + 1 by omega, List.replicate_succ, List.set_cons_zero, List.take_succ_eq_append_getElem (by rw [words16_len]; exact hk), List.append_assoc]
  simp [words16]
theorem ws_zero (b : List UInt8) : ws b 0 = List.replicate 64 0 := rfl
theorem ws_end (b : List UInt8) : ws b 16 = sw b 0 := by
  unfold ws sw extW
  rw [List.take_of_length_le (by rw [words16_len]; exact Nat.le_refl _)]
theorem be_bits (a b c d : Nat) (ha : a < 256) (hb : b < 256) (hc : c < 256) (hd : d < 256) :
    bits .or .u32 (bits .or .u32 (bits .or .u32 ((a : Int) * 16777216) ((b : Int) * 65536)) ((c : Int) * 256)) (d : Int) = ((be4 a b c d : Nat) : Int) := by
  rw [show (a : Int) * 16777216 = ((a * 16777216 : Nat) : Int) by omega, show (b : Int) * 65536 = ((b * 65536 : Nat) : Int) by omega, show (c : Int) * 256 = ((c * 256 : Nat) : Int) by omega]
  rw [u32_or_nat _ _ (by omega) (by omega), nat_join 24 (a * 16777216) (b * 65536) (by omega) (by omega), u32_or_nat _ _ (by omega) (by omega), nat_join 16 (a * 16777216 + b * 65536) (c * 256) (by omega) (by omega), u32_or_nat _ _ (by omega) (by omega), nat_join 8 _ d (by omega) (by omega)]
  unfold be4
  omega
theorem be_wrap (a b c d : Nat) (ha : a < 256) (hb : b < 256) (hc : c < 256) (hd : d < 256) :
    bits .or .u32 (bits .or .u32 (bits .or .u32 (IntKind.u32.wrap (IntKind.u32.wrap (a : Int) * 16777216)) (IntKind.u32.wrap (IntKind.u32.wrap (b : Int) * 65536))) (IntKind.u32.wrap (IntKind.u32.wrap (c : Int) * 256))) (IntKind.u32.wrap (d : Int)) = ((be4 a b c d : Nat) : Int) := by
  rw [← be_bits a b c d ha hb hc hd]
  have e1 : IntKind.u32.wrap (IntKind.u32.wrap (a : Int) * 16777216) = (a : Int) * 16777216 := by rw [IntKind.wrap_u32, IntKind.wrap_u32]; omega
  have e2 : IntKind.u32.wrap (IntKind.u32.wrap (b : Int) * 65536) = (b : Int) * 65536 := by rw [IntKind.wrap_u32, IntKind.wrap_u32]; omega
  have e3 : IntKind.u32.wrap (IntKind.u32.wrap (c : Int) * 256) = (c : Int) * 256 := by rw [IntKind.wrap_u32, IntKind.wrap_u32]; omega
  have e4 : IntKind.u32.wrap (d : Int) = (d : Int) := by rw [IntKind.wrap_u32]; omega
  rw [e1, e2, e3, e4]
set_option maxRecDepth 100000 in
set_option maxHeartbeats 2000000 in
theorem rwd_any (A : Option Addr) (cap : Nat) (b : List UInt8) (w : World) (h64 : b.length = 64) (hr : RV w A (bv b)) :
    Calls Tryd.prog 45 #[.slice A 64 cap] w fun e w' => e = .returned (.agg (uv (sched b)).toArray) ∧ Below w.heap.size w w' := by
  have H64 := Lib.hid h64
  have HR := Lib.hid hr
  clear h64 hr
  go_enter Tryd.func45, Tryd.ntmps45
  go_wp2_with fail
  go_loopw [4] (fun i wr => ∃ k : Nat, i = .int .i64 (k : Int) ∧ k ≤ 16 ∧ Arr wr (w.heap.size + 1) 73 (uv (ws b k)) ∧ Arr wr w.heap.size 73 (uv (List.replicate 64 0)) ∧ Below w.heap.size w wr) (fun i _ => 16 - (intOf i).toNat)
  case atStart => exact ⟨0, rfl, by omega, by rw [ws_zero]; exact a2_1 _ _ _, a2_0 _ _ _, bel2 _ _ _⟩
  case round =>
    obtain ⟨k, rfl, hk, hA, hZ, hb⟩ := hrel
    have hhs := hb.size
    by_cases hlt : k < 16
    · have h0l : 4 * k < b.length := by rw [H64.out]; omega
      have h1l : 4 * k + 1 < b.length := by rw [H64.out]; omega
      have h2l : 4 * k + 2 < b.length := by rw [H64.out]; omega
      have h3l : 4 * k + 3 < b.length := by rw [H64.out]; omega
      obtain ⟨g, o, rfl, hc0⟩ := HR.out.at_ (w' := wr) hb (k := 4 * k) (bv_at h0l)
      obtain ⟨g1, o1, he1, hc1⟩ := HR.out.at_ (w' := wr) hb (k := 4 * k + 1) (bv_at h1l)
      obtain ⟨g2, o2, he2, hc2⟩ := HR.out.at_ (w' := wr) hb (k := 4 * k + 2) (bv_at h2l)
      obtain ⟨g3, o3, he3, hc3⟩ := HR.out.at_ (w' := wr) hb (k := 4 * k + 3) (bv_at h3l)
      cases he1
      cases he2
      cases he3
      have HW : Hid (word b k = be4 b[4 * k].toNat b[4 * k + 1].toNat b[4 * k + 2].toNat b[4 * k + 3].toNat) := Lib.hid (by
        unfold word
        simp [List.getD_eq_getElem?_getD, h0l, h1l, h2l, h3l])
      have HST := Lib.hid (ws_step b k hlt)
      have ha := b[4 * k].toNat_lt
      have hb' := b[4 * k + 1].toNat_lt
      have hc' := b[4 * k + 2].toNat_lt
      have hd' := b[4 * k + 3].toNat_lt
      generalize b[4 * k].toNat = x0 at *
      generalize b[4 * k + 1].toNat = x1 at *
      generalize b[4 * k + 2].toNat = x2 at *
      generalize b[4 * k + 3].toNat = x3 at *
      rw [HW.out] at HST
      have hct : wr.cell? ⟨w.heap.size + 1, k, none⟩ = some (.int .u32 ((ws b k).getD k 0 : Nat)) := arr_get hA k (by rw [ws_len b k hk]; omega)
      have hft := hA.free k
      have HA := Lib.hid hA
      have HZ := Lib.hid hZ
      have HB := Lib.hid hb
      clear hA hZ hb h0l h1l h2l h3l HW hct hft
      have q0 : IntKind.i64.wrap (4 * (k : Int)) = 4 * (k : Int) := by rw [i64_wraps]; omega
      have q1 : IntKind.i64.wrap (4 * (k : Int) + 1) = 4 * (k : Int) + 1 := by rw [i64_wraps]; omega
      have q2 : IntKind.i64.wrap (4 * (k : Int) + 2) = 4 * (k : Int) + 2 := by rw [i64_wraps]; omega
      have q3 : IntKind.i64.wrap (4 * (k : Int) + 3) = 4 * (k : Int) + 3 := by rw [i64_wraps]; omega
      have t0 : (4 * (k : Int)).toNat = 4 * k := by omega
      have t1 : (4 * (k : Int) + 1).toNat = 4 * k + 1 := by omega
      have t2 : (4 * (k : Int) + 2).toNat = 4 * k + 2 := by omega
      have t3 : (4 * (k : Int) + 3).toNat = 4 * k + 3 := by omega
      have l0 : 4 * (k : Int) < 64 := by omega
      have l1 : 4 * (k : Int) + 1 < 64 := by omega
      have l2 : 4 * (k : Int) + 2 < 64 := by omega
      have l3 : 4 * (k : Int) + 3 < 64 := by omega
      have p0 : 0 ≤ 4 * (k : Int) := by omega
      have p1 : 0 ≤ 4 * (k : Int) + 1 := by omega
      have p2 : 0 ≤ 4 * (k : Int) + 2 := by omega
      have p3 : 0 ≤ 4 * (k : Int) + 3 := by omega
      have k16 : (k : Int) < 16 := by omega
      have k64 : (k : Int) < 64 := by omega
      have HBE := Lib.hid (be_wrap x0 x1 x2 x3 ha hb' hc' hd')
      go_wp2_with fail
      go_still_tail 35, (by kernel_rfl)
      clear q0 q1 q2 q3 t0 t1 t2 t3 l0 l1 l2 l3 p0 p1 p2 p3 hc0 hc1 hc2 hc3
      change wpList _ _ _ _ _ wr.drew
      rw [HBE.out]
      have hbd := bel_drew wr
      have HA4 := Lib.hid (HA.out.keep hbd)
      have HZ4 := Lib.hid (HZ.out.keep hbd)
      have hb4 := bel_on HB.out hbd
      have hct := arr_get HA4.out k (by rw [ws_len b k hk]; omega)
      have hft := HA4.out.free k
      generalize wr.drew = w5 at *
      generalize (ws b k).getD k 0 = old at *
      generalize be4 x0 x1 x2 x3 = v at *
      clear HA HZ HB hbd HBE ha hb' hc' hd'
      go_wp2_with fail
      go_roundw
      case rel => exact ⟨k + 1, by go_num, by omega, arr_set HA4.out k v _ rfl HST.out, HZ4.out.other (by simp) _, hb4.setCell (by simp) _⟩
      case measure => simp [intOf]; omega
    · obtain rfl : k = 16 := by omega
      rw [ws_end] at hA
      have HA := Lib.hid hA
      have HZ := Lib.hid hZ
      clear hA hZ
      rw [show ((16 : Nat) : Int) = 16 from rfl]
      go_wp2
      obtain ⟨wo, hwo⟩ : ∃ wo : World, wo = wr := ⟨_, rfl⟩
      rw [← hwo] at HA HZ hb
      have HB := Lib.hid hb
      clear hb hhs
      go_loopw [5, 6, 7] (fun i _ _ wr => ∃ k : Nat, i = .int .i64 ((16 + k : Nat) : Int) ∧ k ≤ 48 ∧ Arr wr (w.heap.size + 1) 73 (uv (sw b k)) ∧ Arr wr (w.heap.size) 73 (uv (List.replicate 64 0)) ∧ Below w.heap.size w wr) (fun i _ _ _ => 64 - (intOf i).toNat)
      case atStart => exact ⟨0, rfl, by omega, by rw [← hwo]; exact HA.out, by rw [← hwo]; exact HZ.out, by rw [← hwo]; exact HB.out⟩
      case round =>
        obtain ⟨k, rfl, hk, hA, hZ, hb⟩ := hrel
        clear HA HZ HB hwo
        by_cases hlt : k < 48
        · have hsl := sw_len b k hk
          have HP := Lib.hid (sw_step b k hlt)
          have h16 := arr_get hA (16 + k - 16) (by omega)
          have h15 := arr_get hA (16 + k - 15) (by omega)
          have h7 := arr_get hA (16 + k - 7) (by omega)
          have h2 := arr_get hA (16 + k - 2) (by omega)
          have hx16 := sw_lt b k (16 + k - 16)
          have hx15 := sw_lt b k (16 + k - 15)
          have hx7 := sw_lt b k (16 + k - 7)
          have hx2 := sw_lt b k (16 + k - 2)
          unfold nextW at HP
          generalize (sw b k).getD (16 + k - 16) 0 = x16 at *
          generalize (sw b k).getD (16 + k - 15) 0 = x15 at *
          generalize (sw b k).getD (16 + k - 7) 0 = x7 at *
          generalize (sw b k).getD (16 + k - 2) 0 = x2 at *
          have HA := Lib.hid hA
          have HZ := Lib.hid hZ
          clear hA hZ hsl
          have hk16 : 16 ≤ 16 + k := by omega
          have hk64 : 16 + k < 64 := by omega
          generalize ht : 16 + k = t at *
          have HT := Lib.hid ht
          clear ht
          have hk16' : 16 ≤ (t : Int) := by omega
          have hk64' : (t : Int) < 64 := by omega
          go_wp2_with fail
          go_quiet ((first | (go_at_call 46; exact rrot_q x15 7 _ _ _ rfl hx15 (by decide) (by decide)) | (go_at_call 46; exact rrot_q x15 18 _ _ _ rfl hx15 (by decide) (by decide))))
          have hrot7 := rot_lt 7 x15 hx15
          have hrot18 := rot_lt 18 x15 hx15
          have HS0 := Lib.hid (sg_bits (rot 7 x15) (rot 18 x15) (x15 / 8) hrot7 hrot18 (by omega))
          have HS0' : Hid (bits .xor .u32 (bits .xor .u32 ((rot 7 x15 : Nat) : Int) ((rot 18 x15 : Nat) : Int)) ((x15 : Int) / 8) = ((sg0 x15 : Nat) : Int)) := HS0.out
          rw [HS0'.out]
          have hbd := below_drewN wr nq
          replace h16 := (World.cell?_of_block (w := wr) (w' := wr.drewN nq) (a := ⟨w.heap.size + 1, t - 16, none⟩) rfl).trans h16
          replace h15 := (World.cell?_of_block (w := wr) (w' := wr.drewN nq) (a := ⟨w.heap.size + 1, t - 15, none⟩) rfl).trans h15
          replace h7 := (World.cell?_of_block (w := wr) (w' := wr.drewN nq) (a := ⟨w.heap.size + 1, t - 7, none⟩) rfl).trans h7
          replace h2 := (World.cell?_of_block (w := wr) (w' := wr.drewN nq) (a := ⟨w.heap.size + 1, t - 2, none⟩) rfl).trans h2
          have HA2 := Lib.hid (HA.out.keep hbd)
          have HZ2 := Lib.hid (HZ.out.keep hbd)
          have hb2 := bel_on hb hbd
          generalize wr.drewN nq = w3 at *
          clear HA HZ hb hbd HS0 HS0' h15 hx15 hrot7 hrot18
          generalize sg0 x15 = s0 at *
          go_wp2_with fail
          go_quiet ((first | (go_at_call 46; exact rrot_q x2 17 _ _ _ rfl hx2 (by decide) (by decide)) | (go_at_call 46; exact rrot_q x2 19 _ _ _ rfl hx2 (by decide) (by decide))))
          have hrot17 := rot_lt 17 x2 hx2
          have hrot19 := rot_lt 19 x2 hx2
          have HS1 : Hid (bits .xor .u32 (bits .xor .u32 ((rot 17 x2 : Nat) : Int) ((rot 19 x2 : Nat) : Int)) ((x2 : Int) / 1024) = ((sg1 x2 : Nat) : Int)) := Lib.hid (sg_bits (rot 17 x2) (rot 19 x2) (x2 / 1024) hrot17 hrot19 (by omega))
          rw [HS1.out]
          have hbd := below_drewN w3 nq
          replace h16 := (World.cell?_of_block (w := w3) (w' := w3.drewN nq) (a := ⟨w.heap.size + 1, t - 16, none⟩) rfl).trans h16
          replace h7 := (World.cell?_of_block (w := w3) (w' := w3.drewN nq) (a := ⟨w.heap.size + 1, t - 7, none⟩) rfl).trans h7
          have HA3 := Lib.hid (HA2.out.keep hbd)
          have HZ3 := Lib.hid (HZ2.out.keep hbd)
          have hb3 := bel_on hb2 hbd
          generalize w3.drewN nq = w4 at *
          clear HA2 HZ2 hb2 hbd HS1 h2 hx2 hrot17 hrot19
          generalize sg1 x2 = s1 at *
          go_wp2_with fail
          replace h16 : w4.cell? ⟨w.heap.size + 1, t - 16, none⟩ = some (.int .u32 (x16 : Int)) := h16
          replace h7 : w4.cell? ⟨w.heap.size + 1, t - 7, none⟩ = some (.int .u32 (x7 : Int)) := h7
          have q1 : IntKind.i64.wrap ((t : Int) - 16) = (t : Int) - 16 := IntWalk.i64_in _ (by omega)
          have q2 : 0 ≤ (t : Int) - 16 := by omega
          have q3 : (t : Int) - 16 < 64 := by omega
          have q4 : ((t : Int) - 16).toNat = t - 16 := by omega
          have q5 : IntKind.i64.wrap ((t : Int) - 7) = (t : Int) - 7 := IntWalk.i64_in _ (by omega)
          have q6 : 7 ≤ (t : Int) := by omega
          have q7 : (t : Int) - 7 < 64 := by omega
          have q8 : ((t : Int) - 7).toNat = t - 7 := by omega
          go_still_tail 15, (by kernel_rfl)
          clear q1 q4 q5 q8
          change wpList _ _ _ _ _ w4.drew
          have hbd := bel_drew w4
          have HA4 := Lib.hid (HA3.out.keep hbd)
          have HZ4 := Lib.hid (HZ3.out.keep hbd)
          have hb4 := bel_on hb3 hbd
          have hct := arr_get HA4.out t (by rw [sw_len b k hk]; omega)
          have hft := HA4.out.free t
          generalize w4.drew = w5 at *
          generalize (sw b k).getD t 0 = old at *
          clear HA3 HZ3 hb3 hbd h16 h7 q2 q3 q6 q7
          go_wp2_with fail
          go_roundw
          case rel => exact ⟨k + 1, by rw [show 16 + (k + 1) = t + 1 by have := HT.out; omega]; go_num, by omega, arr_set HA4.out t _ _ (by unfold add; omega) HP.out, HZ4.out.other (by simp) _, hb4.setCell (by simp) _⟩
          case measure => simp [intOf]; omega
        · obtain rfl : k = 48 := by omega
          rw [sw_end] at hA
          have hsl := sched_len b
          have hs73 : (Tryd.prog.info? 73).map (·.size) = some (uv (sched b)).length := by rw [size73, uv_len, hsl]
          have hzl : (uv (List.replicate 64 0)).length = (uv (sched b)).length := by rw [uv_len, uv_len, hsl]; rfl
          have H73 := Lib.hid hs73
          have HZL := Lib.hid hzl
          have hone := Lib.hid (uv_one (sched b))
          generalize hS : uv (sched b) = S at *
          have HSE := Lib.hid hS
          clear hS
          have HA := Lib.hid hA
          have HZ := Lib.hid hZ
          clear hs73 hzl hsl hA hZ
          rw [show ((16 + 48 : Nat) : Int) = 64 from rfl]
          go_wp2_with (first | ((with_reducible refine arm_row 73 (w.heap.size + 1) 73 S HA.out _ Tryd.underlying73 rfl H73.out rfl _ rfl ?_ ?_); focus rfl) | ((with_reducible refine arm_put 73 (w.heap.size) 73 (uv (List.replicate 64 0)) S HZ.out H73.out HZL.out hone.out rfl _ _ rfl ?_ ?_ ?_); (focus rfl); (focus rfl)))
          exact bodyPost_ret (v := .agg S.toArray) (ret_row Tryd.results45 _ _ (w.heap.size) 73 S (HZ.out.row S) rfl _ Tryd.underlying73 rfl H73.out) rfl ⟨by rw [HSE.out], bel_row hb (by omega) _⟩
end Go.Proofs.YtkineafacekklaaDoor
