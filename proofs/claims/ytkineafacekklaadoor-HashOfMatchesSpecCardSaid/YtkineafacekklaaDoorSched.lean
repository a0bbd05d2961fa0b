/- What hash.schedule does. -/
import Derived.Test.YtkineafacekklaaDoorArr
namespace Go.Proofs.YtkineafacekklaaDoor
open Go.RowKit
theorem zeros73 : uv (List.replicate 64 0) = [.int .u32 0, .int .u32 0, .int .u32 0, .int .u32 0, .int .u32 0, .int .u32 0, .int .u32 0, .int .u32 0, .int .u32 0, .int .u32 0, .int .u32 0, .int .u32 0, .int .u32 0, .int .u32 0, .int .u32 0, .int .u32 0, .int .u32 0, .int .u32 0, .int .u32 0, .int .u32 0, .int .u32 0, .int .u32 0, .int .u32 0, .int .u32 0, .int .u32 0, .int .u32 0, .int .u32 0, .int .u32 0, .int .u32 0, .int .u32 0, .int .u32 0, .int .u32 0, .int .u32 0, .int .u32 0, .int .u32 0, .int .u32 0, .int .u32 0, .int .u32 0, .int .u32 0, .int .u32 0, .int .u32 0, .int .u32 0, .int .u32 0, .int .u32 0, .int .u32 0, .int .u32 0, .int .u32 0, .int .u32 0, .int .u32 0, .int .u32 0, .int .u32 0, .int .u32 0, .int .u32 0, .int .u32 0, .int .u32 0, .int .u32 0, .int .u32 0, .int .u32 0, .int .u32 0, .int .u32 0, .int .u32 0, .int .u32 0, .int .u32 0, .int .u32 0] := rfl
theorem or_byte (v c : Nat) (hv : v < 16777216) (hc : c < 256) : bits .or .u32 ((v : Int) * 256) (c : Int) = ((v * 256 + c : Nat) : Int) := by
  rw [show (v : Int) * 256 = ((v * 256 : Nat) : Int) by omega, u32_or_nat _ _ (by omega) (by omega), nat_join 8 (v * 256) c (by omega) (by omega)]
theorem sg_bits (a b c : Nat) (ha : a < 4294967296) (hb : b < 4294967296) (hc : c < 4294967296) : bits .xor .u32 (bits .xor .u32 (a : Int) (b : Int)) (c : Int) = ((a ^^^ b ^^^ c : Nat) : Int) := by
  rw [u32_xor_nat _ _ ha hb, u32_xor_nat _ _ (Nat.xor_lt_two_pow (n := 32) ha hb) hc]
theorem add_bits (a b : Nat) : IntKind.u32.wrap ((a : Int) + (b : Int)) = ((add a b : Nat) : Int) := by
  rw [IntKind.wrap_u32]; unfold add; omega
theorem arr_get {w : World} {g : Nat} {l : List Nat} {t : TypeId} (h : Arr w g t (uv l)) (j : Nat) (hj : j < l.length) : w.cell? ⟨g, j, none⟩ = some (.int .u32 (l.getD j 0 : Nat)) := h.cell (uv_at hj)
theorem arr_set {w : World} {g : Nat} {l l' : List Nat} {t : TypeId} (h : Arr w g t (uv l)) (j x : Nat) (z : Int) (hz : z = (x : Int)) (hl : l' = l.set j x) : Arr (w.setCell ⟨g, j, none⟩ (.int .u32 z)) g t (uv l') := by
  subst hz hl
  rw [← uv_set]
  exact h.set j _
set_option maxRecDepth 100000 in
set_option maxHeartbeats 1000000 in
theorem sched_any (b : List UInt8) (w : World) (h64 : b.length = 64) :
    Calls Tryd.prog 55 #[.agg (bv b).toArray] w fun e w' => e = .returned (.agg (uv (sched b)).toArray) ∧ Below w.heap.size w w' := by
  have hidx := index51 b
  have HI := Lib.hid hidx
  clear hidx
  have hb64 : (bv b).length = 64 := by rw [bv_len]; exact h64
  have hsz : (Tryd.prog.info? 51).map (·.size) = some (bv b).length := by rw [size51, hb64]
  have HS := Lib.hid hsz
  have H64 := Lib.hid h64
  clear h64 hb64 hsz
  go_enter Tryd.func55, Tryd.ntmps55
  go_wp2_with ((with_reducible refine arm_row 51 w.heap.size 51 (bv b) (Arr3_0 _ _ _ _ _) _ Tryd.underlying51 rfl HS.out rfl _ rfl ?_ ?_); focus rfl)
  go_loopw [4, 5, 10] (fun _ _ i wr => ∃ k : Nat, i = .int .i64 (k : Int) ∧ k ≤ 64 ∧ Arr wr (w.heap.size + 2) 73 (uv (pw b k)) ∧ Arr wr (w.heap.size + 1) 73 (uv (List.replicate 64 0)) ∧ Below w.heap.size w wr) (fun _ _ i _ => 64 - (intOf i).toNat)
  case atStart => exact ⟨0, rfl, by omega, by rw [pw_zero]; exact a3_2 _ _ _ _, a3_1 _ _ _ _, bel3 _ _ _ _⟩
  case round =>
    obtain ⟨k, rfl, hk, hA, hZ, hb⟩ := hrel
    have hhs := hb.size
    by_cases hlt : k < 64
    · have hx := HI.out k hlt H64.out
      have hkl : k < b.length := by rw [H64.out]; exact hlt
      have HP := Lib.hid (pw_step b k hkl)
      have hp24 := (pval_here b k hkl).2
      have hc : wr.cell? ⟨w.heap.size + 2, k / 4, none⟩ = some (.int .u32 (pval b k (k / 4) : Nat)) := hA.cell (by rw [uv_at (by rw [pw_len]; omega)]; simp [pw, List.getD_eq_getElem?_getD, show k / 4 < 64 by omega])
      have hf := hA.free (k / 4)
      have hget : b.getD k 0 = b[k] := by simp [List.getD_eq_getElem?_getD, hkl]
      rw [hget] at hx
      have hu := b[k].toNat_lt
      generalize b[k].toNat = c at *
      generalize pval b k (k / 4) = v at *
      have HA := Lib.hid hA
      have HZ := Lib.hid hZ
      clear hA hZ hget
      go_wp2
      go_roundw
      case rel => exact ⟨k + 1, by go_num, by omega, arr_set HA.out (k / 4) (v * 256 + c) _ (or_byte v c hp24 (by omega)) HP.out, HZ.out.other (by simp) _, hb.setCell (by simp; omega) _⟩
      case measure => simp [intOf]; omega
    · obtain rfl : k = 64 := by omega
      have HA := Lib.hid hA
      have HZ := Lib.hid hZ
      clear hA hZ
      rw [show ((64 : Nat) : Int) = 64 from rfl]
      go_wp2
      obtain ⟨wo, hwo⟩ : ∃ wo : World, wo = wr := ⟨_, rfl⟩
      rw [← hwo] at HA HZ hb
      have HB := Lib.hid hb
      clear hb hhs
      go_loopw [6, 7, 8] (fun i _ _ wr => ∃ k : Nat, i = .int .i64 ((16 + k : Nat) : Int) ∧ k ≤ 48 ∧ Arr wr (w.heap.size + 2) 73 (uv (sw b k)) ∧ Arr wr (w.heap.size + 1) 73 (uv (List.replicate 64 0)) ∧ Below w.heap.size w wr) (fun i _ _ _ => 64 - (intOf i).toNat)
      case atStart => exact ⟨0, rfl, by omega, by rw [← pw_end b H64.out, ← hwo]; exact HA.out, by rw [← hwo]; exact HZ.out, by rw [← hwo]; exact HB.out⟩
      case round =>
        obtain ⟨k, rfl, hk, hA, hZ, hb⟩ := hrel
        clear HA HZ HB hwo
        by_cases hlt : k < 48
        · have hsl := sw_len b k hk
          have HP := Lib.hid (sw_step b k hlt)
          have h16 := arr_get hA (16 + k - 16) (by omega)
          have h15 := arr_get hA (16 + k - 15) (by omega)
          have h7 := arr_get hA (16 + k - 7) (by omega)
          have h2 := arr_get hA (16 + k - 2) (by omega)
          have hx16 := sw_lt b k (16 + k - 16)
          have hx15 := sw_lt b k (16 + k - 15)
          have hx7 := sw_lt b k (16 + k - 7)
          have hx2 := sw_lt b k (16 + k - 2)
          unfold nextW at HP
          generalize (sw b k).getD (16 + k - 16) 0 = x16 at *
          generalize (sw b k).getD (16 + k - 15) 0 = x15 at *
          generalize (sw b k).getD (16 + k - 7) 0 = x7 at *
          generalize (sw b k).getD (16 + k - 2) 0 = x2 at *
          have HA := Lib.hid hA
          have HZ := Lib.hid hZ
          clear hA hZ hsl
          have hk16 : 16 ≤ 16 + k := by omega
          have hk64 : 16 + k < 64 := by omega
          generalize ht : 16 + k = t at *
          have HT := Lib.hid ht
          clear ht
          have hk16' : 16 ≤ (t : Int) := by omega
          have hk64' : (t : Int) < 64 := by omega
          go_wp2_with fail
          go_quiet ((first | (go_at_call 56; exact rotr_q x15 7 _ _ _ rfl hx15 (by decide) (by decide)) | (go_at_call 56; exact rotr_q x15 18 _ _ _ rfl hx15 (by decide) (by decide))))
          have hrot7 := rot_lt 7 x15 hx15
          have hrot18 := rot_lt 18 x15 hx15
          have HS0 := Lib.hid (sg_bits (rot 7 x15) (rot 18 x15) (x15 / 8) hrot7 hrot18 (by omega))
          have HS0' : Hid (bits .xor .u32 (bits .xor .u32 ((rot 7 x15 : Nat) : Int) ((rot 18 x15 : Nat) : Int)) ((x15 : Int) / 8) = ((sg0 x15 : Nat) : Int)) := HS0.out
          rw [HS0'.out]
          have hbd := below_drewN wr nq
          replace h16 := (World.cell?_of_block (w := wr) (w' := wr.drewN nq) (a := ⟨w.heap.size + 2, t - 16, none⟩) rfl).trans h16
          replace h15 := (World.cell?_of_block (w := wr) (w' := wr.drewN nq) (a := ⟨w.heap.size + 2, t - 15, none⟩) rfl).trans h15
          replace h7 := (World.cell?_of_block (w := wr) (w' := wr.drewN nq) (a := ⟨w.heap.size + 2, t - 7, none⟩) rfl).trans h7
          replace h2 := (World.cell?_of_block (w := wr) (w' := wr.drewN nq) (a := ⟨w.heap.size + 2, t - 2, none⟩) rfl).trans h2
          have HA2 := Lib.hid (HA.out.keep hbd)
          have HZ2 := Lib.hid (HZ.out.keep hbd)
          have hb2 := bel_on hb hbd
          generalize wr.drewN nq = w3 at *
          clear HA HZ hb hbd HS0 HS0' h15 hx15 hrot7 hrot18
          generalize sg0 x15 = s0 at *
          go_wp2_with fail
          go_quiet ((first | (go_at_call 56; exact rotr_q x2 17 _ _ _ rfl hx2 (by decide) (by decide)) | (go_at_call 56; exact rotr_q x2 19 _ _ _ rfl hx2 (by decide) (by decide))))
          have hrot17 := rot_lt 17 x2 hx2
          have hrot19 := rot_lt 19 x2 hx2
          have HS1 : Hid (bits .xor .u32 (bits .xor .u32 ((rot 17 x2 : Nat) : Int) ((rot 19 x2 : Nat) : Int)) ((x2 : Int) / 1024) = ((sg1 x2 : Nat) : Int)) := Lib.hid (sg_bits (rot 17 x2) (rot 19 x2) (x2 / 1024) hrot17 hrot19 (by omega))
          rw [HS1.out]
          have hbd := below_drewN w3 nq
          replace h16 := (World.cell?_of_block (w := w3) (w' := w3.drewN nq) (a := ⟨w.heap.size + 2, t - 16, none⟩) rfl).trans h16
          replace h7 := (World.cell?_of_block (w := w3) (w' := w3.drewN nq) (a := ⟨w.heap.size + 2, t - 7, none⟩) rfl).trans h7
          have HA3 := Lib.hid (HA2.out.keep hbd)
          have HZ3 := Lib.hid (HZ2.out.keep hbd)
          have hb3 := bel_on hb2 hbd
          generalize w3.drewN nq = w4 at *
          clear HA2 HZ2 hb2 hbd HS1 h2 hx2 hrot17 hrot19
          generalize sg1 x2 = s1 at *
          go_wp2_with fail
          replace h16 : w4.cell? ⟨w.heap.size + 1 + 1, t - 16, none⟩ = some (.int .u32 (x16 : Int)) := h16
          replace h7 : w4.cell? ⟨w.heap.size + 1 + 1, t - 7, none⟩ = some (.int .u32 (x7 : Int)) := h7
          have q1 : IntKind.i64.wrap ((t : Int) - 16) = (t : Int) - 16 := IntWalk.i64_in _ (by omega)
          have q2 : 0 ≤ (t : Int) - 16 := by omega
          have q3 : (t : Int) - 16 < 64 := by omega
          have q4 : ((t : Int) - 16).toNat = t - 16 := by omega
          have q5 : IntKind.i64.wrap ((t : Int) - 7) = (t : Int) - 7 := IntWalk.i64_in _ (by omega)
          have q6 : 7 ≤ (t : Int) := by omega
          have q7 : (t : Int) - 7 < 64 := by omega
          have q8 : ((t : Int) - 7).toNat = t - 7 := by omega
          go_still_tail 15, (by kernel_rfl)
          clear q1 q4 q5 q8
          change wpList _ _ _ _ _ w4.drew
          have hbd := bel_drew w4
          have HA4 := Lib.hid (HA3.out.keep hbd)
          have HZ4 := Lib.hid (HZ3.out.keep hbd)
          have hb4 := bel_on hb3 hbd
          have hct := arr_get HA4.out t (by rw [sw_len b k hk]; omega)
          have hft := HA4.out.free t
          generalize w4.drew = w5 at *
          generalize (sw b k).getD t 0 = old at *
          clear HA3 HZ3 hb3 hbd h16 h7 q2 q3 q6 q7
          go_wp2_with fail
          go_roundw
          case rel => exact ⟨k + 1, by rw [show 16 + (k + 1) = t + 1 by have := HT.out; omega]; go_num, by omega, arr_set HA4.out t _ _ (by unfold add; omega) HP.out, HZ4.out.other (by simp) _, hb4.setCell (by simp; omega) _⟩
          case measure => simp [intOf]; omega
        · obtain rfl : k = 48 := by omega
          rw [sw_end] at hA
          have hsl := sched_len b
          have hs73 : (Tryd.prog.info? 73).map (·.size) = some (uv (sched b)).length := by rw [size73, uv_len, hsl]
          have hzl : (uv (List.replicate 64 0)).length = (uv (sched b)).length := by rw [uv_len, uv_len, hsl]; rfl
          have H73 := Lib.hid hs73
          have HZL := Lib.hid hzl
          have hone := Lib.hid (uv_one (sched b))
          generalize hS : uv (sched b) = S at *
          have HSE := Lib.hid hS
          clear hS
          have HA := Lib.hid hA
          have HZ := Lib.hid hZ
          clear hs73 hzl hsl hA hZ
          rw [show ((16 + 48 : Nat) : Int) = 64 from rfl]
          go_wp2_with (first | ((with_reducible refine arm_row 73 (w.heap.size + 1 + 1) 73 S HA.out _ Tryd.underlying73 rfl H73.out rfl _ rfl ?_ ?_); focus rfl) | ((with_reducible refine arm_put 73 (w.heap.size + 1) 73 (uv (List.replicate 64 0)) S HZ.out H73.out HZL.out hone.out rfl _ _ rfl ?_ ?_ ?_); (focus rfl); (focus rfl)))
          exact bodyPost_ret (v := .agg S.toArray) (ret_row Tryd.results55 _ _ (w.heap.size + 1) 73 S (HZ.out.row S) rfl _ Tryd.underlying73 rfl H73.out) rfl ⟨by rw [HSE.out], bel_row hb (by omega) _⟩
end Go.Proofs.YtkineafacekklaaDoor
