/- What Sum of a stream does. -/
import Derived.Test.YtkineafacekklaaDoorSha5
import Derived.Deep.DeepCutAuto
namespace Go.Proofs.YtkineafacekklaaDoor
open Go.RowKit
/-- The world gets a name. -/
theorem name_world {P : Program} {c : Code} {Q : Exit → Act → World → Prop} {a : Act} {W : World} (h : ∀ W', W' = W → c.wp P Q a W') : c.wp P Q a W := h W rfl
def Z47 : List UInt8 := List.replicate 32 0
theorem size47' {l : List UInt8} (h : l.length = 32) : (Tryd.prog.info? 47).map (·.size) = some (bv l).length := by rw [size47, bv_len, h]
theorem b_set {w : World} {g t : Nat} {l l' : List UInt8} (h : Arr w g t (bv l)) (j : Nat) (c : UInt8) (z : Int) (hz : z = (c.toNat : Int)) (hl : l' = l.set j c) : Arr (w.setCell ⟨g, j, none⟩ (.int .u8 z)) g t (bv l') := by
  subst hz hl
  rw [← bv_set]
  exact h.set j _
set_option maxRecDepth 100000 in
set_option maxHeartbeats 1000000 in
/-- From the second loop on. -/
theorem summ_small (m : List UInt8) (w : World) (hl : m.length ≤ 140737488355328) (hT : Tab w 1) (hsm : m.length % 64 < 56) :
    Calls Tryd.prog 33 #[.agg (stm m).toArray] w fun e w' => e = .returned (.agg (bv (sha m)).toArray) ∧ Below w.heap.size w w' := by
  have HT := Lib.hid hT
  have HV : Hid (vEnd m = hashN m (m.length / 64)) := Lib.hid (by unfold vEnd; rw [if_pos hsm])
  have HBE : Hid (bEnd m = b1 m) := Lib.hid (by unfold bEnd; rw [if_pos hsm])
  clear hT
  go_enter Tryd.func33, Tryd.ntmps33
  go_upto_region 1 with (fail)
  refine name_world ?_
  intro W hW
  have hA : Arr W w.heap.size 53 (stm m) := by rw [hW]; exact a2_0 _ _ _
  have hZ : Arr W (w.heap.size + 1) 47 (bv Z47) := by rw [hW]; exact a2_1 _ _ _
  have hB : Below w.heap.size w W := by rw [hW]; exact bel2 _ _ _
  clear hW
  have c72 := stc_last hA (blk_len m)
  have cat := stc_byte hA (m.length % 64) (by rw [blk_len]; omega)
  have fat := hA.free (8 + m.length % 64)
  have HA := Lib.hid hA
  have HZ := Lib.hid hZ
  have HB := Lib.hid hB
  clear hA hZ hB
  have hat : ((m.length : Int) % 64) < 64 := by omega
  have hat0 : 0 ≤ ((m.length : Int) % 64) := by omega
  have hat2 : ((m.length : Int) % 64) < 56 := by omega
  generalize ((blk m).getD (m.length % 64) 0).toNat = old at *
  go_upto_region 5 with (fail)
  refine name_world ?_
  intro W2 hW2
  have hA2 : Arr W2 w.heap.size 53 (stc (vEnd m) (bEnd m) m.length) := by
    rw [hW2, HV.out, HBE.out]
    exact stc_bset HA.out (m.length % 64) (by rw [blk_len]; omega) 128 _ rfl _ rfl
  have hZ2 : Arr W2 (w.heap.size + 1) 47 (bv Z47) := by rw [hW2]; exact HZ.out.other (by simp) _
  have hB2 : Below w.heap.size w W2 := by rw [hW2]; exact HB.out.setCell (Nat.le_refl _) _
  have HA2 := Lib.hid hA2
  have HZ2 := Lib.hid hZ2
  have HB2 := Lib.hid hB2
  clear hW2 hA2 hZ2 hB2 HA HZ HB c72 cat fat HV HBE hat hat0 hat2 hsm
  have hbl := bEnd_len m
  have hok := Lib.hid (vEnd_ok m)
  have HSE : Hid (out (comp (vEnd m) (lastB (bEnd m) m.length)) = sha m) := Lib.hid (sha_end m).symm
  generalize vEnd m = V at *
  generalize bEnd m = B at *
  have HBL := Lib.hid hbl
  clear hbl
  go_wp2_with fail
  go_loopw [4, 17] (fun _ i wr => ∃ k : Nat, i = .int .i64 (k : Int) ∧ k ≤ 8 ∧ Hid (Arr wr w.heap.size 53 (stc V (lb B m.length k) m.length)) ∧ Hid (Arr wr (w.heap.size + 1) 47 (bv Z47)) ∧ Hid (Below w.heap.size w wr)) (fun _ i _ => 8 - (intOf i).toNat)
  case atStart => exact ⟨0, rfl, by omega, by rw [lb_zero B m.length HBL.out]; exact HA2, HZ2, HB2⟩
  case round =>
    clear HA2 HZ2 HB2
    obtain ⟨k, rfl, hk, HA, HZ, HB⟩ := hrel
    have hmix := lb_len B m.length k HBL.out hk
    have c72 := stc_last HA.out hmix
    by_cases hlt : k < 8
    · have cat := stc_byte HA.out (56 + k) (by rw [hmix]; omega)
      have fat := HA.out.free (8 + (56 + k))
      have HM := Lib.hid (lb_step B m.length k HBL.out hlt)
      have HARG := Lib.hid (lens_arg m.length k)
      generalize ((lb B m.length k).getD (56 + k) 0).toNat = old at *
      have HMIX := Lib.hid hmix
      clear hmix
      have hk1 : 8 * (k : Int) ≤ 56 := by omega
      have hk2 : 56 + (k : Int) < 64 := by omega
      go_wp2_with fail
      go_roundw
      case rel => exact ⟨k + 1, by go_num, by omega, Lib.hid (by rw [HM.out]; exact stc_bset HA.out (56 + k) (by rw [HMIX.out]; omega) _ _ HARG.out _ rfl), Lib.hid (HZ.out.other (by simp) _), Lib.hid (HB.out.setCell (Nat.le_refl _) _)⟩
      case measure => simp [intOf]; omega
    · obtain rfl : k = 8 := by omega
      rw [show ((8 : Nat) : Int) = 8 from rfl]
      have hA := HA.out
      rw [lb_end B m.length HBL.out] at hA
      have HA2 := Lib.hid hA
      have HLB := Lib.hid (lastB_len B m.length HBL.out)
      generalize lastB B m.length = L at *
      clear HA hA c72 hmix
      have HS73 : Hid ((Tryd.prog.info? 53).map (·.size) = some (stc V L m.length).length) := Lib.hid (size53' (stc_len _ _ _ HLB.out))
      have HS74 : Hid ((Tryd.prog.info? 53).map (·.size) = some (stc (comp V L) Z51 m.length).length) := Lib.hid (size53' (stc_len _ _ _ rfl))
      have HLL : Hid ((stc V L m.length).length = (stc (comp V L) Z51 m.length).length) := Lib.hid (by rw [stc_len _ _ _ HLB.out, stc_len _ _ _ rfl])
      have HON : Hid (∀ u ∈ stc (comp V L) Z51 m.length, u.oneCell' = true) := Lib.hid (stc_one _ _ _)
      go_upto_region 11 with ((first
        | ((with_reducible refine arm_row 53 w.heap.size 53 (stc V L m.length) HA2.out _ Tryd.underlying53 rfl HS73.out rfl _ rfl ?_ ?_); focus rfl)
        | (go_at_call 47; (refine (compd_any _ _ _ _ HLB.out hok.out (HT.out.keep HB.out)).mono ?_); rintro e w4 ⟨rfl, hb4⟩; have HA8 := Lib.hid (HA2.out.keep hb4); have HZ4 := Lib.hid (HZ.out.keep hb4); have HB4 := Lib.hid (bel_on HB.out hb4); clear hb4)
        | ((with_reducible refine arm_put 53 w.heap.size 53 _ (stc (comp V L) Z51 m.length) HA8.out HS74.out HLL.out HON.out rfl _ _ rfl ?_ ?_ ?_); (focus rfl); (focus rfl))))
      refine name_world ?_
      intro W5 hW5
      have hA5 : Arr W5 w.heap.size 53 (stc (comp V L) Z51 m.length) := by rw [hW5]; exact HA8.out.row _
      have hZ5 : Arr W5 (w.heap.size + 1) 47 (bv Z47) := by rw [hW5]; exact HZ4.out.row_other (by simp) _
      have hB5 : Below w.heap.size w W5 := by rw [hW5]; exact bel_row HB4.out (Nat.le_refl _) _
      have HA5 := Lib.hid hA5
      have HZ5 := Lib.hid hZ5
      have HB5 := Lib.hid hB5
      clear hW5 hA5 hZ5 hB5 HA8 HZ4 HB4 HA2 HZ HB HS73 HS74 HLL HON HT hok
      generalize comp V L = U at *
      go_upto_region 12 with (fail)
      refine name_world ?_
      intro W6 hW6
      have hA6 : Arr W6 w.heap.size 53 (stc U Z51 m.length) := by rw [hW6]; exact HA5.out.keep (bel_new _ _)
      have hZ6 : Arr W6 (w.heap.size + 1) 47 (bv Z47) := by rw [hW6]; exact HZ5.out.keep (bel_new _ _)
      have hO6 : Arr W6 W5.heap.size 47 (bv (ob U 0)) := by rw [hW6]; exact Arr.new W5 (bv (ob U 0)) 47
      have hB6 : Below w.heap.size w W6 := by rw [hW6]; exact bel_on HB5.out (bel_new _ _)
      have hg := HZ5.out.lt
      have HA6 := Lib.hid hA6
      have HZ6 := Lib.hid hZ6
      have HO6 := Lib.hid hO6
      have HB6 := Lib.hid hB6
      clear hW6 hA6 hZ6 hO6 hB6 HA5 HZ5 HB5
      generalize W5.heap.size = go at *
      go_wp2_with fail
      go_loopw [6, 35] (fun _ i wr => ∃ k : Nat, i = .int .i64 (k : Int) ∧ k ≤ 32 ∧ Hid (Arr wr go 47 (bv (ob U k))) ∧ Hid (Arr wr w.heap.size 53 (stc U Z51 m.length)) ∧ Hid (Arr wr (w.heap.size + 1) 47 (bv Z47)) ∧ Hid (Below w.heap.size w wr)) (fun _ i _ => 32 - (intOf i).toNat)
      case atStart => exact ⟨0, rfl, by omega, HO6, HA6, HZ6, HB6⟩
      case round =>
        clear HA6 HZ6 HO6 HB6
        obtain ⟨k, rfl, hk, HO, HA, HZ, HB⟩ := hrel
        have hol := ob_len U k hk
        by_cases hlt : k < 32
        · have hword := stc_word HA.out (k / 4) (by omega)
          have hcell : wr.cell? ⟨go, k, none⟩ = some (.int .u8 (((ob U k).getD k 0).toNat : Int)) := HO.out.cell (by rw [bv_at (by rw [hol]; exact hlt)]; simp [List.getD_eq_getElem?_getD, hol, hlt])
          have hfree := HO.out.free k
          have HM := Lib.hid (ob_step U k hlt)
          generalize ((ob U k).getD k 0).toNat = old at *
          generalize U.list.getD (k / 4) 0 = x at *
          have HARG := Lib.hid (out_arg x (24 - 8 * (k % 4)))
          clear hol
          have hk1 : 8 * ((k : Int) % 4) ≤ 24 := by omega
          have hk2 : 0 ≤ (k : Int) % 4 := by omega
          have hk3 : (k : Int) < 32 := by omega
          have hk4 : (k : Int) / 4 < 8 := by omega
          go_wp2_with fail
          go_roundw
          case rel => exact ⟨k + 1, by go_num, by omega, Lib.hid (b_set HO.out k _ _ HARG.out HM.out), Lib.hid (HA.out.other (by simp; omega) _), Lib.hid (HZ.out.other (by simp; omega) _), Lib.hid (HB.out.setCell (by simp; omega) _)⟩
          case measure => simp [intOf]; omega
        · obtain rfl : k = 32 := by omega
          rw [show ((32 : Nat) : Int) = 32 from rfl]
          have hO := HO.out
          rw [ob_end, HSE.out] at hO
          have HO2 := Lib.hid hO
          have hsl : (sha m).length = 32 := by rw [← HSE.out]; exact out_len U
          have HS47 := Lib.hid (size47' hsl)
          have HL47 : Hid ((bv Z47).length = (bv (sha m)).length) := Lib.hid (by rw [bv_len, bv_len, hsl]; rfl)
          have HON := Lib.hid (bv_one (sha m))
          clear hO hol hsl HO
          go_wp2_with (first
            | ((with_reducible refine arm_row 47 go 47 (bv (sha m)) HO2.out _ Tryd.underlying47 rfl HS47.out rfl _ rfl ?_ ?_); focus rfl)
            | ((with_reducible refine arm_put 47 (w.heap.size + 1) 47 (bv Z47) (bv (sha m)) HZ.out HS47.out HL47.out HON.out rfl _ _ rfl ?_ ?_ ?_); (focus rfl); (focus rfl)))
          exact bodyPost_ret (v := .agg (bv (sha m)).toArray) (ret_row Tryd.results33 _ _ (w.heap.size + 1) 47 _ (HZ.out.row _) rfl _ Tryd.underlying47 rfl HS47.out) rfl ⟨rfl, bel_row HB.out (by omega) _⟩
end Go.Proofs.YtkineafacekklaaDoor
