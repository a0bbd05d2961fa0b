/- The reference's Sum. -/
import Derived.Test.YtkineafacekklaaDoorRP
import Derived.Test.YtkineafacekklaaDoorRW
import Derived.Test.YtkineafacekklaaDoorSumF
namespace Go.Proofs.YtkineafacekklaaDoor
open Go.RowKit
theorem own_arr' {w : World} {B : Nat} {v : Value} {l : List UInt8} (h : Own w B v l) (hl : l ≠ []) : ∃ g cap R, v = .slice (some ⟨g, 0, none⟩) l.length cap ∧ B ≤ g ∧ l.length ≤ cap ∧ cap ≤ maxLen ∧ Arr w g 5 (bv l ++ R) := by
  rcases h.2 with ⟨rfl, h0⟩ | ⟨g, cap, cur, rfl, hb, hg, hc, hm, hs, ht⟩
  · exact absurd (List.eq_nil_of_length_eq_zero h0) hl
  · refine ⟨g, cap, cur.toList.drop l.length, rfl, hb, hc, hm, ?_⟩
    rw [Nat.mul_one] at ht
    have e : bv l ++ cur.toList.drop l.length = cur.toList := by rw [← ht, List.take_append_drop]
    rw [e]
    unfold Arr
    simpa using hg
theorem arr_blk {w : World} {g : Nat} {l : List UInt8} {R : List Value} (h : Arr w g 5 (bv l ++ R)) (q : Nat) (hq : 64 * q + 64 ≤ l.length) : RV w (some ⟨g, 64 * q, none⟩) (bv ((l.drop (64 * q)).take 64)) := fun _ =>
  ⟨g, 64 * q, rfl, fun j u hu => by
    have hj := (List.getElem?_eq_some_iff.1 hu).1
    rw [bv_len, List.length_take, List.length_drop] at hj
    refine h.cell ?_
    rw [List.getElem?_append_left (by rw [bv_len]; omega), ← hu]
    unfold bv
    rw [List.getElem?_map, List.getElem?_map, List.getElem?_take, if_pos (by omega), List.getElem?_drop]⟩
theorem nm_l {P : Program} {ops : Array Oper} {rest : List Oper} {Q : Exit → Act → World → Prop} {a : Act} {W : World} (h : ∀ W', W' = W → wpList P ops Q rest a W') : wpList P ops Q rest a W := h W rfl
theorem iv8 : uv IV.list = [.int .u32 1779033703, .int .u32 3144134277, .int .u32 1013904242, .int .u32 2773480762, .int .u32 1359893119, .int .u32 2600822924, .int .u32 528734635, .int .u32 1541459225] := rfl
theorem pad_ne (l : List UInt8) : pad l ≠ [] := by
  intro h
  have := pad_len l
  rw [h] at this
  simp at this
  split at this <;> omega
set_option maxRecDepth 100000 in
set_option maxHeartbeats 20000000 in
theorem rsum_any (A : Option Addr) (n cap : Nat) (l : List UInt8) (w : World) (hn : l.length = n) (hr : RV w A (bv l)) (hl : n ≤ 100000) (hT : Tab w 0) :
    Calls Tryd.prog 30 #[.slice A n cap] w fun e w' => e = .returned (.agg (bv (sha l)).toArray) ∧ Below w.heap.size w w' := by
  have HT := Lib.hid hT
  have HR := Lib.hid hr
  have HN := Lib.hid hn
  clear hT hr hn
  go_enter Tryd.func30, Tryd.ntmps30
  go_upto_region 2 with fail
  refine name_world ?_
  intro W hW
  have hO : Arr W w.heap.size 47 (bv Z47) := by rw [hW]; exact a2_0 _ _ _
  have hV : Arr W (w.heap.size + 1) 50 (uv IV.list) := by rw [hW]; exact a2_1 _ _ _
  have hB : Below w.heap.size w W := by rw [hW]; exact bel2 _ _ _
  have HZ : Hid (w.heap.size + 2 ≤ W.heap.size) := Lib.hid (by rw [hW]; simp)
  have HO := Lib.hid hO
  have HV := Lib.hid hV
  have HB := Lib.hid hB
  clear hW hO hV hB
  go_wp2_with fail
  refine (rpad_any A n cap l W HN.out (HR.out.below HB.out) hl).mono ?_
  rintro e w1 ⟨v1, rfl, ho1, hb1⟩
  obtain ⟨gp, cp, R, rfl, hgp, hcp, hcm, hAp⟩ := own_arr' ho1 (pad_ne l)
  have HO1 := Lib.hid (HO.out.keep hb1)
  have HV1 := Lib.hid (HV.out.keep hb1)
  have HB1 := Lib.hid (bel_on HB.out hb1)
  have HAP := Lib.hid hAp
  have HGP : Hid (w.heap.size + 2 ≤ gp) := Lib.hid (by have := HZ.out; omega)
  obtain ⟨Q, hQ⟩ : ∃ Q, (pad l).length = 64 * Q := ⟨_, pad_len l⟩
  have HSE : Hid (out (hashN (pad l) Q) = sha l) := Lib.hid (by
    unfold sha
    rw [hQ, Nat.mul_div_cancel_left _ (by decide)])
  have hQl : 64 * Q ≤ 200000 := by
    rw [← hQ]
    have := pad_len l
    rw [this, HN.out]
    split <;> omega
  generalize pad l = M at *
  have HQ := Lib.hid hQ
  rw [hQ] at hcp ⊢
  clear hQ hAp ho1 hb1 HO HV HB HZ hgp
  go_wp2_with fail
  go_loopw [5, 6, 7, 8, 9, 10, 11] (fun i _ _ _ _ _ _ wr => ∃ q : Nat, i = .int .i64 ((64 * q : Nat) : Int) ∧ q ≤ Q ∧ Hid (Arr wr (w.heap.size + 1) 50 (uv (hashN M q).list)) ∧ Hid (Arr wr w.heap.size 47 (bv Z47)) ∧ Hid (Arr wr gp 5 (bv M ++ R)) ∧ Hid (Below w.heap.size w wr)) (fun i _ _ _ _ _ _ _ => 64 * Q - (intOf i).toNat)
  case atStart => exact ⟨0, rfl, by omega, HV1, HO1, HAP, HB1⟩
  case round =>
    clear HV1 HO1 HAP HB1
    obtain ⟨q, rfl, hq, HV, HO, HAP, HB⟩ := hrel
    by_cases hlt : q < Q
    · obtain ⟨z, hz⟩ : ∃ z, 64 * q = z := ⟨_, rfl⟩
      have hzl : (z : Int) < 64 * (Q : Int) := by omega
      have hzl2 : (z : Int) + 64 ≤ 64 * (Q : Int) := by omega
      have hzc : (z : Int) + 64 ≤ (cp : Int) := by omega
      have hw64 : IntKind.i64.wrap ((z : Int) + 64) = (z : Int) + 64 := by rw [i64_wraps]; omega
      have hRV := arr_blk HAP.out q (by rw [HQ.out]; omega)
      rw [hz] at hRV ⊢
      have hBL : ((M.drop z).take 64).length = 64 := by rw [List.length_take, List.length_drop, HQ.out]; omega
      have HNX : Hid (hashN M (q + 1) = comp (hashN M q) ((M.drop z).take 64)) := Lib.hid (by rw [← hz]; rfl)
      have HOK := Lib.hid (hashN_ok M q)
      have HZQ : Hid (64 * (q + 1) = z + 64) := Lib.hid (by omega)
      generalize hashN M q = v0 at *
      generalize (M.drop z).take 64 = blk at *
      have HRV := Lib.hid hRV
      have HBL := Lib.hid hBL
      clear hRV hBL
      go_wp2_with fail
      rw [show z + 64 - z = 64 by omega]
      refine (rwd_any (some ⟨gp, z, none⟩) (cp - z) blk wr HBL.out HRV.out).mono ?_
      rintro e w2 ⟨rfl, hb2⟩
      have hg2 := hb2.size
      have HV2 := Lib.hid (HV.out.keep hb2)
      have HO2 := Lib.hid (HO.out.keep hb2)
      have HAP2 := Lib.hid (HAP.out.keep hb2)
      have HB2 := Lib.hid (bel_on HB.out hb2)
      have HSL : Hid ((uv (sched blk)).length = 64) := Lib.hid (by rw [uv_len, sched_len])
      have HSO := Lib.hid (uv_one (sched blk))
      have HVO := Lib.hid (uv_one v0.list)
      have HV8 := Lib.hid (uv8 v0)
      have HV50 : Hid ((Tryd.prog.info? 50).map (·.size) = some (uv v0.list).length) := Lib.hid (by rw [uv8]; exact size50)
      generalize hS : uv v0.list = S at *
      have HS := Lib.hid hS
      clear hS
      generalize hS2 : uv (sched blk) = S2 at *
      have HS2 := Lib.hid hS2
      clear hS2
      clear HV HO HAP HB HRV hb2 hg2
      go_wp2_with (first
        | ((with_reducible refine arm_new 73 S2 64 HSL.out size73 HSO.out _ ?_ rfl _ _ rfl ?_ ?_ ?_); (focus rfl); (focus rfl); (focus rfl); (refine nm_l ?_; intro w3 hw3; have HW3 : Hid (Arr w3 w2.heap.size 73 S2) := Lib.hid (by rw [hw3]; exact Arr.new _ _ _); have HV3 : Hid (Arr w3 (w.heap.size + 1) 50 S) := Lib.hid (by rw [hw3]; exact HV2.out.keep (bel_new _ _)); have HO3 : Hid (Arr w3 w.heap.size 47 (bv Z47)) := Lib.hid (by rw [hw3]; exact HO2.out.keep (bel_new _ _)); have HAP3 : Hid (Arr w3 gp 5 (bv M ++ R)) := Lib.hid (by rw [hw3]; exact HAP2.out.keep (bel_new _ _)); have HB3 : Hid (Below w.heap.size w w3) := Lib.hid (by rw [hw3]; exact bel_on HB2.out (bel_new _ _)); have HGW : Hid (gp < w2.heap.size) := Lib.hid HAP2.out.lt; clear hw3 HV2 HO2 HAP2 HB2; generalize w2.heap.size = gw at *))
        | ((with_reducible refine arm_row 50 (w.heap.size + 1) 50 S HV3.out _ Tryd.underlying50 rfl HV50.out rfl _ rfl ?_ ?_); focus rfl)
        | ((with_reducible refine arm_new 50 S 8 HV8.out size50 HVO.out _ ?_ rfl _ _ rfl ?_ ?_ ?_); (focus rfl); (focus rfl); (focus rfl); (refine nm_l ?_; intro w4 hw4; have HW4 : Hid (Arr w4 gw 73 S2) := Lib.hid (by rw [hw4]; exact HW3.out.keep (bel_new _ _)); have HC4 : Hid (Arr w4 w3.heap.size 50 S) := Lib.hid (by rw [hw4]; exact Arr.new _ _ _); have HV4 : Hid (Arr w4 (w.heap.size + 1) 50 S) := Lib.hid (by rw [hw4]; exact HV3.out.keep (bel_new _ _)); have HO4 : Hid (Arr w4 w.heap.size 47 (bv Z47)) := Lib.hid (by rw [hw4]; exact HO3.out.keep (bel_new _ _)); have HAP4 : Hid (Arr w4 gp 5 (bv M ++ R)) := Lib.hid (by rw [hw4]; exact HAP3.out.keep (bel_new _ _)); have HB4 : Hid (Below w.heap.size w w4) := Lib.hid (by rw [hw4]; exact bel_on HB3.out (bel_new _ _)); have HGV : Hid (gw < w3.heap.size) := Lib.hid HW3.out.lt; clear hw4 HW3 HV3 HO3 HAP3 HB3; generalize w3.heap.size = gv at *)))
      have HT4 := Lib.hid (HT.out.keep HB4.out)
      have HRD : Hid (rnds (sched blk) v0 0 = v0) := Lib.hid rfl
      have HWZ := Lib.hid hw64
      have HZL : Hid (z + 64 ≤ 64 * Q) := Lib.hid (by omega)
      clear HSL HSO HVO HV8 HV50 HBL hzl hzl2 hzc hw64 hQl
      go_loopw [8, 9, 10] (fun i _ _ wr => ∃ (t : Nat) (v : V8), i = .int .i64 (t : Int) ∧ t ≤ 64 ∧ v.Ok ∧ Hid (v = rnds (sched blk) v0 t) ∧ Hid (Arr wr gv 50 (uv v.list)) ∧ Hid (Arr wr gw 73 S2) ∧ Hid (Arr wr (w.heap.size + 1) 50 S) ∧ Hid (Arr wr w.heap.size 47 (bv Z47)) ∧ Hid (Arr wr gp 5 (bv M ++ R)) ∧ Hid (Tab wr 0) ∧ Hid (Below w.heap.size w wr)) (fun i _ _ _ => 64 - (intOf i).toNat)
      case atStart => exact ⟨0, v0, rfl, by omega, HOK.out, Lib.hid rfl, by rw [HS.out]; exact HC4, HW4, HV4, HO4, HAP4, HT4, HB4⟩
      case round =>
        clear HC4 HW4 HV4 HO4 HAP4 HB4 HT4
        obtain ⟨t, ⟨a, b', c, d, e, f, g, h⟩, rfl, ht, ⟨ha, hb, hc, hd, he, hf, hg, hh⟩, HP, HC, HW, HV, HO, HAP, HTB, HB⟩ := hrel
        simp only at ha hb hc hd he hf hg hh
        by_cases hlt2 : t < 64
        · have hk := HTB.out t hlt2
          have hw := arr_get (l := sched blk) (by rw [HS2.out]; exact HW.out) t (by rw [sched_len]; exact hlt2)
          have HN' : Hid (rnds (sched blk) v0 (t + 1) = rnd (rnds (sched blk) v0 t) (KS.getD t 0) ((sched blk).getD t 0)) := Lib.hid rfl
          have HKL := KS_lt t
          have hWL := sched_lt blk t
          generalize KS.getD t 0 = kt at *
          generalize (sched blk).getD t 0 = wt at *
          have hlt' : (t : Int) < 64 := by omega
          have hge' : 0 ≤ (t : Int) := by omega
          have c4 : wr.cell? ⟨gv, 4, none⟩ = some (.int .u32 (e : Int)) := HC.out.cell rfl
          have c5 : wr.cell? ⟨gv, 5, none⟩ = some (.int .u32 (f : Int)) := HC.out.cell rfl
          have c6 : wr.cell? ⟨gv, 6, none⟩ = some (.int .u32 (g : Int)) := HC.out.cell rfl
          have c7 : wr.cell? ⟨gv, 7, none⟩ = some (.int .u32 (h : Int)) := HC.out.cell rfl
          go_wp2_with fail
          go_quiet ((first | (go_at_call 46; exact rrot_q e 6 _ _ _ rfl he (by decide) (by decide)) | (go_at_call 46; exact rrot_q e 11 _ _ _ rfl he (by decide) (by decide)) | (go_at_call 46; exact rrot_q e 25 _ _ _ rfl he (by decide) (by decide))))
          have HX := Lib.hid (tx_bits' ⟨a, b', c, d, e, f, g, h⟩ kt wt he hf hg)
          have HXL := tx_lt ⟨a, b', c, d, e, f, g, h⟩ kt wt
          simp only at HX
          rw [HX.out]
          have HY := Lib.hid (ty_bits ⟨a, b', c, d, e, f, g, h⟩ ha hb hc)
          have HYL := ty_lt ⟨a, b', c, d, e, f, g, h⟩
          simp only at HY
          have HRN : Hid (rnd ⟨a, b', c, d, e, f, g, h⟩ kt wt = ⟨add (tx ⟨a, b', c, d, e, f, g, h⟩ kt wt) (ty ⟨a, b', c, d, e, f, g, h⟩), a, b', c, add d (tx ⟨a, b', c, d, e, f, g, h⟩ kt wt), e, f, g⟩) := Lib.hid rfl
          generalize tx ⟨a, b', c, d, e, f, g, h⟩ kt wt = x at *
          generalize ty ⟨a, b', c, d, e, f, g, h⟩ = y at *
          have hbd := below_drewN wr nq
          have HC2 := Lib.hid (HC.out.keep hbd)
          have HW2 := Lib.hid (HW.out.keep hbd)
          have HV2 := Lib.hid (HV.out.keep hbd)
          have HO2 := Lib.hid (HO.out.keep hbd)
          have HAP2 := Lib.hid (HAP.out.keep hbd)
          have HTB2 := Lib.hid (HTB.out.keep hbd)
          have HB2 := Lib.hid (bel_on HB.out hbd)
          generalize wr.drewN nq = w5 at *
          clear HC HW HV HO HAP HTB HB hbd hk hw HX c4 c5 c6 c7
          have c0 : w5.cell? ⟨gv, 0, none⟩ = some (.int .u32 (a : Int)) := HC2.out.cell rfl
          have c1 : w5.cell? ⟨gv, 1, none⟩ = some (.int .u32 (b' : Int)) := HC2.out.cell rfl
          have c2 : w5.cell? ⟨gv, 2, none⟩ = some (.int .u32 (c : Int)) := HC2.out.cell rfl
          go_wp2_with fail
          go_quiet ((first | (go_at_call 46; exact rrot_q a 2 _ _ _ rfl ha (by decide) (by decide)) | (go_at_call 46; exact rrot_q a 13 _ _ _ rfl ha (by decide) (by decide)) | (go_at_call 46; exact rrot_q a 22 _ _ _ rfl ha (by decide) (by decide))))
          rw [HY.out]
          have hbd := below_drewN w5 nq
          have HC3 := Lib.hid (HC2.out.keep hbd)
          have HW3 := Lib.hid (HW2.out.keep hbd)
          have HV3 := Lib.hid (HV2.out.keep hbd)
          have HO3 := Lib.hid (HO2.out.keep hbd)
          have HAP3 := Lib.hid (HAP2.out.keep hbd)
          have HTB3 := Lib.hid (HTB2.out.keep hbd)
          have HB3 := Lib.hid (bel_on HB2.out hbd)
          generalize w5.drewN nq = w6 at *
          clear HC2 HW2 HV2 HO2 HAP2 HTB2 HB2 hbd HY c0 c1 c2
          have c0 : w6.cell? ⟨gv, 0, none⟩ = some (.int .u32 (a : Int)) := HC3.out.cell rfl
          have c1 : w6.cell? ⟨gv, 1, none⟩ = some (.int .u32 (b' : Int)) := HC3.out.cell rfl
          have c2 : w6.cell? ⟨gv, 2, none⟩ = some (.int .u32 (c : Int)) := HC3.out.cell rfl
          have c3 : w6.cell? ⟨gv, 3, none⟩ = some (.int .u32 (d : Int)) := HC3.out.cell rfl
          have c4 : w6.cell? ⟨gv, 4, none⟩ = some (.int .u32 (e : Int)) := HC3.out.cell rfl
          have c5 : w6.cell? ⟨gv, 5, none⟩ = some (.int .u32 (f : Int)) := HC3.out.cell rfl
          have c6 : w6.cell? ⟨gv, 6, none⟩ = some (.int .u32 (g : Int)) := HC3.out.cell rfl
          have HDS : Hid ([Value.int .u32 (((x : Int) + (y : Int)) % 4294967296), .int .u32 (a : Int), .int .u32 (b' : Int), .int .u32 (c : Int), .int .u32 (((d : Int) + (x : Int)) % 4294967296), .int .u32 (e : Int), .int .u32 (f : Int), .int .u32 (g : Int)] = uv (V8.mk (add x y) a b' c (add d x) e f g).list) := Lib.hid (by rw [add_mod, add_mod]; rfl)
          have HDO : Hid (∀ v ∈ [Value.int .u32 (((x : Int) + (y : Int)) % 4294967296), .int .u32 (a : Int), .int .u32 (b' : Int), .int .u32 (c : Int), .int .u32 (((d : Int) + (x : Int)) % 4294967296), .int .u32 (e : Int), .int .u32 (f : Int), .int .u32 (g : Int)], v.oneCell' = true) := Lib.hid (by rw [HDS.out]; exact uv_one _)
          have HD50 : Hid ((Tryd.prog.info? 50).map (·.size) = some [Value.int .u32 (((x : Int) + (y : Int)) % 4294967296), .int .u32 (a : Int), .int .u32 (b' : Int), .int .u32 (c : Int), .int .u32 (((d : Int) + (x : Int)) % 4294967296), .int .u32 (e : Int), .int .u32 (f : Int), .int .u32 (g : Int)].length) := Lib.hid size50
          have HD8 : Hid ((uv (V8.mk a b' c d e f g h).list).length = [Value.int .u32 (((x : Int) + (y : Int)) % 4294967296), .int .u32 (a : Int), .int .u32 (b' : Int), .int .u32 (c : Int), .int .u32 (((d : Int) + (x : Int)) % 4294967296), .int .u32 (e : Int), .int .u32 (f : Int), .int .u32 (g : Int)].length) := Lib.hid rfl
          go_wp2_with ((with_reducible refine arm_put 50 gv 50 _ [Value.int .u32 (((x : Int) + (y : Int)) % 4294967296), .int .u32 (a : Int), .int .u32 (b' : Int), .int .u32 (c : Int), .int .u32 (((d : Int) + (x : Int)) % 4294967296), .int .u32 (e : Int), .int .u32 (f : Int), .int .u32 (g : Int)] HC3.out HD50.out HD8.out HDO.out rfl _ _ rfl ?_ ?_ ?_); (focus rfl); (focus rfl); (refine nm_l ?_; intro w7 hw7; have HC7 : Hid (Arr w7 gv 50 (uv (V8.mk (add x y) a b' c (add d x) e f g).list)) := Lib.hid (by rw [hw7, ← HDS.out]; exact HC3.out.row _); have HW7 : Hid (Arr w7 gw 73 S2) := Lib.hid (by rw [hw7]; exact HW3.out.row_other (by have := HGV.out; omega) _); have HV7 : Hid (Arr w7 (w.heap.size + 1) 50 S) := Lib.hid (by rw [hw7]; exact HV3.out.row_other (by have := HGV.out; have := HGW.out; have := HGP.out; omega) _); have HO7 : Hid (Arr w7 w.heap.size 47 (bv Z47)) := Lib.hid (by rw [hw7]; exact HO3.out.row_other (by have := HGV.out; have := HGW.out; have := HGP.out; omega) _); have HAP7 : Hid (Arr w7 gp 5 (bv M ++ R)) := Lib.hid (by rw [hw7]; exact HAP3.out.row_other (by have := HGV.out; have := HGW.out; omega) _); have HB7 : Hid (Below w.heap.size w w7) := Lib.hid (by rw [hw7]; exact bel_row HB3.out (by have := HGV.out; have := HGW.out; have := HGP.out; omega) _); have HTB7 := Lib.hid (HT.out.keep HB7.out); clear hw7 HC3 HW3 HV3 HO3 HAP3 HTB3 HB3))
          go_roundw
          case rel => exact ⟨t + 1, ⟨add x y, a, b', c, add d x, e, f, g⟩, by go_num, by omega, ⟨add_lt _ _, ha, hb, hc, add_lt _ _, he, hf, hg⟩, Lib.hid (by rw [HN'.out, ← HP.out, HRN.out]), HC7, HW7, HV7, HO7, HAP7, HTB7, HB7⟩
          case measure => simp [intOf]; omega
        · obtain rfl : t = 64 := by omega
          have HE : Hid (addV v0 (V8.mk a b' c d e f g h) = comp v0 blk) := Lib.hid (by rw [HP.out]; rfl)
          rw [show ((64 : Nat) : Int) = 64 from rfl]
          clear HTB HW HP
          go_wp2_with fail
          obtain ⟨wo, hwo⟩ : ∃ wo : World, wo = wr := ⟨_, rfl⟩
          rw [← hwo] at HC HV HO HAP HB
          have HV0 : Hid (Arr wo (w.heap.size + 1) 50 (uv v0.list)) := Lib.hid (by rw [HS.out]; exact HV.out)
          go_loopw [11] (fun i wr => ∃ k : Nat, i = .int .i64 (k : Int) ∧ k ≤ 8 ∧ Hid (Arr wr gv 50 (uv (V8.mk a b' c d e f g h).list)) ∧ Hid (Arr wr (w.heap.size + 1) 50 (uv ((addV v0 (V8.mk a b' c d e f g h)).list.take k ++ v0.list.drop k))) ∧ Hid (Arr wr w.heap.size 47 (bv Z47)) ∧ Hid (Arr wr gp 5 (bv M ++ R)) ∧ Hid (Below w.heap.size w wr)) (fun i _ => 8 - (intOf i).toNat)
          case atStart => exact ⟨0, rfl, by omega, by rw [← hwo]; exact HC, by rw [← hwo]; exact HV0, by rw [← hwo]; exact HO, by rw [← hwo]; exact HAP, by rw [← hwo]; exact HB⟩
          case round =>
            clear HC HV HO HAP HB HV0 hwo
            obtain ⟨k, rfl, hk, HC, HV, HO, HAP, HB⟩ := hrel
            by_cases hlt3 : k < 8
            · have hk8 : (k : Int) < 8 := by omega
              have hlen : ((addV v0 (V8.mk a b' c d e f g h)).list.take k ++ v0.list.drop k).length = 8 := by rw [List.length_append, List.length_take, List.length_drop, list_len, list_len]; omega
              have hcell := arr_get HV.out k (by rw [hlen]; exact hlt3)
              rw [mix_get _ _ (by rw [list_len, list_len]) k (by rw [list_len]; exact hlt3)] at hcell
              have hcel2 := arr_get HC.out k (by rw [list_len]; exact hlt3)
              have HM := Lib.hid (mix_set (addV v0 (V8.mk a b' c d e f g h)).list v0.list (by rw [list_len, list_len]) k (by rw [list_len]; exact hlt3))
              have HG : Hid ((addV v0 (V8.mk a b' c d e f g h)).list[k]'(by rw [list_len]; exact hlt3) = add (v0.list.getD k 0) ((V8.mk a b' c d e f g h).list.getD k 0)) := Lib.hid (by
                have := addV_get v0 (V8.mk a b' c d e f g h) k hlt3
                rw [List.getD_eq_getElem?_getD, List.getElem?_eq_getElem (by rw [list_len]; exact hlt3)] at this
                exact this)
              rw [HG.out] at HM
              generalize (V8.mk a b' c d e f g h).list.getD k 0 = uk at *
              generalize v0.list.getD k 0 = vk at *
              clear hlen HG
              go_wp2_with fail
              go_still_tail 9, (by kernel_rfl)
              change wpList _ _ _ _ _ wr.drew
              have hbd := bel_drew wr
              have HC4 := Lib.hid (HC.out.keep hbd)
              have HV4 := Lib.hid (HV.out.keep hbd)
              have HO4 := Lib.hid (HO.out.keep hbd)
              have HAP4 := Lib.hid (HAP.out.keep hbd)
              have HB4 := Lib.hid (bel_on HB.out hbd)
              have hct : wr.drew.cell? ⟨w.heap.size + 1, k, none⟩ = some (.int .u32 (vk : Int)) := (World.cell?_of_block (w := wr) (w' := wr.drew) (a := ⟨w.heap.size + 1, k, none⟩) rfl).trans hcell
              have hft := HV4.out.free k
              generalize wr.drew = w5 at *
              clear HC HV HO HAP HB hbd hcell hcel2
              go_wp2_with fail
              go_roundw
              case rel => exact ⟨k + 1, by go_num, by omega, Lib.hid (HC4.out.other (by have := HGV.out; have := HGW.out; have := HGP.out; simp only; omega) _), Lib.hid (arr_set HV4.out k _ _ (add_mod _ _) HM.out.symm), Lib.hid (HO4.out.other (by simp) _), Lib.hid (HAP4.out.other (by have := HGP.out; simp only; omega) _), Lib.hid (HB4.out.setCell (by simp) _)⟩
              case measure => simp [intOf]; omega
            · obtain rfl : k = 8 := by omega
              have HV5 : Hid (Arr wr (w.heap.size + 1) 50 (uv (hashN M (q + 1)).list)) := Lib.hid (by
                have := HV.out
                rw [List.take_of_length_le (by rw [list_len]; exact Nat.le_refl _), List.drop_of_length_le (by rw [list_len]; exact Nat.le_refl _), List.append_nil, HE.out, ← HNX.out] at this
                exact this)
              rw [show ((8 : Nat) : Int) = 8 from rfl]
              clear HC HV HE HNX
              have hw64 := HWZ.out
              go_wp2_with fail
              go_roundw
              case rel => exact ⟨q + 1, by rw [HZQ.out]; go_num, by omega, HV5, HO, HAP, HB⟩
              case measure =>
                have := HZL.out
                simp [intOf]
                omega
    · obtain rfl : q = Q := by omega
      obtain ⟨z, hz⟩ : ∃ z, 64 * q = z := ⟨_, rfl⟩
      have hzl : ¬ ((z : Int) < 64 * (q : Int)) := by omega
      have hzl2 : 64 * (q : Int) ≤ (z : Int) := by omega
      have HSZ : Hid (out (hashN M q) = sha l) := HSE
      rw [hz]
      generalize hashN M q = U at *
      clear HSE
      go_upto_region 19 with (fail)
      refine name_world ?_
      intro W6 hW6
      have hV6 : Arr W6 (w.heap.size + 1) 50 (uv U.list) := by rw [hW6]; exact HV.out.keep (bel_new _ _)
      have hZ6 : Arr W6 w.heap.size 47 (bv Z47) := by rw [hW6]; exact HO.out.keep (bel_new _ _)
      have hO6 : Arr W6 wr.heap.size 47 (bv (ob U 0)) := by rw [hW6]; exact Arr.new wr (bv (ob U 0)) 47
      have hB6 : Below w.heap.size w W6 := by rw [hW6]; exact bel_on HB.out (bel_new _ _)
      have hg := HV.out.lt
      have HV6 := Lib.hid hV6
      have HZ6 := Lib.hid hZ6
      have HO6 := Lib.hid hO6
      have HB6 := Lib.hid hB6
      clear hW6 hV6 hZ6 hO6 hB6 HV HO HAP HB
      generalize wr.heap.size = go at *
      go_wp2_with fail
      go_loopw [13] (fun i wr => ∃ k : Nat, i = .int .i64 (k : Int) ∧ k ≤ 32 ∧ Hid (Arr wr go 47 (bv (ob U k))) ∧ Hid (Arr wr (w.heap.size + 1) 50 (uv U.list)) ∧ Hid (Arr wr w.heap.size 47 (bv Z47)) ∧ Hid (Below w.heap.size w wr)) (fun i _ => 32 - (intOf i).toNat)
      case atStart => exact ⟨0, rfl, by omega, HO6, HV6, HZ6, HB6⟩
      case round =>
        clear HV6 HZ6 HO6 HB6
        obtain ⟨k, rfl, hk, HO, HV, HZ, HB⟩ := hrel
        have hol := ob_len U k hk
        by_cases hlt2 : k < 32
        · have hword := arr_get HV.out (k / 4) (by rw [list_len]; omega)
          have HM := Lib.hid (ob_step U k hlt2)
          generalize U.list.getD (k / 4) 0 = x at *
          have HARG := Lib.hid (out_arg x (24 - 8 * (k % 4)))
          have hcell : wr.cell? ⟨go, k, none⟩ = some (.int .u8 (((ob U k).getD k 0).toNat : Int)) := HO.out.cell (by rw [bv_at (by rw [hol]; exact hlt2)]; simp [List.getD_eq_getElem?_getD, hol, hlt2])
          generalize ((ob U k).getD k 0).toNat = old at *
          have hfree := HO.out.free k
          clear hol
          have hk1 : 8 * ((k : Int) % 4) ≤ 24 := by omega
          have hk2 : 0 ≤ (k : Int) % 4 := by omega
          have hk3 : (k : Int) < 32 := by omega
          have hk4 : (k : Int) / 4 < 8 := by omega
          go_wp2_with fail
          go_roundw
          case rel => exact ⟨k + 1, by go_num, by omega, Lib.hid (b_set HO.out k _ _ HARG.out HM.out), Lib.hid (HV.out.other (by simp; omega) _), Lib.hid (HZ.out.other (by simp; omega) _), Lib.hid (HB.out.setCell (by simp; omega) _)⟩
          case measure => simp [intOf]; omega
        · obtain rfl : k = 32 := by omega
          rw [show ((32 : Nat) : Int) = 32 from rfl]
          have hO := HO.out
          rw [ob_end, HSZ.out] at hO
          have HO2 := Lib.hid hO
          have hsl : (sha l).length = 32 := by rw [← HSZ.out]; exact out_len U
          have HS47 := Lib.hid (size47' hsl)
          have HL47 : Hid ((bv Z47).length = (bv (sha l)).length) := Lib.hid (by rw [bv_len, bv_len, hsl]; rfl)
          have HON := Lib.hid (bv_one (sha l))
          clear hO hol hsl HO
          go_wp2_with (first
            | ((with_reducible refine arm_row 47 go 47 (bv (sha l)) HO2.out _ Tryd.underlying47 rfl HS47.out rfl _ rfl ?_ ?_); focus rfl)
            | ((with_reducible refine arm_put 47 w.heap.size 47 (bv Z47) (bv (sha l)) HZ.out HS47.out HL47.out HON.out rfl _ _ rfl ?_ ?_ ?_); (focus rfl); (focus rfl)))
          exact bodyPost_ret (v := .agg (bv (sha l)).toArray) (ret_row Tryd.results30 _ _ w.heap.size 47 _ (HZ.out.row _) rfl _ Tryd.underlying47 rfl HS47.out) rfl ⟨rfl, bel_row HB.out (Nat.le_refl _) _⟩
end Go.Proofs.YtkineafacekklaaDoor
