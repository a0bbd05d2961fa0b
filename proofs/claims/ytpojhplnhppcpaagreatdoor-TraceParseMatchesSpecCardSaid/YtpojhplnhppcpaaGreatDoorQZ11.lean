/-
  What the reference's Rot does. What the reference's Cuts does.
-/
import Derived.Test.YtpojhplnhppcpaaGreatDoorQZ9
import Derived.Test.YtpojhplnhppcpaaGreatDoorQN10
import Derived.Test.YtpojhplnhppcpaaGreatDoorQN12
import Derived.BigQuiet
namespace Go.Proofs.YtpojhplnhppcpaaGreatDoor
open Go.RowKit Go.Maps
theorem lnR_row (l : PL) (v : Value) : lnR (l, v) = rowR [] [v, .int .i64 (l.mark : Int)] l.ws l.code := rfl
set_option maxRecDepth 100000 in
set_option maxHeartbeats 8000000 in
set_option linter.unusedSimpArgs false in
theorem rRot_any (p : Nat) (z c : Int) (ws : List Int) (m : PM) (F : Nat → Prop) (w : World) (hm : m.Ok) (hs : m.Small 1000) (h8 : ws.length = 8) (h : Ref w p m F) :
    Calls Tryz.prog 113 #[.pointer (some ⟨p, 0, none⟩), .int .i64 z, .agg (iv ws).toArray, .int .i64 c] w fun e w' => e = .returned (.int .i64 (rec_ (rotP m z ws c) (evt 7 z c 0 ws)).1) ∧ RStep F w p (rec_ (rotP m z ws c) (evt 7 z c 0 ws)).2 w' := by
  have hb := bel_new w (.cells (iv ws).toArray 66)
  have hA := Arr.new w (iv ws) 66
  have r0 := hA.range
  have hi22 := size22' h8
  have hu22 := Tryz.underlying66
  have h1 := h.below hb
  have hha := rHas_any p z m F _ h1
  have HS := Lib.hid (RStep.below h hb)
  have HSS := Lib.hid fun W (hW : Below (w.alloc (.cells (iv ws).toArray 66)).heap.size (w.alloc (.cells (iv ws).toArray 66)) W) => HS.out.then_below hW
  have HWW := Lib.hid fun W => words_any ws W h8
  obtain ⟨R, hR⟩ : ∃ R, rec_ (rotP m z ws c) (evt 7 z c 0 ws) = R := ⟨_, rfl⟩
  rw [hR]
  unfold rotP at hR
  have h1n : (1 : Int) ≠ 0 := by decide
  have hval := validB_eq ws c
  cases hh : m.has z with
  | false =>
    rw [hh, if_pos rfl, rec_1 (show (40 : Int) ≠ 0 by decide)] at hR
    subst hR
    rw [hh] at hha
    have HH := Lib.hid hha
    clear hha h hm hs h1 hA hb r0 h1n hval
    go_enter Tryz.func113, Tryz.ntmps113
    go_wp2_with (go_at_call 134; refine HH.out.mono ?_; rintro e w' ⟨rfl, hw'⟩; obtain rfl := hw'.symm)
    go_ret
    exact ⟨rfl, HS.out⟩
  | true =>
  have hin : 0 ≤ z ∧ z < (m.L.length : Int) := by unfold PM.has at hh; simpa using hh
  obtain ⟨i, rfl⟩ : ∃ i : Nat, z = i := ⟨z.toNat, by omega⟩
  have hi : i < m.L.length := by omega
  rw [hh] at hha
  rw [hh, if_neg (by simp), Int.toNat_natCast] at hR
  have HH := Lib.hid hha
  by_cases hok : ws.all okW = true ∧ 0 ≤ c ∧ c ≤ 1023
  case neg =>
    have hv : validB ws c = false := by
      rw [hval]
      unfold okC
      cases hw : ws.all okW with
      | false => rfl
      | true =>
        rw [hw] at hok
        simp at hok
        simp
        omega
    rw [hv, if_pos rfl, rec_1 h1n] at hR
    subst hR
    cases hw : ws.all okW with
    | false =>
      rw [hw] at HWW
      clear hha h hm hs h1 hA hb hh hin hi hok h1n hval hv
      go_enter Tryz.func113, Tryz.ntmps113
      go_wp2_with (first | (go_at_call 134; refine HH.out.mono ?_; rintro e w' ⟨rfl, hw'⟩; obtain rfl := hw'.symm) | ((with_reducible refine arm_range 66 w.heap.size 0 (iv ws) r0 _ hu22 rfl hi22 rfl _ rfl ?_ ?_); focus rfl))
      refine (HWW.out _).mono ?_
      rintro e w2 ⟨rfl, hb⟩
      have HS2 := Lib.hid (HSS.out _ hb)
      clear hb
      go_wp2_with fail
      go_ret
      exact ⟨rfl, HS2.out⟩
    | true =>
      rw [hw] at HWW hok
      simp only [true_and] at hok
      by_cases hc0 : c < 0
      · clear hha h hm hs h1 hA hb hh hin hi hok h1n hval hv
        go_enter Tryz.func113, Tryz.ntmps113
        go_wp2_with (first | (go_at_call 134; refine HH.out.mono ?_; rintro e w' ⟨rfl, hw'⟩; obtain rfl := hw'.symm) | ((with_reducible refine arm_range 66 w.heap.size 0 (iv ws) r0 _ hu22 rfl hi22 rfl _ rfl ?_ ?_); focus rfl))
        refine (HWW.out _).mono ?_
        rintro e w2 ⟨rfl, hb⟩
        have HS2 := Lib.hid (HSS.out _ hb)
        clear hb
        go_wp2_with fail
        go_ret
        exact ⟨rfl, HS2.out⟩
      · have hc1 : (1023 : Int) < c := by omega
        clear hha h hm hs h1 hA hb hh hin hi hok h1n hval hv
        go_enter Tryz.func113, Tryz.ntmps113
        go_wp2_with (first | (go_at_call 134; refine HH.out.mono ?_; rintro e w' ⟨rfl, hw'⟩; obtain rfl := hw'.symm) | ((with_reducible refine arm_range 66 w.heap.size 0 (iv ws) r0 _ hu22 rfl hi22 rfl _ rfl ?_ ?_); focus rfl))
        refine (HWW.out _).mono ?_
        rintro e w2 ⟨rfl, hb⟩
        have HS2 := Lib.hid (HSS.out _ hb)
        clear hb
        go_wp2_with fail
        go_ret
        exact ⟨rfl, HS2.out⟩
  case pos =>
  obtain ⟨hok1, hok2, hok3⟩ := hok
  have hv : validB ws c = true := by
    rw [hval, hok1]
    unfold okC
    simp
    omega
  rw [hv, if_neg (by simp)] at hR
  rw [hok1] at HWW
  have HR := Lib.hid hR
  have HRF := Lib.hid h
  have HM := Lib.hid hm
  have HKI := Lib.hid hi
  have HB0 := Lib.hid hb
  have HA0 := Lib.hid hA
  have HV := Lib.hid hv
  have HH8 := Lib.hid h8
  have hne := hs.ev
  have hc0 : ¬ c < 0 := by omega
  have hc1 : ¬ (1023 : Int) < c := by omega
  clear hha h hm hs h1 hA hb hh hin hi hR hv hval h1n HS hok1 hok2 hok3
  go_enter Tryz.func113, Tryz.ntmps113
  go_wp2_with (first | (go_at_call 134; refine HH.out.mono ?_; rintro e w' ⟨rfl, hw'⟩; obtain rfl := hw'.symm) | ((with_reducible refine arm_range 66 w.heap.size 0 (iv ws) r0 _ hu22 rfl hi22 rfl _ rfl ?_ ?_); focus rfl))
  refine (HWW.out _).mono ?_
  rintro e w2 ⟨rfl, hb⟩
  have HB2 := Lib.hid (bel_on HB0.out hb)
  have HA2 : Hid (Arr w2 w.heap.size 66 (iv ws)) := Lib.hid (HA0.out.keep hb)
  have HS2 := Lib.hid (HSS.out _ hb)
  have h2 := HRF.out.below HB2.out
  obtain ⟨d, o, cap, ev, X, h2⟩ := h2
  have c0 := h2.c0
  have hcp := h2.cap_
  have hiI : (i : Int) < (m.L.length : Int) := by have := HKI.out; omega
  have H2 := Lib.hid h2
  have hbw : w.heap.size < w2.heap.size := HA2.out.lt
  have hpd : p ≠ d := h2.p_ne_d
  have hdw : d ≠ w.heap.size := by
    intro e
    have := HRF.out.lt d h2.ownD
    omega
  obtain ⟨v, hXi, r11, _, _, h9, _, hsl⟩ := h2.at HM.out HKI.out
  have HLO := Lib.hid (HM.out.line HKI.out)
  have hlen8 := HLO.out.len
  obtain ⟨pl, hpl⟩ : ∃ pl, (m.line i).pend.length = pl := ⟨_, rfl⟩
  rw [hpl] at hsl
  obtain ⟨VA, vcap, rfl, _⟩ := hsl.shape
  have HPL := Lib.hid hpl
  have HXI := Lib.hid hXi
  have HSL := Lib.hid hsl
  have HL11 := Lib.hid (lnR_len (x := (m.line i, .slice VA pl vcap)) hlen8)
  have hi51 : (Tryz.prog.info? 130).map (·.size) = some (lnR (m.line i, .slice VA pl vcap)).length := by rw [size51, HL11.out]
  have HO11 := Lib.hid (lnR_one (x := (m.line i, .slice VA pl vcap)) rfl)
  have hu51 := Tryz.underlying130
  have HS51 := Lib.hid size51
  clear hb h2 HWW r0 hXi hpl
  by_cases hp0 : pl = 0
  case neg =>
    have hpe : (m.line i).pend ≠ [] := fun e => hp0 (by rw [← HPL.out, e]; rfl)
    have hR2 := HR.out
    rw [if_pos hpe, rec_1 (show (4 : Int) ≠ 0 by decide)] at hR2
    subst hR2
    have hp1 : (0 : Int) < (pl : Int) := by omega
    clear r11 hpe hlen8
    go_wp2_with fail
    go_ret
    exact ⟨rfl, HS2.out⟩
  case pos =>
    subst hp0
    have hpe : (m.line i).pend = [] := List.eq_nil_of_length_eq_zero HPL.out
    have hR2 := HR.out
    rw [if_neg (by simp [hpe]), rec_0 rfl] at hR2
    obtain ⟨vs, vc, hvs, hvc, hvl, hvw, hvb⟩ := valid_nat HLO.out.val
    obtain ⟨us, uc, hus, huc, hul, huw, hub⟩ := valid_nat HV.out
    rw [HLO.out.len] at hvl
    rw [HH8.out] at hul
    have hrt : (m.line i).rotted ws c = { (m.line i) with ws := ci (xorL vs us), code := ((vc ^^^ uc : Nat) : Int) } := by
      unfold PL.rotted xorI
      rw [hvs, hvc, hus, huc, nw_ci, nw_ci, Int.toNat_natCast, Int.toNat_natCast]
    obtain ⟨LR, hLR⟩ : ∃ LR, (m.line i).rotted ws c = LR := ⟨_, rfl⟩
    have hup : m.upd i (·.rotted ws c) = m.upd i fun _ => LR := by rw [← hLR]; rfl
    rw [hup] at hR2
    have hLR2 : LR = { (m.line i) with ws := ci (xorL vs us), code := ((vc ^^^ uc : Nat) : Int) } := by rw [← hLR, hrt]
    have HLR := Lib.hid hLR2
    have hLRl : LR.ws.length = 8 := by rw [hLR2]; show (ci (xorL vs us)).length = 8; rw [ci_len, xorL_len vs us (by omega), hvl]
    have HLRL := Lib.hid hLRl
    have hLRp : LR.pend = [] := by rw [hLR2]; exact hpe
    have HLRP := Lib.hid hLRp
    have hlnf : lnR (LR, .slice VA 0 vcap) = rowR [] [.slice VA 0 vcap, .int .i64 ((m.line i).mark : Int)] (ci (xorL vs us)) ((vc ^^^ uc : Nat) : Int) := by rw [hLR2]; rfl
    have HLNF := Lib.hid hlnf
    have HR2 := Lib.hid hR2
    have hln : lnR (m.line i, .slice VA 0 vcap) = rowR [] [.slice VA 0 vcap, .int .i64 ((m.line i).mark : Int)] (ci vs) vc := by rw [← hvs, ← hvc]; rfl
    rw [hln] at r11 HL11 hi51 HO11
    have HWS : Hid (ws = ci us) := Lib.hid hus
    have HUC : Hid (c = (uc : Int)) := Lib.hid huc
    have HXI2 := HXI
    generalize (m.line i).mark = mk at *
    clear hR2 hup hLR hLR2 hrt hLRl hLRp hlnf hln hpe HR HXI2 hvs hvc hus hlen8
    rw [HWS.out] at HA2
    subst huc
    obtain ⟨S, hS⟩ : ∃ S : List Value, [.slice VA 0 vcap, .int .i64 (mk : Int)] = S := ⟨_, rfl⟩
    rw [hS] at r11 HL11 hi51 HO11 HLNF
    go_wp2_with (first
      | ((with_reducible refine arm_range 130 d (o + i * 11) (rowR [] S (ci vs) vc) r11 _ hu51 rfl hi51 rfl _ rfl ?_ ?_); (focus rfl))
      | ((with_reducible refine arm_new 130 (rowR [] S (ci vs) vc) 11 HL11.out HS51.out HO11.out _ ?_ rfl _ _ rfl ?_ ?_ ?_); (focus rfl); (focus rfl); (focus rfl); (refine nm_l ?_; intro w3 hw3; have HX3 : Hid (Arr w3 w2.heap.size 130 (rowR [] S (ci (mix vs us 0)) vc)) := Lib.hid (by rw [hw3]; exact Arr.new _ _ _); have HA3 : Hid (Arr w3 w.heap.size 66 (iv (ci us))) := Lib.hid (by rw [hw3]; exact HA2.out.keep (bel_new _ _)); have HB3 : Hid (Below w2.heap.size w2 w3) := Lib.hid (by rw [hw3]; exact bel_new _ _); clear hw3; clear HA2)))
    obtain ⟨bx, hbx⟩ : ∃ bx, w2.heap.size = bx := ⟨_, rfl⟩
    have HBX := Lib.hid hbx
    rw [hbx] at HX3 hbw ⊢
    have hu8 : (ci us).length = 8 := by rw [ci_len, hul]
    clear hbx
    go_loopw [10] (fun j wr => ∃ t : Nat, j = .int .i64 (t : Int) ∧ t ≤ 8 ∧ Hid (Arr wr bx 130 (rowR [] S (ci (mix vs us t)) vc)) ∧ Hid (Arr wr w.heap.size 66 (iv (ci us))) ∧ Hid (Below w2.heap.size w2 wr)) (fun j _ => 8 - (intOf j).toNat)
    case atStart => exact ⟨0, rfl, by omega, HX3, HA3, HB3⟩
    case round =>
      clear HX3 HA3 HB3
      obtain ⟨t, rfl, ht, HX, HA, HB⟩ := hrel
      by_cases hlt : t < 8
      · have hml : t < (ci (mix vs us t)).length := by rw [ci_len, mix_len, hvl]; exact hlt
        have hcl := HX.out.cell (rowR_get [] S (ci (mix vs us t)) vc hml)
        rw [ci_get, mix_get vs us t t (by omega), if_neg (by omega), List.length_nil, Nat.zero_add] at hcl
        have hcu := HA.out.cell (iv_at (l := ci us) (k := t) (by omega))
        rw [ci_get] at hcu
        have hfr := HX.out.free t
        have hset := rowR_set [] S (ci (mix vs us t)) vc hml ((vs.getD t 0 ^^^ us.getD t 0 : Nat) : Int)
        rw [ci_set, List.length_nil, Nat.zero_add] at hset
        have HX4 : Hid (Arr (wr.drew.setCell ⟨bx, t, none⟩ (.int .i64 ((vs.getD t 0 ^^^ us.getD t 0 : Nat) : Int))) bx 130 (rowR [] S (ci (mix vs us (t + 1))) vc)) := Lib.hid (by
          have := Arr.set (w := wr.drew) HX.out t (.int .i64 ((vs.getD t 0 ^^^ us.getD t 0 : Nat) : Int))
          rw [hset] at this
          exact this)
        have HA4 : Hid (Arr (wr.drew.setCell ⟨bx, t, none⟩ (.int .i64 ((vs.getD t 0 ^^^ us.getD t 0 : Nat) : Int))) w.heap.size 66 (iv (ci us))) := Lib.hid ((HA.out.keep (bel_drew wr)).other (by show w.heap.size ≠ bx; omega) _)
        have HB4 : Hid (Below w2.heap.size w2 (wr.drew.setCell ⟨bx, t, none⟩ (.int .i64 ((vs.getD t 0 ^^^ us.getD t 0 : Nat) : Int)))) := Lib.hid ((bel_on HB.out (bel_drew wr)).setCell (by show w2.heap.size ≤ bx; have := HBX.out; omega) _)
        have hx := i64_xor_nat (vs.getD t 0) (us.getD t 0) (by have := get_lt hvw t; omega) (by have := get_lt huw t; omega)
        generalize vs.getD t 0 ^^^ us.getD t 0 = zz at *
        generalize vs.getD t 0 = xx at *
        generalize us.getD t 0 = yy at *
        have htI : (t : Int) < 8 := by omega
        clear hset hml HX HA HB
        go_wp2_with fail
        go_still_tail 11, (by kernel_rfl)
        change wpList _ _ _ _ _ wr.drew
        go_wp2_with fail
        go_roundw
        case rel => exact ⟨t + 1, by simp, by omega, HX4, HA4, HB4⟩
        case measure => simp [intOf]; omega
      · obtain rfl : t = 8 := by omega
        have hml : (ci (mix vs us 8)).length = 8 := by rw [ci_len, mix_len, hvl]
        have hall : mix vs us 8 = xorL vs us := by
          have := mix_all vs us (by omega)
          rw [hvl] at this
          exact this
        have hcl := HX.out.cell (rowR_code [] S (ci (mix vs us 8)) vc)
        rw [hml, List.length_nil, Nat.zero_add] at hcl
        have hfr := HX.out.free 8
        have hset := rowR_setCode [] S (ci (mix vs us 8)) vc ((vc ^^^ uc : Nat) : Int)
        rw [hml, List.length_nil, Nat.zero_add] at hset
        have HX4 : Hid (Arr (wr.setCell ⟨bx, 8, none⟩ (.int .i64 ((vc ^^^ uc : Nat) : Int))) bx 130 (lnR (LR, .slice VA 0 vcap))) := Lib.hid (by
          have := Arr.set (w := wr) HX.out 8 (.int .i64 ((vc ^^^ uc : Nat) : Int))
          rw [hset, hall, ← HLNF.out] at this
          exact this)
        have HA4 : Hid (Arr (wr.setCell ⟨bx, 8, none⟩ (.int .i64 ((vc ^^^ uc : Nat) : Int))) w.heap.size 66 (iv (ci us))) := Lib.hid (HA.out.other (by show w.heap.size ≠ bx; omega) _)
        have HB4 : Hid (Below w2.heap.size w2 (wr.setCell ⟨bx, 8, none⟩ (.int .i64 ((vc ^^^ uc : Nat) : Int)))) := Lib.hid (HB.out.setCell (by show w2.heap.size ≤ bx; have := HBX.out; omega) _)
        have hx := i64_xor_nat vc uc (by omega) (by omega)
        clear hset hml hall HX HA HB HLNF
        generalize hzz : vc ^^^ uc = zz at *
        go_wp2_with fail
        obtain ⟨W4, hW4⟩ : ∃ W, wr.setCell ⟨bx, 8, none⟩ (.int .i64 (zz : Int)) = W := ⟨_, rfl⟩
        rw [hW4] at HX4 HA4 HB4 ⊢
        have HB5 := Lib.hid (bel_on HB4.out (bel_drew W4))
        have HX5 : Hid (Arr W4.drew bx 130 (lnR (LR, .slice VA 0 vcap))) := Lib.hid HX4.out
        have HA5 : Hid (Arr W4.drew w.heap.size 66 (iv (ci us))) := Lib.hid HA4.out
        have d0 := cell_below HB5.out c0
        have r5 := HX5.out.range
        have h5 := H2.out.below HB5.out
        have HI11 := Lib.hid (show (Tryz.prog.info? 130).map (·.size) = some (lnR (LR, .slice VA 0 vcap)).length by rw [size51, lnR_len (x := (LR, .slice VA 0 vcap)) HLRL.out])
        have HLL := Lib.hid (lnR_len (x := (LR, .slice VA 0 vcap)) HLRL.out)
        have HL1 := Lib.hid (lnR_one (x := (LR, .slice VA 0 vcap)) rfl)
        have hv5 : Sl W4.drew 105 2 (.slice VA 0 vcap) LR.pend.length (iv (flatS LR.pend)) := by
          rw [HLRP.out]
          have := HSL.out.keep fun q hq => HB5.out.block q (HSL.out.lt hq)
          have e1 : (m.line i).pend = [] := List.eq_nil_of_length_eq_zero HPL.out
          rw [e1] at this
          exact this
        obtain ⟨hput, hthere⟩ := h5.putLine HM.out HKI.out (l' := LR) (v' := .slice VA 0 vcap) HLRL.out hv5 (F' := F) (fun _ h => h) (fun q hq => h5.ownG _ (List.mem_of_getElem? HXI.out) q hq) h5.lt
        have hdx : d ≠ bx := by
          intro e
          have h6 := H2.out.lt d H2.out.ownD
          have h7 := HBX.out
          omega
        have HPUT := Lib.hid hput
        have HTH := Lib.hid hthere
        have HOD := Lib.hid h5.ownD
        obtain ⟨N, hN⟩ : ∃ N, m.L.length = N := ⟨_, rfl⟩
        rw [hN] at d0 c0 hcp hiI
        clear hput hthere h5 hv5 hcl hfr hW4 HX4 HA4 HB4 hzz
        refine wp_region_held_drew (S := fun W => W.cell? ⟨p, 0, none⟩ = some (.slice (some ⟨d, o, none⟩) N cap) ∧ W.rangeAt bx 0 (lnR (LR, .slice VA 0 vcap))) (by kernel_rfl) ⟨d0, r5⟩ (fun hHeld => ?_)
        generalize W4.drew = w5 at *
        refine wpAnyH_take (i := 0) (v := .pointer (some ⟨p, 0, none⟩)) rfl (by kernel_rfl) (by kernel_rfl) (by kernel_rfl) (fun _ _ _ h => h) (Or.inl ⟨by rfl, fun w hSw => by obtain ⟨h1, h2⟩ := hSw; go_simp⟩) (by assumption) ?_
        change wpAnyH _ _ _ _ _ _ _ (Act.put _ (some 63) _) _
        simp only [Act.put, List.setIfInBounds_toArray, List.set_cons_zero, List.set_cons_succ]
        refine wpAnyH_take (i := 1) (v := .pointer (some ⟨p, 0, none⟩)) rfl (by kernel_rfl) (by kernel_rfl) (by kernel_rfl) (fun _ _ _ h => h) (Or.inl ⟨by rfl, fun w hSw => by obtain ⟨h1, h2⟩ := hSw; go_simp⟩) (by assumption) ?_
        change wpAnyH _ _ _ _ _ _ _ (Act.put _ (some 64) _) _
        simp only [Act.put, List.setIfInBounds_toArray, List.set_cons_zero, List.set_cons_succ]
        refine wpAnyH_take (i := 2) (v := .pointer (some ⟨p, 0, none⟩)) rfl (by kernel_rfl) (by kernel_rfl) (by kernel_rfl) (fun _ _ _ h => h) (Or.inl ⟨by rfl, fun w hSw => by obtain ⟨h1, h2⟩ := hSw; go_simp⟩) (by assumption) ?_
        change wpAnyH _ _ _ _ _ _ _ (Act.put _ (some 65) _) _
        simp only [Act.put, List.setIfInBounds_toArray, List.set_cons_zero, List.set_cons_succ]
        refine wpAnyH_take (i := 3) (v := .slice (some ⟨d, o, none⟩) N cap) rfl (by kernel_rfl) (by kernel_rfl) (by kernel_rfl) (fun _ _ _ h => h) (Or.inl ⟨by rfl, fun w hSw => by obtain ⟨h1, h2⟩ := hSw; go_simp⟩) (by assumption) ?_
        change wpAnyH _ _ _ _ _ _ _ (Act.put _ (some 66) _) _
        simp only [Act.put, List.setIfInBounds_toArray, List.set_cons_zero, List.set_cons_succ]
        refine wpAnyH_take (i := 4) (v := .int .i64 (i : Int)) rfl (by kernel_rfl) (by kernel_rfl) (by kernel_rfl) (fun _ _ _ h => h) (Or.inl ⟨by rfl, fun w hSw => by obtain ⟨h1, h2⟩ := hSw; go_simp⟩) (by assumption) ?_
        change wpAnyH _ _ _ _ _ _ _ (Act.put _ (some 67) _) _
        simp only [Act.put, List.setIfInBounds_toArray, List.set_cons_zero, List.set_cons_succ]
        refine wpAnyH_take (i := 5) (v := .agg (lnR (LR, .slice VA 0 vcap)).toArray) rfl (by kernel_rfl) (by kernel_rfl) (by kernel_rfl) (fun _ _ _ h => h) (yieldsIf_load_mid (by rfl) _ _ rfl _ _ rfl _ _ (fun w h => h.2) hu51 rfl HI11.out) (by assumption) ?_
        change wpAnyH _ _ _ _ _ _ _ (Act.put _ (some 68) _) _
        simp only [Act.put, List.setIfInBounds_toArray, List.set_cons_zero, List.set_cons_succ]
        refine wpAnyH_take (i := 6) (v := .pointer (some ⟨d, o + i * 11, none⟩)) rfl (by kernel_rfl) (by kernel_rfl) (by kernel_rfl) (fun _ _ _ h => h) (Or.inl ⟨by rfl, fun w hSw => by obtain ⟨h1, h2⟩ := hSw; go_simp⟩) (by assumption) ?_
        change wpAnyH _ _ _ _ _ _ _ (Act.put _ (some 69) _) _
        simp only [Act.put, List.setIfInBounds_toArray, List.set_cons_zero, List.set_cons_succ]
        refine wpAnyH_ready (rs := [7]) (by kernel_rfl) (by simp) ?_
        refine AllReadyH.cons rfl (fun K hK => ?_) AllReadyH.nil
        refine wp_store_mid 130 _ _ rfl d (o + i * 11) (lnR (LR, .slice VA 0 vcap)).toArray rfl rfl (by rw [List.size_toArray, HLL.out]; exact HTH.out) (by rw [List.size_toArray, HLL.out]; exact HS51.out) (all_oneCell_toArray HL1.out) ?_
        refine hK.out _ _ ⟨(cell_of_block (heap_setCells (by exact hpd) _ _ _)).trans hHeld.1, fun j v hv => (cell_of_block (heap_setCells (by exact hdx.symm) _ _ _)).trans (hHeld.2 j v hv)⟩ (fun hHeld2 => ?_)
        clear hK K
        have HK6 : Hid (Kept F w (w5.setCells d (o + i * 11) (lnR (LR, .slice VA 0 vcap)).toArray.toList)) := Lib.hid ((Kept.of_below (bel_on HB2.out HB5.out)).then_ (Kept.setCells HOD.out _ _ _))
        have HA6 : Hid (Arr (w5.setCells d (o + i * 11) (lnR (LR, .slice VA 0 vcap)).toArray.toList) w.heap.size 66 (iv (ci us))) := Lib.hid ((heap_setCells (by exact hdw.symm) _ _ _).trans HA5.out)
        clear HTH HA5 HX5 HB5 d0 r5 hHeld2 hHeld H2 HB2
        refine wpAnyH_done (by kernel_rfl) ?_ _
        go_wp2_with fail
        obtain ⟨W6, hW6⟩ : ∃ W, w5.setCells d (o + i * 11) (lnR (LR, .slice VA 0 vcap)).toArray.toList = W := ⟨_, rfl⟩
        simp only [List.toList_toArray] at hW6 HK6 HA6 ⊢
        rw [hW6] at HK6 HA6 HPUT ⊢
        obtain ⟨a0, a1, a2, a3, a4, a5, a6, a7, hws⟩ := line8 HH8.out
        have hR2 := HR2.out
        rw [hws] at hR2
        rw [← HWS.out, hws] at HA6
        have hev1 : (m.upd i fun _ => LR).ev = m.ev := rfl
        have h6 := HPUT.out.below (bel_drew W6)
        have h6' : RefAt W6.drew p (m.upd i fun _ => LR) (Ex F w W6.drew) d o cap ev _ := h6.keep (fun _ _ => rfl) (fun q hq => .inl hq) (fun q hq => by
          rcases hq with h7 | h7
          · exact h6.lt q h7
          · exact h7.2)
        have hst6 : RStep F w p (m.upd i fun _ => LR) W6.drew := ⟨⟨_, _, _, _, _, h6'⟩, HK6.out.then_ (Kept.of_below (bel_drew W6))⟩
        generalize (m.upd i fun _ => LR) = m1 at *
        have hn1 : m1.ev.length ≤ 1000 := by rw [hev1]; exact hne
        have hsz1 : W6.drew.heap.size = W6.heap.size := rfl
        have HAB : Hid (Arr W6 w.heap.size 66 (iv [a0, a1, a2, a3, a4, a5, a6, a7])) := HA6
        have k0 : W6.cell? ⟨w.heap.size, 0, none⟩ = some (.int .i64 a0) := HAB.out.cell rfl
        have k1 : W6.cell? ⟨w.heap.size, 1, none⟩ = some (.int .i64 a1) := HAB.out.cell rfl
        have k2 : W6.cell? ⟨w.heap.size, 2, none⟩ = some (.int .i64 a2) := HAB.out.cell rfl
        have k3 : W6.cell? ⟨w.heap.size, 3, none⟩ = some (.int .i64 a3) := HAB.out.cell rfl
        have k4 : W6.cell? ⟨w.heap.size, 4, none⟩ = some (.int .i64 a4) := HAB.out.cell rfl
        have k5 : W6.cell? ⟨w.heap.size, 5, none⟩ = some (.int .i64 a5) := HAB.out.cell rfl
        have k6 : W6.cell? ⟨w.heap.size, 6, none⟩ = some (.int .i64 a6) := HAB.out.cell rfl
        have k7 : W6.cell? ⟨w.heap.size, 7, none⟩ = some (.int .i64 a7) := HAB.out.cell rfl
        obtain ⟨A, ecap, rfl, _⟩ := h6'.evs.shape
        have HB1 := bel_new W6.drew (.cells (iv (evt 7 (i : Int) (uc : Int) 0 [a0, a1, a2, a3, a4, a5, a6, a7])).toArray 68)
        have HREC := Lib.hid fun (ev' : Value) (w3 : World) hsl hg ho => hst6.trans (h6'.recorded (evt 7 (i : Int) (uc : Int) 0 [a0, a1, a2, a3, a4, a5, a6, a7]) HB1 (ev' := ev') (w3 := w3) hsl hg ho)
        have HC2 := Lib.hid fun (w3 : World) hg => h6'.cells2 HB1 (w3 := w3) hg
        have HEV := Lib.hid (h6'.evs.keep fun q hq => HB1.block q (h6'.evs.lt hq))
        have HNW : Hid (∀ j u, (iv (evt 7 (i : Int) (uc : Int) 0 [a0, a1, a2, a3, a4, a5, a6, a7]))[j]? = some u → (W6.drew.alloc (.cells (iv (evt 7 (i : Int) (uc : Int) 0 [a0, a1, a2, a3, a4, a5, a6, a7])).toArray 68)).cell? ((⟨W6.heap.size, 0, none⟩ : Addr).add j) = some u) := Lib.hid (fun j u hu => by
          rw [Addr.add_lit, Nat.zero_add, ← hsz1]
          exact (Arr.new W6.drew _ _).cell hu)
        have c2 := h6'.c2
        obtain ⟨i0, his, hz0, hz1, hz2⟩ := info_parts infoEvent
        have HIS := Lib.hid his
        have HZ0 := Lib.hid hz0
        have HZ1 := Lib.hid hz1
        have HZ2 := Lib.hid hz2
        clear his hz0 hz1 hz2 HB1
        change W6.cell? ⟨p, 2, none⟩ = _ at c2
        have c2A := fun ob => cell_below (bel_new W6 ob) c2
        generalize hNE : m1.ev.length = NE at *
        subst hR2
        clear h6 h6' hst6 hNE hev1 HPUT HA6 HAB hW6 HLL HL1 hi22 hi51 hu51 HWS hws
        go_region_law ((refine wp_append_sl _ _ 24 rfl 68 i0 _ 12 96 Tryz.underlying24 HIS.out HZ0.out HZ1.out HZ2.out rfl (by decide) (.slice A NE ecap) NE (iv m1.ev.flatten) rfl HEV.out ⟨W6.heap.size, 0, none⟩ 1 1 (iv (evt 7 (i : Int) (uc : Int) 0 [a0, a1, a2, a3, a4, a5, a6, a7])) rfl rfl HNW.out (iv_one _) (by unfold maxLen; omega) (by omega) ?_; intro ev' w3 hsl hg ho; obtain ⟨EA2, ecap2, rfl, _⟩ := hsl.shape; have HFIN := Lib.hid (HREC.out _ _ hsl hg ho); obtain ⟨e2, ef2⟩ := HC2.out _ hg; clear hsl hg ho))
        all_goals go_wp2_with fail
        all_goals go_ret
        all_goals exact ⟨rfl, HFIN.out⟩
end Go.Proofs.YtpojhplnhppcpaaGreatDoor
namespace Go.Proofs.YtpojhplnhppcpaaGreatDoor
open Go.RowKit Go.Maps
def lastAt (cs : List (Int × Int)) : Nat → Int
  | 0 => -1
  | k + 1 => (cs.getD k (0, 0)).1
set_option maxRecDepth 100000 in
set_option maxHeartbeats 8000000 in
set_option linter.unusedSimpArgs false in
theorem rCuts_any (p : Nat) (cs : List (Int × Int)) (v : Value) (m : PM) (F : Nat → Prop) (w : World) (hm : m.Ok) (hs : m.Small 1000) (h : Ref w p m F)
    (hsl : Rd w v cs.length (iv (flatS cs))) (hI : ∀ c ∈ cs, I64 c.1 ∧ I64 c.2) :
    Calls Tryz.prog 104 #[.pointer (some ⟨p, 0, none⟩), v] w fun e w' => e = .returned (.bool (cutsOk m (-1) cs)) ∧ Below w.heap.size w w' := by
  obtain ⟨R, hR⟩ : ∃ R, cutsOk m (-1) cs = R := ⟨_, rfl⟩
  rw [hR]
  have HSL := Lib.hid hsl
  obtain ⟨A, cap9, rfl, hcc, hcm, _⟩ := hsl
  have hcl : cs.length ≤ 9223372036854775807 := by unfold maxLen at hcm; omega
  have HRF := Lib.hid h
  have HM := Lib.hid hm
  have HSM := Lib.hid hs
  have HI := Lib.hid hI
  have HR := Lib.hid hR
  obtain ⟨n, hn⟩ : ∃ n, cs.length = n := ⟨_, rfl⟩
  have HN := Lib.hid hn
  rw [hn] at hcc hcl ⊢
  have HB0 : Hid (Below w.heap.size w w) := Lib.hid (Below.refl _ _)
  have HC0 : Hid (cutsOk m (-1) cs = cutsOk m (lastAt cs 0) (cs.drop 0)) := Lib.hid rfl
  clear hn hR hm hs h hI
  go_enter Tryz.func104, Tryz.ntmps104
  go_wp2_with fail
  go_loopw [5] (fun i wr => ∃ k : Nat, i = .int .i64 (k : Int) ∧ k ≤ n ∧ Hid (cutsOk m (-1) cs = cutsOk m (lastAt cs k) (cs.drop k)) ∧ Hid (Below w.heap.size w wr)) (fun i _ => n - (intOf i).toNat)
  case atStart => exact ⟨0, rfl, by omega, HC0, HB0⟩
  case round =>
    clear HC0 HB0
    obtain ⟨k, rfl, hk, HC, HB⟩ := hrel
    by_cases hlt : k < n
    · have hkc : k < cs.length := by rw [HN.out]; exact hlt
      obtain ⟨_, _, hv9, _, _, hrr⟩ := HSL.out.below HB.out
      simp only [Value.slice.injEq, true_and] at hv9
      obtain ⟨rfl, rfl⟩ := hv9
      obtain ⟨bb, oo, rfl, _, hsw⟩ := hrr (by omega)
      obtain ⟨cl0, cl1⟩ := rd_get hkc hsw
      have hd := drop_cons hkc
      have hIc := HI.out cs[k] (List.getElem_mem hkc)
      have hla : lastAt cs (k + 1) = cs[k].1 := by
        show (cs.getD k (0, 0)).1 = _
        rw [List.getD_eq_getElem?_getD, List.getElem?_eq_getElem hkc]
        rfl
      have HLA := Lib.hid hla
      have HC' : Hid (cutsOk m (-1) cs = cutsOk m (lastAt cs k) (cs[k] :: cs.drop (k + 1))) := Lib.hid (by rw [HC.out, hd])
      have hpv : 0 < k → wr.cell? ⟨bb, oo + (k - 1) * 2, none⟩ = some (.int .i64 (lastAt cs k)) := fun h0 => by
        obtain ⟨k', rfl⟩ : ∃ k', k = k' + 1 := ⟨k - 1, by omega⟩
        have hkc' : k' < cs.length := by omega
        obtain ⟨q0, _⟩ := rd_get hkc' hsw
        have e1 : lastAt cs (k' + 1) = cs[k'].1 := by
          show (cs.getD k' (0, 0)).1 = _
          rw [List.getD_eq_getElem?_getD, List.getElem?_eq_getElem hkc']
          rfl
        rw [e1]
        exact q0
      have HPV := Lib.hid hpv
      have HL0 : Hid (k = 0 → lastAt cs k = -1) := Lib.hid fun e => by subst e; rfl
      obtain ⟨c, hc⟩ : ∃ c, cs[k] = c := ⟨_, rfl⟩
      rw [hc] at cl0 cl1 hIc HLA HC'
      obtain ⟨ln, kp⟩ := c
      obtain ⟨hl1, hl2⟩ := hIc
      simp only at hl1 hl2 cl0 cl1 HLA
      have hkI : (k : Int) < (n : Int) := by omega
      have hr1 := HRF.out.below HB.out
      have HH := Lib.hid fun q => rHas_any p ln m F (wr.drewN q) (hr1.below (below_drewN (Below.refl _ _) q))
      generalize lastAt cs k = last at *
      clear hd hsw hrr HC hla hpv hc
      cases hh : m.has ln with
      | false =>
        have hRR : R = false := by rw [← HR.out, HC'.out, cutsOk_bad (.inr (.inl hh))]
        subst hRR
        rw [hh] at HH
        clear hl1 hl2
        go_wp2_with fail
        (go_quiet ((go_at_call 134; exact Calls.quiet_of_same (HH.out _))))
        go_wp2_with fail
        go_ret
        exact ⟨rfl, below_drewN HB.out nq⟩
      | true =>
        rw [hh] at HH
        have hin : 0 ≤ ln ∧ ln < (m.L.length : Int) := by unfold PM.has at hh; simpa using hh
        obtain ⟨i, rfl⟩ : ∃ i : Nat, ln = i := ⟨ln.toNat, by omega⟩
        have hi : i < m.L.length := by omega
        by_cases hbad : 0 < k ∧ (i : Int) ≤ last
        · have hRR : R = false := by rw [← HR.out, HC'.out, cutsOk_bad (.inl hbad.2)]
          subst hRR
          obtain ⟨hb0, hb1⟩ := hbad
          have pv := HPV.out hb0
          have e0 := dec_t (show (0 : Int) < (k : Int) by omega)
          have e1 := dec_t hb1
          have hk1 : IntKind.i64.wrap ((k : Int) - 1) = ((k - 1 : Nat) : Int) := by rw [wrapEq, w64 _ (by omega) (by omega)]; omega
          have hk2 : wrap64 ((k : Int) - 1) = ((k - 1 : Nat) : Int) := by rw [w64 _ (by omega) (by omega)]; omega
          have hk3 : ((k - 1 : Nat) : Int) < (n : Int) := by omega
          generalize k - 1 = k1 at *
          clear hl1 hl2 hin hi hb1 hcl
          go_wp2_with fail
          (go_quiet ((go_at_call 134; exact Calls.quiet_of_same (HH.out _))))
          go_wp2_with fail
          go_ret
          exact ⟨rfl, below_drewN HB.out nq⟩
        · have hb1 : ¬ (i : Int) ≤ last := by
            by_cases h0 : 0 < k
            · exact fun h => hbad ⟨h0, h⟩
            · have := HL0.out (by omega)
              omega
          obtain ⟨d, o, cap, ev, X, hat⟩ := hr1
          have c0 := hat.c0
          have hcp := hat.cap_
          obtain ⟨pv9, _, _, _, _, h9, _, hsl9⟩ := hat.at HM.out hi
          have hpl := HSM.out.pend _ (PM.line_mem hi)
          have HBAD : Hid (kp < 0 ∨ ((m.line i).pend.length : Int) < kp → R = false) := Lib.hid fun hx => by
            rw [← HR.out, HC'.out]
            refine cutsOk_bad (.inr (.inr ?_))
            rcases hx with hx | hx
            · exact .inl hx
            · exact .inr (by show ((m.line (i : Int).toNat).pend.length : Int) < kp; rw [Int.toNat_natCast]; exact hx)
          have HGOOD : Hid (¬ kp < 0 → ¬ ((m.line i).pend.length : Int) < kp → cutsOk m (-1) cs = cutsOk m (lastAt cs (k + 1)) (cs.drop (k + 1))) := Lib.hid fun h1 h2 => by
            rw [HC'.out, cutsOk_good hb1 hh h1 (by show ¬ ((m.line (i : Int).toNat).pend.length : Int) < kp; rw [Int.toNat_natCast]; exact h2), HLA.out]
          obtain ⟨VA, vcap, rfl, _⟩ := hsl9.shape
          generalize (m.line i).pend.length = pl at *
          have hiI : (i : Int) < (m.L.length : Int) := by omega
          generalize m.L.length = N at *
          have e1 := dec_f hb1
          clear hat hsl9 hl1 hl2 hin hi hbad hb1 HC' HLA HI HSM HM
          by_cases hb0 : 0 < k
          · have pv := HPV.out hb0
            have e0 := dec_t (show (0 : Int) < (k : Int) by omega)
            have hk1 : IntKind.i64.wrap ((k : Int) - 1) = ((k - 1 : Nat) : Int) := by rw [wrapEq, w64 _ (by omega) (by omega)]; omega
            have hk2 : wrap64 ((k : Int) - 1) = ((k - 1 : Nat) : Int) := by rw [w64 _ (by omega) (by omega)]; omega
            have hk3 : ((k - 1 : Nat) : Int) < (n : Int) := by omega
            generalize k - 1 = k1 at *
            by_cases b3 : kp < 0
            · have hRR : R = false := HBAD.out (.inl b3)
              subst hRR
              have d3 := dec_t b3
              clear HBAD HGOOD
              go_wp2_with fail
              (go_quiet ((go_at_call 134; exact Calls.quiet_of_same (HH.out _))))
              go_wp2_with fail
              go_quiet (fail)
              go_wp2_with fail
              go_ret
              exact ⟨rfl, by first | exact below_drewN (below_drewN HB.out _) _ | exact below_drewN HB.out _⟩
            · have d3 := dec_f b3
              by_cases b4 : (pl : Int) < kp
              · have hRR : R = false := HBAD.out (.inr b4)
                subst hRR
                have d4 := dec_t b4
                clear HBAD HGOOD
                go_wp2_with fail
                (go_quiet ((go_at_call 134; exact Calls.quiet_of_same (HH.out _))))
                go_wp2_with fail
                go_quiet (fail)
                go_wp2_with fail
                go_ret
                exact ⟨rfl, by first | exact below_drewN (below_drewN HB.out _) _ | exact below_drewN HB.out _⟩
              · have d4 := dec_f b4
                have HC2 := Lib.hid (HGOOD.out b3 b4)
                clear HBAD HGOOD
                go_wp2_with fail
                (go_quiet ((go_at_call 134; exact Calls.quiet_of_same (HH.out _))))
                generalize nq = n1 at *
                go_wp2_with fail
                go_quiet (fail)
                have HB2 := Lib.hid (below_drewN HB.out (n1 + nq))
                go_wp2_with fail
                go_roundw
                case rel => exact ⟨k + 1, by simp, by omega, HC2, HB2⟩
                case measure => simp [intOf]; omega
          · have e0 := dec_f (show ¬ (0 : Int) < (k : Int) by omega)
            clear HPV
            by_cases b3 : kp < 0
            · have hRR : R = false := HBAD.out (.inl b3)
              subst hRR
              have d3 := dec_t b3
              clear HBAD HGOOD
              go_wp2_with fail
              (go_quiet ((go_at_call 134; exact Calls.quiet_of_same (HH.out _))))
              go_wp2_with fail
              go_quiet (fail)
              go_wp2_with fail
              go_ret
              exact ⟨rfl, by first | exact below_drewN (below_drewN HB.out _) _ | exact below_drewN HB.out _⟩
            · have d3 := dec_f b3
              by_cases b4 : (pl : Int) < kp
              · have hRR : R = false := HBAD.out (.inr b4)
                subst hRR
                have d4 := dec_t b4
                clear HBAD HGOOD
                go_wp2_with fail
                (go_quiet ((go_at_call 134; exact Calls.quiet_of_same (HH.out _))))
                go_wp2_with fail
                go_quiet (fail)
                go_wp2_with fail
                go_ret
                exact ⟨rfl, by first | exact below_drewN (below_drewN HB.out _) _ | exact below_drewN HB.out _⟩
              · have d4 := dec_f b4
                have HC2 := Lib.hid (HGOOD.out b3 b4)
                clear HBAD HGOOD
                go_wp2_with fail
                (go_quiet ((go_at_call 134; exact Calls.quiet_of_same (HH.out _))))
                generalize nq = n1 at *
                go_wp2_with fail
                go_quiet (fail)
                have HB2 := Lib.hid (below_drewN HB.out (n1 + nq))
                go_wp2_with fail
                go_roundw
                case rel => exact ⟨k + 1, by simp, by omega, HC2, HB2⟩
                case measure => simp [intOf]; omega
    · obtain rfl : k = n := by omega
      have hRR : R = true := by
        rw [← HR.out, HC.out, List.drop_of_length_le (by rw [HN.out]; exact Nat.le_refl _)]
        rfl
      subst hRR
      go_wp2_with fail
      go_ret
      exact ⟨rfl, HB.out⟩
end Go.Proofs.YtpojhplnhppcpaaGreatDoor
