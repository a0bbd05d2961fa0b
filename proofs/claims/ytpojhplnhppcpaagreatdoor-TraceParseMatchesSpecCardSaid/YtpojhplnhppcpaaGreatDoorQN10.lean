/-
  What memory's rot does.
-/
import Derived.Test.YtpojhplnhppcpaaGreatDoorQN7
namespace Go.Proofs.YtpojhplnhppcpaaGreatDoor
open Go.RowKit Go.Maps
/-- A line in the middle of a row. -/
def rowR (P S : List Value) (ws : List Int) (c : Int) : List Value := P ++ iv (ws ++ [c]) ++ S
theorem rowR_get (P S : List Value) (ws : List Int) (c : Int) {k : Nat} (hk : k < ws.length) : (rowR P S ws c)[P.length + k]? = some (.int .i64 (ws.getD k 0)) := by
  unfold rowR
  rw [List.append_assoc, List.getElem?_append_right (by omega), Nat.add_sub_cancel_left, List.getElem?_append_left (by rw [iv_len, List.length_append]; omega)]
  unfold iv
  rw [List.getElem?_map, List.getElem?_append_left hk, List.getD_eq_getElem?_getD, List.getElem?_eq_getElem hk]
  rfl
theorem rowR_code (P S : List Value) (ws : List Int) (c : Int) : (rowR P S ws c)[P.length + ws.length]? = some (.int .i64 c) := by
  unfold rowR
  rw [List.append_assoc, List.getElem?_append_right (by omega), Nat.add_sub_cancel_left, List.getElem?_append_left (by rw [iv_len, List.length_append]; simp)]
  unfold iv
  rw [List.getElem?_map, List.getElem?_append_right (Nat.le_refl _), Nat.sub_self]
  rfl
theorem rowR_set (P S : List Value) (ws : List Int) (c : Int) {k : Nat} (hk : k < ws.length) (z : Int) : (rowR P S ws c).set (P.length + k) (.int .i64 z) = rowR P S (ws.set k z) c := by
  unfold rowR
  rw [List.append_assoc, List.set_append_right _ _ (by omega), Nat.add_sub_cancel_left, List.set_append_left _ _ (by rw [iv_len, List.length_append]; omega), ← List.append_assoc]
  congr 2
  unfold iv
  rw [← List.map_set, List.set_append_left _ _ hk]
theorem rowR_setCode (P S : List Value) (ws : List Int) (c z : Int) : (rowR P S ws c).set (P.length + ws.length) (.int .i64 z) = rowR P S ws z := by
  unfold rowR
  rw [List.append_assoc, List.set_append_right _ _ (by omega), Nat.add_sub_cancel_left, List.set_append_left _ _ (by rw [iv_len, List.length_append]; simp), ← List.append_assoc]
  congr 2
  unfold iv
  rw [← List.map_set, List.set_append_right _ _ (Nat.le_refl _), Nat.sub_self]
  rfl
theorem splice_self (cur : List Value) (q : Nat) (X : List Value) (h : (cur.drop q).take X.length = X) (_ : q + X.length ≤ cur.length) : cur.take q ++ X ++ cur.drop (q + X.length) = cur := by
  rw [← h]
  rw [List.append_assoc]
  have e : List.drop (q + (List.take X.length (List.drop q cur)).length) cur = List.drop X.length (List.drop q cur) := by
    rw [h, List.drop_drop]
  rw [e, List.take_append_drop, List.take_append_drop]
section
variable {w w' : World} {p b : Nat} {m : PM} {F : Nat → Prop} {dv ev : Value} {D : DataW Value} {G : Nat → Value}
/-- The row in which a line lies, and how it is split. -/
theorem RepAt.rowOf (h : RepAt w p m F dv b ev D G) (hm : m.Ok) {i d o cap : Nat} (hi : i < m.L.length) (hdv : dv = .slice (some ⟨d, o, none⟩) m.L.length cap) :
    ∃ cur, Arr w d 77 cur ∧ o + m.L.length * 9 ≤ cur.length ∧ cur = rowR (cur.take (o + i * 9)) (cur.drop (o + i * 9 + 9)) (m.line i).ws (m.line i).code ∧ (cur.take (o + i * 9)).length = o + i * 9 := by
  subst hdv
  obtain ⟨cur, hc, hn, hcm, hfit, htake⟩ := h.dur.inside
  have hN : m.L.length * 9 ≤ cap * 9 := Nat.mul_le_mul_right 9 hn
  have hi9 : i * 9 + 9 ≤ m.L.length * 9 := by omega
  have hl9 : (iv ((m.line i).ws ++ [(m.line i).code])).length = 9 := by rw [iv_len, List.length_append, (hm.line hi).len]; rfl
  refine ⟨cur, hc, by omega, ?_, by rw [List.length_take]; omega⟩
  have key : (cur.drop (o + i * 9)).take 9 = iv ((m.line i).ws ++ [(m.line i).code]) := by
    have e1 : (cur.drop (o + i * 9)).take 9 = (((cur.drop o).take (m.L.length * 9)).drop (i * 9)).take 9 := by
      rw [← List.drop_drop, List.drop_take, List.take_take, Nat.min_eq_left (by omega)]
    rw [e1, htake]
    apply List.ext_getElem?
    intro j
    rw [List.getElem?_take]
    by_cases hj : j < 9
    · rw [if_pos hj, List.getElem?_drop]
      unfold iv
      rw [List.getElem?_map, List.getElem?_map, flatL_at hm hi hj]
    · rw [if_neg hj]
      exact (List.getElem?_eq_none (by rw [hl9]; omega)).symm
  have := splice_self cur (o + i * 9) (iv ((m.line i).ws ++ [(m.line i).code])) (by rw [hl9]; exact key) (by rw [hl9]; omega)
  rw [hl9] at this
  exact this.symm
/-- A line is written by whatever steps. -/
theorem RepAt.setLine' (h : RepAt w p m F dv b ev D G) (hm : m.Ok) {i d o cap : Nat} (hi : i < m.L.length) (hdv : dv = .slice (some ⟨d, o, none⟩) m.L.length cap) {ws : List Int} (h8 : ws.length = 8) (c : Int) {cur : List Value} (hc : Arr w d 77 cur)
    (hk : Kept (fun q => q = d) w w') (hr : Arr w' d 77 (rowR (cur.take (o + i * 9)) (cur.drop (o + i * 9 + 9)) ws c)) : RepAt w' p (m.upd i fun l => { l with ws := ws, code := c }) F dv b ev D G := by
  refine (h.setLine hm hi hdv h8 c hc).keep (fun q hq => ?_) (fun _ h => h) fun q hq => Nat.lt_of_lt_of_le (h.lt q hq) hk.size
  by_cases e : q = d
  · subst e
    rw [setRow_heap w q _ _ _ _ hc]
    exact hr
  · rw [setRow_other w d q _ e]
    exact hk.block q (h.lt q hq) e
end
set_option maxRecDepth 100000 in
set_option maxHeartbeats 4000000 in
set_option linter.unusedSimpArgs false in
theorem rot_any (p : Nat) (a c : Int) (ws : List Int) (E : List Int) (hE : E.length = 12) (h1 : E[1]? = some a) (h2 : E[2]? = some c) (h4 : E.drop 4 = ws) (m : PM) (F : Nat → Prop) (w : World) (hm : m.Ok) (h : Rep w p m F) :
    Calls Tryz.prog 98 #[.pointer (some ⟨p, 0, none⟩), .agg (iv E).toArray] w fun e w' => e = .returned (.int .i64 (rotP m a ws c).1) ∧ Step F w p (rotP m a ws c).2 w' := by
  have h8 : ws.length = 8 := by rw [← h4, List.length_drop, hE]
  have hb := bel_new w (.cells (iv E).toArray 68)
  have hA := Arr.new w (iv E) 68
  have e1 := hA.cell (iv_get h1)
  have e2 := hA.cell (iv_get h2)
  have e4 := hA.rangeD 4 h4
  have HI := Lib.hid (size81 hE)
  have hrp := h.below hb
  have hc := hasLine_any p a m F _ hm hrp
  obtain ⟨R, hR⟩ : ∃ R, rotP m a ws c = R := ⟨_, rfl⟩
  rw [hR]
  unfold rotP at hR
  rw [validB_eq] at hR
  have HST := Lib.hid (fun W (hW : Below w.heap.size w W) => Step.below h hW)
  have HB := Lib.hid hb
  have hi := HI.out
  have HI8 := Lib.hid (size22' h8)
  have HAW := Lib.hid fun w => areWords_any ws w h8
  have HIC := Lib.hid fun w => isCodeM_any c w
  have hu22 := Tryz.underlying66
  cases hh : m.has a with
  | false =>
    rw [hh, if_pos rfl] at hR
    subst hR
    rw [hh] at hc
    have HC := Lib.hid hc
    clear hc hrp h
    go_enter Tryz.func98, Tryz.ntmps98
    go_wp2_with (go_at_call 65; refine HC.out.mono ?_; rintro e w' ⟨rfl, rfl⟩)
    go_ret
    exact ⟨rfl, HST.out _ HB.out⟩
  | true =>
    rw [hh, if_neg (by simp)] at hR
    rw [hh] at hc
    have hr : 0 ≤ a ∧ a < m.L.length := by unfold PM.has at hh; simpa using hh
    obtain ⟨i, rfl⟩ : ∃ i : Nat, a = i := ⟨a.toNat, by omega⟩
    have hil : i < m.L.length := by omega
    rw [Int.toNat_natCast] at hR
    obtain ⟨ok, hok⟩ : ∃ ok, ws.all okW = ok := ⟨_, rfl⟩
    obtain ⟨kc, hkc⟩ : ∃ kc, okC c = kc := ⟨_, rfl⟩
    rw [hok] at hR HAW
    rw [hkc] at hR HIC
    have HC := Lib.hid hc
    cases ok with
    | false =>
      rw [if_pos (by simp)] at hR
      subst hR
      clear hc hrp h
      go_enter Tryz.func98, Tryz.ntmps98
      go_wp2_with (first | (go_at_call 65; refine HC.out.mono ?_; rintro e w' ⟨rfl, rfl⟩) | ((with_reducible refine arm_range 66 w.heap.size 4 (iv ws) e4 _ hu22 rfl HI8.out rfl _ rfl ?_ ?_); focus rfl))
      refine (HAW.out _).mono ?_
      rintro e w2 ⟨rfl, hb2⟩
      have HB2 := Lib.hid (bel_on HB.out hb2)
      clear hb2
      go_wp2_with fail
      go_ret
      exact ⟨rfl, HST.out _ HB2.out⟩
    | true =>
      cases kc with
      | false =>
        rw [if_pos (by simp)] at hR
        subst hR
        have HA1 := Lib.hid hA
        clear hc hrp h hA
        go_enter Tryz.func98, Tryz.ntmps98
        go_wp2_with (first | (go_at_call 65; refine HC.out.mono ?_; rintro e w' ⟨rfl, rfl⟩) | ((with_reducible refine arm_range 66 w.heap.size 4 (iv ws) e4 _ hu22 rfl HI8.out rfl _ rfl ?_ ?_); focus rfl))
        refine (HAW.out _).mono ?_
        rintro e w2 ⟨rfl, hb2⟩
        have HB2 := Lib.hid (bel_on HB.out hb2)
        have e2' := cell_below hb2 e2
        clear hb2
        go_wp2_with (go_at_call 93; refine (HIC.out _).mono ?_; rintro e w' ⟨rfl, rfl⟩)
        go_ret
        exact ⟨rfl, HST.out _ HB2.out⟩
      | true =>
        rw [if_neg (by simp)] at hR
        obtain ⟨dv, b, ev, D, G, hr0⟩ := h
        have HR0 := Lib.hid hr0
        obtain ⟨d, o, cap, rfl, hcap, _, _, _⟩ := hr0.where_ hm
        have hr1 := hr0.below hb
        have c1 := hr1.c1
        have c0 := hr1.c0
        obtain ⟨A, gcap, hG, hc1, hc2, hlk⟩ := hr1.look hil hm.few
        have hlp : (m.line i).pend.length ≤ 9223372036854775807 := by unfold maxLen at hc2; omega
        have hf := hm.few
        have HIL := Lib.hid hil
        have HM := Lib.hid hm
        have HLO := Lib.hid (hm.line hil)
        have HA1 := Lib.hid hA
        have HV : Hid (validB ws c = true) := Lib.hid (by rw [validB_eq, hok, hkc]; rfl)
        obtain ⟨pl, hpl⟩ : ∃ pl, (m.line i).pend.length = pl := ⟨_, rfl⟩
        obtain ⟨mk, hmk⟩ : ∃ mk, (m.line i).mark = mk := ⟨_, rfl⟩
        have hpe : ((m.line i).pend ≠ []) ↔ ¬ (pl = 0) := by rw [← hpl]; simp
        have HPE := Lib.hid hpe
        have HPL := Lib.hid hpl
        rw [hpl] at hlk hc1 hlp
        rw [hmk] at hlk
        obtain ⟨N, hN⟩ : ∃ N, m.L.length = N := ⟨_, rfl⟩
        rw [hN] at c0 hcap hf hil
        have HN := Lib.hid hN
        have hfb := field_b0 (.slice A pl gcap) (mk : Int)
        have hlw : ∀ w2, Below w.heap.size w w2 → ∀ n, (Instr.lookup 98 (.map (some b)) (.int .i64 (i : Int)) false).run Tryz.prog (w2.drewN n) = .ok (.agg #[.slice A pl gcap, .int .i64 (mk : Int)]) (w2.drewN n) := fun w2 hb2 n => hlk (w2.drewN n) ((hb2.block b (HR0.out.lt b HR0.out.ownB)).trans (hb.block b (HR0.out.lt b HR0.out.ownB)).symm)
        have HLW := Lib.hid hlw
        clear hc hrp hr0 hr1 hA hlk hlw hpl hmk hG hm hN hh hok hkc hpe
        go_enter Tryz.func98, Tryz.ntmps98
        go_wp2_with (first | (go_at_call 65; refine HC.out.mono ?_; rintro e w' ⟨rfl, rfl⟩) | ((with_reducible refine arm_range 66 w.heap.size 4 (iv ws) e4 _ hu22 rfl HI8.out rfl _ rfl ?_ ?_); focus rfl))
        refine (HAW.out _).mono ?_
        rintro e w2 ⟨rfl, hb2⟩
        have HB2 := Lib.hid (bel_on HB.out hb2)
        have HA2 := Lib.hid (HA1.out.keep hb2)
        have e22 := cell_below hb2 e2
        have e12 := cell_below hb2 e1
        have e42 := range_below hb2 e4
        have c12 := cell_below hb2 c1
        have c02 := cell_below hb2 c0
        have hl2 := HLW.out w2 HB2.out
        clear hb2 HB HA1 e2 e1 e4 c1 c0 HLW hb HC HAW
        obtain ⟨k, hk⟩ : ∃ k, w.heap.size = k := ⟨_, rfl⟩
        rw [hk] at HA2 e22 e12 e42 ⊢
        have HKW := Lib.hid hk
        clear hk
        by_cases hp0 : pl = 0
        · rw [if_neg (by rw [HPE.out]; simpa using hp0)] at hR
          subst hp0
          obtain ⟨vs, vc, hvs, hvc, hvl, hvw, hvb⟩ := valid_nat HLO.out.val
          obtain ⟨us, uc, hus, huc, hul, huw, hub⟩ := valid_nat HV.out
          rw [HLO.out.len] at hvl
          rw [h8] at hul
          have hRR : (0, m.upd i fun l => { l with ws := ci (xorL vs us), code := ((vc ^^^ uc : Nat) : Int) }) = R := by
            rw [← hR]
            congr 1
            refine PM.upd_congr ?_
            unfold PL.rotted xorI
            rw [hvs, hvc, hus, huc, nw_ci, nw_ci, Int.toNat_natCast, Int.toNat_natCast]
          have HRR := Lib.hid hRR
          clear hR hRR
          subst hus huc
          go_wp2_with (go_at_call 93; refine (HIC.out _).mono ?_; rintro e w' ⟨rfl, hw'⟩; obtain rfl := hw'.symm)
          go_quiet (fail)
          generalize nq = n1 at *
          go_wp2_with fail
          go_quiet (fail)
          have HB3 : Hid (Below w.heap.size w ((w2.drewN n1).drewN nq)) := Lib.hid (below_drewN (below_drewN HB2.out n1) nq)
          have HA3 : Hid (Arr ((w2.drewN n1).drewN nq) k 68 (iv E)) := Lib.hid HA2.out
          have e43 : ((w2.drewN n1).drewN nq).rangeAt k 4 (iv (ci us)) := e42
          clear HB2 HA2 e22 e12 e42 c12 c02 hl2 HIC
          generalize ((w2.drewN n1).drewN nq) = W3 at *
          have HR3 := Lib.hid (HR0.out.below HB3.out)
          obtain ⟨cur, hcur, hlen, hsplit, hPl⟩ := HR3.out.rowOf HM.out HIL.out rfl
          rw [hvs, hvc] at hsplit
          have HROW : Hid (∀ (w' : World) ws', ws'.length = 8 → ∀ c', Kept (fun q => q = d) W3 w' → Arr w' d 77 (rowR (cur.take (o + i * 9)) (cur.drop (o + i * 9 + 9)) ws' c') → RepAt w' p (m.upd i fun l => { l with ws := ws', code := c' }) F (.slice (some ⟨d, o, none⟩) m.L.length cap) b ev D G) := Lib.hid (fun w' ws' h8' c' hk hr => HR3.out.setLine' HM.out HIL.out rfl h8' c' hcur hk hr)
          have hA3d : Arr W3 d 77 (rowR (cur.take (o + i * 9)) (cur.drop (o + i * 9 + 9)) (ci vs) vc) := hsplit ▸ hcur
          have hdk : k ≠ d := fun e => by
            subst e
            have := HA3.out
            unfold Arr at this hcur
            rw [hcur] at this
            simp only [Option.some.injEq, Obj.cells.injEq] at this
            exact absurd this.2.1 (by decide)
          clear hcur hsplit hlen
          generalize cur.take (o + i * 9) = P at *
          generalize cur.drop (o + i * 9 + 9) = S at *
          obtain ⟨q, hq⟩ : ∃ q, o + i * 9 = q := ⟨_, rfl⟩
          rw [hq] at hPl ⊢
          have HD3 := Lib.hid hA3d
          have hu8 : (ci us).length = 8 := by rw [ci_len, hul]
          clear hq hA3d
          go_wp2_with ((with_reducible refine arm_range 66 k 4 (iv (ci us)) e43 _ hu22 rfl HI8.out rfl _ rfl ?_ ?_); focus rfl)
          have HK3 : Hid (Kept (fun q => q = d) W3 W3) := Lib.hid (Kept.refl _ _)
          go_loopw [42] (fun j wr => ∃ t : Nat, j = .int .i64 (t : Int) ∧ t ≤ 8 ∧ Hid (Arr wr d 77 (rowR P S (ci (mix vs us t)) vc)) ∧ Hid (Kept (fun q => q = d) W3 wr)) (fun j _ => 8 - (intOf j).toNat)
          case atStart => exact ⟨0, rfl, by omega, HD3, HK3⟩
          case round =>
            clear HD3 HK3
            obtain ⟨t, rfl, ht, HD, HK⟩ := hrel
            by_cases hlt : t < 8
            · have hidx := index22 (ci us) t hlt hu8 wr
              rw [ci_get] at hidx
              have hml : t < (ci (mix vs us t)).length := by rw [ci_len, mix_len, hvl]; exact hlt
              have hcl := HD.out.cell (rowR_get P S (ci (mix vs us t)) vc hml)
              rw [hPl, ci_get, mix_get vs us t t (by omega), if_neg (by omega)] at hcl
              have hfr := HD.out.free (q + t)
              have hset := rowR_set P S (ci (mix vs us t)) vc hml ((vs.getD t 0 ^^^ us.getD t 0 : Nat) : Int)
              rw [ci_set, hPl] at hset
              have HN4 : Hid (Arr (wr.drew.setCell ⟨d, q + t, none⟩ (.int .i64 ((vs.getD t 0 ^^^ us.getD t 0 : Nat) : Int))) d 77 (rowR P S (ci (mix vs us (t + 1))) vc)) := Lib.hid (by
                have := Arr.set (w := wr.drew) HD.out (q + t) (.int .i64 ((vs.getD t 0 ^^^ us.getD t 0 : Nat) : Int))
                rw [hset] at this
                exact this)
              have HK4 : Hid (Kept (fun q => q = d) W3 (wr.drew.setCell ⟨d, q + t, none⟩ (.int .i64 ((vs.getD t 0 ^^^ us.getD t 0 : Nat) : Int)))) := Lib.hid ((HK.out.then_ (Kept.of_below (bel_drew wr))).then_ (Kept.setCell wr.drew _ rfl))
              have hx := i64_xor_nat (vs.getD t 0) (us.getD t 0) (by have := get_lt hvw t; omega) (by have := get_lt huw t; omega)
              generalize vs.getD t 0 ^^^ us.getD t 0 = z at *
              generalize vs.getD t 0 = x at *
              generalize us.getD t 0 = y at *
              have htI : (t : Int) < 8 := by omega
              clear hset hml HD HK
              go_wp2_with fail
              go_still_tail 11, (by kernel_rfl)
              change wpList _ _ _ _ _ wr.drew
              go_wp2_with fail
              go_roundw
              case rel => exact ⟨t + 1, by simp, by omega, HN4, HK4⟩
              case measure => simp [intOf]; omega
            · obtain rfl : t = 8 := by omega
              have hml : (ci (mix vs us 8)).length = 8 := by rw [ci_len, mix_len, hvl]
              have hall : mix vs us 8 = xorL vs us := by
                have := mix_all vs us (by omega)
                rw [hvl] at this
                exact this
              have hcl := HD.out.cell (rowR_code P S (ci (mix vs us 8)) vc)
              rw [hPl, hml] at hcl
              have hfr := HD.out.free (q + 8)
              have hset := rowR_setCode P S (ci (mix vs us 8)) vc ((vc ^^^ uc : Nat) : Int)
              rw [hml, hPl] at hset
              have HN4 : Hid (Arr (wr.drew.setCell ⟨d, q + 8, none⟩ (.int .i64 ((vc ^^^ uc : Nat) : Int))) d 77 (rowR P S (ci (xorL vs us)) ((vc ^^^ uc : Nat) : Int))) := Lib.hid (by
                have := Arr.set (w := wr.drew) HD.out (q + 8) (.int .i64 ((vc ^^^ uc : Nat) : Int))
                rw [hset, hall] at this
                exact this)
              have HK4 : Hid (Kept (fun q => q = d) W3 (wr.drew.setCell ⟨d, q + 8, none⟩ (.int .i64 ((vc ^^^ uc : Nat) : Int)))) := Lib.hid ((HK.out.then_ (Kept.of_below (bel_drew wr))).then_ (Kept.setCell wr.drew _ rfl))
              have he2 := Arr.cell (show Arr wr k 68 (iv E) from (HK.out.block k HA3.out.lt hdk).trans HA3.out) (iv_get h2)
              have hx := i64_xor_nat vc uc (by omega) (by omega)
              have HFIN := Lib.hid (HROW.out _ (ci (xorL vs us)) (by rw [ci_len, xorL_len vs us (by omega), hvl]) ((vc ^^^ uc : Nat) : Int) HK4.out HN4.out)
              have HHD := Lib.hid (HR0.out.ownD d rfl)
              generalize vc ^^^ uc = z at *
              clear hset hml hall HD HK HROW
              go_wp2_with fail
              go_still_tail 9, (by kernel_rfl)
              change wpList _ _ _ _ _ wr.drew
              go_wp2_with fail
              go_ret
              refine ⟨by rw [← HRR.out]; rfl, ?_⟩
              rw [← HRR.out]
              exact Step.of ⟨_, _, _, _, _, HFIN.out⟩ ((Kept.of_below HB3.out).then_ (HK4.out.mono (fun q _ e => by subst e; exact HHD.out)))
        · rw [if_pos (HPE.out.2 hp0)] at hR
          subst hR
          have hp1 : (0 : Int) < (pl : Int) := by omega
          go_wp2_with (go_at_call 93; refine (HIC.out _).mono ?_; rintro e w' ⟨rfl, rfl⟩)
          go_quiet (fail)
          go_wp2_with fail
          go_ret
          exact ⟨rfl, HST.out _ (below_drewN HB2.out nq)⟩
end Go.Proofs.YtpojhplnhppcpaaGreatDoor
