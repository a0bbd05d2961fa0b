/- What code's Fix does. -/
import Derived.Test.YthidababplamgaaDoorC6
namespace Go.Proofs.YthidababplamgaaDoor
open Go.RowKit
/-- What Fix hands back. -/
def fixZ (L : List Int) (c : Int) : List Int × Int × Int :=
  if validB L c then
    if (chkZ L c).1 = 2 then (Z8, 0, 9)
    else if (chkZ L c).1 = 1 then (ci (flipR (nw L) c.toNat ((chkZ L c).2.1 : Nat) ((chkZ L c).2.2 : Nat)).1, (((flipR (nw L) c.toNat ((chkZ L c).2.1 : Nat) ((chkZ L c).2.2 : Nat)).2 : Nat) : Int), 0)
    else (L, c, 0)
  else (Z8, 0, 1)
def fr (r : List Int × Int × Int) : Value := .tuple #[.agg (iv r.1).toArray, .int .i64 r.2.1, .int .i64 r.2.2]
theorem Arr2_0 (w : World) (cs : List Value) (t : TypeId) (B : Obj) : Arr ((w.alloc (.cells cs.toArray t)).alloc B) w.heap.size t cs := a2_0 w _ B
/-- A block and two numbers are handed back. -/
theorem ret_row3 {fn : Func} {p q r : Tmp} {ty : TypeId} (h : fn.results = #[.cell p ty, .tmp q, .tmp r]) (tmps : Array Value) (w : World) (g t : Nat) (cs : List Value) (hA : Arr w g t cs) (hp : tmps.getD p undef = .pointer (some ⟨g, 0, none⟩))
    (d : TypeDesc) (hu : Tryd.prog.underlying ty = some d) (hd : d.isRow = true) (hi : (Tryd.prog.info? ty).map (·.size) = some cs.length) (v u : Value) (hv : tmps.getD q undef = v) (hw : tmps.getD r undef = u) :
    (results fn tmps).run Tryd.prog w = .ok (.tuple #[.agg cs.toArray, v, u]) w := by
  have hp' : tmps[p]?.getD undef = .pointer (some ⟨g, 0, none⟩) := by simpa using hp
  have hv' : tmps[q]?.getD undef = v := by simpa using hv
  have hw' : tmps[r]?.getD undef = u := by simpa using hw
  simp [results, h, hp', hv', hw', asAddr, run_loadVar_mid w g 0 ty cs d hA.range hu hd hi]
theorem chkZ_state (L : List Int) (c : Int) : (chkZ L c).1 = 0 ∨ (chkZ L c).1 = 1 ∨ (chkZ L c).1 = 2 := by
  unfold chkZ chkF
  split
  · split
    · exact .inl rfl
    · split
      · exact .inr (.inr rfl)
      · split
        · exact .inr (.inl rfl)
        · exact .inr (.inr rfl)
  · exact .inr (.inr rfl)
theorem flipR_len (ws : List Nat) (c : Nat) (k b : Int) : (flipR ws c k b).1.length = ws.length := by
  unfold flipR
  split
  · simp
  · split <;> rfl
set_option maxRecDepth 100000 in
set_option maxHeartbeats 1000000 in
theorem fix_any (L : List Int) (c : Int) (w : World) (h8 : L.length = 8) (hT : Tab w) :
    Calls Tryd.prog 10 #[.agg (iv L).toArray, .int .i64 c] w fun e w' => e = .returned (fr (fixZ L c)) ∧ Below w.heap.size w w' := by
  have HI := Lib.hid (size22' (l := L) h8)
  have HIZ := Lib.hid (size22' (l := Z8) rfl)
  have HOZ := Lib.hid (iv_one Z8)
  have HO := Lib.hid (iv_one L)
  have HL := Lib.hid (show (iv Z8).length = (iv L).length by rw [iv_len, iv_len, h8]; rfl)
  have H22 := Lib.hid Tryd.underlying22
  have HT := Lib.hid hT
  have HV := Lib.hid fun w => valid_any L c w h8
  have HC := Lib.hid fun w hT => check_any L c w h8 hT
  obtain ⟨R, hR⟩ : ∃ R, fixZ L c = R := ⟨_, rfl⟩
  rw [hR]
  clear hT
  cases hv : validB L c with
  | false =>
    have HE : Hid (R = (Z8, 0, 1)) := Lib.hid (by rw [← hR]; unfold fixZ; rw [hv, if_neg (by decide)])
    rw [hv] at HV
    clear hR HC hv
    go_enter Tryd.func10, Tryd.ntmps10
    go_wp2_with ((with_reducible refine arm_row 22 w.heap.size 22 _ (Arr2_0 w (iv L) 22 _) _ H22.out rfl HI.out rfl _ rfl ?_ ?_); focus rfl)
    refine (HV.out _).mono ?_
    rintro e w1 ⟨rfl, hb⟩
    have HZ : Hid (Arr w1 (w.heap.size + 1) 22 (iv Z8)) := Lib.hid (Arr.keep (a2_1 _ _ _) hb)
    have HB : Hid (Below w.heap.size w w1) := Lib.hid (bel_on (bel2 _ _ _) hb)
    clear hb
    go_wp2_with ((with_reducible refine arm_put 22 (w.heap.size + 1) 22 _ _ HZ.out HIZ.out rfl HOZ.out rfl _ _ rfl ?_ ?_ ?_); (focus rfl); (focus rfl))
    refine bodyPost_ret (v := fr (Z8, 0, 1)) (ret_row3 Tryd.results10 _ _ (w.heap.size + 1) 22 (iv Z8) (HZ.out.row _) rfl _ H22.out rfl HIZ.out _ _ rfl rfl) rfl ?_
    exact ⟨by rw [HE.out], bel_row HB.out (by omega) _⟩
  | true =>
    rw [hv] at HV
    have hst := chkZ_state L c
    have HR0 : (chkZ L c).1 = 0 → R = (L, c, 0) := fun h => by rw [← hR]; unfold fixZ; rw [hv, if_pos rfl, if_neg (by omega), if_neg (by omega)]
    have HR2 : (chkZ L c).1 = 2 → R = (Z8, 0, 9) := fun h => by rw [← hR]; unfold fixZ; rw [hv, if_pos rfl, if_pos h]
    have HR1 : (chkZ L c).1 = 1 → R = (ci (flipR (nw L) c.toNat ((chkZ L c).2.1 : Nat) ((chkZ L c).2.2 : Nat)).1, (((flipR (nw L) c.toNat ((chkZ L c).2.1 : Nat) ((chkZ L c).2.2 : Nat)).2 : Nat) : Int), 0) := fun h => by rw [← hR]; unfold fixZ; rw [hv, if_pos rfl, if_neg (by omega), if_pos h]
    unfold validB at hv
    simp only [Bool.and_eq_true, decide_eq_true_eq] at hv
    obtain ⟨ha, hc0, hc1⟩ := hv
    obtain ⟨hL, hs⟩ := of_all ha
    have hlen : (nw L).length = 8 := by rw [nw_len, h8]
    obtain ⟨m, rfl⟩ : ∃ m : Nat, c = m := ⟨c.toNat, by omega⟩
    rw [Int.toNat_natCast] at HR1
    generalize chkZ L (m : Int) = r at *
    obtain ⟨st, kk, bb⟩ := r
    simp only at hst HR0 HR1 HR2
    have HF := Lib.hid fun w => flip_any (nw L) m kk bb w hlen hs (by omega)
    have hfl : (flipR (nw L) m kk bb).1.length = 8 := by rw [flipR_len, hlen]
    rw [← hL] at HF
    have HIF := Lib.hid (size22' (l := ci (flipR (nw L) m kk bb).1) (by rw [ci_len, hfl]))
    have HOF := Lib.hid (iv_one (ci (flipR (nw L) m kk bb).1))
    have HLF := Lib.hid (show (iv L).length = (iv (ci (flipR (nw L) m kk bb).1)).length by rw [iv_len, iv_len, ci_len, hfl, h8])
    have HLF2 := Lib.hid (show (iv Z8).length = (iv (ci (flipR (nw L) m kk bb).1)).length by rw [iv_len, iv_len, ci_len, hfl]; rfl)
    generalize flipR (nw L) m kk bb = f at *
    obtain ⟨fw, fc⟩ := f
    simp only at HIF HOF HLF HLF2 HR1
    clear ha hL hs hlen hfl hc0 hc1 hR
    have HR0' := Lib.hid HR0
    have HR1' := Lib.hid HR1
    have HR2' := Lib.hid HR2
    clear HR0 HR1 HR2
    rcases hst with rfl | rfl | rfl
    · go_enter Tryd.func10, Tryd.ntmps10
      go_wp2_with ((with_reducible refine arm_row 22 w.heap.size 22 _ (Arr2_0 w (iv L) 22 _) _ H22.out rfl HI.out rfl _ rfl ?_ ?_); focus rfl)
      refine (HV.out _).mono ?_
      rintro e w1 ⟨rfl, hb⟩
      have HA : Hid (Arr w1 w.heap.size 22 (iv L)) := Lib.hid (Arr.keep (a2_0 _ _ _) hb)
      have HZ : Hid (Arr w1 (w.heap.size + 1) 22 (iv Z8)) := Lib.hid (Arr.keep (a2_1 _ _ _) hb)
      have HB : Hid (Below w.heap.size w w1) := Lib.hid (bel_on (bel2 _ _ _) hb)
      clear hb
      go_wp2_with ((with_reducible refine arm_row 22 w.heap.size 22 _ HA.out _ H22.out rfl HI.out rfl _ rfl ?_ ?_); focus rfl)
      refine (HC.out _ (HT.out.keep HB.out)).mono ?_
      rintro e w2 ⟨rfl, hb⟩
      have HA2 := Lib.hid (HA.out.keep hb)
      have HZ2 := Lib.hid (HZ.out.keep hb)
      have HB2 := Lib.hid (bel_on HB.out hb)
      clear hb HA HZ HB
      unfold t3
      go_wp2_with (first
        | ((with_reducible refine arm_row 22 w.heap.size 22 _ HA2.out _ H22.out rfl HI.out rfl _ rfl ?_ ?_); focus rfl)
        | ((with_reducible refine arm_put 22 (w.heap.size + 1) 22 _ _ HZ2.out HI.out HL.out HO.out rfl _ _ rfl ?_ ?_ ?_); (focus rfl); (focus rfl)))
      refine bodyPost_ret (v := fr (L, m, 0)) (ret_row3 Tryd.results10 _ _ (w.heap.size + 1) 22 (iv L) (HZ2.out.row _) rfl _ H22.out rfl HI.out _ _ rfl rfl) rfl ?_
      exact ⟨by rw [HR0'.out (by first | exact rfl | trivial)], bel_row HB2.out (by omega) _⟩
    · go_enter Tryd.func10, Tryd.ntmps10
      go_wp2_with ((with_reducible refine arm_row 22 w.heap.size 22 _ (Arr2_0 w (iv L) 22 _) _ H22.out rfl HI.out rfl _ rfl ?_ ?_); focus rfl)
      refine (HV.out _).mono ?_
      rintro e w1 ⟨rfl, hb⟩
      have HA : Hid (Arr w1 w.heap.size 22 (iv L)) := Lib.hid (Arr.keep (a2_0 _ _ _) hb)
      have HZ : Hid (Arr w1 (w.heap.size + 1) 22 (iv Z8)) := Lib.hid (Arr.keep (a2_1 _ _ _) hb)
      have HB : Hid (Below w.heap.size w w1) := Lib.hid (bel_on (bel2 _ _ _) hb)
      clear hb
      go_wp2_with ((with_reducible refine arm_row 22 w.heap.size 22 _ HA.out _ H22.out rfl HI.out rfl _ rfl ?_ ?_); focus rfl)
      refine (HC.out _ (HT.out.keep HB.out)).mono ?_
      rintro e w2 ⟨rfl, hb⟩
      have HA2 := Lib.hid (HA.out.keep hb)
      have HZ2 := Lib.hid (HZ.out.keep hb)
      have HB2 := Lib.hid (bel_on HB.out hb)
      clear hb HA HZ HB
      unfold t3
      go_wp2_with ((with_reducible refine arm_row 22 w.heap.size 22 _ HA2.out _ H22.out rfl HI.out rfl _ rfl ?_ ?_); focus rfl)
      refine (HF.out _).mono ?_
      rintro e w3 ⟨rfl, hb⟩
      have HA3 := Lib.hid (HA2.out.keep hb)
      have HZ3 := Lib.hid (HZ2.out.keep hb)
      have HB3 := Lib.hid (bel_on HB2.out hb)
      clear hb HA2 HZ2 HB2
      unfold pr
      have HA4 : Hid (Arr (w3.setRow w.heap.size (iv (ci fw)).toArray) w.heap.size 22 (iv (ci fw))) := Lib.hid (HA3.out.row _)
      have HZ4 : Hid (Arr (w3.setRow w.heap.size (iv (ci fw)).toArray) (w.heap.size + 1) 22 (iv Z8)) := Lib.hid (HZ3.out.row_other (by omega) _)
      have HB4 : Hid (Below w.heap.size w (w3.setRow w.heap.size (iv (ci fw)).toArray)) := Lib.hid (bel_row HB3.out (Nat.le_refl _) _)
      go_wp2_with (first
        | ((with_reducible refine arm_put 22 w.heap.size 22 _ _ HA3.out HIF.out HLF.out HOF.out rfl _ _ rfl ?_ ?_ ?_); (focus rfl); (focus rfl))
        | ((with_reducible refine arm_row 22 w.heap.size 22 _ HA4.out _ H22.out rfl HIF.out rfl _ rfl ?_ ?_); focus rfl)
        | ((with_reducible refine arm_put 22 (w.heap.size + 1) 22 _ _ HZ4.out HIF.out HLF2.out HOF.out rfl _ _ rfl ?_ ?_ ?_); (focus rfl); (focus rfl)))
      refine bodyPost_ret (v := fr (ci fw, fc, 0)) (ret_row3 Tryd.results10 _ _ (w.heap.size + 1) 22 (iv (ci fw)) (HZ4.out.row _) rfl _ H22.out rfl HIF.out _ _ rfl rfl) rfl ?_
      exact ⟨by rw [HR1'.out (by first | exact rfl | trivial)], bel_row HB4.out (by omega) _⟩
    · go_enter Tryd.func10, Tryd.ntmps10
      go_wp2_with ((with_reducible refine arm_row 22 w.heap.size 22 _ (Arr2_0 w (iv L) 22 _) _ H22.out rfl HI.out rfl _ rfl ?_ ?_); focus rfl)
      refine (HV.out _).mono ?_
      rintro e w1 ⟨rfl, hb⟩
      have HA : Hid (Arr w1 w.heap.size 22 (iv L)) := Lib.hid (Arr.keep (a2_0 _ _ _) hb)
      have HZ : Hid (Arr w1 (w.heap.size + 1) 22 (iv Z8)) := Lib.hid (Arr.keep (a2_1 _ _ _) hb)
      have HB : Hid (Below w.heap.size w w1) := Lib.hid (bel_on (bel2 _ _ _) hb)
      clear hb
      go_wp2_with ((with_reducible refine arm_row 22 w.heap.size 22 _ HA.out _ H22.out rfl HI.out rfl _ rfl ?_ ?_); focus rfl)
      refine (HC.out _ (HT.out.keep HB.out)).mono ?_
      rintro e w2 ⟨rfl, hb⟩
      have HZ2 := Lib.hid (HZ.out.keep hb)
      have HB2 := Lib.hid (bel_on HB.out hb)
      clear hb HA HZ HB
      unfold t3
      go_wp2_with ((with_reducible refine arm_put 22 (w.heap.size + 1) 22 _ _ HZ2.out HIZ.out rfl HOZ.out rfl _ _ rfl ?_ ?_ ?_); (focus rfl); (focus rfl))
      refine bodyPost_ret (v := fr (Z8, 0, 9)) (ret_row3 Tryd.results10 _ _ (w.heap.size + 1) 22 (iv Z8) (HZ2.out.row _) rfl _ H22.out rfl HIZ.out _ _ rfl rfl) rfl ?_
      exact ⟨by rw [HR2'.out (by first | exact rfl | trivial)], bel_row HB2.out (by omega) _⟩
end Go.Proofs.YthidababplamgaaDoor
