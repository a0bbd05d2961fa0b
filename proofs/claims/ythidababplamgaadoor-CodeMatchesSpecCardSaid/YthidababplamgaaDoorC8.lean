/- What code's Distance does. -/
import Derived.Test.YthidababplamgaaDoorC7
namespace Go.Proofs.YthidababplamgaaDoor
open Go.RowKit
theorem arm_rowg {ops : Array Oper} {rest : List Oper} {o : Oper} {a : Act} {Q : Exit → Act → World → Prop} {w : World} (ty g t : Nat) (cs : List Value) (hA : Arr w g t cs) (d : TypeDesc) (hu : Tryd.prog.underlying ty = some d) (hd : d.isRow = true) (hi : (Tryd.prog.info? ty).map (·.size) = some cs.length)
    (hw : Region.wanted o (yielded ops a.tmps) = true) (x : Operand) (ho : o.op = .load ty x) (hx : a.eval x = .pointer (some ⟨g, 0, none⟩))
    (h : wpList Tryd.prog ops Q rest (a.put o.dst (.agg cs.toArray)) w) : wpList Tryd.prog ops Q (o :: rest) a w := by
  refine wpList_step fun K hK => ?_
  rw [if_pos hw]
  exact wp_load_mid ty x ho g 0 hx cs d hA.range hu hd hi (hK _ _ h)
/-- The exclusive or of two lines, word by word. -/
def xorL (vs us : List Nat) : List Nat := List.zipWith (fun a b => a ^^^ b) vs us
def mix (vs us : List Nat) : Nat → List Nat
  | 0 => vs
  | k + 1 => (mix vs us k).set k (vs.getD k 0 ^^^ us.getD k 0)
theorem mix_len (vs us : List Nat) : ∀ k, (mix vs us k).length = vs.length := by
  intro k
  induction k with
  | zero => rfl
  | succ k ih => unfold mix; rw [List.length_set, ih]
theorem mix_get (vs us : List Nat) : ∀ k j, j < vs.length → (mix vs us k).getD j 0 = if j < k then vs.getD j 0 ^^^ us.getD j 0 else vs.getD j 0 := by
  intro k
  induction k with
  | zero => intro j _; rw [if_neg (by omega)]; rfl
  | succ k ih =>
    intro j hj
    unfold mix
    rw [List.getD_eq_getElem?_getD, List.getElem?_set]
    by_cases h : k = j
    · subst h
      rw [if_pos rfl, mix_len, if_pos hj, if_pos (by omega)]
      rfl
    · rw [if_neg h, ← List.getD_eq_getElem?_getD, ih j hj]
      by_cases h2 : j < k
      · rw [if_pos h2, if_pos (by omega)]
      · rw [if_neg h2, if_neg (by omega)]
theorem xorL_len (vs us : List Nat) (h : us.length = vs.length) : (xorL vs us).length = vs.length := by simp [xorL, h]
theorem xorL_get (vs us : List Nat) (h : us.length = vs.length) (j : Nat) (hj : j < vs.length) : (xorL vs us).getD j 0 = vs.getD j 0 ^^^ us.getD j 0 := by
  have hj2 : j < us.length := by omega
  have hz : j < (xorL vs us).length := by rw [xorL_len vs us h]; exact hj
  rw [List.getD_eq_getElem?_getD, List.getElem?_eq_getElem hz]
  simp [xorL, hj, hj2]
theorem mix_all (vs us : List Nat) (h : us.length = vs.length) : mix vs us vs.length = xorL vs us := by
  refine List.ext_getElem (by rw [mix_len, xorL_len vs us h]) fun j h1 h2 => ?_
  have hj : j < vs.length := by rw [mix_len] at h1; exact h1
  have e1 := mix_get vs us vs.length j hj
  rw [if_pos hj, ← xorL_get vs us h j hj] at e1
  rw [List.getD_eq_getElem?_getD, List.getD_eq_getElem?_getD, List.getElem?_eq_getElem h1, List.getElem?_eq_getElem h2] at e1
  exact e1
theorem get_lt {ws : List Nat} (hs : ∀ x ∈ ws, x < 1099511627776) (k : Nat) : ws.getD k 0 < 1099511627776 := by
  rw [List.getD_eq_getElem?_getD]
  cases h : ws[k]? with
  | none => decide
  | some x =>
    rcases List.getElem?_eq_some_iff.1 h with ⟨hk, rfl⟩
    exact hs _ (List.getElem_mem hk)
theorem xorL_lt {vs us : List Nat} (h : us.length = vs.length) (hv : ∀ x ∈ vs, x < 1099511627776) (hu : ∀ x ∈ us, x < 1099511627776) : ∀ x ∈ xorL vs us, x < 1099511627776 := by
  intro x hx
  obtain ⟨j, hj, rfl⟩ := List.mem_iff_getElem.1 hx
  have hj2 : j < vs.length := by rw [xorL_len vs us h] at hj; exact hj
  have e := xorL_get vs us h j hj2
  rw [List.getD_eq_getElem?_getD, List.getElem?_eq_getElem hj] at e
  rw [show (xorL vs us)[j] = vs.getD j 0 ^^^ us.getD j 0 from e]
  exact Nat.xor_lt_two_pow (n := 40) (get_lt hv j) (get_lt hu j)
/-- In how many bits two lines with their codes differ. -/
def distZ (V : List Int) (a : Int) (U : List Int) (b : Int) : Int :=
  if validB V a ∧ validB U b then ((popT (xorL (nw V) (nw U)) (a.toNat ^^^ b.toNat) : Nat) : Int) else -1
set_option maxRecDepth 100000 in
set_option maxHeartbeats 1000000 in
theorem dist_any (V : List Int) (a : Int) (U : List Int) (b : Int) (w : World) (h8 : V.length = 8) (h8' : U.length = 8) :
    Calls Tryd.prog 18 #[.agg (iv V).toArray, .int .i64 a, .agg (iv U).toArray, .int .i64 b] w fun e w' => e = .returned (.int .i64 (distZ V a U b)) ∧ Below w.heap.size w w' := by
  have HI := Lib.hid (size22' (l := V) h8)
  have HIU := Lib.hid (size22' (l := U) h8')
  have H22 := Lib.hid Tryd.underlying22
  have HV := Lib.hid fun w => valid_any V a w h8
  have HU := Lib.hid fun w => valid_any U b w h8'
  obtain ⟨R, hR⟩ : ∃ R, distZ V a U b = R := ⟨_, rfl⟩
  rw [hR]
  cases hv : validB V a with
  | false =>
    have HE : Hid (R = -1) := Lib.hid (by rw [← hR]; unfold distZ; rw [hv, if_neg (by simp)])
    rw [hv] at HV
    clear hR hv HU
    go_enter Tryd.func18, Tryd.ntmps18
    go_wp2_with ((with_reducible refine arm_row 22 w.heap.size 22 _ (Arr2_0 w (iv V) 22 _) _ H22.out rfl HI.out rfl _ rfl ?_ ?_); focus rfl)
    refine (HV.out _).mono ?_
    rintro e w1 ⟨rfl, hb⟩
    have HB : Hid (Below w.heap.size w w1) := Lib.hid (bel_on (bel2 _ _ _) hb)
    clear hb
    go_wp2_with fail
    go_ret
    exact ⟨by rw [HE.out]; rfl, HB.out⟩
  | true =>
    rw [hv] at HV
    cases hu : validB U b with
    | false =>
      have HE : Hid (R = -1) := Lib.hid (by rw [← hR]; unfold distZ; rw [hu, if_neg (by simp)])
      rw [hu] at HU
      clear hR hv hu
      go_enter Tryd.func18, Tryd.ntmps18
      go_wp2_with ((with_reducible refine arm_row 22 w.heap.size 22 _ (Arr2_0 w (iv V) 22 _) _ H22.out rfl HI.out rfl _ rfl ?_ ?_); focus rfl)
      refine (HV.out _).mono ?_
      rintro e w1 ⟨rfl, hb⟩
      have HAU : Hid (Arr w1 (w.heap.size + 1) 22 (iv U)) := Lib.hid (Arr.keep (a2_1 _ _ _) hb)
      have HB : Hid (Below w.heap.size w w1) := Lib.hid (bel_on (bel2 _ _ _) hb)
      clear hb
      go_wp2_with ((with_reducible refine arm_rowg 22 (w.heap.size + 1) 22 _ HAU.out _ H22.out rfl HIU.out ?_ _ rfl ?_ ?_); (focus rfl); (focus rfl))
      refine (HU.out _).mono ?_
      rintro e w2 ⟨rfl, hb⟩
      have HB2 : Hid (Below w.heap.size w w2) := Lib.hid (bel_on HB.out hb)
      clear hb
      go_wp2_with fail
      go_ret
      exact ⟨by rw [HE.out]; rfl, HB2.out⟩
    | true =>
      rw [hu] at HU
      have HE0 : R = ((popT (xorL (nw V) (nw U)) (a.toNat ^^^ b.toNat) : Nat) : Int) := by rw [← hR]; unfold distZ; rw [hv, hu, if_pos ⟨rfl, rfl⟩]
      unfold validB at hv hu
      simp only [Bool.and_eq_true, decide_eq_true_eq] at hv hu
      obtain ⟨ha, hc0, hc1⟩ := hv
      obtain ⟨hL, hs⟩ := of_all ha
      have hlen : (nw V).length = 8 := by rw [nw_len, h8]
      obtain ⟨ha', hc0', hc1'⟩ := hu
      obtain ⟨hL', hs'⟩ := of_all ha'
      have hlen' : (nw U).length = 8 := by rw [nw_len, h8']
      generalize nw V = vs at *
      generalize nw U = us at *
      subst hL hL'
      obtain ⟨m, rfl⟩ : ∃ m : Nat, a = m := ⟨a.toNat, by omega⟩
      obtain ⟨n, rfl⟩ : ∃ n : Nat, b = n := ⟨b.toNat, by omega⟩
      rw [Int.toNat_natCast, Int.toNat_natCast] at HE0
      have hmn : m ^^^ n < 2 ^ 10 := Nat.xor_lt_two_pow (n := 10) (by omega) (by omega)
      have hxc := i64_xor_nat m n (by omega) (by omega)
      have HO := Lib.hid fun w => onesF_any (xorL vs us) (m ^^^ n) w (by rw [xorL_len vs us (by omega), hlen]) (xorL_lt (by omega) hs hs') (by omega)
      have HM := Lib.hid (show mix vs us 8 = xorL vs us by rw [← hlen]; exact mix_all vs us (by omega))
      have HIX := Lib.hid (size22' (l := ci (xorL vs us)) (by rw [ci_len, xorL_len vs us (by omega), hlen]))
      generalize m ^^^ n = mn at *
      generalize popT (xorL vs us) mn = pp at *
      have HE := Lib.hid HE0
      have HVS := Lib.hid hs
      have HUS := Lib.hid hs'
      clear hR ha ha' hc0 hc1 hc0' hc1' hmn HE0 hs hs'
      go_enter Tryd.func18, Tryd.ntmps18
      go_wp2_with ((with_reducible refine arm_row 22 w.heap.size 22 _ (Arr2_0 w (iv (ci vs)) 22 _) _ H22.out rfl HI.out rfl _ rfl ?_ ?_); focus rfl)
      refine (HV.out _).mono ?_
      rintro e w1 ⟨rfl, hb⟩
      have HAV : Hid (Arr w1 w.heap.size 22 (iv (ci vs))) := Lib.hid (Arr.keep (a2_0 _ _ _) hb)
      have HAU : Hid (Arr w1 (w.heap.size + 1) 22 (iv (ci us))) := Lib.hid (Arr.keep (a2_1 _ _ _) hb)
      have HB : Hid (Below w.heap.size w w1) := Lib.hid (bel_on (bel2 _ _ _) hb)
      clear hb
      go_wp2_with ((with_reducible refine arm_rowg 22 (w.heap.size + 1) 22 _ HAU.out _ H22.out rfl HIU.out ?_ _ rfl ?_ ?_); (focus rfl); (focus rfl))
      refine (HU.out _).mono ?_
      rintro e w2 ⟨rfl, hb⟩
      have HAV2 := Lib.hid (HAV.out.keep hb)
      have HAU2 := Lib.hid (HAU.out.keep hb)
      have HB2 : Hid (Below w.heap.size w w2) := Lib.hid (bel_on HB.out hb)
      clear hb HAV HAU HB
      go_wp2_with fail
      go_loopw [20] (fun i wr => ∃ k : Nat, i = .int .i64 (k : Int) ∧ k ≤ 8 ∧ Hid (Arr wr w.heap.size 22 (iv (ci (mix vs us k)))) ∧ Hid (Arr wr (w.heap.size + 1) 22 (iv (ci us))) ∧ Hid (Below w.heap.size w wr)) (fun i _ => 8 - (intOf i).toNat)
      case atStart => exact ⟨0, rfl, by omega, HAV2, HAU2, HB2⟩
      case round =>
        clear HAV2 HAU2 HB2
        obtain ⟨k, rfl, hk, HA, HU2, HB⟩ := hrel
        by_cases hlt : k < 8
        · have hcv := HA.out.cell (iv_at (l := ci (mix vs us k)) (k := k) (by rw [ci_len, mix_len]; omega))
          have hfv := HA.out.free k
          have hcu := HU2.out.cell (iv_at (l := ci us) (k := k) (by rw [ci_len]; omega))
          rw [ci_get, mix_get vs us k k (by omega), if_neg (Nat.lt_irrefl _)] at hcv
          rw [ci_get] at hcu
          have hx := i64_xor_nat (vs.getD k 0) (us.getD k 0) (by have := get_lt HVS.out k; omega) (by have := get_lt HUS.out k; omega)
          have hst : (iv (ci (mix vs us k))).set k (.int .i64 ((vs.getD k 0 ^^^ us.getD k 0 : Nat) : Int)) = iv (ci (mix vs us (k + 1))) := by
            rw [iv_set, ci_set]
            rfl
          have HST := Lib.hid hst
          clear hst
          generalize vs.getD k 0 ^^^ us.getD k 0 = y at *
          generalize vs.getD k 0 = x1 at *
          generalize us.getD k 0 = x2 at *
          go_wp2_with fail
          go_still_tail 8, (by kernel_rfl)
          change wpList _ _ _ _ _ wr.drew
          have hbd := bel_drew wr
          have HA2 := Lib.hid (HA.out.keep hbd)
          have HU3 := Lib.hid (HU2.out.keep hbd)
          have HB2 := Lib.hid (bel_on HB.out hbd)
          have hcv2 : wr.drew.cell? ⟨w.heap.size, k, none⟩ = some (.int .i64 (x1 : Int)) := hcv
          have hfv2 := HA2.out.free k
          generalize wr.drew = w4 at *
          clear hbd hcv hfv hcu HA HU2 HB
          have HA4 : Hid (Arr (w4.setCell ⟨w.heap.size, k, none⟩ (.int .i64 (y : Int))) w.heap.size 22 (iv (ci (mix vs us (k + 1))))) := Lib.hid (by rw [← HST.out]; exact HA2.out.set k _)
          have HU4 : Hid (Arr (w4.setCell ⟨w.heap.size, k, none⟩ (.int .i64 (y : Int))) (w.heap.size + 1) 22 (iv (ci us))) := Lib.hid (HU3.out.other (by simp) _)
          have HB4 : Hid (Below w.heap.size w (w4.setCell ⟨w.heap.size, k, none⟩ (.int .i64 (y : Int)))) := Lib.hid (HB2.out.setCell (Nat.le_refl _) _)
          go_wp2_with fail
          go_roundw
          case rel => exact ⟨k + 1, by simp, by omega, HA4, HU4, HB4⟩
          case measure => simp [intOf]; omega
        · obtain rfl : k = 8 := by omega
          rw [HM.out] at HA
          go_wp2_with ((with_reducible refine arm_row 22 w.heap.size 22 _ HA.out _ H22.out rfl HIX.out rfl _ rfl ?_ ?_); focus rfl)
          refine (HO.out _).mono ?_
          rintro e w5 ⟨rfl, hb⟩
          have HB5 := Lib.hid (bel_on HB.out hb)
          clear hb
          go_wp2_with fail
          go_ret
          exact ⟨by rw [HE.out]; rfl, HB5.out⟩
end Go.Proofs.YthidababplamgaaDoor
