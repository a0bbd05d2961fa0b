/- What code's Flip does. -/
import Derived.Test.YthidababplamgaaDoorC5
import Derived.StillTailTactics
namespace Go.Proofs.YthidababplamgaaDoor
open Go.RowKit
theorem wrapEq (x : Int) : IntKind.i64.wrap x = wrap64 x := by rw [IntKind.wrap_i64]; unfold wrap64; rfl
theorem dataB_of {k b : Int} (h : dataB k b = true) : 0 ≤ k ∧ k < 8 ∧ 0 ≤ b ∧ b < 40 := by unfold dataB at h; simpa using h
theorem codeB_of {k b : Int} (h : codeB k b = true) : k = 8 ∧ 0 ≤ b ∧ b < 10 := by unfold codeB at h; simpa using h
/-- One bit inverted. -/
def flipR (ws : List Nat) (c : Nat) (k b : Int) : List Nat × Nat :=
  if dataB k b then (ws.set k.toNat (ws.getD k.toNat 0 ^^^ 2 ^ b.toNat), c) else if codeB k b then (ws, c ^^^ 2 ^ b.toNat) else (ws, c)
def pr (r : List Nat × Nat) : Value := .tuple #[.agg (iv (ci r.1)).toArray, .int .i64 (r.2 : Int)]
/-- A block and a number are handed back. -/
theorem ret_row2 {fn : Func} {p q : Tmp} {ty : TypeId} (h : fn.results = #[.cell p ty, .tmp q]) (tmps : Array Value) (w : World) (g t : Nat) (cs : List Value) (hA : Arr w g t cs) (hp : tmps.getD p undef = .pointer (some ⟨g, 0, none⟩))
    (d : TypeDesc) (hu : Tryd.prog.underlying ty = some d) (hd : d.isRow = true) (hi : (Tryd.prog.info? ty).map (·.size) = some cs.length) (v : Value) (hv : tmps.getD q undef = v) :
    (results fn tmps).run Tryd.prog w = .ok (.tuple #[.agg cs.toArray, v]) w := by
  have hp' : tmps[p]?.getD undef = .pointer (some ⟨g, 0, none⟩) := by simpa using hp
  have hv' : tmps[q]?.getD undef = v := by simpa using hv
  simp [results, h, hp', hv', asAddr, run_loadVar_mid w g 0 ty cs d hA.range hu hd hi]
theorem set_lt {ws : List Nat} (hs : ∀ x ∈ ws, x < 1099511627776) (k b : Nat) (hk : k < ws.length) (hb : b < 40) : ws.getD k 0 < 1099511627776 ∧ ws.getD k 0 ^^^ 2 ^ b < 1099511627776 ∧ ∀ x ∈ ws.set k (ws.getD k 0 ^^^ 2 ^ b), x < 1099511627776 := by
  have e : ws.getD k 0 = ws[k] := by simp [hk]
  have h1 : ws.getD k 0 < 1099511627776 := by rw [e]; exact hs _ (List.getElem_mem hk)
  have h2 : ws.getD k 0 ^^^ 2 ^ b < 2 ^ 40 := Nat.xor_lt_two_pow (n := 40) h1 (two_pow_lt hb)
  refine ⟨h1, h2, fun x hx => ?_⟩
  rcases List.mem_or_eq_of_mem_set hx with h | h
  · exact hs x h
  · rw [h]; exact h2
theorem pow_le39 (b : Nat) (hb : b < 40) : 2 ^ b ≤ 549755813888 := Nat.pow_le_pow_right (n := 2) (i := b) (j := 39) (by decide) (by omega)
def Z8 : List Int := [0, 0, 0, 0, 0, 0, 0, 0]
set_option maxRecDepth 100000 in
set_option maxHeartbeats 1000000 in
theorem flip_any (ws : List Nat) (c : Nat) (k b : Int) (w : World) (h8 : ws.length = 8) (hs : ∀ x ∈ ws, x < 1099511627776) (hc : c < 1024) :
    Calls Tryd.prog 22 #[.agg (iv (ci ws)).toArray, .int .i64 (c : Int), .int .i64 k, .int .i64 b] w fun e w' => e = .returned (pr (flipR ws c k b)) ∧ Below w.heap.size w w' := by
  have hl : (ci ws).length = 8 := by rw [ci_len, h8]
  have HI := Lib.hid (size22' hl)
  have HO := Lib.hid (iv_one (ci ws))
  have HL := Lib.hid (show (iv Z8).length = (iv (ci ws)).length by rw [iv_len, iv_len, hl]; rfl)
  have HD := Lib.hid fun w => isData_any k b w
  have HC := Lib.hid fun w => isCode_any k b w
  have H22 := Lib.hid Tryd.underlying22
  obtain ⟨R, hR⟩ : ∃ R, flipR ws c k b = R := ⟨_, rfl⟩
  rw [hR]
  cases hd : dataB k b with
  | true =>
    have e : R = (ws.set k.toNat (ws.getD k.toNat 0 ^^^ 2 ^ b.toNat), c) := by rw [← hR]; unfold flipR; rw [hd, if_pos rfl]
    rw [hd] at HD
    obtain ⟨h1, h2, h3, h4⟩ := dataB_of hd
    have hkn : k.toNat < ws.length := by omega
    obtain ⟨g1, g2, g3⟩ := set_lt hs k.toNat b.toNat hkn (by omega)
    have hp := pow_le39 b.toNat (by omega)
    have hx := i64_xor_nat (ws.getD k.toNat 0) (2 ^ b.toNat) (by omega) (by omega)
    have hw := pow_w b h3 (by omega)
    have hwi : IntKind.i64.wrap (2 ^ b.toNat) = ((2 ^ b.toNat : Nat) : Int) := by rw [wrapEq, hw]
    obtain ⟨kn, rfl⟩ : ∃ kn : Nat, k = kn := ⟨k.toNat, by omega⟩
    rw [Int.toNat_natCast] at *
    have hset := ci_set ws kn (ws.getD kn 0 ^^^ 2 ^ b.toNat)
    have hcg := iv_at (l := ci ws) (k := kn) (by omega)
    rw [ci_get] at hcg
    have hst := iv_set (ci ws) kn ((ws.getD kn 0 ^^^ 2 ^ b.toNat : Nat) : Int)
    rw [hset] at hst
    have hl2 : (ws.set kn (ws.getD kn 0 ^^^ 2 ^ b.toNat)).length = 8 := by simp [h8]
    have HI2 := Lib.hid (size22' (l := ci (ws.set kn (ws.getD kn 0 ^^^ 2 ^ b.toNat))) (by rw [ci_len, hl2]))
    have HO2 := Lib.hid (iv_one (ci (ws.set kn (ws.getD kn 0 ^^^ 2 ^ b.toNat))))
    have HL2 := Lib.hid (show (iv Z8).length = (iv (ci (ws.set kn (ws.getD kn 0 ^^^ 2 ^ b.toNat)))).length by rw [iv_len, iv_len, ci_len, hl2]; rfl)
    generalize ws.set kn (ws.getD kn 0 ^^^ 2 ^ b.toNat) = ws2 at *
    generalize ws.getD kn 0 ^^^ 2 ^ b.toNat = y at *
    generalize ws.getD kn 0 = x at *
    generalize 2 ^ b.toNat = p at *
    have HE := Lib.hid e
    have HST := Lib.hid hst
    have HCG := Lib.hid hcg
    clear e hst hcg hset hR hd g1 g2 g3 hp hs hl2 hc
    go_enter Tryd.func22, Tryd.ntmps22
    go_wp2_with fail
    refine (HD.out _).mono ?_
    rintro e w1 ⟨rfl, hw1⟩
    have HA : Hid (Arr w1 w.heap.size 22 (iv (ci ws))) := Lib.hid (by rw [hw1]; exact a2_0 _ _ _)
    have HZ : Hid (Arr w1 (w.heap.size + 1) 22 (iv Z8)) := Lib.hid (by rw [hw1]; exact a2_1 _ _ _)
    have HB : Hid (Below w.heap.size w w1) := Lib.hid (by rw [hw1]; exact bel2 _ _ _)
    clear hw1
    have hcell := HA.out.cell HCG.out
    have hfree := HA.out.free kn
    go_wp2_with fail
    go_still_tail 7, (by kernel_rfl)
    change wpList _ _ _ _ _ w1.drew
    have hbd := bel_drew w1
    have HA2 := Lib.hid (HA.out.keep hbd)
    have HZ2 := Lib.hid (HZ.out.keep hbd)
    have HB2 := Lib.hid (bel_on HB.out hbd)
    generalize w1.drew = w2 at *
    clear hbd hcell hfree HA HZ HB
    have hcell := HA2.out.cell HCG.out
    have hfree := HA2.out.free kn
    have hA3 : Arr (w2.setCell ⟨w.heap.size, kn, none⟩ (.int .i64 (y : Int))) w.heap.size 22 (iv (ci ws2)) := by
      have := HA2.out.set kn (.int .i64 (y : Int))
      rwa [HST.out] at this
    have HA3 := Lib.hid hA3
    have HZ3 : Hid (Arr (w2.setCell ⟨w.heap.size, kn, none⟩ (.int .i64 (y : Int))) (w.heap.size + 1) 22 (iv Z8)) := Lib.hid (HZ2.out.other (by simp) _)
    have HB3 : Hid (Below w.heap.size w (w2.setCell ⟨w.heap.size, kn, none⟩ (.int .i64 (y : Int)))) := Lib.hid (HB2.out.setCell (Nat.le_refl _) _)
    clear hA3
    go_wp2_with (first
      | ((with_reducible refine arm_row 22 w.heap.size 22 _ HA3.out _ H22.out rfl HI2.out rfl _ rfl ?_ ?_); focus rfl)
      | ((with_reducible refine arm_put 22 (w.heap.size + 1) 22 _ _ HZ3.out HI2.out HL2.out HO2.out rfl _ _ rfl ?_ ?_ ?_); (focus rfl); (focus rfl)))
    refine bodyPost_ret (v := pr (ws2, c)) (ret_row2 Tryd.results22 _ _ (w.heap.size + 1) 22 (iv (ci ws2)) (HZ3.out.row _) rfl _ H22.out rfl HI2.out _ rfl) rfl ?_
    exact ⟨by rw [HE.out], bel_row HB3.out (by omega) _⟩
  | false =>
    rw [hd] at HD
    cases hcd : codeB k b with
    | true =>
      have e : R = (ws, c ^^^ 2 ^ b.toNat) := by rw [← hR]; unfold flipR; rw [hd, hcd, if_neg (by decide), if_pos rfl]
      rw [hcd] at HC
      obtain ⟨rfl, h3, h4⟩ := codeB_of hcd
      have hp := pow_le39 b.toNat (by omega)
      have hx := i64_xor_nat c (2 ^ b.toNat) (by omega) (by omega)
      have hw := pow_w b h3 (by omega)
      have hwi : IntKind.i64.wrap (2 ^ b.toNat) = ((2 ^ b.toNat : Nat) : Int) := by rw [wrapEq, hw]
      generalize c ^^^ 2 ^ b.toNat = y at *
      generalize 2 ^ b.toNat = p at *
      have HE := Lib.hid e
      clear e hR hd hcd hp hs hc
      go_enter Tryd.func22, Tryd.ntmps22
      go_wp2_with fail
      refine (HD.out _).mono ?_
      rintro e w1 ⟨rfl, hw1⟩
      have HA : Hid (Arr w1 w.heap.size 22 (iv (ci ws))) := Lib.hid (by rw [hw1]; exact a2_0 _ _ _)
      have HZ : Hid (Arr w1 (w.heap.size + 1) 22 (iv Z8)) := Lib.hid (by rw [hw1]; exact a2_1 _ _ _)
      have HB : Hid (Below w.heap.size w w1) := Lib.hid (by rw [hw1]; exact bel2 _ _ _)
      clear hw1
      go_wp2_with fail
      refine (HC.out _).mono ?_
      rintro e w2 ⟨rfl, rfl⟩
      go_wp2_with (first
        | ((with_reducible refine arm_row 22 w.heap.size 22 _ HA.out _ H22.out rfl HI.out rfl _ rfl ?_ ?_); focus rfl)
        | ((with_reducible refine arm_put 22 (w.heap.size + 1) 22 _ _ HZ.out HI.out HL.out HO.out rfl _ _ rfl ?_ ?_ ?_); (focus rfl); (focus rfl)))
      refine bodyPost_ret (v := pr (ws, y)) (ret_row2 Tryd.results22 _ _ (w.heap.size + 1) 22 (iv (ci ws)) (HZ.out.row _) rfl _ H22.out rfl HI.out _ rfl) rfl ?_
      exact ⟨by rw [HE.out], bel_row HB.out (by omega) _⟩
    | false =>
      have e : R = (ws, c) := by rw [← hR]; unfold flipR; rw [hd, hcd, if_neg (by decide), if_neg (by decide)]
      rw [hcd] at HC
      have HE := Lib.hid e
      clear e hR hd hcd hs hc
      go_enter Tryd.func22, Tryd.ntmps22
      go_wp2_with fail
      refine (HD.out _).mono ?_
      rintro e w1 ⟨rfl, hw1⟩
      have HA : Hid (Arr w1 w.heap.size 22 (iv (ci ws))) := Lib.hid (by rw [hw1]; exact a2_0 _ _ _)
      have HZ : Hid (Arr w1 (w.heap.size + 1) 22 (iv Z8)) := Lib.hid (by rw [hw1]; exact a2_1 _ _ _)
      have HB : Hid (Below w.heap.size w w1) := Lib.hid (by rw [hw1]; exact bel2 _ _ _)
      clear hw1
      go_wp2_with fail
      refine (HC.out _).mono ?_
      rintro e w2 ⟨rfl, rfl⟩
      go_wp2_with (first
        | ((with_reducible refine arm_row 22 w.heap.size 22 _ HA.out _ H22.out rfl HI.out rfl _ rfl ?_ ?_); focus rfl)
        | ((with_reducible refine arm_put 22 (w.heap.size + 1) 22 _ _ HZ.out HI.out HL.out HO.out rfl _ _ rfl ?_ ?_ ?_); (focus rfl); (focus rfl)))
      refine bodyPost_ret (v := pr (ws, c)) (ret_row2 Tryd.results22 _ _ (w.heap.size + 1) 22 (iv (ci ws)) (HZ.out.row _) rfl _ H22.out rfl HI.out _ rfl) rfl ?_
      exact ⟨by rw [HE.out], bel_row HB.out (by omega) _⟩
end Go.Proofs.YthidababplamgaaDoor
