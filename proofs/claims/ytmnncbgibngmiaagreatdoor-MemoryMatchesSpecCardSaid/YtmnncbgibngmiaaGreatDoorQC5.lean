/-
  What code's Check does. What code's Flip does. What code's Fix does. Lines of words, their exclusive or; their distance as a plain function. Two lines are compared.
-/
import Derived.Test.YtmnncbgibngmiaaGreatDoorQC1
import Derived.Deep.RegionHeld3
import Derived.StillTailTactics
import Derived.DeepKeys
namespace Go.Proofs.YtmnncbgibngmiaaGreatDoor
open Go.RowKit
theorem chk_find {s p : Nat} (hp : p = 1) : chkF s p = if (findF s).2.2 then (1, (findF s).1, (findF s).2.1) else (2, 0, 0) := by
  subst hp
  unfold chkF
  rw [if_neg (by omega), if_neg (by decide)]
theorem ret_t3 {a b c a' b' c' : Int} (h1 : a = a') (h2 : b = b') (h3 : c = c') : Ending.returned (.tuple #[.int .i64 a, .int .i64 b, .int .i64 c]) = .returned (.tuple #[.int .i64 a', .int .i64 b', .int .i64 c']) := by rw [h1, h2, h3]
/-- What Check says. -/
def chkZ (L : List Int) (c : Int) : Nat × Nat × Nat := if validB L c then chkF (synT (nw L) c.toNat) (popT (nw L) c.toNat % 2) else (2, 0, 0)
def t3 (r : Nat × Nat × Nat) : Value := .tuple #[.int .i64 (r.1 : Int), .int .i64 (r.2.1 : Int), .int .i64 (r.2.2 : Int)]
set_option maxRecDepth 100000 in
set_option maxHeartbeats 1000000 in
theorem check_any (L : List Int) (c : Int) (w : World) (h8 : L.length = 8) (hT : Tab w) :
    Calls Tryz.prog 63 #[.agg (iv L).toArray, .int .i64 c] w fun e w' => e = .returned (t3 (chkZ L c)) ∧ Below w.heap.size w w' := by
  have HI := Lib.hid (size22' (l := L) h8)
  have HA := Lib.hid (Arr.new w (iv L) 39)
  have HB := Lib.hid (bel_new w (.cells (iv L).toArray 39))
  have HT := Lib.hid hT
  have HV := Lib.hid fun w => valid_any L c w h8
  clear hT
  cases hv : validB L c with
  | false =>
    rw [hv] at HV
    unfold chkZ
    rw [hv, if_neg (by decide)]
    go_enter Tryz.func63, Tryz.ntmps63
    go_wp2_with ((with_reducible refine arm_row 39 w.heap.size 39 _ HA.out _ Tryz.underlying39 rfl HI.out rfl _ rfl ?_ ?_); focus rfl)
    refine (HV.out _).mono ?_
    rintro e w1 ⟨rfl, hb⟩
    have HB2 := Lib.hid (bel_on HB.out hb)
    clear hb
    go_wp2_with fail
    go_ret3
    exact ⟨rfl, HB2.out⟩
  | true =>
    rw [hv] at HV
    unfold chkZ
    rw [hv, if_pos rfl]
    have hv2 := hv
    unfold validB at hv2
    simp only [Bool.and_eq_true, decide_eq_true_eq] at hv2
    obtain ⟨ha, hc0, hc1⟩ := hv2
    obtain ⟨hL, hs⟩ := of_all ha
    have hlen : (nw L).length = 8 := by rw [nw_len, h8]
    generalize nw L = ws at *
    subst hL
    obtain ⟨m, rfl⟩ : ∃ m : Nat, c = m := ⟨c.toNat, by omega⟩
    rw [Int.toNat_natCast]
    have hm : m < 1024 := by omega
    have HS := Lib.hid fun w (hT : Tab w) => syn_any ws m w hlen hs hm hT
    have hlt : synT ws m < 512 := synT_lt hlen hs hm
    have HP := Lib.hid fun w => parity_any ws m w hlen hs (by omega)
    have hq : popT ws m % 2 < 2 := by omega
    generalize popT ws m % 2 = q at *
    generalize synT ws m = s at *
    have HF := Lib.hid fun z w hz => find_any z s w hz hlt
    obtain ⟨R, hR⟩ : ∃ R, chkF s q = R := ⟨_, rfl⟩
    rw [hR]
    have HR := Lib.hid hR
    clear hs hv ha hc0 hc1 hm hR
    go_enter Tryz.func63, Tryz.ntmps63
    go_wp2_with ((with_reducible refine arm_row 39 w.heap.size 39 _ HA.out _ Tryz.underlying39 rfl HI.out rfl _ rfl ?_ ?_); focus rfl)
    refine (HV.out _).mono ?_
    rintro e w1 ⟨rfl, hb⟩
    have HB2 := Lib.hid (bel_on HB.out hb)
    have HA2 := Lib.hid (HA.out.keep hb)
    clear hb HA HB
    go_wp2_with fail
    have hbd := bel_drew w1
    have HA3 := Lib.hid (HA2.out.keep hbd)
    have HB3 := Lib.hid (bel_on HB2.out hbd)
    have HT3 := Lib.hid (HT.out.keep HB3.out)
    have hr3 : w1.drew.rangeAt w.heap.size 0 (iv (ci ws)) := HA3.out.range
    have hu22 := Tryz.underlying39
    have hi22 := HI.out
    clear hbd
    refine wp_region_held_drew (S := fun W' => W'.rangeAt w.heap.size 0 (iv (ci ws))) (by kernel_rfl) hr3 (fun hHeld => ?_)
    refine wpAnyH_take (i := 0) (v := .agg (iv (ci ws)).toArray) rfl (by kernel_rfl) (by kernel_rfl) (by kernel_rfl) (fun _ _ _ h => h) (yieldsIf_load_mid (by rfl) _ _ rfl _ _ rfl _ _ (fun w h => h) hu22 rfl hi22) (by assumption) ?_
    change wpAnyH _ _ _ _ _ _ _ (Act.put _ (some 14) _) _
    simp only [Act.put, List.setIfInBounds_toArray, List.set_cons_zero, List.set_cons_succ]
    refine wpAnyH_take (i := 1) (v := .int .i64 (m : Int)) rfl (by kernel_rfl) (by kernel_rfl) (by kernel_rfl) (fun _ _ _ h => h) (Or.inl ⟨by rfl, fun w hSw => by go_simp⟩) (by assumption) ?_
    change wpAnyH _ _ _ _ _ _ _ (Act.put _ (some 15) _) _
    simp only [Act.put, List.setIfInBounds_toArray, List.set_cons_zero, List.set_cons_succ]
    refine wpAnyH_take (i := 3) (v := .agg (iv (ci ws)).toArray) rfl (by kernel_rfl) (by kernel_rfl) (by kernel_rfl) (fun _ _ _ h => h) (yieldsIf_load_mid (by rfl) _ _ rfl _ _ rfl _ _ (fun w h => h) hu22 rfl hi22) (by assumption) ?_
    change wpAnyH _ _ _ _ _ _ _ (Act.put _ (some 17) _) _
    simp only [Act.put, List.setIfInBounds_toArray, List.set_cons_zero, List.set_cons_succ]
    refine wpAnyH_take (i := 4) (v := .int .i64 (m : Int)) rfl (by kernel_rfl) (by kernel_rfl) (by kernel_rfl) (fun _ _ _ h => h) (Or.inl ⟨by rfl, fun w hSw => by go_simp⟩) (by assumption) ?_
    change wpAnyH _ _ _ _ _ _ _ (Act.put _ (some 18) _) _
    simp only [Act.put, List.setIfInBounds_toArray, List.set_cons_zero, List.set_cons_succ]
    refine wpAnyH_ready (rs := [2]) (by kernel_rfl) (by simp) ?_
    refine AllReadyH.cons rfl (fun K hK => ?_) AllReadyH.nil
    go_simp
    refine (HS.out _ HT3.out).mono ?_
    rintro e w4 ⟨rfl, hb⟩
    have HA4 := Lib.hid (HA3.out.keep hb)
    have HB4 := Lib.hid (bel_on HB3.out hb)
    have hr4 : w4.rangeAt w.heap.size 0 (iv (ci ws)) := HA4.out.range
    clear hb
    refine hK.out _ _ hr4 (fun hHeld4 => ?_)
    clear hK K hHeld hr3
    refine wpAnyH_ready (rs := [5]) (by kernel_rfl) (by simp) ?_
    refine AllReadyH.cons rfl (fun K hK => ?_) AllReadyH.nil
    go_simp
    refine (HP.out _).mono ?_
    rintro e w5 ⟨rfl, hb⟩
    have HA5 := Lib.hid (HA4.out.keep hb)
    have HB5 := Lib.hid (bel_on HB4.out hb)
    have hr5 : w5.rangeAt w.heap.size 0 (iv (ci ws)) := HA5.out.range
    clear hb
    refine hK.out _ _ hr5 (fun hHeld5 => ?_)
    clear hK K hHeld4 hr4
    refine wpAnyH_take (i := 6) (v := .int .i64 (s : Int)) rfl (by kernel_rfl) (by kernel_rfl) (by kernel_rfl) (fun _ _ _ h => h) (Or.inl ⟨by rfl, fun w hSw => by go_simp⟩) (by assumption) ?_
    change wpAnyH _ _ _ _ _ _ _ (Act.put _ (some 7) _) _
    simp only [Act.put, List.setIfInBounds_toArray, List.set_cons_zero, List.set_cons_succ]
    refine wpAnyH_take (i := 7) (v := .int .i64 (q : Int)) rfl (by kernel_rfl) (by kernel_rfl) (by kernel_rfl) (fun _ _ _ h => h) (Or.inl ⟨by rfl, fun w hSw => by go_simp⟩) (by assumption) ?_
    change wpAnyH _ _ _ _ _ _ _ (Act.put _ (some 8) _) _
    simp only [Act.put, List.setIfInBounds_toArray, List.set_cons_zero, List.set_cons_succ]
    refine wpAnyH_done (by kernel_rfl) ?_ _
    clear HA2 HB2 HA3 HB3 HT3 HA4 HB4 HA5 hr5
    by_cases hq0 : q = 0
    · subst hq0
      by_cases hs0 : s = 0
      · subst hs0
        have HE : Hid (R = (0, 0, 0)) := Lib.hid (by rw [← HR.out]; rfl)
        go_wp2_with fail
        go_ret3
        exact ⟨by rw [HE.out]; rfl, HB5.out⟩
      · have HE : Hid (R = (2, 0, 0)) := Lib.hid (by rw [← HR.out]; unfold chkF; rw [if_neg (by omega), if_pos rfl])
        have hsp : 0 < (s : Int) := by omega
        go_wp2_with fail
        go_ret3
        exact ⟨by rw [HE.out]; rfl, HB5.out⟩
    · have hq1 : q = 1 := by omega
      have HE := Lib.hid (HR.out.symm.trans (chk_find hq1))
      subst hq1
      generalize (findF s).1 = f1 at *
      generalize (findF s).2.1 = f2 at *
      cases hf3 : (findF s).2.2 with
      | true =>
        rw [hf3] at HE HF
        clear hf3 hq0 HR
        go_wp2_with ((go_at_call 84); refine (HF.out _ _ (by omega)).mono ?_; rintro e w6 ⟨rfl, rfl⟩)
        all_goals go_ret3
        all_goals exact ⟨by rw [HE.out]; rfl, HB5.out⟩
      | false =>
        rw [hf3] at HE HF
        clear hf3 hq0 HR
        go_wp2_with ((go_at_call 84); refine (HF.out _ _ (by omega)).mono ?_; rintro e w6 ⟨rfl, rfl⟩)
        all_goals go_ret3
        all_goals exact ⟨by rw [HE.out]; rfl, HB5.out⟩
end Go.Proofs.YtmnncbgibngmiaaGreatDoor
namespace Go.Proofs.YtmnncbgibngmiaaGreatDoor
open Go.RowKit
theorem wrapEq (x : Int) : IntKind.i64.wrap x = wrap64 x := by rw [IntKind.wrap_i64]; unfold wrap64; rfl
theorem dataB_of {k b : Int} (h : dataB k b = true) : 0 ≤ k ∧ k < 8 ∧ 0 ≤ b ∧ b < 40 := by unfold dataB at h; simpa using h
theorem codeB_of {k b : Int} (h : codeB k b = true) : k = 8 ∧ 0 ≤ b ∧ b < 10 := by unfold codeB at h; simpa using h
/-- One bit inverted. -/
def flipR (ws : List Nat) (c : Nat) (k b : Int) : List Nat × Nat :=
  if dataB k b then (ws.set k.toNat (ws.getD k.toNat 0 ^^^ 2 ^ b.toNat), c) else if codeB k b then (ws, c ^^^ 2 ^ b.toNat) else (ws, c)
def pr (r : List Nat × Nat) : Value := .tuple #[.agg (iv (ci r.1)).toArray, .int .i64 (r.2 : Int)]
/-- A block and a number are handed back. -/
theorem ret_row2 {fn : Func} {p q : Tmp} {ty : TypeId} (h : fn.results = #[.cell p ty, .tmp q]) (tmps : Array Value) (w : World) (g t : Nat) (cs : List Value) (hA : Arr w g t cs) (hp : tmps.getD p undef = .pointer (some ⟨g, 0, none⟩))
    (d : TypeDesc) (hu : Tryz.prog.underlying ty = some d) (hd : d.isRow = true) (hi : (Tryz.prog.info? ty).map (·.size) = some cs.length) (v : Value) (hv : tmps.getD q undef = v) :
    (results fn tmps).run Tryz.prog w = .ok (.tuple #[.agg cs.toArray, v]) w := by
  have hp' : tmps[p]?.getD undef = .pointer (some ⟨g, 0, none⟩) := by simpa using hp
  have hv' : tmps[q]?.getD undef = v := by simpa using hv
  simp [results, h, hp', hv', asAddr, run_loadVar_mid w g 0 ty cs d hA.range hu hd hi]
theorem set_lt {ws : List Nat} (hs : ∀ x ∈ ws, x < 1099511627776) (k b : Nat) (hk : k < ws.length) (hb : b < 40) : ws.getD k 0 < 1099511627776 ∧ ws.getD k 0 ^^^ 2 ^ b < 1099511627776 ∧ ∀ x ∈ ws.set k (ws.getD k 0 ^^^ 2 ^ b), x < 1099511627776 := by
  have e : ws.getD k 0 = ws[k] := by simp [hk]
  have h1 : ws.getD k 0 < 1099511627776 := by rw [e]; exact hs _ (List.getElem_mem hk)
  have h2 : ws.getD k 0 ^^^ 2 ^ b < 2 ^ 40 := Nat.xor_lt_two_pow (n := 40) h1 (two_pow_lt hb)
  refine ⟨h1, h2, fun x hx => ?_⟩
  rcases List.mem_or_eq_of_mem_set hx with h | h
  · exact hs x h
  · rw [h]; exact h2
theorem pow_le39 (b : Nat) (hb : b < 40) : 2 ^ b ≤ 549755813888 := Nat.pow_le_pow_right (n := 2) (i := b) (j := 39) (by decide) (by omega)
def Z8 : List Int := [0, 0, 0, 0, 0, 0, 0, 0]
set_option maxRecDepth 100000 in
set_option maxHeartbeats 1000000 in
theorem flip_any (ws : List Nat) (c : Nat) (k b : Int) (w : World) (h8 : ws.length = 8) (hs : ∀ x ∈ ws, x < 1099511627776) (hc : c < 1024) :
    Calls Tryz.prog 98 #[.agg (iv (ci ws)).toArray, .int .i64 (c : Int), .int .i64 k, .int .i64 b] w fun e w' => e = .returned (pr (flipR ws c k b)) ∧ Below w.heap.size w w' := by
  have hl : (ci ws).length = 8 := by rw [ci_len, h8]
  have HI := Lib.hid (size22' hl)
  have HO := Lib.hid (iv_one (ci ws))
  have HL := Lib.hid (show (iv Z8).length = (iv (ci ws)).length by rw [iv_len, iv_len, hl]; rfl)
  have HD := Lib.hid fun w => isData_any k b w
  have HC := Lib.hid fun w => isCode_any k b w
  have H22 := Lib.hid Tryz.underlying39
  obtain ⟨R, hR⟩ : ∃ R, flipR ws c k b = R := ⟨_, rfl⟩
  rw [hR]
  cases hd : dataB k b with
  | true =>
    have e : R = (ws.set k.toNat (ws.getD k.toNat 0 ^^^ 2 ^ b.toNat), c) := by rw [← hR]; unfold flipR; rw [hd, if_pos rfl]
    rw [hd] at HD
    obtain ⟨h1, h2, h3, h4⟩ := dataB_of hd
    have hkn : k.toNat < ws.length := by omega
    obtain ⟨g1, g2, g3⟩ := set_lt hs k.toNat b.toNat hkn (by omega)
    have hp := pow_le39 b.toNat (by omega)
    have hx := i64_xor_nat (ws.getD k.toNat 0) (2 ^ b.toNat) (by omega) (by omega)
    have hw := pow_w b h3 (by omega)
    have hwi : IntKind.i64.wrap (2 ^ b.toNat) = ((2 ^ b.toNat : Nat) : Int) := by rw [wrapEq, hw]
    obtain ⟨kn, rfl⟩ : ∃ kn : Nat, k = kn := ⟨k.toNat, by omega⟩
    rw [Int.toNat_natCast] at *
    have hset := ci_set ws kn (ws.getD kn 0 ^^^ 2 ^ b.toNat)
    have hcg := iv_at (l := ci ws) (k := kn) (by omega)
    rw [ci_get] at hcg
    have hst := iv_set (ci ws) kn ((ws.getD kn 0 ^^^ 2 ^ b.toNat : Nat) : Int)
    rw [hset] at hst
    have hl2 : (ws.set kn (ws.getD kn 0 ^^^ 2 ^ b.toNat)).length = 8 := by simp [h8]
    have HI2 := Lib.hid (size22' (l := ci (ws.set kn (ws.getD kn 0 ^^^ 2 ^ b.toNat))) (by rw [ci_len, hl2]))
    have HO2 := Lib.hid (iv_one (ci (ws.set kn (ws.getD kn 0 ^^^ 2 ^ b.toNat))))
    have HL2 := Lib.hid (show (iv Z8).length = (iv (ci (ws.set kn (ws.getD kn 0 ^^^ 2 ^ b.toNat)))).length by rw [iv_len, iv_len, ci_len, hl2]; rfl)
    generalize ws.set kn (ws.getD kn 0 ^^^ 2 ^ b.toNat) = ws2 at *
    generalize ws.getD kn 0 ^^^ 2 ^ b.toNat = y at *
    generalize ws.getD kn 0 = x at *
    generalize 2 ^ b.toNat = p at *
    have HE := Lib.hid e
    have HST := Lib.hid hst
    have HCG := Lib.hid hcg
    clear e hst hcg hset hR hd g1 g2 g3 hp hs hl2 hc
    go_enter Tryz.func98, Tryz.ntmps98
    go_wp2_with fail
    refine (HD.out _).mono ?_
    rintro e w1 ⟨rfl, hw1⟩
    have HA : Hid (Arr w1 w.heap.size 39 (iv (ci ws))) := Lib.hid (by rw [hw1]; exact a2_0 _ _ _)
    have HZ : Hid (Arr w1 (w.heap.size + 1) 39 (iv Z8)) := Lib.hid (by rw [hw1]; exact a2_1 _ _ _)
    have HB : Hid (Below w.heap.size w w1) := Lib.hid (by rw [hw1]; exact bel2 _ _ _)
    clear hw1
    have hcell := HA.out.cell HCG.out
    have hfree := HA.out.free kn
    go_wp2_with fail
    go_still_tail 7, (by kernel_rfl)
    change wpList _ _ _ _ _ w1.drew
    have hbd := bel_drew w1
    have HA2 := Lib.hid (HA.out.keep hbd)
    have HZ2 := Lib.hid (HZ.out.keep hbd)
    have HB2 := Lib.hid (bel_on HB.out hbd)
    generalize w1.drew = w2 at *
    clear hbd hcell hfree HA HZ HB
    have hcell := HA2.out.cell HCG.out
    have hfree := HA2.out.free kn
    have hA3 : Arr (w2.setCell ⟨w.heap.size, kn, none⟩ (.int .i64 (y : Int))) w.heap.size 39 (iv (ci ws2)) := by
      have := HA2.out.set kn (.int .i64 (y : Int))
      rwa [HST.out] at this
    have HA3 := Lib.hid hA3
    have HZ3 : Hid (Arr (w2.setCell ⟨w.heap.size, kn, none⟩ (.int .i64 (y : Int))) (w.heap.size + 1) 39 (iv Z8)) := Lib.hid (HZ2.out.other (by simp) _)
    have HB3 : Hid (Below w.heap.size w (w2.setCell ⟨w.heap.size, kn, none⟩ (.int .i64 (y : Int)))) := Lib.hid (HB2.out.setCell (Nat.le_refl _) _)
    clear hA3
    go_wp2_with (first
      | ((with_reducible refine arm_row 39 w.heap.size 39 _ HA3.out _ H22.out rfl HI2.out rfl _ rfl ?_ ?_); focus rfl)
      | ((with_reducible refine arm_put 39 (w.heap.size + 1) 39 _ _ HZ3.out HI2.out HL2.out HO2.out rfl _ _ rfl ?_ ?_ ?_); (focus rfl); (focus rfl)))
    refine bodyPost_ret (v := pr (ws2, c)) (ret_row2 Tryz.results98 _ _ (w.heap.size + 1) 39 (iv (ci ws2)) (HZ3.out.row _) rfl _ H22.out rfl HI2.out _ rfl) rfl ?_
    exact ⟨by rw [HE.out], bel_row HB3.out (by omega) _⟩
  | false =>
    rw [hd] at HD
    cases hcd : codeB k b with
    | true =>
      have e : R = (ws, c ^^^ 2 ^ b.toNat) := by rw [← hR]; unfold flipR; rw [hd, hcd, if_neg (by decide), if_pos rfl]
      rw [hcd] at HC
      obtain ⟨rfl, h3, h4⟩ := codeB_of hcd
      have hp := pow_le39 b.toNat (by omega)
      have hx := i64_xor_nat c (2 ^ b.toNat) (by omega) (by omega)
      have hw := pow_w b h3 (by omega)
      have hwi : IntKind.i64.wrap (2 ^ b.toNat) = ((2 ^ b.toNat : Nat) : Int) := by rw [wrapEq, hw]
      generalize c ^^^ 2 ^ b.toNat = y at *
      generalize 2 ^ b.toNat = p at *
      have HE := Lib.hid e
      clear e hR hd hcd hp hs hc
      go_enter Tryz.func98, Tryz.ntmps98
      go_wp2_with fail
      refine (HD.out _).mono ?_
      rintro e w1 ⟨rfl, hw1⟩
      have HA : Hid (Arr w1 w.heap.size 39 (iv (ci ws))) := Lib.hid (by rw [hw1]; exact a2_0 _ _ _)
      have HZ : Hid (Arr w1 (w.heap.size + 1) 39 (iv Z8)) := Lib.hid (by rw [hw1]; exact a2_1 _ _ _)
      have HB : Hid (Below w.heap.size w w1) := Lib.hid (by rw [hw1]; exact bel2 _ _ _)
      clear hw1
      go_wp2_with fail
      refine (HC.out _).mono ?_
      rintro e w2 ⟨rfl, rfl⟩
      go_wp2_with (first
        | ((with_reducible refine arm_row 39 w.heap.size 39 _ HA.out _ H22.out rfl HI.out rfl _ rfl ?_ ?_); focus rfl)
        | ((with_reducible refine arm_put 39 (w.heap.size + 1) 39 _ _ HZ.out HI.out HL.out HO.out rfl _ _ rfl ?_ ?_ ?_); (focus rfl); (focus rfl)))
      refine bodyPost_ret (v := pr (ws, y)) (ret_row2 Tryz.results98 _ _ (w.heap.size + 1) 39 (iv (ci ws)) (HZ.out.row _) rfl _ H22.out rfl HI.out _ rfl) rfl ?_
      exact ⟨by rw [HE.out], bel_row HB.out (by omega) _⟩
    | false =>
      have e : R = (ws, c) := by rw [← hR]; unfold flipR; rw [hd, hcd, if_neg (by decide), if_neg (by decide)]
      rw [hcd] at HC
      have HE := Lib.hid e
      clear e hR hd hcd hs hc
      go_enter Tryz.func98, Tryz.ntmps98
      go_wp2_with fail
      refine (HD.out _).mono ?_
      rintro e w1 ⟨rfl, hw1⟩
      have HA : Hid (Arr w1 w.heap.size 39 (iv (ci ws))) := Lib.hid (by rw [hw1]; exact a2_0 _ _ _)
      have HZ : Hid (Arr w1 (w.heap.size + 1) 39 (iv Z8)) := Lib.hid (by rw [hw1]; exact a2_1 _ _ _)
      have HB : Hid (Below w.heap.size w w1) := Lib.hid (by rw [hw1]; exact bel2 _ _ _)
      clear hw1
      go_wp2_with fail
      refine (HC.out _).mono ?_
      rintro e w2 ⟨rfl, rfl⟩
      go_wp2_with (first
        | ((with_reducible refine arm_row 39 w.heap.size 39 _ HA.out _ H22.out rfl HI.out rfl _ rfl ?_ ?_); focus rfl)
        | ((with_reducible refine arm_put 39 (w.heap.size + 1) 39 _ _ HZ.out HI.out HL.out HO.out rfl _ _ rfl ?_ ?_ ?_); (focus rfl); (focus rfl)))
      refine bodyPost_ret (v := pr (ws, c)) (ret_row2 Tryz.results98 _ _ (w.heap.size + 1) 39 (iv (ci ws)) (HZ.out.row _) rfl _ H22.out rfl HI.out _ rfl) rfl ?_
      exact ⟨by rw [HE.out], bel_row HB.out (by omega) _⟩
end Go.Proofs.YtmnncbgibngmiaaGreatDoor
namespace Go.Proofs.YtmnncbgibngmiaaGreatDoor
open Go.RowKit
/-- What Fix hands back. -/
def fixZ (L : List Int) (c : Int) : List Int × Int × Int :=
  if validB L c then
    if (chkZ L c).1 = 2 then (Z8, 0, 9)
    else if (chkZ L c).1 = 1 then (ci (flipR (nw L) c.toNat ((chkZ L c).2.1 : Nat) ((chkZ L c).2.2 : Nat)).1, (((flipR (nw L) c.toNat ((chkZ L c).2.1 : Nat) ((chkZ L c).2.2 : Nat)).2 : Nat) : Int), 0)
    else (L, c, 0)
  else (Z8, 0, 1)
def fr (r : List Int × Int × Int) : Value := .tuple #[.agg (iv r.1).toArray, .int .i64 r.2.1, .int .i64 r.2.2]
theorem Arr2_0 (w : World) (cs : List Value) (t : TypeId) (B : Obj) : Arr ((w.alloc (.cells cs.toArray t)).alloc B) w.heap.size t cs := a2_0 w _ B
/-- A block and two numbers are handed back. -/
theorem ret_row3 {fn : Func} {p q r : Tmp} {ty : TypeId} (h : fn.results = #[.cell p ty, .tmp q, .tmp r]) (tmps : Array Value) (w : World) (g t : Nat) (cs : List Value) (hA : Arr w g t cs) (hp : tmps.getD p undef = .pointer (some ⟨g, 0, none⟩))
    (d : TypeDesc) (hu : Tryz.prog.underlying ty = some d) (hd : d.isRow = true) (hi : (Tryz.prog.info? ty).map (·.size) = some cs.length) (v u : Value) (hv : tmps.getD q undef = v) (hw : tmps.getD r undef = u) :
    (results fn tmps).run Tryz.prog w = .ok (.tuple #[.agg cs.toArray, v, u]) w := by
  have hp' : tmps[p]?.getD undef = .pointer (some ⟨g, 0, none⟩) := by simpa using hp
  have hv' : tmps[q]?.getD undef = v := by simpa using hv
  have hw' : tmps[r]?.getD undef = u := by simpa using hw
  simp [results, h, hp', hv', hw', asAddr, run_loadVar_mid w g 0 ty cs d hA.range hu hd hi]
theorem chkZ_state (L : List Int) (c : Int) : (chkZ L c).1 = 0 ∨ (chkZ L c).1 = 1 ∨ (chkZ L c).1 = 2 := by
  unfold chkZ chkF
  split
  · split
    · exact .inl rfl
    · split
      · exact .inr (.inr rfl)
      · split
        · exact .inr (.inl rfl)
        · exact .inr (.inr rfl)
  · exact .inr (.inr rfl)
theorem flipR_len (ws : List Nat) (c : Nat) (k b : Int) : (flipR ws c k b).1.length = ws.length := by
  unfold flipR
  split
  · simp
  · split <;> rfl
set_option maxRecDepth 100000 in
set_option maxHeartbeats 1000000 in
theorem fix_any (L : List Int) (c : Int) (w : World) (h8 : L.length = 8) (hT : Tab w) :
    Calls Tryz.prog 87 #[.agg (iv L).toArray, .int .i64 c] w fun e w' => e = .returned (fr (fixZ L c)) ∧ Below w.heap.size w w' := by
  have HI := Lib.hid (size22' (l := L) h8)
  have HIZ := Lib.hid (size22' (l := Z8) rfl)
  have HOZ := Lib.hid (iv_one Z8)
  have HO := Lib.hid (iv_one L)
  have HL := Lib.hid (show (iv Z8).length = (iv L).length by rw [iv_len, iv_len, h8]; rfl)
  have H22 := Lib.hid Tryz.underlying39
  have HT := Lib.hid hT
  have HV := Lib.hid fun w => valid_any L c w h8
  have HC := Lib.hid fun w hT => check_any L c w h8 hT
  obtain ⟨R, hR⟩ : ∃ R, fixZ L c = R := ⟨_, rfl⟩
  rw [hR]
  clear hT
  cases hv : validB L c with
  | false =>
    have HE : Hid (R = (Z8, 0, 1)) := Lib.hid (by rw [← hR]; unfold fixZ; rw [hv, if_neg (by decide)])
    rw [hv] at HV
    clear hR HC hv
    go_enter Tryz.func87, Tryz.ntmps87
    go_wp2_with ((with_reducible refine arm_row 39 w.heap.size 39 _ (Arr2_0 w (iv L) 39 _) _ H22.out rfl HI.out rfl _ rfl ?_ ?_); focus rfl)
    refine (HV.out _).mono ?_
    rintro e w1 ⟨rfl, hb⟩
    have HZ : Hid (Arr w1 (w.heap.size + 1) 39 (iv Z8)) := Lib.hid (Arr.keep (a2_1 _ _ _) hb)
    have HB : Hid (Below w.heap.size w w1) := Lib.hid (bel_on (bel2 _ _ _) hb)
    clear hb
    go_wp2_with ((with_reducible refine arm_put 39 (w.heap.size + 1) 39 _ _ HZ.out HIZ.out rfl HOZ.out rfl _ _ rfl ?_ ?_ ?_); (focus rfl); (focus rfl))
    refine bodyPost_ret (v := fr (Z8, 0, 1)) (ret_row3 Tryz.results87 _ _ (w.heap.size + 1) 39 (iv Z8) (HZ.out.row _) rfl _ H22.out rfl HIZ.out _ _ rfl rfl) rfl ?_
    exact ⟨by rw [HE.out], bel_row HB.out (by omega) _⟩
  | true =>
    rw [hv] at HV
    have hst := chkZ_state L c
    have HR0 : (chkZ L c).1 = 0 → R = (L, c, 0) := fun h => by rw [← hR]; unfold fixZ; rw [hv, if_pos rfl, if_neg (by omega), if_neg (by omega)]
    have HR2 : (chkZ L c).1 = 2 → R = (Z8, 0, 9) := fun h => by rw [← hR]; unfold fixZ; rw [hv, if_pos rfl, if_pos h]
    have HR1 : (chkZ L c).1 = 1 → R = (ci (flipR (nw L) c.toNat ((chkZ L c).2.1 : Nat) ((chkZ L c).2.2 : Nat)).1, (((flipR (nw L) c.toNat ((chkZ L c).2.1 : Nat) ((chkZ L c).2.2 : Nat)).2 : Nat) : Int), 0) := fun h => by rw [← hR]; unfold fixZ; rw [hv, if_pos rfl, if_neg (by omega), if_pos h]
    unfold validB at hv
    simp only [Bool.and_eq_true, decide_eq_true_eq] at hv
    obtain ⟨ha, hc0, hc1⟩ := hv
    obtain ⟨hL, hs⟩ := of_all ha
    have hlen : (nw L).length = 8 := by rw [nw_len, h8]
    obtain ⟨m, rfl⟩ : ∃ m : Nat, c = m := ⟨c.toNat, by omega⟩
    rw [Int.toNat_natCast] at HR1
    generalize chkZ L (m : Int) = r at *
    obtain ⟨st, kk, bb⟩ := r
    simp only at hst HR0 HR1 HR2
    have HF := Lib.hid fun w => flip_any (nw L) m kk bb w hlen hs (by omega)
    have hfl : (flipR (nw L) m kk bb).1.length = 8 := by rw [flipR_len, hlen]
    rw [← hL] at HF
    have HIF := Lib.hid (size22' (l := ci (flipR (nw L) m kk bb).1) (by rw [ci_len, hfl]))
    have HOF := Lib.hid (iv_one (ci (flipR (nw L) m kk bb).1))
    have HLF := Lib.hid (show (iv L).length = (iv (ci (flipR (nw L) m kk bb).1)).length by rw [iv_len, iv_len, ci_len, hfl, h8])
    have HLF2 := Lib.hid (show (iv Z8).length = (iv (ci (flipR (nw L) m kk bb).1)).length by rw [iv_len, iv_len, ci_len, hfl]; rfl)
    generalize flipR (nw L) m kk bb = f at *
    obtain ⟨fw, fc⟩ := f
    simp only at HIF HOF HLF HLF2 HR1
    clear ha hL hs hlen hfl hc0 hc1 hR
    have HR0' := Lib.hid HR0
    have HR1' := Lib.hid HR1
    have HR2' := Lib.hid HR2
    clear HR0 HR1 HR2
    rcases hst with rfl | rfl | rfl
    · go_enter Tryz.func87, Tryz.ntmps87
      go_wp2_with ((with_reducible refine arm_row 39 w.heap.size 39 _ (Arr2_0 w (iv L) 39 _) _ H22.out rfl HI.out rfl _ rfl ?_ ?_); focus rfl)
      refine (HV.out _).mono ?_
      rintro e w1 ⟨rfl, hb⟩
      have HA : Hid (Arr w1 w.heap.size 39 (iv L)) := Lib.hid (Arr.keep (a2_0 _ _ _) hb)
      have HZ : Hid (Arr w1 (w.heap.size + 1) 39 (iv Z8)) := Lib.hid (Arr.keep (a2_1 _ _ _) hb)
      have HB : Hid (Below w.heap.size w w1) := Lib.hid (bel_on (bel2 _ _ _) hb)
      clear hb
      go_wp2_with ((with_reducible refine arm_row 39 w.heap.size 39 _ HA.out _ H22.out rfl HI.out rfl _ rfl ?_ ?_); focus rfl)
      refine (HC.out _ (HT.out.keep HB.out)).mono ?_
      rintro e w2 ⟨rfl, hb⟩
      have HA2 := Lib.hid (HA.out.keep hb)
      have HZ2 := Lib.hid (HZ.out.keep hb)
      have HB2 := Lib.hid (bel_on HB.out hb)
      clear hb HA HZ HB
      unfold t3
      go_wp2_with (first
        | ((with_reducible refine arm_row 39 w.heap.size 39 _ HA2.out _ H22.out rfl HI.out rfl _ rfl ?_ ?_); focus rfl)
        | ((with_reducible refine arm_put 39 (w.heap.size + 1) 39 _ _ HZ2.out HI.out HL.out HO.out rfl _ _ rfl ?_ ?_ ?_); (focus rfl); (focus rfl)))
      refine bodyPost_ret (v := fr (L, m, 0)) (ret_row3 Tryz.results87 _ _ (w.heap.size + 1) 39 (iv L) (HZ2.out.row _) rfl _ H22.out rfl HI.out _ _ rfl rfl) rfl ?_
      exact ⟨by rw [HR0'.out (by first | exact rfl | trivial)], bel_row HB2.out (by omega) _⟩
    · go_enter Tryz.func87, Tryz.ntmps87
      go_wp2_with ((with_reducible refine arm_row 39 w.heap.size 39 _ (Arr2_0 w (iv L) 39 _) _ H22.out rfl HI.out rfl _ rfl ?_ ?_); focus rfl)
      refine (HV.out _).mono ?_
      rintro e w1 ⟨rfl, hb⟩
      have HA : Hid (Arr w1 w.heap.size 39 (iv L)) := Lib.hid (Arr.keep (a2_0 _ _ _) hb)
      have HZ : Hid (Arr w1 (w.heap.size + 1) 39 (iv Z8)) := Lib.hid (Arr.keep (a2_1 _ _ _) hb)
      have HB : Hid (Below w.heap.size w w1) := Lib.hid (bel_on (bel2 _ _ _) hb)
      clear hb
      go_wp2_with ((with_reducible refine arm_row 39 w.heap.size 39 _ HA.out _ H22.out rfl HI.out rfl _ rfl ?_ ?_); focus rfl)
      refine (HC.out _ (HT.out.keep HB.out)).mono ?_
      rintro e w2 ⟨rfl, hb⟩
      have HA2 := Lib.hid (HA.out.keep hb)
      have HZ2 := Lib.hid (HZ.out.keep hb)
      have HB2 := Lib.hid (bel_on HB.out hb)
      clear hb HA HZ HB
      unfold t3
      go_wp2_with ((with_reducible refine arm_row 39 w.heap.size 39 _ HA2.out _ H22.out rfl HI.out rfl _ rfl ?_ ?_); focus rfl)
      refine (HF.out _).mono ?_
      rintro e w3 ⟨rfl, hb⟩
      have HA3 := Lib.hid (HA2.out.keep hb)
      have HZ3 := Lib.hid (HZ2.out.keep hb)
      have HB3 := Lib.hid (bel_on HB2.out hb)
      clear hb HA2 HZ2 HB2
      unfold pr
      have HA4 : Hid (Arr (w3.setRow w.heap.size (iv (ci fw)).toArray) w.heap.size 39 (iv (ci fw))) := Lib.hid (HA3.out.row _)
      have HZ4 : Hid (Arr (w3.setRow w.heap.size (iv (ci fw)).toArray) (w.heap.size + 1) 39 (iv Z8)) := Lib.hid (HZ3.out.row_other (by omega) _)
      have HB4 : Hid (Below w.heap.size w (w3.setRow w.heap.size (iv (ci fw)).toArray)) := Lib.hid (bel_row HB3.out (Nat.le_refl _) _)
      go_wp2_with (first
        | ((with_reducible refine arm_put 39 w.heap.size 39 _ _ HA3.out HIF.out HLF.out HOF.out rfl _ _ rfl ?_ ?_ ?_); (focus rfl); (focus rfl))
        | ((with_reducible refine arm_row 39 w.heap.size 39 _ HA4.out _ H22.out rfl HIF.out rfl _ rfl ?_ ?_); focus rfl)
        | ((with_reducible refine arm_put 39 (w.heap.size + 1) 39 _ _ HZ4.out HIF.out HLF2.out HOF.out rfl _ _ rfl ?_ ?_ ?_); (focus rfl); (focus rfl)))
      refine bodyPost_ret (v := fr (ci fw, fc, 0)) (ret_row3 Tryz.results87 _ _ (w.heap.size + 1) 39 (iv (ci fw)) (HZ4.out.row _) rfl _ H22.out rfl HIF.out _ _ rfl rfl) rfl ?_
      exact ⟨by rw [HR1'.out (by first | exact rfl | trivial)], bel_row HB4.out (by omega) _⟩
    · go_enter Tryz.func87, Tryz.ntmps87
      go_wp2_with ((with_reducible refine arm_row 39 w.heap.size 39 _ (Arr2_0 w (iv L) 39 _) _ H22.out rfl HI.out rfl _ rfl ?_ ?_); focus rfl)
      refine (HV.out _).mono ?_
      rintro e w1 ⟨rfl, hb⟩
      have HA : Hid (Arr w1 w.heap.size 39 (iv L)) := Lib.hid (Arr.keep (a2_0 _ _ _) hb)
      have HZ : Hid (Arr w1 (w.heap.size + 1) 39 (iv Z8)) := Lib.hid (Arr.keep (a2_1 _ _ _) hb)
      have HB : Hid (Below w.heap.size w w1) := Lib.hid (bel_on (bel2 _ _ _) hb)
      clear hb
      go_wp2_with ((with_reducible refine arm_row 39 w.heap.size 39 _ HA.out _ H22.out rfl HI.out rfl _ rfl ?_ ?_); focus rfl)
      refine (HC.out _ (HT.out.keep HB.out)).mono ?_
      rintro e w2 ⟨rfl, hb⟩
      have HZ2 := Lib.hid (HZ.out.keep hb)
      have HB2 := Lib.hid (bel_on HB.out hb)
      clear hb HA HZ HB
      unfold t3
      go_wp2_with ((with_reducible refine arm_put 39 (w.heap.size + 1) 39 _ _ HZ2.out HIZ.out rfl HOZ.out rfl _ _ rfl ?_ ?_ ?_); (focus rfl); (focus rfl))
      refine bodyPost_ret (v := fr (Z8, 0, 9)) (ret_row3 Tryz.results87 _ _ (w.heap.size + 1) 39 (iv Z8) (HZ2.out.row _) rfl _ H22.out rfl HIZ.out _ _ rfl rfl) rfl ?_
      exact ⟨by rw [HR2'.out (by first | exact rfl | trivial)], bel_row HB2.out (by omega) _⟩
end Go.Proofs.YtmnncbgibngmiaaGreatDoor
namespace Go.Proofs.YtmnncbgibngmiaaGreatDoor
open Go.RowKit
theorem arm_rowg {ops : Array Oper} {rest : List Oper} {o : Oper} {a : Act} {Q : Exit → Act → World → Prop} {w : World} (ty g t : Nat) (cs : List Value) (hA : Arr w g t cs) (d : TypeDesc) (hu : Tryz.prog.underlying ty = some d) (hd : d.isRow = true) (hi : (Tryz.prog.info? ty).map (·.size) = some cs.length)
    (hw : Region.wanted o (yielded ops a.tmps) = true) (x : Operand) (ho : o.op = .load ty x) (hx : a.eval x = .pointer (some ⟨g, 0, none⟩))
    (h : wpList Tryz.prog ops Q rest (a.put o.dst (.agg cs.toArray)) w) : wpList Tryz.prog ops Q (o :: rest) a w := by
  refine wpList_step fun K hK => ?_
  rw [if_pos hw]
  exact wp_load_mid ty x ho g 0 hx cs d hA.range hu hd hi (hK _ _ h)
/-- The exclusive or of two lines, word by word. -/
def xorL (vs us : List Nat) : List Nat := List.zipWith (fun a b => a ^^^ b) vs us
def mix (vs us : List Nat) : Nat → List Nat
  | 0 => vs
  | k + 1 => (mix vs us k).set k (vs.getD k 0 ^^^ us.getD k 0)
theorem mix_len (vs us : List Nat) : ∀ k, (mix vs us k).length = vs.length := by
  intro k
  induction k with
  | zero => rfl
  | succ k ih => unfold mix; rw [List.length_set, ih]
theorem mix_get (vs us : List Nat) : ∀ k j, j < vs.length → (mix vs us k).getD j 0 = if j < k then vs.getD j 0 ^^^ us.getD j 0 else vs.getD j 0 := by
  intro k
  induction k with
  | zero => intro j _; rw [if_neg (by omega)]; rfl
  | succ k ih =>
    intro j hj
    unfold mix
    rw [List.getD_eq_getElem?_getD, List.getElem?_set]
    by_cases h : k = j
    · subst h
      rw [if_pos rfl, mix_len, if_pos hj, if_pos (by omega)]
      rfl
    · rw [if_neg h, ← List.getD_eq_getElem?_getD, ih j hj]
      by_cases h2 : j < k
      · rw [if_pos h2, if_pos (by omega)]
      · rw [if_neg h2, if_neg (by omega)]
theorem xorL_len (vs us : List Nat) (h : us.length = vs.length) : (xorL vs us).length = vs.length := by simp [xorL, h]
theorem xorL_get (vs us : List Nat) (h : us.length = vs.length) (j : Nat) (hj : j < vs.length) : (xorL vs us).getD j 0 = vs.getD j 0 ^^^ us.getD j 0 := by
  have hj2 : j < us.length := by omega
  have hz : j < (xorL vs us).length := by rw [xorL_len vs us h]; exact hj
  rw [List.getD_eq_getElem?_getD, List.getElem?_eq_getElem hz]
  simp [xorL, hj, hj2]
theorem mix_all (vs us : List Nat) (h : us.length = vs.length) : mix vs us vs.length = xorL vs us := by
  refine List.ext_getElem (by rw [mix_len, xorL_len vs us h]) fun j h1 h2 => ?_
  have hj : j < vs.length := by rw [mix_len] at h1; exact h1
  have e1 := mix_get vs us vs.length j hj
  rw [if_pos hj, ← xorL_get vs us h j hj] at e1
  rw [List.getD_eq_getElem?_getD, List.getD_eq_getElem?_getD, List.getElem?_eq_getElem h1, List.getElem?_eq_getElem h2] at e1
  exact e1
theorem get_lt {ws : List Nat} (hs : ∀ x ∈ ws, x < 1099511627776) (k : Nat) : ws.getD k 0 < 1099511627776 := by
  rw [List.getD_eq_getElem?_getD]
  cases h : ws[k]? with
  | none => decide
  | some x =>
    rcases List.getElem?_eq_some_iff.1 h with ⟨hk, rfl⟩
    exact hs _ (List.getElem_mem hk)
theorem xorL_lt {vs us : List Nat} (h : us.length = vs.length) (hv : ∀ x ∈ vs, x < 1099511627776) (hu : ∀ x ∈ us, x < 1099511627776) : ∀ x ∈ xorL vs us, x < 1099511627776 := by
  intro x hx
  obtain ⟨j, hj, rfl⟩ := List.mem_iff_getElem.1 hx
  have hj2 : j < vs.length := by rw [xorL_len vs us h] at hj; exact hj
  have e := xorL_get vs us h j hj2
  rw [List.getD_eq_getElem?_getD, List.getElem?_eq_getElem hj] at e
  rw [show (xorL vs us)[j] = vs.getD j 0 ^^^ us.getD j 0 from e]
  exact Nat.xor_lt_two_pow (n := 40) (get_lt hv j) (get_lt hu j)
/-- In how many bits two lines with their codes differ. -/
def distZ (V : List Int) (a : Int) (U : List Int) (b : Int) : Int :=
  if validB V a ∧ validB U b then ((popT (xorL (nw V) (nw U)) (a.toNat ^^^ b.toNat) : Nat) : Int) else -1
end Go.Proofs.YtmnncbgibngmiaaGreatDoor
namespace Go.Proofs.YtmnncbgibngmiaaGreatDoor
open Go.RowKit
theorem mapM_of {α β : Type} (f : α → Option β) (g : α → β) : ∀ (is : List α), (∀ i ∈ is, f i = some (g i)) → is.mapM f = some (is.map g)
  | [], _ => by simp
  | i :: is, h => by
    rw [List.mapM_cons, h i (by simp), mapM_of f g is fun j hj => h j (by simp [hj])]
    rfl
def I64 (z : Int) : Prop := -9223372036854775808 ≤ z ∧ z ≤ 9223372036854775807
theorem lits_one (D : Nat) (z : Int) (h : I64 z) : Tryz.prog.keyLits (D + 1) 3 [.int .i64 z] = some [.int .i64 z] := by
  have hw : (Lit.int .i64 z).wf = true := by
    unfold I64 at h
    simp [Lit.wf, IntKind.min, IntKind.max, IntKind.bits, IntKind.signed]
    omega
  simp [Program.keyLits, Tryz.underlying3, hw]
def litsOf (l : List Int) : List Lit := l.map fun z => .int .i64 z
theorem litsOf_inj {l m : List Int} (h : litsOf l = litsOf m) : l = m := by
  unfold litsOf at h
  refine List.map_inj_right (f := fun z : Int => Lit.int .i64 z) (fun a b hab => ?_) |>.1 h
  simpa using hab
theorem lits_row (ty n : Nat) (hu : Tryz.prog.underlying ty = some (.array n 3)) (hc : Tryz.prog.cellsOf ty = n) (l : List Int) (hl : l.length = n) (hz : ∀ z ∈ l, I64 z) : Tryz.prog.keyLits 2 ty (iv l) = some (litsOf l) := by
  have c5 : Tryz.prog.cellsOf 3 = 1 := by kernel_rfl
  unfold Program.keyLits
  rw [hu]
  simp only
  rw [if_pos (by rw [iv_len, hl, hc]), mapM_of _ (fun i => [Lit.int .i64 (l.getD i 0)])]
  · simp only [Option.map_some, Option.some.injEq]
    unfold litsOf
    have : ((List.range n).map fun i => [Lit.int .i64 (l.getD i 0)]).flatten = (List.range n).map fun i => Lit.int .i64 (l.getD i 0) := by
      induction (List.range n) with
      | nil => rfl
      | cons x r ih => simp only [List.map_cons, List.flatten_cons, ih]; rfl
    rw [this]
    apply List.ext_getElem
    · simp [hl]
    · intro i h1 h2
      simp at h2
      simp [h2]
  · intro i hi
    have hi2 : i < l.length := by rw [hl]; exact List.mem_range.1 hi
    rw [c5, Nat.mul_one]
    have e : ((iv l).drop i).take 1 = [.int .i64 (l.getD i 0)] := by
      rw [List.drop_eq_getElem_cons (by rw [iv_len]; exact hi2)]
      simp [iv, hi2]
    rw [e]
    refine lits_one 0 _ (hz _ ?_)
    rw [List.getD_eq_getElem?_getD, List.getElem?_eq_getElem hi2]
    exact List.getElem_mem hi2
theorem eq_line (l m : List Int) (hl : l.length = 8) (hm : m.length = 8) (zl : ∀ z ∈ l, I64 z) (zm : ∀ z ∈ m, I64 z) (w : World) :
    (Op.equalIn 10000 39 (.agg (iv l).toArray) (.agg (iv m).toArray)).run Tryz.prog w = .ok (decide (l = m)) w := by
  have hu := Tryz.underlying39
  have hc : Tryz.prog.cellsOf 39 = 8 := by kernel_rfl
  have hk : Tryz.prog.keyTypeAt 2 39 = true := by kernel_rfl
  have hf : ∀ q : List Int, q.length = 8 → (Value.agg (iv q).toArray).formed Tryz.prog 39 = true := by
    intro q hq
    unfold Value.formed
    rw [hu]
    simp [iv_len, hq, hc]
  have hcells : ∀ q : List Int, (Value.agg (iv q).toArray).cells.toList = iv q := fun q => by simp [Value.cells]
  obtain ⟨r, hr, hiff⟩ := run_equalIn_deep (P := Tryz.prog) 9998 2 39 hk w 2 2 (.agg (iv l).toArray) (.agg (iv m).toArray) (litsOf l) (litsOf m) (hf l hl) (hf m hm) (by rw [hcells]; exact lits_row 39 8 hu hc l hl zl) (by rw [hcells]; exact lits_row 39 8 hu hc m hm zm)
  have e : r = decide (l = m) := by
    rw [Bool.eq_iff_iff, hiff, decide_eq_true_iff]
    exact ⟨litsOf_inj, fun h => by rw [h]⟩
  rw [← e]
  exact hr
theorem ci_i64 {ws : List Nat} (h : ∀ x ∈ ws, x < 1099511627776) : ∀ z ∈ ci ws, I64 z := by
  intro z hz
  obtain ⟨x, hx, rfl⟩ := List.mem_map.1 hz
  have := h x hx
  unfold I64
  omega
theorem z8_i64 : ∀ z ∈ Z8, I64 z := by
  intro z hz
  have e : z = 0 := by simpa [Z8] using hz
  subst e
  unfold I64
  omega
theorem ret_t2 {a b a' b' : Int} (h1 : a = a') (h2 : b = b') : Ending.returned (.tuple #[.int .i64 a, .int .i64 b]) = .returned (.tuple #[.int .i64 a', .int .i64 b']) := by rw [h1, h2]
end Go.Proofs.YtmnncbgibngmiaaGreatDoor
