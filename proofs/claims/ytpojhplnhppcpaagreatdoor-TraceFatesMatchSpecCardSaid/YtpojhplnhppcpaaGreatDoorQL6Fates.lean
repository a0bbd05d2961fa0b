/-
  What alumref05's Fates does.
-/
import Derived.Test.YtpojhplnhppcpaaGreatDoorQU10
import Derived.Test.YtpojhplnhppcpaaGreatDoorQY6Fates
import Derived.Test.YtpojhplnhppcpaaGreatDoorQLCpFates
import Derived.BigQuiet
namespace Go.Proofs.YtpojhplnhppcpaaGreatDoor
open Go.RowKit Go.Maps
theorem markG_end (l : List (List Int)) (line : Nat) (f : Int) (n k : Nat) (out : List Int) : markG l line f n k 0 out = out := by
  cases n with
  | zero => rfl
  | succ n => unfold markG; rw [if_pos rfl]
theorem markG_yes {l : List (List Int)} {line : Nat} {f : Int} {n k g : Nat} {out : List Int} (h : (stq (l.getD k []) && decide (out.getD k 0 = 1) && (lnq (l.getD k []) == line)) = true) : markG l line f (n + 1) k (g + 1) out = markG l line f n (k + 1) g (out.set k f) := by
  show (if g + 1 = 0 then _ else _) = _
  rw [if_neg (by omega), if_pos h]
  rfl
theorem markG_no {l : List (List Int)} {line : Nat} {f : Int} {n k g : Nat} {out : List Int} (h : (stq (l.getD k []) && decide (out.getD k 0 = 1) && (lnq (l.getD k []) == line)) = false) : markG l line f (n + 1) k (g + 1) out = markG l line f n (k + 1) (g + 1) out := by
  show (if g + 1 = 0 then _ else _) = _
  rw [if_neg (by omega), if_neg (by rw [h]; simp)]
theorem set_set {O : List Int} {q : Nat} {a b : Int} : (O.set q a).set q b = O.set q b := by simp
set_option maxRecDepth 100000 in
set_option maxHeartbeats 16000000 in
set_option linter.unusedSimpArgs false in
theorem rFates_any (img : List (List Int × Int)) (l : List (List Int)) (n : Int) (v lv : Value) (w : World) (h8 : ∀ x ∈ img, x.1.length = 8) (hn : img.length ≤ 5000) (hs : Rd w v img.length (iv (flatI img)))
    (hl : EvI l) (hll : l.length ≤ 400) (hlv : Rd w lv l.length (iv l.flatten)) :
    Calls Tryz.prog 39 #[v, lv, .int .i64 n] w fun e w' => FatPost img l n w e w' ∧ Below w.heap.size w w' := by
  have HAT := Lib.hid (rAt_any img l n v lv w h8 hn hs hl hll hlv)
  have HPO : Hid (∀ e w', FatPost img l n w e w' = ((atE img l n ≠ 0 ∧ e = .returned (.tuple #[.slice none 0 0, .int .i64 (atE img l n)])) ∨
    (atE img l n = 0 ∧ ∃ u, e = .returned (.tuple #[u, .int .i64 0]) ∧ Sl w' 3 1 u n.toNat (iv (fatesP img l n)) ∧ ∀ q, u.ownBlock = some q → w.heap.size ≤ q))) := Lib.hid fun _ _ => rfl
  change Hid (Calls _ _ _ _ fun e w' => ∃ r, e = .returned (.tuple #[.pointer (some ⟨r, 0, none⟩), .int .i64 (atE img l n)]) ∧ (atE img l n = 0 → Ref w' r (atP img l n) (New w w')) ∧ Below w.heap.size w w') at HAT
  obtain ⟨PO, hPO⟩ : ∃ PO, FatPost img l n w = PO := ⟨_, rfl⟩
  rw [hPO] at HPO ⊢
  have HAO := Lib.hid fun h => atE_ok (img := img) (l := l) (n := n) h
  have HFR := Lib.hid fun w1 (hb : Below w.heap.size w w1) => rFrom_any img v w1 h8 hn (hs.below hb)
  have HFO := Lib.hid fun (hr : rightB img = true) => fromP_ok h8 hr
  have HFP : Hid (fatesP img l n = outT (fromP img) (l.take n.toNat) n.toNat n.toNat) := Lib.hid rfl
  have HPL := Lib.hid (from_pl img)
  have HL := Lib.hid hl
  obtain ⟨FP, hFP⟩ : ∃ FP, fatesP img l n = FP := ⟨_, rfl⟩
  rw [hFP] at HPO HFP
  obtain ⟨E, hE⟩ : ∃ E, atE img l n = E := ⟨_, rfl⟩
  rw [hE] at HAT HPO HAO
  obtain ⟨m9, hm9⟩ : ∃ m9, atP img l n = m9 := ⟨_, rfl⟩
  rw [hm9] at HAT
  obtain ⟨A, cap, rfl, _⟩ := hs
  have HLV := Lib.hid hlv
  obtain ⟨A2, cap2, rfl, hcap, _⟩ := hlv
  obtain ⟨LN, hLN⟩ : ∃ LN, l.length = LN := ⟨_, rfl⟩
  have HLN := Lib.hid hLN
  rw [hLN] at hcap hll HAO
  rw [hLN] at HAT HLV ⊢
  clear h8 hn hl hPO hE hFP hLN hm9
  go_enter Tryz.func39, Tryz.ntmps39
  go_wp2_with fail
  refine HAT.out.mono ?_
  rintro e w1 ⟨r1, rfl, _, hb⟩
  have HB1 := Lib.hid hb
  clear hb HAT
  by_cases h1 : E = 0
  case neg =>
    have HF : Hid (PO (.returned (.tuple #[.slice none 0 0, .int .i64 E])) w1) := Lib.hid (by rw [HPO.out]; exact .inl ⟨h1, rfl⟩)
    have hne : (E == 0) = false := by rw [beq_eq_false_iff_ne]; exact h1
    clear h1
    go_wp2_with fail
    go_ret2
    exact ⟨HF.out, HB1.out⟩
  subst h1
  obtain ⟨hr, hn0, hn1, hfit⟩ := HAO.out rfl
  obtain ⟨k0, rfl⟩ : ∃ k0 : Nat, n = (k0 : Int) := ⟨n.toNat, by omega⟩
  rw [Int.toNat_natCast] at hfit HFP HPO
  obtain ⟨fok, fsm, flen⟩ := HFO.out hr
  have HFR1 := Lib.hid fun w1 (hb : Below w.heap.size w w1) => HFR.out w1 hb hr
  obtain ⟨m0, hm0⟩ : ∃ m0, fromP img = m0 := ⟨_, rfl⟩
  rw [hm0] at HFR1 HFP hfit fok fsm HPL
  have HFOK := Lib.hid fok
  have HFSM := Lib.hid fsm
  have hk0 : k0 ≤ LN := by omega
  obtain ⟨l', hl'⟩ : ∃ l', l.take k0 = l' := ⟨_, rfl⟩
  have HLL : Hid (l'.length = k0) := Lib.hid (by rw [← hl', List.length_take, HLN.out]; omega)
  have HEI : Hid (EvI l') := Lib.hid (by rw [← hl']; exact fun x hx => HL.out x (List.mem_of_mem_take hx))
  have HCE : Hid (0 < k0 → ∃ bb oo, A2 = some ⟨bb, oo, none⟩ ∧ bb < w.heap.size ∧ ∀ w1, Below w.heap.size w w1 → ∀ q, q < k0 → w1.rangeAt bb (oo + q * 12) (iv (l'.getD q [])) ∧ (l'.getD q []).length = 12 ∧ ∀ z ∈ l'.getD q [], I64 z) := Lib.hid fun h0 => by
    obtain ⟨_, _, hv9, _, _, hrr⟩ := HLV.out
    simp only [Value.slice.injEq, true_and] at hv9
    obtain ⟨rfl, rfl⟩ := hv9
    obtain ⟨bb, oo, rfl, hbl, hcells⟩ := hrr (by omega)
    refine ⟨bb, oo, rfl, hbl, fun w1 hb q hq => ?_⟩
    have hql : q < l.length := by rw [HLN.out]; omega
    have hgd : l'.getD q [] = l[q] := by rw [← hl', getD_take hq, List.getD_eq_getElem?_getD, List.getElem?_eq_getElem hql]; rfl
    rw [hgd]
    obtain ⟨g1, g2⟩ := HL.out _ (List.getElem_mem hql)
    exact ⟨evLine (fun x hx => (HL.out x hx).1) (cells_at hcells hb hbl) hql, g1, g2⟩
  rw [hl'] at hfit HFP
  have HFIT : Hid (fitsP m0 l' = l'.length) := Lib.hid (by rw [HLL.out]; exact hfit)
  have hI2 : (k0 : Int) ≤ (LN : Int) := by omega
  obtain ⟨NL, hNL⟩ : ∃ NL, m0.L.length = NL := ⟨_, rfl⟩
  have hNL2 : NL ≤ 4096 := by rw [← hNL]; exact fok.few
  have HNL := Lib.hid hNL
  have HMN : Hid (∀ i, (memT m0 l' i).L.length = m0.L.length) := Lib.hid fun i => memT_len l' i HEI.out HFOK.out HFSM.out
  have HINV := Lib.hid fun i (hi : i ≤ k0) => FInv.all (n := k0) HLL.out HFIT.out HMN.out HPL.out i hi
  have HGM : Hid (∀ i, i ≤ k0 → (memT m0 l' i).Ok ∧ (memT m0 l' i).Small 800) := Lib.hid fun i hi => by
    obtain ⟨g1, _, g3⟩ := run_good (l'.take i) HFOK.out HFSM.out fun x hx => HEI.out x (List.mem_of_mem_take hx)
    exact ⟨g1, g3.mono (by rw [List.length_take]; omega)⟩
  clear hr hn0 hn1 hfit HAO HFR HFO hm0 hl' HL HLV fok fsm flen hNL
  obtain ⟨i0, hi, hz0, hz1, hz2⟩ := info_parts intInfo3
  have HI0 := Lib.hid hi
  have HZ0 := Lib.hid hz0
  have HZ1 := Lib.hid hz1
  have HZ2 := Lib.hid hz2
  clear hi hz0 hz1 hz2
  go_wp2_with (at_make; refine wpList_make_full _ rfl _ _ 59 rfl w1.heap.size 3 i0 _ 1 Tryz.underlying59 HI0.out HZ0.out HZ1.out .i64 .i64 _ _ k0 rfl rfl rfl rfl (by rw [HZ2.out]; omega) (by unfold maxLen; omega) (by simp) ?_; intro w4 hown hgrow; have HSL4 := Lib.hid (Sl.of_row hown); have HGR4 := Lib.hid hgrow; clear hown hgrow)
  have HSL5 : Hid (Sl w4 3 1 (.slice (some ⟨w1.heap.size, 0, none⟩) k0 k0) k0 (iv (List.replicate k0 0))) := Lib.hid (by
    have h1 := HSL4.out
    rw [show (Value.int .i64 0).cells = #[.int .i64 0] from rfl, made_ints, Nat.mul_one] at h1
    simpa using h1)
  have HB4 : Hid (Below w.heap.size w w4) := Lib.hid (bel_on HB1.out ((Below.refl w1.heap.size w1).grown HGR4.out (Nat.le_refl _) (fun k hk => by cases hk)))
  have HOB : Hid (w.heap.size ≤ w1.heap.size) := Lib.hid HB1.out.size
  generalize w1.heap.size = ob at HSL5 HOB ⊢
  have HF4 := Lib.hid (HFR1.out w4 HB4.out)
  clear HSL4 HGR4 HFR1 HB1
  refine HF4.out.mono ?_
  rintro e w2 ⟨p, rfl, hp, hb⟩
  have HB2 := Lib.hid (bel_on HB4.out hb)
  have HS2 : Hid (Sl w2 3 1 (.slice (some ⟨ob, 0, none⟩) k0 k0) k0 (iv (outT m0 l' k0 0))) := Lib.hid (HSL5.out.keep fun q hq => hb.block q (HSL5.out.lt hq))
  have HP2 : Hid (Ref w2 p (memT m0 l' 0) (fun q => New w w2 q ∧ q ≠ ob)) := Lib.hid (hp.wide (fun q hq => ⟨⟨Nat.le_trans HB4.out.size hq.1, hq.2⟩, fun e => by
    have := HSL5.out.lt (g := ob) rfl
    have := hq.1
    omega⟩) fun q hq => hq.1.2)
  clear hp hb HF4 HSL5 HB4
  go_wp2_with fail
  go_loopw [12] (fun i wr => ∃ (k : Nat), i = .int .i64 (k : Int) ∧ k ≤ k0 ∧ Hid (Ref wr p (memT m0 l' k) (fun q => New w wr q ∧ q ≠ ob)) ∧ Hid (Sl wr 3 1 (.slice (some ⟨ob, 0, none⟩) k0 k0) k0 (iv (outT m0 l' k0 k))) ∧ Hid (Below w.heap.size w wr)) (fun i _ => k0 - (intOf i).toNat)
  case atStart => exact ⟨0, rfl, by omega, HP2, HS2, HB2⟩
  case round =>
    clear HP2 HS2 HB2
    obtain ⟨k, rfl, hk, HRF, HSL, HB⟩ := hrel
    by_cases hlt : k < k0
    · have hkI : (k : Int) < (k0 : Int) := by omega
      have hkN : (k : Int) < (LN : Int) := by omega
      obtain ⟨bb, oo, rfl, hbl, hce⟩ := HCE.out (by omega)
      have HCL := Lib.hid hce
      obtain ⟨_, hx12, hxI⟩ := hce wr HB.out k hlt
      have hkc : k < l'.length := by rw [HLL.out]; exact hlt
      have hap := fits_step HFIT.out hkc
      have HMS := Lib.hid (memT_succ m0 hkc)
      have HIV := Lib.hid (HINV.out k hk)
      have HIN := Lib.hid (HINV.out (k + 1) (by omega))
      obtain ⟨a1, a2, a3⟩ := apply_pl hap
      obtain ⟨gok, gsm⟩ := HGM.out k hk
      obtain ⟨gok2, gsm2⟩ := HGM.out (k + 1) (by omega)
      have hobl : ob < wr.heap.size := HSL.out.lt rfl
      have HRE := Lib.hid fun w2 (hb2 : Below w.heap.size w w2) => (HCL.out w2 hb2 k hlt).1
      obtain ⟨f, hf⟩ : ∃ f : Int, (if (l'.getD k []).getD 0 0 = 6 then (3 : Int) else 2) = f := ⟨_, rfl⟩
      have HO1 : Hid (stq (l'.getD k []) = true → outT m0 l' k0 (k + 1) = (outT m0 l' k0 k).set k 1) := Lib.hid fun h => by
        show (let x := l'.getD k []; if stq x then _ else _ : List Int) = _
        simp only [h, if_true]
      have HO2 : Hid (stq (l'.getD k []) = false → outT m0 l' k0 (k + 1) = outL l' (memT m0 l' k) (memT m0 l' (k + 1)) f k (outT m0 l' k0 k) NL) := Lib.hid fun h => by
        show (let x := l'.getD k []; if stq x then _ else _ : List Int) = _
        simp only [h, Bool.false_eq_true, if_false]
        rw [hf, HNL.out]
      obtain ⟨x, hxe⟩ : ∃ x, l'.getD k [] = x := ⟨_, rfl⟩
      rw [hxe] at hx12 hxI a1 a2 a3 HRE HMS HO1 HO2 hf
      rw [← HMS.out] at a1 a2 a3
      have hi12 : (Tryz.prog.info? 68).map (·.size) = some (iv x).length := by rw [size79, iv_len, hx12]
      have HLK : Hid ((memT m0 l' k).L.length = NL) := Lib.hid ((HMN.out k).trans HNL.out)
      have HLM : Hid ((memT m0 l' (k + 1)).L.length = NL) := Lib.hid ((HMN.out (k + 1)).trans HNL.out)
      have HCO := Lib.hid (rCopy_any p (memT m0 l' k) _ wr gok (gsm.mono (by omega)) HRF.out)
      have HAP := Lib.hid fun w2 (hb2 : Below wr.heap.size wr w2) => rApply_any p x (memT m0 l' k) _ w2 hx12 hxI gok (gsm.mono (by omega)) (HRF.out.below hb2)
      have HGOK := Lib.hid gok
      have HGOK2 := Lib.hid gok2
      have HGSM := Lib.hid gsm
      have HGSM2 := Lib.hid gsm2
      have HX12 := Lib.hid hx12
      have HA3 := Lib.hid a3
      have hu68 := Tryz.underlying68
      obtain ⟨O0, hO0⟩ : ∃ O, outT m0 l' k0 k = O := ⟨_, rfl⟩
      have HOL : Hid (O0.length = k0) := Lib.hid (by rw [← hO0]; exact HIV.out.ol)
      rw [hO0] at HSL HO1 HO2
      have hst0 : stq x = (decide (x.getD 0 0 = 1) || decide (x.getD 0 0 = 2)) := rfl
      clear hce hxI hap a1 a2 a3 gok gsm gok2 gsm2 hx12 HINV hO0 HIV HCE
      go_wp2_with fail
      refine HCO.out.mono ?_
      rintro e w2 ⟨r, rfl, hr2, hb2⟩
      have HR2 := Lib.hid hr2
      have HB2 := Lib.hid hb2
      have HBW2 := Lib.hid (bel_on HB.out hb2)
      have rE := HRE.out w2 HBW2.out
      have HA2 := Lib.hid (HAP.out w2 hb2)
      clear hr2 hb2 HCO HAP
      go_wp2_with ((with_reducible refine arm_range 68 bb (oo + k * 12) (iv x) rE _ hu68 rfl hi12 rfl _ rfl ?_ ?_); focus rfl)
      refine HA2.out.mono ?_
      rintro e w3 ⟨rfl, hst⟩
      have hsz1 := HB.out.size
      have hsz2 := HB2.out.size
      have hsz3 := hst.2.size
      have HST := Lib.hid hst
      have HB3 : Hid (Below w.heap.size w w3) := Lib.hid (HBW2.out.trans (hst.2.below (fun q _ hq => hq.1.1) (Nat.le_trans hsz1 hsz2)))
      have HRP : Hid (Ref w3 p (memT m0 l' (k + 1)) (fun q => New w w3 q ∧ q ≠ ob)) := Lib.hid (by
        have h1 := HST.out.1
        rw [← HMS.out] at h1
        exact h1.wide (fun q hq => by
          rcases hq with ⟨⟨h2, h3⟩, h4⟩ | ⟨h2, h3⟩
          · exact ⟨⟨h2, by omega⟩, h4⟩
          · exact ⟨⟨by omega, h3⟩, by omega⟩) fun q hq => hq.1.2)
      have HRR : Hid (Ref w3 r (memT m0 l' k) (New wr w2)) := Lib.hid (HR2.out.kept HST.out.2 fun q h1 h2 => by
        have := h1.1
        have := h2.1.2
        omega)
      have HGO : Hid (∀ q, New wr w2 q → q ≠ ob) := Lib.hid fun q h => by
        have := h.1
        omega
      have HS3 : Hid (Sl w3 3 1 (.slice (some ⟨ob, 0, none⟩) k0 k0) k0 (iv O0)) := Lib.hid (HSL.out.keep fun q hq => by
        simp only [Value.ownBlock, Option.some.injEq] at hq
        subst hq
        exact (HST.out.2.block ob (by omega) fun h => h.2 rfl).trans (HB2.out.block ob hobl))
      obtain ⟨kd, hkd⟩ : ∃ kd, x.getD 0 0 = kd := ⟨_, rfl⟩
      rw [hkd] at hst0 hf
      have e0 : w3.cell? ⟨bb, oo + k * 12, none⟩ = some (.int .i64 kd) := by
        have := HRE.out w3 HB3.out 0 (.int .i64 (x.getD 0 0)) (iv_getD (by have := HX12.out; omega))
        rw [hkd] at this
        exact this
      have HEK : Hid (∀ W, Below w.heap.size w W → W.cell? ⟨bb, oo + k * 12, none⟩ = some (.int .i64 kd)) := Lib.hid fun W hW => by
        have := HRE.out W hW 0 (.int .i64 (x.getD 0 0)) (iv_getD (by have := HX12.out; omega))
        rw [hkd] at this
        exact this
      obtain ⟨G, hG⟩ : ∃ G, New wr w2 = G := ⟨_, rfl⟩
      rw [hG] at HRR HGO
      clear hst HA2 rE HR2 HB2 HBW2 HST HSL HRF hG hsz2 hsz3 hkd
      by_cases hst : kd = 1 ∨ kd = 2
      · have hsq : stq x = true := by rw [hst0]; rcases hst with h | h <;> simp [h]
        have HO1' := Lib.hid (HO1.out hsq)
        have fr := HS3.out.free (g := ob) rfl k
        obtain ⟨cu, cc⟩ : ∃ u, w3.cell? ⟨ob, k, none⟩ = some u := by
          obtain ⟨u, hu⟩ : ∃ u, (iv O0)[k]? = some u := ⟨_, List.getElem?_eq_getElem (by rw [iv_len, HOL.out]; exact hlt)⟩
          have := HS3.out.cells rfl k u hu
          rw [Nat.zero_add] at this
          exact ⟨u, this⟩
        have hS4 := HS3.out.set k (.int .i64 1)
        rw [iv_set, ← HO1'.out, Nat.zero_add] at hS4
        have HS4 := Lib.hid hS4
        have hK4 : Kept (fun q => q = ob) w3 (w3.setCell ⟨ob, k, none⟩ (.int .i64 1)) := Kept.setCell w3 (a := ⟨ob, k, none⟩) _ rfl
        have HB4 : Hid (Below w.heap.size w (w3.setCell ⟨ob, k, none⟩ (.int .i64 1))) := Lib.hid (HB3.out.trans (hK4.below (fun q _ hq => by rw [hq]; exact HOB.out) HB3.out.size))
        have HP4 : Hid (Ref (w3.setCell ⟨ob, k, none⟩ (.int .i64 1)) p (memT m0 l' (k + 1)) (fun q => New w (w3.setCell ⟨ob, k, none⟩ (.int .i64 1)) q ∧ q ≠ ob)) := Lib.hid ((HRP.out.kept hK4 fun q h1 h2 => h1.2 h2).wide (fun q h1 => ⟨⟨h1.1.1, Nat.lt_of_lt_of_le h1.1.2 hK4.size⟩, h1.2⟩) fun q h1 => h1.1.2)
        obtain ⟨W4, hW4⟩ : ∃ W4, w3.setCell ⟨ob, k, none⟩ (.int .i64 1) = W4 := ⟨_, rfl⟩
        rw [hW4] at HS4 HB4 HP4
        clear hS4 hK4 HRP HRR HS3 HB3 HO1 HO2 hsq hst0 hf HEK HRE
        rcases hst with rfl | rfl
        all_goals
          go_wp2_with fail
          go_roundw
          case rel => exact ⟨k + 1, by simp, by omega, HP4, HS4, HB4⟩
          case measure => simp [intOf]; omega
      · have hk1 : (kd == 1) = false := by rw [beq_eq_false_iff_ne]; omega
        have hk2 : (kd == 2) = false := by rw [beq_eq_false_iff_ne]; omega
        have hsq : stq x = false := by
          rw [hst0, decide_eq_false (by omega), decide_eq_false (by omega)]
          rfl
        have HO2' := Lib.hid (HO2.out hsq)
        have HA3' := Lib.hid (HA3.out hsq)
        have HK0 : Hid (Kept (fun q => q = ob) w3 w3) := Lib.hid (Kept.refl _ _)
        have HOE : Hid (O0 = outL l' (memT m0 l' k) (memT m0 l' (k + 1)) f k O0 0) := Lib.hid rfl
        have HFF := Lib.hid hf
        clear HO1 HO2 hsq hst0 HA3 hst HB hf
        obtain ⟨wo, rfl⟩ : ∃ wo : World, wo = wr := ⟨_, rfl⟩
        go_wp2_with fail
        clear e0
        go_loopw [14] (fun i wr => ∃ (J : Nat) (O : List Int), i = .int .i64 (J : Int) ∧ J ≤ NL ∧ Hid (O = outL l' (memT m0 l' k) (memT m0 l' (k + 1)) f k O0 J) ∧ Hid (Sl wr 3 1 (.slice (some ⟨ob, 0, none⟩) k0 k0) k0 (iv O)) ∧ Hid (Kept (fun q => q = ob) w3 wr)) (fun i _ => NL - (intOf i).toNat)
        case atStart => exact ⟨0, O0, rfl, by omega, HOE, HS3, HK0⟩
        case round =>
          clear HS3 HK0 HOE
          obtain ⟨J, O, rfl, hJ, HOE, HS, HKP⟩ := hrel
          have hrp := HRP.out.kept HKP.out fun q h1 h2 => h1.2 h2
          have HBK : Hid (Below w.heap.size w wr) := Lib.hid (HB3.out.trans (HKP.out.below (fun q _ hq => by rw [hq]; exact HOB.out) HB3.out.size))
          obtain ⟨d2, o2, cap2', ev2, X2, h2⟩ := hrp
          have c02 := h2.c0
          have hcp2 := h2.cap_
          rw [HLM.out] at c02 hcp2
          by_cases hJl : J < NL
          · have hJI : (J : Int) < (NL : Int) := by omega
            obtain ⟨d1, o1, cap1, ev1, X1, h1⟩ := HRR.out.kept HKP.out HGO.out
            have c01 := h1.c0
            have hcp1 := h1.cap_
            rw [HLK.out] at c01 hcp1
            obtain ⟨V1, _, _, _, _, h19, _, hsv1⟩ := h1.at HGOK.out (i := J) (by rw [HLK.out]; exact hJl)
            obtain ⟨V2, _, _, _, _, h29, _, hsv2⟩ := h2.at HGOK2.out (i := J) (by rw [HLM.out]; exact hJl)
            have hp1 := HGSM.out.pend _ (PM.line_mem (i := J) (by rw [HLK.out]; exact hJl))
            have hp21 := HA3'.out J
            change ((memT m0 l' (k + 1)).line J).pend.length ≤ ((memT m0 l' k).line J).pend.length at hp21
            have HOJ : Hid (outL l' (memT m0 l' k) (memT m0 l' (k + 1)) f k O0 (J + 1) = markG l' J f k 0 (((memT m0 l' k).line J).pend.length - ((memT m0 l' (k + 1)).line J).pend.length) O) := Lib.hid (by rw [HOE.out]; rfl)
            have HOLJ : Hid (O.length = k0) := Lib.hid (by rw [HOE.out, outL_length]; exact HOL.out)
            obtain ⟨PA1, pc1, rfl, _⟩ := hsv1.shape
            obtain ⟨PA2, pc2, rfl, _⟩ := hsv2.shape
            generalize ((memT m0 l' k).line J).pend.length = n1 at *
            generalize ((memT m0 l' (k + 1)).line J).pend.length = n2 at *
            obtain ⟨g0, hg0⟩ : ∃ g0, n1 - n2 = g0 := ⟨_, rfl⟩
            have hgz : (n1 : Int) - (n2 : Int) = (g0 : Int) := by omega
            have hgw : IntKind.i64.wrap ((n1 : Int) - (n2 : Int)) = (g0 : Int) := by rw [hgz, i64_wraps]; omega
            have hg800 : g0 ≤ 800 := by omega
            rw [hg0] at HOJ
            clear h1 h2 hsv1 hsv2 hp21 HOE hg0
            have HS0 := Lib.hid HS.out
            clear hcp1 hcp2
            go_wp2_with fail
            go_quiet (fail)
            have HKD : Hid (Kept (fun q => q = ob) w3 (wr.drewN nq)) := Lib.hid (HKP.out.then_ (Kept.of_below (below_drewN (Below.refl _ _) nq)))
            have HSD : Hid (Sl (wr.drewN nq) 3 1 (.slice (some ⟨ob, 0, none⟩) k0 k0) k0 (iv O)) := Lib.hid (HS.out.keep fun q hq => rfl)
            have HOK : Hid (outL l' (memT m0 l' k) (memT m0 l' (k + 1)) f k O0 (J + 1) = markG l' J f (k - 0) 0 g0 O) := HOJ
            obtain ⟨OJ, hOJ⟩ : ∃ OJ, outL l' (memT m0 l' k) (memT m0 l' (k + 1)) f k O0 (J + 1) = OJ := ⟨_, rfl⟩
            rw [hOJ] at HOK
            have HOJE := Lib.hid hOJ
            generalize wr.drewN nq = wd at *
            clear HOJ HS HKP HBK HS0 c01 c02 h19 h29 hgz hgw hOJ hp1
            obtain ⟨wi, rfl⟩ : ∃ wi : World, wi = wr := ⟨_, rfl⟩
            go_wp2_with fail
            go_loopw [15, 16] (fun sg sk wr => ∃ (q g : Nat) (U : List Int), sg = .int .i64 (g : Int) ∧ sk = .int .i64 (q : Int) ∧ q ≤ k ∧ g ≤ 800 ∧ Hid (OJ = markG l' J f (k - q) q g U) ∧ Hid (U.length = k0) ∧ Hid (Sl wr 3 1 (.slice (some ⟨ob, 0, none⟩) k0 k0) k0 (iv U)) ∧ Hid (Kept (fun q => q = ob) w3 wr)) (fun _ sk _ => k - (intOf sk).toNat)
            case atStart => exact ⟨0, g0, O, rfl, rfl, by omega, hg800, Lib.hid HOK.out, HOLJ, HSD, HKD⟩
            case round =>
              clear HOK HOLJ HSD HKD hg800
              obtain ⟨q, g, U, rfl, rfl, hq, hg, HU, HUL, HS, HKP⟩ := hrel
              have HBK : Hid (Below w.heap.size w wr) := Lib.hid (HB3.out.trans (HKP.out.below (fun q _ hq => by rw [hq]; exact HOB.out) HB3.out.size))
              by_cases hql : q < k
              case neg =>
                obtain rfl : q = k := by omega
                have hqI : ¬ (q : Int) < (q : Int) := by omega
                have HOX : Hid (U = outL l' (memT m0 l' q) (memT m0 l' (q + 1)) f q O0 (J + 1)) := Lib.hid (by
                  rw [HOJE.out, HU.out, Nat.sub_self]
                  rfl)
                clear HU
                go_wp2_with fail
                go_roundw
                case rel => exact ⟨J + 1, U, by simp, by omega, HOX, HS, HKP⟩
                case measure => simp [intOf]; omega
              have hqI : (q : Int) < (k : Int) := by omega
              by_cases hg0 : g = 0
              · subst hg0
                have HOX : Hid (U = outL l' (memT m0 l' k) (memT m0 l' (k + 1)) f k O0 (J + 1)) := Lib.hid (by rw [HOJE.out, HU.out, markG_end])
                clear HU
                go_wp2_with fail
                go_roundw
                case rel => exact ⟨J + 1, U, by simp, by omega, HOX, HS, HKP⟩
                case measure => simp [intOf]; omega
              obtain ⟨g', hg'⟩ : ∃ g', g = g' + 1 := ⟨g - 1, by omega⟩
              have hgp : (0 : Int) < (g : Int) := by omega
              have hgm : (g : Int) - 1 = (g' : Int) := by omega
              have hgw : IntKind.i64.wrap ((g : Int) - 1) = (g' : Int) := by rw [hgm, i64_wraps]; omega
              have hg8 : g' ≤ 800 := by omega
              obtain ⟨rq, q12, qI⟩ := HCL.out wr HBK.out q (by omega)
              have hqk : q < l'.length := by rw [HLL.out]; omega
              have HAT := Lib.hid (store_at (l := l') (k := q) HFIT.out hqk)
              have haI := getD_I qI 1
              have c0 := rq 0 (.int .i64 ((l'.getD q []).getD 0 0)) (iv_getD (by omega))
              have c1 := rq 1 (.int .i64 ((l'.getD q []).getD 1 0)) (iv_getD (by omega))
              rw [Nat.add_zero] at c0
              have hstq : stq (l'.getD q []) = (decide ((l'.getD q []).getD 0 0 = 1) || decide ((l'.getD q []).getD 0 0 = 2)) := rfl
              have hlnq : lnq (l'.getD q []) = ((l'.getD q []).getD 1 0 / 8).toNat := rfl
              have co := HS.out.cells rfl q _ (iv_getD (x := U) (j := q) (by rw [HUL.out]; omega))
              rw [Nat.zero_add] at co
              have HUN : Hid ((stq (l'.getD q []) && decide (U.getD q 0 = 1) && (lnq (l'.getD q []) == J)) = false → OJ = markG l' J f (k - (q + 1)) (q + 1) g U) := Lib.hid fun h => by
                rw [HU.out, hg', show k - q = (k - (q + 1)) + 1 by omega, markG_no h]
              have HUY : Hid ((stq (l'.getD q []) && decide (U.getD q 0 = 1) && (lnq (l'.getD q []) == J)) = true → OJ = markG l' J f (k - (q + 1)) (q + 1) g' (U.set q f)) := Lib.hid fun h => by
                rw [HU.out, hg', show k - q = (k - (q + 1)) + 1 by omega, markG_yes h]
              rw [hstq, hlnq] at HUN HUY
              rw [hstq] at HAT
              generalize (l'.getD q []).getD 0 0 = kq at *
              generalize (l'.getD q []).getD 1 0 = aq at *
              have HOV : Hid (U.getD q 0 = U.getD q 0) := Lib.hid rfl
              obtain ⟨ov, hov⟩ : ∃ z, U.getD q 0 = z := ⟨_, rfl⟩
              rw [hov] at co HUN HUY
              have hqN : (q : Int) < (LN : Int) := by omega
              have hqK : (q : Int) < (k0 : Int) := by omega
              clear rq q12 qI hstq hlnq HU HOV hov hg'
              by_cases hsq : kq = 1 ∨ kq = 2
              case neg =>
                have b1 : (kq == 1) = false := by rw [beq_eq_false_iff_ne]; omega
                have b2 : (kq == 2) = false := by rw [beq_eq_false_iff_ne]; omega
                have HX := Lib.hid (HUN.out (by rw [decide_eq_false (by omega), decide_eq_false (by omega)]; simp))
                clear HUN HUY hsq HAT haI co
                go_wp2_with fail
                go_roundw
                case rel => exact ⟨q + 1, g, U, rfl, by simp, by omega, hg, HX, HUL, HS, HKP⟩
                case measure => simp [intOf]; omega
              have hsb : (decide (kq = 1) || decide (kq = 2)) = true := by rcases hsq with h | h <;> simp [h]
              have ha0 := HAT.out hsb
              obtain ⟨jq, hjq⟩ : ∃ jq, (aq / 8).toNat = jq := ⟨_, rfl⟩
              have hd1 : aq / 8 = (jq : Int) := by omega
              have hd2 : IntKind.i64.wrap (Int.tdiv aq 8) = (jq : Int) := by
                unfold I64 at haI
                rw [Int.tdiv_eq_ediv_of_nonneg ha0, hd1, i64_wraps]
                omega
              have hd3 : wrap64 (aq / 8) = (jq : Int) := by
                unfold I64 at haI
                rw [hd1]
                unfold wrap64
                omega
              rw [hsb, hjq] at HUN HUY
              by_cases hov1 : ov = 1
              case neg =>
                have b3 : (ov == 1) = false := by rw [beq_eq_false_iff_ne]; exact hov1
                have HX := Lib.hid (HUN.out (by rw [decide_eq_false hov1]; simp))
                clear HUN HUY hsb HAT haI ha0 hd1 hd2 hd3 hjq hov1 c1
                rcases hsq with rfl | rfl
                all_goals
                  go_wp2_with fail
                  go_roundw
                  case rel => exact ⟨q + 1, g, U, rfl, by simp, by omega, hg, HX, HUL, HS, HKP⟩
                  case measure => simp [intOf]; omega
              subst hov1
              by_cases hjJ : jq = J
              case neg =>
                have b3 : ((jq : Int) == (J : Int)) = false := by rw [beq_eq_false_iff_ne]; omega
                have HX := Lib.hid (HUN.out (by
                  have : (jq == J) = false := by rw [beq_eq_false_iff_ne]; exact hjJ
                  rw [this]
                  simp))
                clear HUN HUY hsb HAT haI hjJ hjq
                rcases hsq with rfl | rfl
                all_goals
                  go_wp2_with fail
                  go_roundw
                  case rel => exact ⟨q + 1, g, U, rfl, by simp, by omega, hg, HX, HUL, HS, HKP⟩
                  case measure => simp [intOf]; omega
              subst hjJ
              have HX := Lib.hid (HUY.out (by simp))
              have fr := HS.out.free (g := ob) rfl q
              have hS5 := HS.out.set q (.int .i64 2)
              rw [iv_set, Nat.zero_add] at hS5
              have hK5 : Kept (fun q => q = ob) w3 (wr.setCell ⟨ob, q, none⟩ (.int .i64 2)) := HKP.out.then_ (Kept.setCell wr (a := ⟨ob, q, none⟩) _ rfl)
              have hB5 : Below w.heap.size w (wr.setCell ⟨ob, q, none⟩ (.int .i64 2)) := HB3.out.trans (hK5.below (fun q _ hq => by rw [hq]; exact HOB.out) HB3.out.size)
              have e5 := HEK.out _ hB5
              have HUL5 : Hid ((U.set q f).length = k0) := Lib.hid (by rw [List.length_set]; exact HUL.out)
              clear HUN HUY hsb HAT haI ha0 hjq
              by_cases h6 : kd = 6
              · subst h6
                obtain rfl : f = 3 := HFF.out.symm
                have fr5 := hS5.free (g := ob) rfl q
                obtain ⟨cu, cc5⟩ : ∃ u, (wr.setCell ⟨ob, q, none⟩ (.int .i64 2)).cell? ⟨ob, q, none⟩ = some u := by
                  have := hS5.cells rfl q _ (iv_getD (x := U.set q 2) (j := q) (by rw [List.length_set, HUL.out]; omega))
                  rw [Nat.zero_add] at this
                  exact ⟨_, this⟩
                obtain ⟨W5, hW5⟩ : ∃ W5, wr.setCell ⟨ob, q, none⟩ (.int .i64 2) = W5 := ⟨_, rfl⟩
                rw [hW5] at hS5 hK5 e5 fr5 cc5
                have hS6 := hS5.set q (.int .i64 3)
                rw [iv_set, Nat.zero_add, set_set] at hS6
                have HS6 := Lib.hid hS6
                have HK6 : Hid (Kept (fun q => q = ob) w3 (W5.setCell ⟨ob, q, none⟩ (.int .i64 3))) := Lib.hid (hK5.then_ (Kept.setCell W5 (a := ⟨ob, q, none⟩) _ rfl))
                clear hS5 hK5 hB5 hS6
                rcases hsq with rfl | rfl
                all_goals
                  go_wp2_with fail
                  go_roundw
                  case rel => exact ⟨q + 1, g', _, by simp [hgm], by simp, by omega, hg8, HX, HUL5, HS6, HK6⟩
                  case measure => simp [intOf]; omega
              · obtain rfl : f = 2 := by have := HFF.out; rw [if_neg h6] at this; exact this.symm
                have b6 : (kd == 6) = false := by rw [beq_eq_false_iff_ne]; exact h6
                obtain ⟨W5, hW5⟩ : ∃ W5, wr.setCell ⟨ob, q, none⟩ (.int .i64 2) = W5 := ⟨_, rfl⟩
                rw [hW5] at hS5 hK5 e5
                have HS5 := Lib.hid hS5
                have HK5 := Lib.hid hK5
                clear hS5 hK5 hB5 h6
                rcases hsq with rfl | rfl
                all_goals
                  go_wp2_with fail
                  go_roundw
                  case rel => exact ⟨q + 1, g', _, by simp [hgm], by simp, by omega, hg8, HX, HUL5, HS5, HK5⟩
                  case measure => simp [intOf]; omega
          · obtain rfl : J = NL := by omega
            have hJI : ¬ (J : Int) < (J : Int) := by omega
            have HP4 : Hid (Ref wr p (memT m0 l' (k + 1)) (fun q => New w wr q ∧ q ≠ ob)) := Lib.hid ((HRP.out.kept HKP.out fun q h1 h2 => h1.2 h2).wide (fun q h1 => ⟨⟨h1.1.1, Nat.lt_of_lt_of_le h1.1.2 HKP.out.size⟩, h1.2⟩) fun q h1 => h1.1.2)
            have HS4 : Hid (Sl wr 3 1 (.slice (some ⟨ob, 0, none⟩) k0 k0) k0 (iv (outT m0 l' k0 (k + 1)))) := Lib.hid (by rw [HO2'.out, ← HOE.out]; exact HS.out)
            clear h2
            go_wp2_with fail
            go_roundw
            case rel => exact ⟨k + 1, by simp, by omega, HP4, HS4, HBK⟩
            case measure => simp [intOf]; omega
    · obtain rfl : k = k0 := by omega
      have hkI : ¬ (k : Int) < (k : Int) := by omega
      have HF : Hid (PO (.returned (.tuple #[.slice (some ⟨ob, 0, none⟩) k k, .int .i64 0])) wr) := Lib.hid (by
        rw [HPO.out, HFP.out]
        exact .inr ⟨by first | rfl | trivial, _, rfl, HSL.out, fun q hq => by
          simp only [Value.ownBlock, Option.some.injEq] at hq
          rw [← hq]
          exact HOB.out⟩)
      go_wp2_with fail
      go_ret2
      exact ⟨HF.out, HB.out⟩
end Go.Proofs.YtpojhplnhppcpaaGreatDoor
