/-
  What trace's Fates does. The examples of the chapter, as plain data.
-/
import Derived.Test.YtpojhplnhppcpaaGreatDoorQU9
import Derived.Deep.CutBlock
import Derived.Test.YtpojhplnhppcpaaGreatDoorQX4
import Derived.Test.YtpojhplnhppcpaaGreatDoorQV4
namespace Go.Proofs.YtpojhplnhppcpaaGreatDoor
open Go.RowKit Go.Maps
def fatesP (img : List (List Int × Int)) (l : List (List Int)) (n : Int) : List Int := outT (fromP img) (l.take n.toNat) n.toNat n.toNat
def FatPost (img : List (List Int × Int)) (l : List (List Int)) (n : Int) (w : World) (e : Ending) (w' : World) : Prop :=
  (atE img l n ≠ 0 ∧ e = .returned (.tuple #[.slice none 0 0, .int .i64 (atE img l n)])) ∨
  (atE img l n = 0 ∧ ∃ u, e = .returned (.tuple #[u, .int .i64 0]) ∧ Sl w' 3 1 u n.toNat (iv (fatesP img l n)) ∧ ∀ q, u.ownBlock = some q → w.heap.size ≤ q)
theorem intInfo3 : (Tryz.prog.info? 3).map (fun i => (i.zero, i.size, i.bytes)) = some (some (.int .i64 0), 1, 8) := by kernel_rfl
theorem made_ints (n : Nat) : (madeCells #[.int .i64 0] n).toList = iv (List.replicate n 0) := by
  have e : madeCells #[.int .i64 0] n = (Array.range n).map fun _ => Value.int .i64 0 := by
    unfold madeCells
    congr 1
    funext i
    simp [Nat.mod_one]
  rw [e]
  unfold iv
  rw [Array.toList_map, Array.toList_range, List.map_const', List.length_range, List.map_replicate]
theorem FW.start {w0 w1 w2 w4 : World} {k0 NL p : Nat} {m0 : PM} {l' : List (List Int)} (hb : Below w0.heap.size w0 w1) (hb2 : Below w0.heap.size w0 w2) (hr : Rep w2 p m0 (New w1 w2))
    (hsl : Sl w4 3 1 (.slice (some ⟨w2.heap.size + 1, 0, none⟩) k0 k0) k0 (iv (List.replicate k0 0))) (hg : (w2.alloc (.cells #[.pointer (some ⟨p, 0, none⟩)] 32)).grownBy w4 none) :
    FW w0 (((w4.alloc (.cells #[.slice (some ⟨w2.heap.size + 1, 0, none⟩) k0 k0] 59)).alloc (.map #[] 0)).alloc (.cells #[.map (some (w4.heap.size + 1))] 120)) k0 NL (w4.heap.size + 1 + 1) w2.heap.size w4.heap.size (w4.heap.size + 1) p
      (.slice (some ⟨w2.heap.size + 1, 0, none⟩) k0 k0) m0 (List.replicate k0 0) (plc l' 0) (New w1 w2) (.map []) (fun _ => nilS) := by
  have b24 : Below w2.heap.size w2 w4 := (bel_new w2 (.cells #[.pointer (some ⟨p, 0, none⟩)] 32)).grown hg (by simp) (fun k hk => by cases hk)
  have k34 : Kept (fun _ => False) (w2.alloc (.cells #[.pointer (some ⟨p, 0, none⟩)] 32)) w4 := Kept.of_grown hg (fun k hk => by cases hk)
  have hq4 : Arr w4 w2.heap.size 32 [.pointer (some ⟨p, 0, none⟩)] := (k34.block _ (by simp) (fun h => h)).trans (Arr.new w2 [.pointer (some ⟨p, 0, none⟩)] 32)
  have hs4 : w2.heap.size + 1 < w4.heap.size := hsl.lt rfl
  have hf5 := Arr.new w4 [.slice (some ⟨w2.heap.size + 1, 0, none⟩) k0 k0] 59
  have z5 : (w4.alloc (.cells #[.slice (some ⟨w2.heap.size + 1, 0, none⟩) k0 k0] 59)).heap.size = w4.heap.size + 1 := by simp
  have hmm := World.ownsMap_made (w4.alloc (.cells #[.slice (some ⟨w2.heap.size + 1, 0, none⟩) k0 k0] 59)) Tryz.prog 3 heldR
  rw [z5] at hmm
  have b45 := bel_new w4 (.cells #[.slice (some ⟨w2.heap.size + 1, 0, none⟩) k0 k0] 59)
  generalize (w4.alloc (.cells #[.slice (some ⟨w2.heap.size + 1, 0, none⟩) k0 k0] 59)) = w5 at *
  have z6 : (w5.alloc (.map #[] 0)).heap.size = w4.heap.size + 1 + 1 := by rw [← z5]; simp
  have b56 := bel_new w5 (.map #[] 0)
  have hs7 := Arr.new (w5.alloc (.map #[] 0)) [.map (some (w4.heap.size + 1))] 120
  have b67 := bel_new (w5.alloc (.map #[] 0)) (.cells #[.map (some (w4.heap.size + 1))] 120)
  rw [z6] at hs7
  generalize (w5.alloc (.map #[] 0)) = w6 at *
  generalize (w6.alloc (.cells #[.map (some (w4.heap.size + 1))] 120)) = w7 at *
  have b47 := bel_on b45 (bel_on b56 b67)
  have b57 := bel_on b56 b67
  have hz := hb2.size
  have hz1 := hb.size
  refine ⟨hs7, hq4.keep b47, hf5.keep b57, ?_, hr.below (bel_on b24 b47), hsl.keep (fun k hk => b47.block k (hsl.lt hk)), fun k hk => Nat.le_trans hb.size hk.1, fun k hk => ?_, ?_, fun k hk => ?_, fun j _ k hk => by simp [nilS, Value.ownBlock] at hk, ⟨by omega, by omega, by omega⟩, bel_on hb2 (bel_on b24 b47)⟩
  · exact {
      map := ownsMap_keep (ownsMap_size hmm) (b67.block _ (by rw [z6]; omega))
      at_ := fun i _ => rfl
      off := fun kl hk => by simp [Maps.has] at hk
      sl := fun i _ => Sl.nil _ _ _
      own := fun i _ k hk => by simp [nilS, Value.ownBlock] at hk
      apart := fun i j _ _ _ h => by simp [nilS, Value.ownBlock] at h
      new := by omega }
  · simp only [Value.ownBlock, Option.some.injEq] at hk
    omega
  · exact ⟨fun h => by have := h.2; omega, fun h => by have := h.2; omega, fun h => by have := h.2; omega, fun h => by have := h.2; omega⟩
  · simp only [Value.ownBlock, Option.some.injEq] at hk
    exact ⟨fun h => by have := h.2; omega, by omega, by omega, by omega, by omega, fun j _ => by simp [nilS, Value.ownBlock]⟩
theorem iv_getD {x : List Int} {j : Nat} (h : j < x.length) : (iv x)[j]? = some (.int .i64 (x.getD j 0)) := by
  unfold iv
  rw [List.getElem?_map, List.getElem?_eq_getElem h, List.getD_eq_getElem?_getD, List.getElem?_eq_getElem h]
  rfl
theorem from_pl (img : List (List Int × Int)) (j : Nat) : (fromP img).pl j = 0 := by
  unfold PM.pl PM.line fromP
  simp only [List.getD_eq_getElem?_getD, List.getElem?_map]
  cases img[j]? <;> rfl
set_option maxRecDepth 100000 in
set_option maxHeartbeats 8000000 in
set_option linter.unusedSimpArgs false in
theorem tfates_any (img : List (List Int × Int)) (l : List (List Int)) (n : Int) (v lv : Value) (w : World) (h8 : ∀ x ∈ img, x.1.length = 8) (hn : img.length ≤ 5000) (hs : Rd w v img.length (iv (flatI img)))
    (hl : EvI l) (hll : l.length ≤ 400) (hlv : Rd w lv l.length (iv l.flatten)) (hT : Tab w) :
    Calls Tryz.prog 38 #[v, lv, .int .i64 n] w fun e w' => FatPost img l n w e w' ∧ Below w.heap.size w w' := by
  have HTO := Lib.hid (to_any img l n v lv w h8 hn hs hl hll hlv hT)
  have HPO : Hid (∀ e w', FatPost img l n w e w' = ((atE img l n ≠ 0 ∧ e = .returned (.tuple #[.slice none 0 0, .int .i64 (atE img l n)])) ∨
    (atE img l n = 0 ∧ ∃ u, e = .returned (.tuple #[u, .int .i64 0]) ∧ Sl w' 3 1 u n.toNat (iv (fatesP img l n)) ∧ ∀ q, u.ownBlock = some q → w.heap.size ≤ q))) := Lib.hid fun _ _ => rfl
  change Hid (Calls _ _ _ _ fun e w' => ((atE img l n ≠ 0 ∧ e = .returned (.tuple #[.pointer none, .int .i64 (atE img l n)])) ∨
    (atE img l n = 0 ∧ ∃ p, e = .returned (.tuple #[.pointer (some ⟨p, 0, none⟩), .int .i64 0]) ∧ Rep w' p (atP img l n) (New w w'))) ∧ Below w.heap.size w w') at HTO
  obtain ⟨PO, hPO⟩ : ∃ PO, FatPost img l n w = PO := ⟨_, rfl⟩
  rw [hPO] at HPO ⊢
  have HAO := Lib.hid fun h => atE_ok (img := img) (l := l) (n := n) h
  have HFR := Lib.hid fun w1 (hb : Below w.heap.size w w1) => from_any img v w1 h8 hn (hs.below hb)
  have HFO := Lib.hid fun (hr : rightB img = true) => fromP_ok h8 hr
  have HFP : Hid (fatesP img l n = outT (fromP img) (l.take n.toNat) n.toNat n.toNat) := Lib.hid rfl
  have HPL := Lib.hid (from_pl img)
  have HL := Lib.hid hl
  have HT := Lib.hid hT
  obtain ⟨FP, hFP⟩ : ∃ FP, fatesP img l n = FP := ⟨_, rfl⟩
  rw [hFP] at HPO HFP
  obtain ⟨E, hE⟩ : ∃ E, atE img l n = E := ⟨_, rfl⟩
  rw [hE] at HTO HPO HAO
  obtain ⟨A, cap, rfl, _⟩ := hs
  have HLV := Lib.hid hlv
  obtain ⟨A2, cap2, rfl, hcap, _⟩ := hlv
  obtain ⟨LN, hLN⟩ : ∃ LN, l.length = LN := ⟨_, rfl⟩
  have HLN := Lib.hid hLN
  rw [hLN] at hcap hll HAO
  rw [hLN] at HTO HLV ⊢
  clear h8 hn hl hT hPO hE hFP hLN
  go_enter Tryz.func38, Tryz.ntmps38
  go_wp2_with fail
  refine HTO.out.mono ?_
  rintro e w1 ⟨hp, hb⟩
  have HB1 := Lib.hid hb
  clear hb HTO
  rcases hp with ⟨h1, rfl⟩ | ⟨h1, p1, rfl, _⟩
  · have HF : Hid (PO (.returned (.tuple #[.slice none 0 0, .int .i64 E])) w1) := Lib.hid (by rw [HPO.out]; exact .inl ⟨h1, rfl⟩)
    have hne : (E == 0) = false := by rw [beq_eq_false_iff_ne]; exact h1
    clear h1
    go_wp2_with fail
    go_ret2
    exact ⟨HF.out, HB1.out⟩
  subst h1
  obtain ⟨hr, hn0, hn1, hfit⟩ := HAO.out rfl
  obtain ⟨k0, rfl⟩ : ∃ k0 : Nat, n = (k0 : Int) := ⟨n.toNat, by omega⟩
  rw [Int.toNat_natCast] at hfit HFP HPO
  obtain ⟨fok, fsm, _⟩ := HFO.out hr
  have HRB := Lib.hid hr
  have HFR1 := Lib.hid (HFR.out w1 HB1.out)
  change Hid (Calls _ _ _ _ fun e w' => FromPost w1 img e w' ∧ Below w1.heap.size w1 w') at HFR1
  unfold FromPost at HFR1
  obtain ⟨m0, hm0⟩ : ∃ m0, fromP img = m0 := ⟨_, rfl⟩
  rw [hm0] at HFR1 HFP hfit fok fsm HPL
  have HFOK := Lib.hid fok
  have HFSM := Lib.hid fsm
  have hk0 : k0 ≤ LN := by omega
  obtain ⟨l', hl'⟩ : ∃ l', l.take k0 = l' := ⟨_, rfl⟩
  have HLL : Hid (l'.length = k0) := Lib.hid (by rw [← hl', List.length_take, HLN.out]; omega)
  have HEI : Hid (EvI l') := Lib.hid (by rw [← hl']; exact fun x hx => HL.out x (List.mem_of_mem_take hx))
  have HRD : Hid (Rd w (.slice A2 k0 cap2) k0 (iv l'.flatten)) := Lib.hid (by
    have h2 := HLV.out
    rw [← HLN.out] at h2
    have := h2.takeE (n := k0) (by rw [HLN.out]; exact hk0)
    rw [hl'] at this
    exact this)
  rw [hl'] at hfit HFP
  have HFIT : Hid (fitsP m0 l' = l'.length) := Lib.hid (by rw [HLL.out]; exact hfit)
  have hI0 : (0 : Int) ≤ (k0 : Int) := by omega
  have hI2 : (k0 : Int) ≤ (LN : Int) := by omega
  have hcap2 : LN ≤ cap2 := hcap
  have hI3 : (k0 : Int) ≤ (cap2 : Int) := by omega
  have hI4 : k0 ≤ cap2 := by omega
  clear hr hn0 hn1 hfit HAO HFR HFO hm0 hl' HL HLV hcap fok fsm
  go_wp2_with fail
  refine HFR1.out.mono ?_
  rintro e w2 ⟨hpost, hb2⟩
  have HB2 := Lib.hid (bel_on HB1.out hb2)
  clear HFR1 hb2
  rcases hpost with ⟨_, p, rfl, hp1⟩ | ⟨hrb, _⟩
  case inr =>
    rw [HRB.out] at hrb
    cases hrb
  have HP1 := Lib.hid hp1
  clear hp1
  obtain ⟨i0, hi, hz0, hz1, hz2⟩ := info_parts intInfo3
  have HI0 := Lib.hid hi
  have HZ0 := Lib.hid hz0
  have HZ1 := Lib.hid hz1
  have HZ2 := Lib.hid hz2
  clear hi hz0 hz1 hz2
  have hmk := fun w => run_makeMap (P := Tryz.prog) 120 w
  go_upto_block 0 with (at_make; refine wpList_make_full _ rfl _ _ 59 rfl w2.heap.size 3 i0 _ 1 Tryz.underlying59 HI0.out HZ0.out HZ1.out .i64 .i64 _ _ k0 rfl rfl rfl rfl (by rw [HZ2.out]; omega) (by unfold maxLen; omega) (by simp) ?_; intro w4 hown hgrow; have HSL4 := Lib.hid (Sl.of_row hown); have HGR4 := Lib.hid hgrow; clear hown hgrow)
  have HSL5 : Hid (Sl w4 3 1 (.slice (some ⟨w2.heap.size + 1, 0, none⟩) k0 k0) k0 (iv (List.replicate k0 0))) := Lib.hid (by
    have h1 := HSL4.out
    rw [show (Value.int .i64 0).cells = #[.int .i64 0] from rfl, made_ints, Nat.mul_one] at h1
    simpa using h1)
  have HFW0 := Lib.hid (FW.start (NL := m0.L.length) (l' := l') HB1.out HB2.out HP1.out HSL5.out HGR4.out)
  have HNF : Hid (∀ k, New w1 w2 k → w.heap.size ≤ k) := Lib.hid fun k hk => Nat.le_trans HB1.out.size hk.1
  clear HSL4 HSL5 HGR4 HP1 HB2 hmk
  generalize (((w4.alloc (.cells #[.slice (some ⟨w2.heap.size + 1, 0, none⟩) k0 k0] 59)).alloc (.map #[] 0)).alloc (.cells #[.map (some (w4.heap.size + 1))] 120)) = W0 at HFW0 ⊢
  generalize w4.heap.size + 1 + 1 = sb at HFW0 ⊢
  generalize w4.heap.size + 1 = mb at HFW0 ⊢
  generalize w4.heap.size = fb at HFW0 ⊢
  generalize w2.heap.size + 1 = fvb at HFW0 ⊢
  generalize w2.heap.size = pb at HFW0 ⊢
  generalize New w1 w2 = F0 at HFW0 HNF
  have HMN : Hid (∀ i, (memT m0 l' i).L.length = m0.L.length) := Lib.hid fun i => memT_len l' i HEI.out HFOK.out HFSM.out
  have HINV := Lib.hid fun i (hi : i ≤ k0) => FInv.all (n := k0) HLL.out HFIT.out HMN.out HPL.out i hi
  have HEQ : Hid (fsEnd m0 l' k0 m0.L.length = FP) := Lib.hid ((fates_eq HLL.out HFIT.out HMN.out HPL.out).trans HFP.out.symm)
  have HGM : Hid (∀ i, i ≤ k0 → (memT m0 l' i).Ok ∧ (memT m0 l' i).Small 800) := Lib.hid fun i hi => by
    obtain ⟨g1, _, g3⟩ := run_good (l'.take i) HFOK.out HFSM.out fun x hx => HEI.out x (List.mem_of_mem_take hx)
    exact ⟨g1, g3.mono (by rw [List.length_take]; omega)⟩
  have hu68 := Tryz.underlying68
  clear HFP HB1
  go_cut [14, 15, 16] from 38 to 71 (fun _ _ _ wx => ∃ (F : Nat → Prop) (D : DataW Value) (G : Nat → Value), Hid (FW w wx k0 m0.L.length sb pb fb mb p (.slice (some ⟨fvb, 0, none⟩) k0 k0) (memT m0 l' k0) (fsT m0 l' k0 k0) (plc l' k0) F D G))
  case first =>
    go_wp2_with fail
    go_loopw [38] (fun i wr => ∃ (k : Nat) (F : Nat → Prop) (D : DataW Value) (G : Nat → Value), i = .int .i64 (k : Int) ∧ k ≤ k0 ∧ Hid (FW w wr k0 m0.L.length sb pb fb mb p (.slice (some ⟨fvb, 0, none⟩) k0 k0) (memT m0 l' k) (fsT m0 l' k0 k) (plc l' k) F D G)) (fun i _ => k0 - (intOf i).toNat)
    case atStart => exact ⟨0, _, _, _, rfl, by omega, HFW0⟩
    case round =>
      clear HFW0 HNF
      obtain ⟨k, F, D, G, rfl, hk, HFW⟩ := hrel
      by_cases hlt : k < k0
      · have hkc : k < l'.length := by rw [HLL.out]; exact hlt
        have hkI : (k : Int) < (k0 : Int) := by omega
        have hfvl : fvb < wr.heap.size := HFW.out.fs_.lt rfl
        have hmbl : mb < wr.heap.size := HFW.out.pl.map.lt
        have HWG : Hid (∀ j, j < m0.L.length → ∀ q, (G j).ownBlock = some q → q < wr.heap.size) := Lib.hid fun j hj q hq => (HFW.out.pl.sl j hj).lt hq
        obtain ⟨_, _, hv9, _, _, hrr⟩ := HRD.out
        simp only [Value.slice.injEq, true_and] at hv9
        obtain ⟨rfl, rfl⟩ := hv9
        obtain ⟨bb, oo, rfl, hbl, hcells⟩ := hrr (by omega)
        have hgd : l'.getD k [] = l'[k] := by rw [List.getD_eq_getElem?_getD, List.getElem?_eq_getElem hkc]; rfl
        obtain ⟨hx12, hxI⟩ := HEI.out _ (List.getElem_mem hkc)
        have rE : wr.rangeAt bb (oo + k * 12) (iv l'[k]) := evLine (fun x hx => (HEI.out x hx).1) (cells_at hcells HFW.out.below hbl) hkc
        rw [← hgd] at hx12 hxI rE
        have hap := fits_step HFIT.out hkc
        have HMS := Lib.hid (memT_succ m0 hkc)
        have HIV := Lib.hid (HINV.out k hk)
        have HLE := Lib.hid HIV.out.le
        obtain ⟨a1, a2, a3⟩ := apply_pl hap
        rw [HMN.out k] at a1 a2
        have HF1 : Hid (stq (l'.getD k []) = true → fsT m0 l' k0 (k + 1) = (fsT m0 l' k0 k).set k 2) := Lib.hid fun h => by
          show (let x := l'.getD k []; if stq x then _ else _ : List Int) = _
          simp only [h, if_true]
        have HF2 : Hid (stq (l'.getD k []) = false → (l'.getD k []).getD 0 0 = 6 → fsT m0 l' k0 (k + 1) = markAll (fsT m0 l' k0 k) 3 (lastN ((memT m0 l' k).pl (atq (l'.getD k []))) (plc l' k (atq (l'.getD k []))))) := Lib.hid fun h h6 => by
          show (let x := l'.getD k []; if stq x then _ else _ : List Int) = _
          simp only [h, Bool.false_eq_true, if_false, h6, if_true]
        have HF3 : Hid (stq (l'.getD k []) = false → ¬ (l'.getD k []).getD 0 0 = 6 → fsT m0 l' k0 (k + 1) = fsT m0 l' k0 k) := Lib.hid fun h h6 => by
          show (let x := l'.getD k []; if stq x then _ else _ : List Int) = _
          simp only [h, Bool.false_eq_true, if_false, h6]
        have HP1 : Hid (stq (l'.getD k []) = true → plc l' (k + 1) = fun j => if j = lnq (l'.getD k []) then plc l' k (lnq (l'.getD k [])) ++ [k] else plc l' k j) := Lib.hid fun h => by
          funext j
          by_cases hj : j = lnq (l'.getD k [])
          · rw [if_pos hj, hj]
            exact plc_more (by rw [h]; simp)
          · rw [if_neg hj]
            exact plc_keep (by rw [h]; simp; exact fun e => hj e.symm)
        have HP0 : Hid (stq (l'.getD k []) = false → plc l' (k + 1) = plc l' k) := Lib.hid fun h => by
          funext j
          exact plc_keep (by rw [h]; rfl)
        generalize l'.getD k [] = x at *
        have hi12 : (Tryz.prog.info? 68).map (·.size) = some (iv x).length := by rw [size79, iv_len, hx12]
        obtain ⟨gok, gsm⟩ := HGM.out k hk
        have HTC := Lib.hid fun (F : Nat → Prop) W (h : Rep W p (memT m0 l' k) F) (hb : Below w.heap.size w W) (hF : ∀ q, F q → w.heap.size ≤ q) => tcall_any p x (memT m0 l' k) F W hx12 hxI gok (gsm.mono (by omega)) h (HT.out.keep hb) (fun h6 => by
          have := HT.out.lt
          have := hF _ h6
          omega)
        have HFN : Hid (∀ W i fs st D G F f, FW w W k0 m0.L.length sb pb fb mb p (.slice (some ⟨fvb, 0, none⟩) k0 k0) (memT m0 l' k) fs st F D G → i < m0.L.length → (memT m0 l' k).pl i ≤ (st i).length → (∀ q ∈ st i, q < k0) → _) := Lib.hid fun W i fs st D G F f hw hi hle hlt => end_any i k0 p sb pb fb mb w.heap.size f (.slice (some ⟨fvb, 0, none⟩) k0 k0) fs st (memT m0 l' k) F D G W hw.s hw.q hw.f gok (gsm.mono (by omega)) hw.rep (by rw [HMN.out k]; exact hi) (by rw [HMN.out k]; exact hw.pl) hle hlt hw.fs_ (fun q hq => ⟨(hw.fvF q hq).2.2.2.1, fun e => (hw.fvF q hq).2.2.2.2.2 i hi e⟩)
        have HFW1 := Lib.hid (HFW.out.stay (bel_new wr (.cells (iv x).toArray 68)))
        have hAX := Arr.new wr (iv x) 68
        have e0 := hAX.cell (iv_getD (x := x) (j := 0) (by omega))
        have e1 := hAX.cell (iv_getD (x := x) (j := 1) (by omega))
        have ha1I : I64 (x.getD 1 0) := getD_I hxI 1
        have HO := Lib.hid (iv_one x)
        have HL12 := Lib.hid hx12
        have HNW : Hid (wr.heap.size < (wr.alloc (.cells (iv x).toArray 68)).heap.size) := Lib.hid (by simp)
        have HMSX := Lib.hid (show applyP (memT m0 l' k) x = memT m0 l' (k + 1) from HMS.out.symm)
        generalize hmk : memT m0 l' k = mk at *
        obtain ⟨kd, hkd⟩ : ∃ kd, x.getD 0 0 = kd := ⟨_, rfl⟩
        obtain ⟨at_, hat⟩ : ∃ at_, x.getD 1 0 = at_ := ⟨_, rfl⟩
        rw [hkd] at e0 a2 HF2 HF3
        rw [hat] at e1 a1 a2 ha1I
        have hst0 : stq x = (decide (kd = 1) || decide (kd = 2)) := by unfold stq; rw [hkd]
        have hln : lnq x = (at_ / 8).toNat := by unfold lnq; rw [hat]
        have haq : atq x = at_.toNat := by unfold atq; rw [hat]
        have HAX := Lib.hid hAX
        clear hcells hrr hgd hap hxI hmk hAX gok gsm a3 HFW
        obtain ⟨Wn, hWn⟩ : ∃ Wn, wr.alloc (.cells (iv x).toArray 68) = Wn := ⟨_, rfl⟩
        rw [hWn] at HFW1 HAX e0 e1 HNW
        by_cases hst : kd = 1 ∨ kd = 2
        · have hsq : stq x = true := by rw [hst0]; rcases hst with h | h <;> simp [h]
          obtain ⟨b1, b2, _⟩ := a1 hsq
          obtain ⟨j0, hj0⟩ : ∃ j0, lnq x = j0 := ⟨_, rfl⟩
          rw [hj0] at b1
          have HF1' := Lib.hid (HF1.out hsq)
          have HP1' := Lib.hid (HP1.out hsq)
          rw [hj0] at HP1' hln
          have hd1 : at_ / 8 = (j0 : Int) := by omega
          have hd2 : IntKind.i64.wrap (Int.tdiv at_ 8) = (j0 : Int) := by
            unfold I64 at ha1I
            rw [Int.tdiv_eq_ediv_of_nonneg b2, hd1, i64_wraps]
            omega
          have hd3 : wrap64 (at_ / 8) = (j0 : Int) := by
            unfold I64 at ha1I
            rw [hd1]
            unfold wrap64
            omega
          have c2 := HFW1.out.f.cell (j := 0) (u := .slice (some ⟨fvb, 0, none⟩) k0 k0) rfl
          have fr := HFW1.out.fs_.free (g := fvb) rfl k
          have hfl : (fsT m0 l' k0 k).length = k0 := HIV.out.fl
          obtain ⟨cu, cc⟩ : ∃ u, Wn.cell? ⟨fvb, k, none⟩ = some u := by
            obtain ⟨u, hu⟩ : ∃ u, (iv (fsT m0 l' k0 k))[k]? = some u := ⟨_, List.getElem?_eq_getElem (by rw [iv_len, hfl]; exact hlt)⟩
            have := HFW1.out.fs_.cells rfl k u hu
            rw [Nat.zero_add] at this
            exact ⟨u, this⟩
          have hS2 := HFW1.out.fs_.set k (.int .i64 2)
          rw [iv_set, ← HF1'.out, Nat.zero_add] at hS2
          have HFW2 := Lib.hid (HFW1.out.marked hS2 (Kept.setCell Wn (a := ⟨fvb, k, none⟩) _ rfl))
          have hne : wr.heap.size ≠ fvb := by omega
          have hA2 := HAX.out.other (a := ⟨fvb, k, none⟩) hne (.int .i64 2)
          have e12 := hA2.cell (j := 1) (u := .int .i64 at_) (by have := iv_getD (x := x) (j := 1) (by have := HL12.out; omega); rw [hat] at this; exact this)
          have HNW2 : Hid (wr.heap.size < (Wn.setCell ⟨fvb, k, none⟩ (.int .i64 2)).heap.size) := Lib.hid (by have := HNW.out; simp [World.setCell]; exact this)
          have HA2 := Lib.hid hA2
          obtain ⟨W2, hW2⟩ : ∃ W2, Wn.setCell ⟨fvb, k, none⟩ (.int .i64 2) = W2 := ⟨_, rfl⟩
          rw [hW2] at HFW2 HA2 e12 HNW2
          have HLKUP : Hid (∀ W : World, W.heap[mb]? = W2.heap[mb]? → (Instr.lookup 120 (.map (some mb)) (.int .i64 (j0 : Int)) false).run Tryz.prog W = .ok (G j0) W) := Lib.hid fun W hW => lookP_run (ownsMap_keep HFW2.out.pl.map hW) (j0 : Int) (by unfold I64 at ha1I ⊢; omega) (HFW2.out.pl.at_ j0 b1)
          have HB1 := Lib.hid b1
          have s2 := HFW2.out.s.cell (j := 0) (u := .map (some mb)) rfl
          clear hS2 hA2 hfl a1 a2 HF1 HF2 HF3 HP1 HP0 HFN hsq hst0 haq ha1I b1 b2 hln hj0 hkd hat
          have HWRG : Hid (∀ j, j < m0.L.length → ∀ q, (G j).ownBlock = some q → q < wr.heap.size) := HWG
          have HWRM : Hid (wr.heap.size ≠ mb) := Lib.hid (by have := hmbl; omega)
          have hb23 : Below W2.heap.size W2 (W2.drew.alloc (.cells #[.int .i64 (k : Int)] 3)) := bel_on (bel_drew W2) (bel_new W2.drew _)
          have hA3 := (Arr.new W2.drew [.int .i64 (k : Int)] 3).cell (j := 0) (u := .int .i64 (k : Int)) rfl
          have HNW3 : Hid (∀ j u, [Value.int .i64 (k : Int)][j]? = some u → (W2.drew.alloc (.cells #[.int .i64 (k : Int)] 3)).cell? ((⟨W2.drew.heap.size, 0, none⟩ : Addr).add j) = some u) := Lib.hid (cell_one_new W2.drew (.int .i64 (k : Int)) 3)
          have hs23 : (W2.drew.alloc (.cells #[.int .i64 (k : Int)] 3)).cell? ⟨sb, 0, none⟩ = some (.map (some mb)) := cell_below hb23 s2
          have hh23 : (W2.drew.alloc (.cells #[.int .i64 (k : Int)] 3)).heap[mb]? = W2.heap[mb]? := hb23.block mb HFW2.out.pl.map.lt
          have HSG : Hid (Sl (W2.drew.alloc (.cells #[.int .i64 (k : Int)] 3)) 3 1 (G j0) (plc l' k j0).length (iv (ci (plc l' k j0)))) := Lib.hid ((HFW2.out.pl.sl j0 HB1.out).keep fun q hq => hb23.block q ((HFW2.out.pl.sl j0 HB1.out).lt hq))
          have hgl : (plc l' k j0).length ≤ 400 := by
            have h1 : (plc l' k j0).length ≤ k := by
              unfold plc seg
              refine Nat.le_trans (List.length_filter_le _ _) ?_
              rw [List.length_range']
              exact Nat.le_refl _
            omega
          have HPLC := Lib.hid fun (g : Value) (W5 W6 : World) (nn : Nat) hsl hg ho hm hg3 => HFW2.out.place (i := j0) (x := k) HB1.out (w1 := W2.drew.alloc (.cells #[.int .i64 (k : Int)] 3)) (w2 := W5) (w3 := W6) (g := g) hb23 hsl hg ho (n := nn) hm hg3
          have HB23 := Lib.hid hb23
          obtain ⟨W3, hW3⟩ : ∃ W3, W2.drew.alloc (.cells #[.int .i64 (k : Int)] 3) = W3 := ⟨_, rfl⟩
          rw [hW3] at HNW3 hs23 hh23 HSG HPLC HB23
          clear hb23 hA3
          have hS0 : W2.drew.cell? ⟨sb, 0, none⟩ = some (.map (some mb)) := s2
          have hlkA := HLKUP.out W2.drew rfl
          have hlkB := HLKUP.out W3 hh23
          rcases hst with rfl | rfl
          all_goals (
            go_wp2_with (first
              | ((with_reducible refine arm_range 68 bb (oo + k * 12) (iv x) rE _ hu68 rfl hi12 rfl _ rfl ?_ ?_); focus rfl)
              | ((with_reducible refine arm_new 68 (iv x) 12 ?_ size79 HO.out _ rfl rfl _ _ rfl ?_ ?_ ?_); (focus (rw [iv_len, HL12.out])); (focus rfl); (focus rfl)))
            refine wp_region_held_drew (S := fun W => W.cell? ⟨sb, 0, none⟩ = some (.map (some mb))) (by kernel_rfl) hS0 (fun hHeld => ?_)
            refine wpAnyH_take (i := 0) (v := .map (some mb)) rfl (by kernel_rfl) (by kernel_rfl) (by kernel_rfl) (fun _ _ _ h => h) (Or.inl ⟨by rfl, fun w hSw => by have h1 := hSw; go_simp⟩) (by assumption) ?_
            change wpAnyH _ _ _ _ _ _ _ (Act.put _ (some 54) _) _
            simp only [Act.put, List.setIfInBounds_toArray, List.set_cons_zero, List.set_cons_succ]
            refine wpAnyH_take (i := 1) (v := .int .i64 (j0 : Int)) rfl (by kernel_rfl) (by kernel_rfl) (by kernel_rfl) (fun _ _ _ h => h) (Or.inl ⟨by rfl, fun w hSw => by have h1 := hSw; go_simp⟩) (by assumption) ?_
            change wpAnyH _ _ _ _ _ _ _ (Act.put _ (some 55) _) _
            simp only [Act.put, List.setIfInBounds_toArray, List.set_cons_zero, List.set_cons_succ]
            refine wpAnyH_take (i := 2) (v := .map (some mb)) rfl (by kernel_rfl) (by kernel_rfl) (by kernel_rfl) (fun _ _ _ h => h) (Or.inl ⟨by rfl, fun w hSw => by have h1 := hSw; go_simp⟩) (by assumption) ?_
            change wpAnyH _ _ _ _ _ _ _ (Act.put _ (some 56) _) _
            simp only [Act.put, List.setIfInBounds_toArray, List.set_cons_zero, List.set_cons_succ]
            refine wpAnyH_take (i := 3) (v := .int .i64 (j0 : Int)) rfl (by kernel_rfl) (by kernel_rfl) (by kernel_rfl) (fun _ _ _ h => h) (Or.inl ⟨by rfl, fun w hSw => by have h1 := hSw; go_simp⟩) (by assumption) ?_
            change wpAnyH _ _ _ _ _ _ _ (Act.put _ (some 57) _) _
            simp only [Act.put, List.setIfInBounds_toArray, List.set_cons_zero, List.set_cons_succ]
            refine wpAnyH_take (i := 5) (v := .int .i64 (k : Int)) rfl (by kernel_rfl) (by kernel_rfl) (by kernel_rfl) (fun _ _ _ h => h) (Or.inl ⟨by rfl, fun w hSw => by have h1 := hSw; go_simp⟩) (by assumption) ?_
            change wpAnyH _ _ _ _ _ _ _ (Act.put _ (some 59) _) _
            simp only [Act.put, List.setIfInBounds_toArray, List.set_cons_zero, List.set_cons_succ]
            refine wpAnyH_ready (rs := [4, 6]) (by kernel_rfl) (by simp) ?_
            refine AllReadyH.cons rfl (fun K hK => ?_) (AllReadyH.cons rfl (fun K hK => ?_) AllReadyH.nil)
            · go_simp
              refine hK.out _ _ hS0 (fun hHeld0 => ?_)
              clear hK K hHeld
              refine wpAnyH_ready (rs := [6]) (by kernel_rfl) (by simp) ?_
              refine AllReadyH.cons rfl (fun K hK => ?_) AllReadyH.nil
              go_simp
              refine hK.out _ _ hs23 (fun hHeld1 => ?_)
              clear hK K
              refine wpAnyH_ready (rs := [7]) (by kernel_rfl) (by simp) ?_
              refine AllReadyH.cons rfl (fun K hK => ?_) AllReadyH.nil
              refine wp_append_sl _ _ 59 rfl 3 i0 _ 1 8 Tryz.underlying59 HI0.out HZ0.out HZ1.out HZ2.out rfl (by decide) (G j0) (plc l' k j0).length (iv (ci (plc l' k j0))) rfl HSG.out ⟨W2.drew.heap.size, 0, none⟩ 1 1 [.int .i64 (k : Int)] rfl rfl HNW3.out (by intro u hu; simp only [List.mem_singleton] at hu; subst hu; rfl) (by unfold maxLen; omega) (by omega) ?_
              intro g5 w5 hsl5 hg5 ho5
              have HSL5 : Hid (Sl w5 3 1 g5 ((plc l' k j0).length + 1) (iv (ci (plc l' k j0 ++ [k])))) := Lib.hid (by
                have e1 : iv (ci (plc l' k j0 ++ [k])) = iv (ci (plc l' k j0)) ++ [.int .i64 (k : Int)] := by unfold iv ci; rw [List.map_append, List.map_append]; rfl
                rw [e1]
                exact hsl5)
              have HG5 := Lib.hid hg5
              have HO5 := Lib.hid ho5
              have k35 : Kept (fun q => (G j0).ownBlock = some q) W3 w5 := Kept.of_grown hg5 fun q hq => hq
              have hsbG := HFW2.out.gF j0 HB1.out
              have s5 : w5.cell? ⟨sb, 0, none⟩ = some (.map (some mb)) := (cell_of_block (k35.block sb (Nat.lt_of_lt_of_le HFW2.out.s.lt HB23.out.size) fun e => (hsbG sb e).2.1 rfl)).trans hs23
              have h5 : w5.heap[mb]? = W2.heap[mb]? := (k35.block mb (Nat.lt_of_lt_of_le HFW2.out.pl.map.lt HB23.out.size) fun e => (hsbG mb e).2.2.2.2 rfl).trans hh23
              have HM5 := Lib.hid (ownsMap_keep HFW2.out.pl.map h5)
              have HA5 : Hid (Arr w5 wr.heap.size 68 (iv x)) := Lib.hid ((k35.block _ (Nat.lt_of_lt_of_le HA2.out.lt HB23.out.size) fun e => by
                have := (HFW2.out.pl.sl j0 HB1.out).lt e
                have h9 := HWRG.out j0 HB1.out wr.heap.size e
                omega).trans (HA2.out.keep HB23.out))
              obtain ⟨XA, xcap, rfl, _⟩ := hsl5.shape
              refine hK.out _ _ s5 (fun hHeld2 => ?_)
              clear hK K hHeld1 hHeld0 hsl5 hg5 ho5 k35 hsbG
              refine wpAnyH_ready (rs := [8]) (by kernel_rfl) (by simp) ?_
              refine AllReadyH.cons rfl (fun K hK => ?_) AllReadyH.nil
              refine wp_mapUpdate_places _ _ _ rfl mb _ D rfl HM5.out (by
                have h3 := few_of HFW2.out.pl.map HFW2.out.pl.off
                have h4 := HFOK.out.few
                unfold maxLen
                omega) _ _ (kOf j0) rfl rfl (key_of _ (by unfold I64; have h4 := HFOK.out.few; have := HB1.out; omega)) ?_
              intro w6 hown6 hg6
              have HFW6 := Lib.hid (HPLC.out _ w5 w6 _ HG5.out HSL5.out HO5.out hown6 hg6)
              have k56 : Kept (fun q => q = mb) w5 w6 := Kept.of_grown hg6 fun q hq => by simpa using hq.symm
              have hA6 : Arr w6 wr.heap.size 68 (iv x) := (k56.block _ HA5.out.lt HWRM.out).trans HA5.out
              have s6 := HFW6.out.s.cell (j := 0) (u := .map (some mb)) rfl
              have q6 := HFW6.out.q.cell (j := 0) (u := .pointer (some ⟨p, 0, none⟩)) rfl
              have h56 : W2.heap.size ≤ w6.heap.size := Nat.le_trans HB23.out.size (Nat.le_trans (Kept.of_grown HG5.out fun q hq => hq).size k56.size)
              refine hK.out _ _ s6 (fun hHeld3 => ?_)
              clear hK K hHeld2 hown6 hg6 k56
              refine wpAnyH_done (by kernel_rfl) ?_ _
              have HTC6 := Lib.hid (HTC.out F w6 HFW6.out.rep HFW6.out.below HFW6.out.new)
              have hB6 := HFW6.out
              change Exit.inBlock 2 _ Exit.normal (Act.put (Act.put _ (some 61) _) none _) _
              simp only [Act.put, List.setIfInBounds_toArray, List.set_cons_zero, List.set_cons_succ]
              go_wp2_with ((with_reducible refine arm_row 68 wr.heap.size 68 (iv x) hA6 _ hu68 rfl hi12 rfl _ rfl ?_ ?_); focus rfl)
              refine HTC6.out.mono ?_
              rintro e w7 ⟨rfl, hst⟩
              rw [HMSX.out] at hst
              have HFW7 := Lib.hid (HFW6.out.call hst)
              rw [← HP1'.out] at HFW7
              clear hst hB6
              go_wp2_with fail
              go_roundw
              case rel => exact ⟨k + 1, _, _, _, by simp, by omega, HFW7⟩
              case measure => simp [intOf]; omega
            · go_simp
              refine hK.out _ _ hs23 (fun hHeld0 => ?_)
              clear hK K hHeld
              refine wpAnyH_ready (rs := [4]) (by kernel_rfl) (by simp) ?_
              refine AllReadyH.cons rfl (fun K hK => ?_) AllReadyH.nil
              go_simp
              refine hK.out _ _ hs23 (fun hHeld1 => ?_)
              clear hK K
              refine wpAnyH_ready (rs := [7]) (by kernel_rfl) (by simp) ?_
              refine AllReadyH.cons rfl (fun K hK => ?_) AllReadyH.nil
              refine wp_append_sl _ _ 59 rfl 3 i0 _ 1 8 Tryz.underlying59 HI0.out HZ0.out HZ1.out HZ2.out rfl (by decide) (G j0) (plc l' k j0).length (iv (ci (plc l' k j0))) rfl HSG.out ⟨W2.drew.heap.size, 0, none⟩ 1 1 [.int .i64 (k : Int)] rfl rfl HNW3.out (by intro u hu; simp only [List.mem_singleton] at hu; subst hu; rfl) (by unfold maxLen; omega) (by omega) ?_
              intro g5 w5 hsl5 hg5 ho5
              have HSL5 : Hid (Sl w5 3 1 g5 ((plc l' k j0).length + 1) (iv (ci (plc l' k j0 ++ [k])))) := Lib.hid (by
                have e1 : iv (ci (plc l' k j0 ++ [k])) = iv (ci (plc l' k j0)) ++ [.int .i64 (k : Int)] := by unfold iv ci; rw [List.map_append, List.map_append]; rfl
                rw [e1]
                exact hsl5)
              have HG5 := Lib.hid hg5
              have HO5 := Lib.hid ho5
              have k35 : Kept (fun q => (G j0).ownBlock = some q) W3 w5 := Kept.of_grown hg5 fun q hq => hq
              have hsbG := HFW2.out.gF j0 HB1.out
              have s5 : w5.cell? ⟨sb, 0, none⟩ = some (.map (some mb)) := (cell_of_block (k35.block sb (Nat.lt_of_lt_of_le HFW2.out.s.lt HB23.out.size) fun e => (hsbG sb e).2.1 rfl)).trans hs23
              have h5 : w5.heap[mb]? = W2.heap[mb]? := (k35.block mb (Nat.lt_of_lt_of_le HFW2.out.pl.map.lt HB23.out.size) fun e => (hsbG mb e).2.2.2.2 rfl).trans hh23
              have HM5 := Lib.hid (ownsMap_keep HFW2.out.pl.map h5)
              have HA5 : Hid (Arr w5 wr.heap.size 68 (iv x)) := Lib.hid ((k35.block _ (Nat.lt_of_lt_of_le HA2.out.lt HB23.out.size) fun e => by
                have := (HFW2.out.pl.sl j0 HB1.out).lt e
                have h9 := HWRG.out j0 HB1.out wr.heap.size e
                omega).trans (HA2.out.keep HB23.out))
              obtain ⟨XA, xcap, rfl, _⟩ := hsl5.shape
              refine hK.out _ _ s5 (fun hHeld2 => ?_)
              clear hK K hHeld1 hHeld0 hsl5 hg5 ho5 k35 hsbG
              refine wpAnyH_ready (rs := [8]) (by kernel_rfl) (by simp) ?_
              refine AllReadyH.cons rfl (fun K hK => ?_) AllReadyH.nil
              refine wp_mapUpdate_places _ _ _ rfl mb _ D rfl HM5.out (by
                have h3 := few_of HFW2.out.pl.map HFW2.out.pl.off
                have h4 := HFOK.out.few
                unfold maxLen
                omega) _ _ (kOf j0) rfl rfl (key_of _ (by unfold I64; have h4 := HFOK.out.few; have := HB1.out; omega)) ?_
              intro w6 hown6 hg6
              have HFW6 := Lib.hid (HPLC.out _ w5 w6 _ HG5.out HSL5.out HO5.out hown6 hg6)
              have k56 : Kept (fun q => q = mb) w5 w6 := Kept.of_grown hg6 fun q hq => by simpa using hq.symm
              have hA6 : Arr w6 wr.heap.size 68 (iv x) := (k56.block _ HA5.out.lt HWRM.out).trans HA5.out
              have s6 := HFW6.out.s.cell (j := 0) (u := .map (some mb)) rfl
              have q6 := HFW6.out.q.cell (j := 0) (u := .pointer (some ⟨p, 0, none⟩)) rfl
              have h56 : W2.heap.size ≤ w6.heap.size := Nat.le_trans HB23.out.size (Nat.le_trans (Kept.of_grown HG5.out fun q hq => hq).size k56.size)
              refine hK.out _ _ s6 (fun hHeld3 => ?_)
              clear hK K hHeld2 hown6 hg6 k56
              refine wpAnyH_done (by kernel_rfl) ?_ _
              have HTC6 := Lib.hid (HTC.out F w6 HFW6.out.rep HFW6.out.below HFW6.out.new)
              have hB6 := HFW6.out
              change Exit.inBlock 2 _ Exit.normal (Act.put (Act.put _ (some 61) _) none _) _
              simp only [Act.put, List.setIfInBounds_toArray, List.set_cons_zero, List.set_cons_succ]
              go_wp2_with ((with_reducible refine arm_row 68 wr.heap.size 68 (iv x) hA6 _ hu68 rfl hi12 rfl _ rfl ?_ ?_); focus rfl)
              refine HTC6.out.mono ?_
              rintro e w7 ⟨rfl, hst⟩
              rw [HMSX.out] at hst
              have HFW7 := Lib.hid (HFW6.out.call hst)
              rw [← HP1'.out] at HFW7
              clear hst hB6
              go_wp2_with fail
              go_roundw
              case rel => exact ⟨k + 1, _, _, _, by simp, by omega, HFW7⟩
              case measure => simp [intOf]; omega
            )
        · have hsq : stq x = false := by rw [hst0]; simp; exact ⟨fun h => hst (.inl h), fun h => hst (.inr h)⟩
          have HP0' := Lib.hid (HP0.out hsq)
          have hk1 : (kd == 1) = false := by rw [beq_eq_false_iff_ne]; exact fun h => hst (.inl h)
          have hk2 : (kd == 2) = false := by rw [beq_eq_false_iff_ne]; exact fun h => hst (.inr h)
          have q1 := HFW1.out.q.cell (j := 0) (u := .pointer (some ⟨p, 0, none⟩)) rfl
          have hne : wr.heap.size ≠ fvb := by omega
          by_cases h6 : kd = 6
          · subst h6
            obtain ⟨c1, c2, _⟩ := a2 rfl
            have HF2' := Lib.hid (HF2.out hsq rfl)
            obtain ⟨i, hi⟩ : ∃ i, atq x = i := ⟨_, rfl⟩
            rw [hi] at c2 HF2' haq
            obtain rfl : at_ = (i : Int) := by omega
            have HEN := Lib.hid (HFN.out Wn i (fsT m0 l' k0 k) (plc l' k) D G F 3 HFW1.out c2 (HLE.out i) (fun q hq => by
              have := (plc_mem.1 hq).1
              omega))
            rw [← HF2'.out] at HEN
            clear a1 a2 HF1 HF2 HF3 HP1 HP0 HFN hsq hst0 haq hln ha1I hkd hat hi c1 hst
            go_wp2_with (first
              | ((with_reducible refine arm_range 68 bb (oo + k * 12) (iv x) rE _ hu68 rfl hi12 rfl _ rfl ?_ ?_); focus rfl)
              | ((with_reducible refine arm_new 68 (iv x) 12 ?_ size79 HO.out _ rfl rfl _ _ rfl ?_ ?_ ?_); (focus (rw [iv_len, HL12.out])); (focus rfl); (focus rfl)))
            refine HEN.out.mono ?_
            rintro e w5 ⟨rfl, hsl5, hk5⟩
            have HFW5 := Lib.hid (HFW1.out.marked hsl5 hk5)
            have hA5 : Arr w5 wr.heap.size 68 (iv x) := (hk5.block _ HAX.out.lt (fun e => by
              simp only [Value.ownBlock, Option.some.injEq] at e
              omega)).trans HAX.out
            have q5 := HFW5.out.q.cell (j := 0) (u := .pointer (some ⟨p, 0, none⟩)) rfl
            have HTC5 := Lib.hid (HTC.out F w5 HFW5.out.rep HFW5.out.below HFW5.out.new)
            clear hsl5 hk5 HEN q1 e0 e1 HFW1
            go_wp2_with ((with_reducible refine arm_row 68 wr.heap.size 68 (iv x) hA5 _ hu68 rfl hi12 rfl _ rfl ?_ ?_); focus rfl)
            refine HTC5.out.mono ?_
            rintro e w7 ⟨rfl, hst⟩
            rw [HMSX.out] at hst
            have HFW7 := Lib.hid (HFW5.out.call hst)
            rw [← HP0'.out] at HFW7
            clear hst
            go_wp2_with fail
            go_roundw
            case rel => exact ⟨k + 1, _, _, _, by simp, by omega, HFW7⟩
            case measure => simp [intOf]; omega
          · have HF3' := Lib.hid (HF3.out hsq h6)
            have hk6 : (kd == 6) = false := by rw [beq_eq_false_iff_ne]; exact h6
            have HTC5 := Lib.hid (HTC.out F Wn HFW1.out.rep HFW1.out.below HFW1.out.new)
            have hA5 := HAX.out
            clear a1 a2 HF1 HF2 HF3 HP1 HP0 HFN hsq hst0 haq hln ha1I hkd hat hst
            go_wp2_with (first
              | ((with_reducible refine arm_range 68 bb (oo + k * 12) (iv x) rE _ hu68 rfl hi12 rfl _ rfl ?_ ?_); focus rfl)
              | ((with_reducible refine arm_new 68 (iv x) 12 ?_ size79 HO.out _ rfl rfl _ _ rfl ?_ ?_ ?_); (focus (rw [iv_len, HL12.out])); (focus rfl); (focus rfl))
              | ((with_reducible refine arm_row 68 wr.heap.size 68 (iv x) hA5 _ hu68 rfl hi12 rfl _ rfl ?_ ?_); focus rfl))
            refine HTC5.out.mono ?_
            rintro e w7 ⟨rfl, hst⟩
            rw [HMSX.out] at hst
            have HFW7 := Lib.hid (HFW1.out.call hst)
            rw [← HP0'.out, ← HF3'.out] at HFW7
            clear hst
            go_wp2_with fail
            go_roundw
            case rel => exact ⟨k + 1, _, _, _, by simp, by omega, HFW7⟩
            case measure => simp [intOf]; omega
      · obtain rfl : k = k0 := by omega
        have hkI : ¬ (k : Int) < (k : Int) := by omega
        go_wp2_with fail
        go_meet
        case rel => exact ⟨F, D, G, HFW⟩
  case rest =>
    clear HFW0 HNF
    obtain ⟨F, D, G, HFW⟩ := hcut
    obtain ⟨gok, gsm⟩ := HGM.out k0 (Nat.le_refl _)
    have HLE := Lib.hid (HINV.out k0 (Nat.le_refl _)).le
    have HFN := Lib.hid fun W i fs f (hw : FW w W k0 m0.L.length sb pb fb mb p (.slice (some ⟨fvb, 0, none⟩) k0 k0) (memT m0 l' k0) fs (plc l' k0) F D G) (hi : i < m0.L.length) => end_any i k0 p sb pb fb mb w.heap.size f (.slice (some ⟨fvb, 0, none⟩) k0 k0) fs (plc l' k0) (memT m0 l' k0) F D G W hw.s hw.q hw.f gok (gsm.mono (by omega)) hw.rep (by rw [HMN.out k0]; exact hi) (by rw [HMN.out k0]; exact hw.pl) (HLE.out i) (fun q hq => (plc_mem.1 hq).1) hw.fs_ (fun q hq => ⟨(hw.fvF q hq).2.2.2.1, fun e => (hw.fvF q hq).2.2.2.2.2 i hi e⟩)
    have HLI := Lib.hid (lines_any p (memT m0 l' k0) F wc HFW.out.rep)
    rw [HMN.out k0] at HLI
    have q0 := HFW.out.q.cell (j := 0) (u := .pointer (some ⟨p, 0, none⟩)) rfl
    have hfew := HFOK.out.few
    have HFE : Hid (fsT m0 l' k0 k0 = fsEnd m0 l' k0 0) := Lib.hid rfl
    rw [HFE.out] at HFW
    have HSTE : Hid (∀ j, markAll (fsEnd m0 l' k0 j) 1 (lastN ((memT m0 l' k0).pl j) (plc l' k0 j)) = fsEnd m0 l' k0 (j + 1)) := Lib.hid fun _ => rfl
    clear gok gsm
    obtain ⟨NL, hNL⟩ : ∃ NL, m0.L.length = NL := ⟨_, rfl⟩
    rw [hNL] at HLI HFW HEQ HFN hfew
    clear hNL
    go_wp2_with (go_at_call 78; refine HLI.out.mono ?_; rintro e w' ⟨rfl, hw'⟩; obtain rfl := hw'.symm)
    go_loopw [74] (fun i wr => ∃ k : Nat, i = .int .i64 (k : Int) ∧ k ≤ NL ∧ Hid (FW w wr k0 NL sb pb fb mb p (.slice (some ⟨fvb, 0, none⟩) k0 k0) (memT m0 l' k0) (fsEnd m0 l' k0 k) (plc l' k0) F D G)) (fun i _ => NL - (intOf i).toNat)
    case atStart => exact ⟨0, rfl, by omega, HFW⟩
    case round =>
      clear HFW q0
      obtain ⟨k, rfl, hk, HFW⟩ := hrel
      by_cases hlt : k < NL
      · have hkI : (k : Int) < (NL : Int) := by omega
        have HEN := Lib.hid (HFN.out wr k (fsEnd m0 l' k0 k) 1 HFW.out hlt)
        rw [HSTE.out] at HEN
        go_wp2_with fail
        refine HEN.out.mono ?_
        rintro e w5 ⟨rfl, hsl5, hk5⟩
        have HFW5 := Lib.hid (HFW.out.marked hsl5 hk5)
        clear hsl5 hk5 HEN
        go_wp2_with fail
        go_roundw
        case rel => exact ⟨k + 1, by simp, by omega, HFW5⟩
        case measure => simp [intOf]; omega
      · obtain rfl : k = NL := by omega
        have hkI : ¬ (k : Int) < (k : Int) := by omega
        have c0 := HFW.out.f.cell (j := 0) (u := .slice (some ⟨fvb, 0, none⟩) k0 k0) rfl
        have HF : Hid (PO (.returned (.tuple #[.slice (some ⟨fvb, 0, none⟩) k0 k0, .int .i64 0])) wr) := Lib.hid (by
          rw [HPO.out]
          refine .inr ⟨by first | rfl | trivial, _, rfl, ?_, HFW.out.fnew⟩
          have h1 := HFW.out.fs_
          rw [HEQ.out] at h1
          exact h1)
        go_wp2_with fail
        go_ret2
        exact ⟨HF.out, HFW.out.below⟩
end Go.Proofs.YtpojhplnhppcpaaGreatDoor
namespace Go.Proofs.YtpojhplnhppcpaaGreatDoor
open Go.RowKit Go.Maps
def sI : List (List Int × Int) := [(Z8, 0), (Z8, 0)]
def sL : List (List Int) := [evt 1 8 1 3 Z8, evt 3 1 0 0 Z8, evt 1 9 2 3 Z8, evt 4 0 0 0 Z8]
def sB : List (List Int) := sL ++ [evt 5 1 2 0 Z8]
def sT : List UInt8 := [115, 116, 111, 114, 101, 32, 56, 32, 49, 32, 51, 10, 102, 108, 117, 115, 104, 32, 49, 10, 115, 116, 111, 114, 101, 32, 57, 32, 50, 32, 51, 10, 102, 101, 110, 99, 101, 10]
theorem sc1 : checkP sI sL = (4, 0) := by decide +kernel
theorem sc2 : checkP sI sB = (4, 3) := by decide +kernel
theorem sc3 : cutsE sI sL 3 = (3, 0) := by decide +kernel
theorem sc4 : cutsE sI sL 4 = (2, 0) := by decide +kernel
theorem sc5 : choE sI sL 3 5 = [(1, 2)] ∧ atE sI sL 3 = 0 := by decide +kernel
theorem sc6 : imgE sI sL 4 [(1, 1)] = 0 ∧ (flatL (imgP sI sL 4 [(1, 1)]).L).getD 9 7 = 1 ∧ (flatL (imgP sI sL 4 [(1, 1)]).L).getD 10 7 = 2 ∧ (imgP sI sL 4 [(1, 1)]).L.length = 2 := by decide +kernel
theorem sc7 : imgE sI sL 4 [] = 0 ∧ (flatL (imgP sI sL 4 []).L).getD 9 7 = 1 ∧ (flatL (imgP sI sL 4 []).L).getD 10 7 = 0 ∧ (imgP sI sL 4 []).L.length = 2 := by decide +kernel
theorem sc8 : fatesP sI sL 4 = [2, 0, 1, 0] ∧ atE sI sL 4 = 0 := by decide +kernel
theorem sc9 : (checkP sI sL).2 = 0 ∧ loadP (runP (fromP sI) sL) 9 = (2, 0) := by decide +kernel
theorem sc10 : flatL (newP 2).L = flatI sI := by decide +kernel
theorem st1 : printT sL = sT := by decide +kernel
theorem st2 : parseT sT = (sL, []) := by decide +kernel
end Go.Proofs.YtpojhplnhppcpaaGreatDoor
