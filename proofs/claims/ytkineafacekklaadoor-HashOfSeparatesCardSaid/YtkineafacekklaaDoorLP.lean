/- HashOfSeparates answers true. -/
import Derived.Test.YtkineafacekklaaDoorSan
import Derived.Test.YtkineafacekklaaDoorInp
import Derived.Test.YtkineafacekklaaDoorFew
import Derived.Test.YtkineafacekklaaDoorEqB
import Derived.Test.YtkineafacekklaaDoorOf
import Derived.Deep.Cut
import Derived.StillTailTactics
import Derived.Deep.CutBlock
import Derived.Deep.CutRange
import Derived.Deep.QuietTactic
import Derived.BigQuiet
namespace Go.Proofs.YtkineafacekklaaDoor
open Go.RowKit
theorem wrap_u8_64 (x : UInt8) : wrap64 (x.toNat : Int) = (x.toNat : Int) := by
  have := x.toNat_lt
  unfold wrap64
  omega
theorem bytes_beq (p q : ByteArray) : (p.toList == q.toList) = true ↔ p = q := by
  cases p; cases q
  rw [ByteArray.toList_mk, ByteArray.toList_mk, beq_iff_eq, Array.toList_inj]
  simp
theorem byte_step (c : List UInt8) (p q : UInt8) : ((p.toNat : Int) == (q.toNat : Int)) = true ↔ c ++ [p] = c ++ [q] := by
  rw [beq_iff_eq]
  constructor
  · intro h
    rw [UInt8.toNat_inj.1 (Int.ofNat.inj h)]
  · intro h
    have h2 := List.append_cancel_left h
    have h3 : p = q := by simpa using h2
    rw [h3]
theorem byte_stop {a b : List UInt8} (p q : UInt8) (h : ¬ a = b) : false = true ↔ a ++ [p] = b ++ [q] :=
  ⟨(fun h => Bool.noConfusion h), fun h2 => absurd (List.append_inj_left' h2 rfl) h⟩
theorem still_skip {ops : Array Oper} {rest : List Oper} {o : Oper} {a : Act} {Q : Act → Prop} {w : World} (hw : Region.wanted o (yielded ops a.tmps) = false)
    (h : wpStill Tryd.prog ops w Q rest (a.put o.dst undef)) : wpStill Tryd.prog ops w Q (o :: rest) a :=
  wpStill_step fun K hK => by
    rw [if_neg (by rw [hw]; decide)]
    exact hK _ h
theorem inp_len (tag : Int) (ss : List ByteArray) (h : ∀ s ∈ ss, s.size ≤ 400) (hl : ss.length ≤ 12) : (input tag ss).length ≤ 6000 := by
  have := flat_le ss h
  unfold input
  rw [List.length_cons]
  omega
set_option maxRecDepth 100000 in
set_option maxHeartbeats 1000000 in
theorem lawP_out (x y : UInt8) (A : Option Addr) (n cap : Nat) (ss : List ByteArray) (B : Option Addr) (m cap2 : Nat) (rr : List ByteArray) (w : World) (hn : ss.length = n) (hr : RV w A (sv ss)) (hm : rr.length = m) (hr2 : RV w B (sv rr)) (hT : Tab w 1) (h : fewB ss = false ∨ fewB rr = false) :
    Calls Tryd.prog 14 #[.agg #[.int .u8 (x.toNat : Int), .int .u8 (y.toNat : Int)], .slice A n cap, .slice B m cap2] w fun e w' => e = .returned (.bool true) ∧ Below w.heap.size w w' := by
  have HB0 := Lib.hid (bel_new w (.cells #[.int .u8 (x.toNat : Int), .int .u8 (y.toNat : Int)] 62))
  have HT := Lib.hid (hT.keep HB0.out)
  have HF := Lib.hid fun w' (h : RV w' A (sv ss)) => few_any A n cap ss w' hn h
  have HF2 := Lib.hid fun w' (h : RV w' B (sv rr)) => few_any B m cap2 rr w' hm h
  have HR := Lib.hid hr
  have HR2 := Lib.hid hr2
  clear hT hr hn hr2 hm
  go_enter Tryd.func14, Tryd.ntmps14
  go_wp2_with fail
  refine (san_any _ HT.out).mono ?_
  rintro e w1 ⟨rfl, hb1⟩
  have HB1 := Lib.hid (bel_on HB0.out hb1)
  clear hb1
  rcases Bool.eq_false_or_eq_true (fewB ss) with hf | hf
  · have hf2 : fewB rr = false := by
      rw [hf] at h
      rcases h with h | h
      · exact absurd h (by decide)
      · exact h
    rw [hf] at HF
    rw [hf2] at HF2
    clear h
    go_wp2_with fail
    refine (HF.out _ (HR.out.below HB1.out)).mono ?_
    rintro e w2 ⟨rfl, rfl⟩
    go_wp2_with fail
    refine (HF2.out _ (HR2.out.below HB1.out)).mono ?_
    rintro e w2 ⟨rfl, rfl⟩
    go_wp2_with fail
    go_ret
    exact ⟨rfl, HB1.out⟩
  · rw [hf] at HF
    clear h
    go_wp2_with fail
    refine (HF.out _ (HR.out.below HB1.out)).mono ?_
    rintro e w2 ⟨rfl, rfl⟩
    go_wp2_with fail
    go_ret
    exact ⟨rfl, HB1.out⟩
set_option maxRecDepth 100000 in
set_option maxHeartbeats 20000000 in
theorem lawP_in (x y : UInt8) (A : Option Addr) (n cap : Nat) (ss : List ByteArray) (B : Option Addr) (m cap2 : Nat) (rr : List ByteArray) (w : World) (hn : ss.length = n) (hr : RV w A (sv ss)) (hm : rr.length = m) (hr2 : RV w B (sv rr)) (hT : Tab w 1) (hf : fewB ss = true) (hf2 : fewB rr = true) :
    Calls Tryd.prog 14 #[.agg #[.int .u8 (x.toNat : Int), .int .u8 (y.toNat : Int)], .slice A n cap, .slice B m cap2] w fun e w' => e = .returned (.bool true) ∧ Below w.heap.size w w' := by
  have HB0 := Lib.hid (bel_new w (.cells #[.int .u8 (x.toNat : Int), .int .u8 (y.toNat : Int)] 62))
  have HT := Lib.hid (hT.keep HB0.out)
  have HTW := Lib.hid hT
  have HF := Lib.hid fun w' (h : RV w' A (sv ss)) => few_any A n cap ss w' hn h
  have HF2 := Lib.hid fun w' (h : RV w' B (sv rr)) => few_any B m cap2 rr w' hm h
  rw [hf] at HF
  rw [hf2] at HF2
  have h1 := fewB_of hf
  have h2 := fewB_of hf2
  have hl1 : n ≤ 12 := by rw [← hn]; exact h1.1
  have hl2 : m ≤ 12 := by rw [← hm]; exact h2.1
  have HS := Lib.hid h1.2
  have HS2 := Lib.hid h2.2
  have HN := Lib.hid hn
  have HM := Lib.hid hm
  have HR := Lib.hid hr
  have HR2 := Lib.hid hr2
  have HA0 : Hid (Arr (w.alloc (.cells #[.int .u8 (x.toNat : Int), .int .u8 (y.toNat : Int)] 62)) w.heap.size 62 (bv [x, y])) := Lib.hid (heap_alloc_last w _)
  clear hT hr hn hr2 hm hf hf2 h1 h2
  have hwx : wrap64 (x.toNat : Int) = (x.toNat : Int) := wrap_u8_64 x
  have hwy : wrap64 (y.toNat : Int) = (y.toNat : Int) := wrap_u8_64 y
  go_enter Tryd.func14, Tryd.ntmps14
  go_wp2_with fail
  refine (san_any _ HT.out).mono ?_
  rintro e w1 ⟨rfl, hb1⟩
  have HB1 := Lib.hid (bel_on HB0.out hb1)
  have HA1 := Lib.hid (HA0.out.keep hb1)
  clear hb1 HA0 HT HB0
  go_wp2_with fail
  refine (HF.out _ (HR.out.below HB1.out)).mono ?_
  rintro e w2 ⟨rfl, rfl⟩
  go_wp2_with fail
  refine (HF2.out _ (HR2.out.below HB1.out)).mono ?_
  rintro e w2 ⟨rfl, rfl⟩
  go_upto_region 4 with (fail)
  go_cut [8] (fun s8 wx => ∃ b : Bool, s8 = .bool b ∧ Hid (b = true ↔ x = y ∧ n = m) ∧ w1 = wx)
  case first =>
    have hc0 := HA1.out.cell (j := 0) (u := .int .u8 (x.toNat : Int)) rfl
    have hc1 := HA1.out.cell (j := 1) (u := .int .u8 (y.toNat : Int)) rfl
    by_cases hxy : x = y
    · have hb0 : ((x.toNat : Int) == (y.toNat : Int)) = true := by rw [hxy]; simp
      by_cases hnm : n = m
      · have hb1 : ((n : Int) == (m : Int)) = true := by rw [hnm]; simp
        go_wp2_with fail
        go_meet
        case rel => exact ⟨true, rfl, Lib.hid ⟨fun _ => ⟨hxy, hnm⟩, fun _ => rfl⟩, rfl⟩
      · have hb1 : ((n : Int) == (m : Int)) = false := by rw [beq_eq_false_iff_ne]; omega
        go_wp2_with fail
        go_meet
        case rel => exact ⟨false, rfl, Lib.hid ⟨(fun h => Bool.noConfusion h), fun h => absurd h.2 hnm⟩, rfl⟩
    · have hb0 : ((x.toNat : Int) == (y.toNat : Int)) = false := by
        rw [beq_eq_false_iff_ne]
        intro h
        exact hxy (UInt8.toNat_inj.1 (by omega))
      go_wp2_with fail
      go_meet
      case rel => exact ⟨false, rfl, Lib.hid ⟨(fun h => Bool.noConfusion h), fun h => absurd h.1 hxy⟩, rfl⟩
  case rest =>
    obtain ⟨b0, rfl, HS0, rfl⟩ := hcut
    go_upto_block 0 with fail
    go_cut [8, 9] from 40 to 57 (fun s8 _ wx => ∃ s : Bool, s8 = .bool s ∧ Hid (s = true ↔ x = y ∧ ss = rr) ∧ Hid (Arr wx w.heap.size 62 (bv [x, y])) ∧ Hid (Below w.heap.size w wx))
    case first =>
      go_wp2_with fail
      go_loopw [8, 9] (fun s8 i wr => ∃ (s : Bool) (k : Nat), s8 = .bool s ∧ i = .int .i64 k ∧ k ≤ n ∧ Hid (s = true ↔ (x = y ∧ n = m) ∧ ss.take k = rr.take k) ∧ Hid (Arr wr w.heap.size 62 (bv [x, y])) ∧ Hid (Below w.heap.size w wr)) (fun _ i _ => n - (intOf i).toNat)
      case atStart => exact ⟨b0, 0, rfl, rfl, by omega, Lib.hid (by have := HS0.out; simpa using this), HA1, HB1⟩
      case round =>
        clear HS0 HA1 HB1
        obtain ⟨s, k, rfl, rfl, hk, HSK, HA, HB⟩ := hrel
        by_cases hgo : k < n ∧ s = true
        · obtain ⟨hlt, rfl⟩ := hgo
          have hsk := HSK.out.1 rfl
          have hnm := hsk.1.2
          have hkl : k < ss.length := by rw [HN.out]; exact hlt
          have hkr : k < rr.length := by rw [HM.out]; omega
          have hkm : k < m := by omega
          obtain ⟨b, o, rfl, hc⟩ := HR.out.at_ (w' := wr) HB.out (k := k) (sv_at hkl)
          obtain ⟨b2, o2, rfl, hc2⟩ := HR2.out.at_ (w' := wr) HB.out (k := k) (sv_at hkr)
          have HT1 := Lib.hid (List.take_succ_eq_append_getElem hkl)
          have HT2 := Lib.hid (List.take_succ_eq_append_getElem hkr)
          have HXY := Lib.hid hsk.1
          have HTT := Lib.hid hsk.2
          generalize ss[k] = p at *
          generalize rr[k] = q at *
          clear hsk HSK hnm
          go_wp2_with fail
          go_still (by kernel_rfl)
          change Exit.inBlock _ _ _ _ wr.drew
          have HA4 := Lib.hid (HA.out.keep (bel_drew wr))
          have HB4 := Lib.hid (bel_on HB.out (bel_drew wr))
          generalize wr.drew = w4 at *
          go_wp2_with fail
          go_roundw
          case rel => exact ⟨_, k + 1, rfl, by go_num, by omega, Lib.hid (by
            rw [HT1.out, HT2.out, HTT.out, bytes_beq]
            exact ⟨fun h => ⟨HXY.out, by rw [h]⟩, fun h => by have := List.append_cancel_left h.2; simpa using this⟩), HA4, HB4⟩
          case measure => simp [intOf]; omega
        · have hT : s = true → k = n := fun hs => by
            have : ¬ k < n := fun h => hgo ⟨h, hs⟩
            omega
          have HEX : Hid (s = true ↔ x = y ∧ ss = rr) := Lib.hid ⟨fun hs => by
            have h0 := HSK.out.1 hs
            have hkn := hT hs
            refine ⟨h0.1.1, ?_⟩
            have h1 := h0.2
            rw [List.take_of_length_le (by rw [HN.out, hkn]; exact Nat.le_refl _), List.take_of_length_le (by rw [HM.out, ← h0.1.2, hkn]; exact Nat.le_refl _)] at h1
            exact h1, fun h => HSK.out.2 ⟨⟨h.1, by rw [← HN.out, ← HM.out, h.2]⟩, by rw [h.2]⟩⟩
          clear HSK
          rcases Bool.eq_false_or_eq_true s with hs | hs
          · have hkn := hT hs
            subst hs
            have hki : ¬ ((k : Int) < (n : Int)) := by omega
            have hki2 : (n : Int) ≤ (k : Int) := by omega
            clear hT hgo
            go_wp2_with fail
            go_meet
            case rel => exact ⟨true, rfl, Lib.hid (by have := HEX.out; simpa using this), HA, HB⟩
          · subst hs
            clear hT hgo
            by_cases hkn : k < n
            · have hkn2 : (k : Int) < (n : Int) := by omega
              go_wp2_with fail
              go_meet
              case rel => exact ⟨false, rfl, Lib.hid (by have := HEX.out; simpa using this), HA, HB⟩
            · have hki : ¬ ((k : Int) < (n : Int)) := by omega
              have hki2 : (n : Int) ≤ (k : Int) := by omega
              go_wp2_with fail
              go_meet
              case rel => exact ⟨false, rfl, Lib.hid (by have := HEX.out; simpa using this), HA, HB⟩
    case rest =>
      clear HS0 HA1 HB1
      obtain ⟨s, rfl, HSK, HA, HB⟩ := hcut
      obtain ⟨wr, hwr⟩ : ∃ wr : World, wr = wc := ⟨_, rfl⟩
      rw [← hwr] at HA HB ⊢
      clear hwr
      rcases Bool.eq_false_or_eq_true s with hs | hs
      · subst hs
        have HEQ := Lib.hid (HSK.out.1 rfl)
        clear HSK
        have hc0 := HA.out.cell (j := 0) (u := .int .u8 (x.toNat : Int)) rfl
        go_wp2_with fail
        refine (input_any (x.toNat : Int) A n cap ss wr HN.out (HR.out.below HB.out) hl1 HS.out).mono ?_
        rintro e w2 ⟨v1, rfl, ho1, hb2⟩
        obtain ⟨A1, c1, rfl, _, _, R1⟩ := ho1.form
        have HA2 := Lib.hid (HA.out.keep hb2)
        have HB2 := Lib.hid (bel_on HB.out hb2)
        have HR1 := Lib.hid R1
        clear hc0 ho1 R1 hb2 HA HB
        have hc1 := HA2.out.cell (j := 1) (u := .int .u8 (y.toNat : Int)) rfl
        go_wp2_with fail
        refine (input_any (y.toNat : Int) B m cap2 rr w2 HM.out (HR2.out.below HB2.out) hl2 HS2.out).mono ?_
        rintro e w3 ⟨v2, rfl, ho2, hb3⟩
        obtain ⟨A2, c2, rfl, _, _, R2⟩ := ho2.form
        have HA3 := Lib.hid (HA2.out.keep hb3)
        have HB3 := Lib.hid (bel_on HB2.out hb3)
        have HP := Lib.hid (HR1.out.below hb3)
        have HQ := Lib.hid R2
        clear hc1 ho2 R2 hb3 HA2 HB2 HR1
        have heq : input (x.toNat : Int) ss = input (y.toNat : Int) rr := by rw [HEQ.out.1, HEQ.out.2]
        have hq1 := conv_str HP.out c1
        have hq2 := conv_str HQ.out c2
        rw [heq] at hq1 ⊢
        generalize input (y.toNat : Int) rr = L at *
        clear heq HP HQ
        generalize (⟨L.toArray⟩ : ByteArray) = X at *
        generalize L.length = q at *
        go_wp2_with fail
        go_ret
        exact ⟨rfl, HB3.out⟩
      · subst hs
        have HNE : Hid (¬ (x = y ∧ ss = rr)) := Lib.hid fun h => by
          have h1 := HSK.out.2 h
          cases h1
        clear HSK
        have hc0 := HA.out.cell (j := 0) (u := .int .u8 (x.toNat : Int)) rfl
        go_wp2_with fail
        refine (input_any (x.toNat : Int) A n cap ss wr HN.out (HR.out.below HB.out) hl1 HS.out).mono ?_
        rintro e w2 ⟨v1, rfl, ho1, hb2⟩
        obtain ⟨A1, c1, rfl, _, _, R1⟩ := ho1.form
        have HA2 := Lib.hid (HA.out.keep hb2)
        have HB2 := Lib.hid (bel_on HB.out hb2)
        have HR1 := Lib.hid R1
        clear hc0 ho1 R1 hb2 HA HB
        have hc1 := HA2.out.cell (j := 1) (u := .int .u8 (y.toNat : Int)) rfl
        go_wp2_with fail
        refine (input_any (y.toNat : Int) B m cap2 rr w2 HM.out (HR2.out.below HB2.out) hl2 HS2.out).mono ?_
        rintro e w3 ⟨v2, rfl, ho2, hb3⟩
        obtain ⟨A2, c2, rfl, _, _, R2⟩ := ho2.form
        have HA3 := Lib.hid (HA2.out.keep hb3)
        have HB3 := Lib.hid (bel_on HB2.out hb3)
        have HP := Lib.hid (HR1.out.below hb3)
        have HQ := Lib.hid R2
        clear hc1 ho2 R2 hb3 HA2 HB2 HR1
        have hne : input (x.toNat : Int) ss ≠ input (y.toNat : Int) rr := fun h => HNE.out (by
          have h2 := input_inj HS.out HS2.out h
          rw [tag_nat, tag_nat] at h2
          exact h2)
        have HO1 := Lib.hid fun w' (h : RV w' A (sv ss)) (ht : Tab w' 1) => of_any (x.toNat : Int) A n cap ss w' HN.out h HS.out hl1 ht
        have HO2 := Lib.hid fun w' (h : RV w' B (sv rr)) (ht : Tab w' 1) => of_any (y.toNat : Int) B m cap2 rr w' HM.out h HS2.out hl2 ht
        have hl3 := inp_len (x.toNat : Int) ss HS.out (by have := HN.out; omega)
        have hl4 := inp_len (y.toNat : Int) rr HS2.out (by have := HM.out; omega)
        generalize input (x.toNat : Int) ss = L1 at *
        generalize input (y.toNat : Int) rr = L2 at *
        have HNEL := Lib.hid hne
        obtain ⟨q1, hq1⟩ : ∃ q1, L1.length = q1 := ⟨_, rfl⟩
        obtain ⟨q2, hq2⟩ : ∃ q2, L2.length = q2 := ⟨_, rfl⟩
        have HQ1 := Lib.hid hq1
        have HQ2 := Lib.hid hq2
        rw [hq1] at hl3 ⊢
        rw [hq2] at hl4 ⊢
        have HS1 := Lib.hid fun w' (h : RV w' A1 (bv L1)) (ht : Tab w' 1) => sum_any A1 q1 c1 L1 w' HQ1.out h (by omega) ht
        have HS22 := Lib.hid fun w' (h : RV w' A2 (bv L2)) (ht : Tab w' 1) => sum_any A2 q2 c2 L2 w' HQ2.out h (by omega) ht
        have HU1 := Lib.hid (sha_len L1)
        have HU2 := Lib.hid (sha_len L2)
        clear hne hq1 hq2 hl3 hl4
        generalize sha L1 = U1 at *
        generalize sha L2 = U2 at *
        have HD1L : Hid ((U1.take 16).length = 16) := Lib.hid (by rw [List.length_take, HU1.out]; rfl)
        have HD2L : Hid ((U2.take 16).length = 16) := Lib.hid (by rw [List.length_take, HU2.out]; rfl)
        have HEQD := Lib.hid fun w' => eq_dig (U1.take 16) (U2.take 16) HD1L.out HD2L.out w'
        have HD1B : Hid ((bv (U1.take 16)).length = 16) := Lib.hid (by rw [bv_len, HD1L.out])
        have HD2B : Hid ((bv (U2.take 16)).length = 16) := Lib.hid (by rw [bv_len, HD2L.out])
        have HD1O := Lib.hid (bv_one (U1.take 16))
        have HD2O := Lib.hid (bv_one (U2.take 16))
        have HD1S : Hid ((Tryd.prog.info? 58).map (·.size) = some (bv (U1.take 16)).length) := Lib.hid (by rw [size58, HD1B.out])
        have HD2S : Hid ((Tryd.prog.info? 58).map (·.size) = some (bv (U2.take 16)).length) := Lib.hid (by rw [size58, HD2B.out])
        have HU1B : Hid ((bv U1).length = 32) := Lib.hid (by rw [bv_len, HU1.out])
        have HU2B : Hid ((bv U2).length = 32) := Lib.hid (by rw [bv_len, HU2.out])
        have HU1O := Lib.hid (bv_one U1)
        have HU2O := Lib.hid (bv_one U2)
        have H58 := Lib.hid size58
        have H47 := Lib.hid size47
        have hc0 := HA3.out.cell (j := 0) (u := .int .u8 (x.toNat : Int)) rfl
        go_wp2_with fail
        refine (HO1.out _ (HR.out.below HB3.out) (HTW.out.keep HB3.out)).mono ?_
        rintro e w4 ⟨rfl, hb4⟩
        have HA4 := Lib.hid (HA3.out.keep hb4)
        have HB4 := Lib.hid (bel_on HB3.out hb4)
        have HP4 := Lib.hid (HP.out.below hb4)
        have HQ4 := Lib.hid (HQ.out.below hb4)
        clear hc0 HA3 HB3 HP HQ hb4
        generalize hD1 : bv (U1.take 16) = D1 at *
        generalize hD2 : bv (U2.take 16) = D2 at *
        have HD1E := Lib.hid hD1
        have HD2E := Lib.hid hD2
        clear hD1 hD2
        go_wp2_with ((with_reducible refine arm_new 58 D1 16 HD1B.out H58.out HD1O.out _ ?_ rfl _ _ rfl ?_ ?_ ?_); (focus rfl); (focus rfl); (focus rfl); (refine nm_list ?_; intro w5 hw5; have HA5 : Hid (Arr w5 w.heap.size 62 (bv [x, y])) := Lib.hid (by rw [hw5]; exact HA4.out.keep (bel_new _ _)); have H12 : Hid (Arr w5 w4.heap.size 58 D1) := Lib.hid (by rw [hw5]; exact Arr.new _ _ _); have HB5 : Hid (Below w.heap.size w w5) := Lib.hid (by rw [hw5]; exact bel_on HB4.out (bel_new _ _)); have HP5 : Hid (RV w5 A1 (bv L1)) := Lib.hid (by rw [hw5]; exact HP4.out.below (bel_new _ _)); have HQ5 : Hid (RV w5 A2 (bv L2)) := Lib.hid (by rw [hw5]; exact HQ4.out.below (bel_new _ _)); have hc1 := HA5.out.cell (j := 1) (u := .int .u8 (y.toNat : Int)) rfl; clear hw5 HA4 HB4 HP4 HQ4; generalize w4.heap.size = b12 at *))
        refine (HO2.out _ (HR2.out.below HB5.out) (HTW.out.keep HB5.out)).mono ?_
        rintro e w6 ⟨rfl, hb6⟩
        have HB6 := Lib.hid (bel_on HB5.out hb6)
        have HP6 := Lib.hid (HP5.out.below hb6)
        have HQ6 := Lib.hid (HQ5.out.below hb6)
        have H126 := Lib.hid (H12.out.keep hb6)
        clear hc1 HA5 HB5 HP5 HQ5 H12 hb6
        go_wp2_with ((with_reducible refine arm_new 58 D2 16 HD2B.out H58.out HD2O.out _ ?_ rfl _ _ rfl ?_ ?_ ?_); (focus rfl); (focus rfl); (focus rfl); (refine nm_list ?_; intro w7 hw7; have H127 : Hid (Arr w7 b12 58 D1) := Lib.hid (by rw [hw7]; exact H126.out.keep (bel_new _ _)); have H137 : Hid (Arr w7 w6.heap.size 58 D2) := Lib.hid (by rw [hw7]; exact Arr.new _ _ _); have HB7 : Hid (Below w.heap.size w w7) := Lib.hid (by rw [hw7]; exact bel_on HB6.out (bel_new _ _)); have HP7 : Hid (RV w7 A1 (bv L1)) := Lib.hid (by rw [hw7]; exact HP6.out.below (bel_new _ _)); have HQ7 : Hid (RV w7 A2 (bv L2)) := Lib.hid (by rw [hw7]; exact HQ6.out.below (bel_new _ _)); clear hw7 HB6 HP6 HQ6 H126; generalize w6.heap.size = b13 at *))
        refine (HS1.out _ HP7.out (HTW.out.keep HB7.out)).mono ?_
        rintro e w8 ⟨rfl, hb8⟩
        have HB8 := Lib.hid (bel_on HB7.out hb8)
        have HP8 := Lib.hid (HP7.out.below hb8)
        have HQ8 := Lib.hid (HQ7.out.below hb8)
        have H128 := Lib.hid (H127.out.keep hb8)
        have H138 := Lib.hid (H137.out.keep hb8)
        clear HB7 HP7 HQ7 H127 H137 hb8
        go_wp2_with ((with_reducible refine arm_new 47 (bv U1) 32 HU1B.out H47.out HU1O.out _ ?_ rfl _ _ rfl ?_ ?_ ?_); (focus rfl); (focus rfl); (focus rfl); (refine nm_list ?_; intro w9 hw9; have H129 : Hid (Arr w9 b12 58 D1) := Lib.hid (by rw [hw9]; exact H128.out.keep (bel_new _ _)); have H139 : Hid (Arr w9 b13 58 D2) := Lib.hid (by rw [hw9]; exact H138.out.keep (bel_new _ _)); have H149 : Hid (Arr w9 w8.heap.size 47 (bv U1)) := Lib.hid (by rw [hw9]; exact Arr.new _ _ _); have HB9 : Hid (Below w.heap.size w w9) := Lib.hid (by rw [hw9]; exact bel_on HB8.out (bel_new _ _)); have HP9 : Hid (RV w9 A1 (bv L1)) := Lib.hid (by rw [hw9]; exact HP8.out.below (bel_new _ _)); have HQ9 : Hid (RV w9 A2 (bv L2)) := Lib.hid (by rw [hw9]; exact HQ8.out.below (bel_new _ _)); clear hw9 HB8 HP8 HQ8 H128 H138; generalize w8.heap.size = b14 at *))
        refine (HS22.out _ HQ9.out (HTW.out.keep HB9.out)).mono ?_
        rintro e w10 ⟨rfl, hb10⟩
        have HB10 := Lib.hid (bel_on HB9.out hb10)
        have HP10 := Lib.hid (HP9.out.below hb10)
        have HQ10 := Lib.hid (HQ9.out.below hb10)
        have H1210 := Lib.hid (H129.out.keep hb10)
        have H1310 := Lib.hid (H139.out.keep hb10)
        have H1410 := Lib.hid (H149.out.keep hb10)
        clear HB9 HP9 HQ9 H129 H139 H149 hb10
        go_upto_block 2 with ((with_reducible refine arm_new 47 (bv U2) 32 HU2B.out H47.out HU2O.out _ ?_ rfl _ _ rfl ?_ ?_ ?_); (focus rfl); (focus rfl); (focus rfl); (refine nm_list ?_; intro w11 hw11; have H12w : Hid (Arr w11 b12 58 D1) := Lib.hid (by rw [hw11]; exact H1210.out.keep (bel_new _ _)); have H13w : Hid (Arr w11 b13 58 D2) := Lib.hid (by rw [hw11]; exact H1310.out.keep (bel_new _ _)); have H14w : Hid (Arr w11 b14 47 (bv U1)) := Lib.hid (by rw [hw11]; exact H1410.out.keep (bel_new _ _)); have H15w : Hid (Arr w11 w10.heap.size 47 (bv U2)) := Lib.hid (by rw [hw11]; exact Arr.new _ _ _); have HBw : Hid (Below w.heap.size w w11) := Lib.hid (by rw [hw11]; exact bel_on HB10.out (bel_new _ _)); have HPw : Hid (RV w11 A1 (bv L1)) := Lib.hid (by rw [hw11]; exact HP10.out.below (bel_new _ _)); have HQw : Hid (RV w11 A2 (bv L2)) := Lib.hid (by rw [hw11]; exact HQ10.out.below (bel_new _ _)); clear hw11 HB10 HP10 HQ10 H1210 H1310 H1410; generalize w10.heap.size = b15 at *))
        go_cut [16, 17] from 91 to 104 (fun s i wr => ∃ e : Bool, s = .bool e ∧ Hid (e = true ↔ U1.take 16 = U2.take 16) ∧ Hid (Arr wr b12 58 D1) ∧ Hid (Arr wr b13 58 D2) ∧ Hid (RV wr A1 (bv L1)) ∧ Hid (RV wr A2 (bv L2)) ∧ Hid (Below w.heap.size w wr))
        case first =>
          go_wp2_with fail
          go_loopw [16, 17] (fun s i wr => ∃ (e : Bool) (j : Nat), s = .bool e ∧ i = .int .i64 j ∧ j ≤ 16 ∧ Hid (e = true ↔ U1.take j = U2.take j) ∧ Hid (Arr wr b12 58 D1) ∧ Hid (Arr wr b13 58 D2) ∧ Hid (Arr wr b14 47 (bv U1)) ∧ Hid (Arr wr b15 47 (bv U2)) ∧ Hid (RV wr A1 (bv L1)) ∧ Hid (RV wr A2 (bv L2)) ∧ Hid (Below w.heap.size w wr)) (fun _ i _ => 16 - (intOf i).toNat)
          case atStart => exact ⟨true, 0, rfl, rfl, by omega, Lib.hid ⟨fun _ => (List.take_zero).trans (List.take_zero).symm, fun _ => rfl⟩, H12w, H13w, H14w, H15w, HPw, HQw, HBw⟩
          case round =>
            clear H12w H13w H14w H15w HPw HQw HBw
            obtain ⟨e, j, rfl, rfl, hj, HEJ, H12, H13, H14, H15, HP, HQ, HB⟩ := hrel
            by_cases hlt : j < 16
            · have hj1 : j < U1.length := by rw [HU1.out]; omega
              have hj2 : j < U2.length := by rw [HU2.out]; omega
              have hi16 : (j : Int) < 16 := by omega
              have hi32 : (j : Int) < 32 := by omega
              have hd1 := H14.out.cell (bv_at hj1)
              have hd2 := H15.out.cell (bv_at hj2)
              have HT1 := Lib.hid (List.take_succ_eq_append_getElem hj1)
              have HT2 := Lib.hid (List.take_succ_eq_append_getElem hj2)
              generalize U1[j] = p1 at *
              generalize U2[j] = p2 at *
              clear hj1 hj2
              rcases Bool.eq_false_or_eq_true e with he | he
              · subst he
                have HTT := Lib.hid (HEJ.out.1 rfl)
                clear HEJ
                go_wp2_with fail
                go_quiet (fail)
                have hdw := below_drewN wr nq
                have K12 := Lib.hid (H12.out.keep hdw)
                have K13 := Lib.hid (H13.out.keep hdw)
                have K14 := Lib.hid (H14.out.keep hdw)
                have K15 := Lib.hid (H15.out.keep hdw)
                have KP := Lib.hid (HP.out.below hdw)
                have KQ := Lib.hid (HQ.out.below hdw)
                have KB := Lib.hid (bel_on HB.out hdw)
                clear hdw hd1 hd2
                generalize wr.drewN nq = w4 at *
                go_wp2_with fail
                go_roundw
                case rel => exact ⟨_, j + 1, rfl, by go_num, by omega, Lib.hid (by rw [HT1.out, HT2.out, HTT.out]; exact byte_step _ p1 p2), K12, K13, K14, K15, KP, KQ, KB⟩
                case measure => simp [intOf]; omega
              · subst he
                have HTT : Hid (¬ U1.take j = U2.take j) := Lib.hid fun h => by have := HEJ.out.2 h; cases this
                clear HEJ
                go_wp2_with fail
                go_quiet (fail)
                have hdw := below_drewN wr nq
                have K12 := Lib.hid (H12.out.keep hdw)
                have K13 := Lib.hid (H13.out.keep hdw)
                have K14 := Lib.hid (H14.out.keep hdw)
                have K15 := Lib.hid (H15.out.keep hdw)
                have KP := Lib.hid (HP.out.below hdw)
                have KQ := Lib.hid (HQ.out.below hdw)
                have KB := Lib.hid (bel_on HB.out hdw)
                clear hdw hd1 hd2
                generalize wr.drewN nq = w4 at *
                go_wp2_with fail
                go_roundw
                case rel => exact ⟨_, j + 1, rfl, by go_num, by omega, Lib.hid (by rw [HT1.out, HT2.out]; exact byte_stop p1 p2 HTT.out), K12, K13, K14, K15, KP, KQ, KB⟩
                case measure => simp [intOf]; omega
            · obtain rfl : j = 16 := by omega
              rw [show ((16 : Nat) : Int) = 16 from rfl]
              go_wp2_with fail
              go_meet
              case rel => exact ⟨e, rfl, HEJ, H12, H13, HP, HQ, HB⟩
        case rest =>
          clear H12w H13w H14w H15w HPw HQw HBw
          obtain ⟨e, rfl, HEJ, H12, H13, HP, HQ, HB⟩ := hcut
          obtain ⟨wr, hwr⟩ : ∃ wr : World, wr = wc := ⟨_, rfl⟩
          rw [← hwr] at H12 H13 HP HQ HB ⊢
          clear hwr
          have hq1 := conv_at HP.out HQ1.out c1
          have hq2 := conv_at HQ.out HQ2.out c2
          have hneb : ((⟨L1.toArray⟩ : ByteArray).toList == (⟨L2.toArray⟩ : ByteArray).toList) = false := by
            rw [ByteArray.toList_mk, ByteArray.toList_mk, beq_eq_false_iff_ne]
            exact HNEL.out
          have hE := HEQD.out wr
          have hde : decide (U1.take 16 = U2.take 16) = e := by
            rw [Bool.eq_iff_iff, decide_eq_true_iff]
            exact HEJ.out.symm
          rw [hde] at hE
          clear hde HEJ HEQD
          generalize (⟨L1.toArray⟩ : ByteArray) = X1 at *
          generalize (⟨L2.toArray⟩ : ByteArray) = X2 at *
          go_wp2_with (first
            | ((with_reducible refine arm_rowg 58 b12 58 D1 H12.out _ Tryd.underlying58 rfl HD1S.out ?_ _ rfl ?_ ?_); (focus rfl); (focus rfl))
            | ((with_reducible refine arm_rowg 58 b13 58 D2 H13.out _ Tryd.underlying58 rfl HD2S.out ?_ _ rfl ?_ ?_); (focus rfl); (focus rfl)))
          go_ret
          exact ⟨rfl, HB.out⟩
theorem lawP (x y : UInt8) (A : Option Addr) (n cap : Nat) (ss : List ByteArray) (B : Option Addr) (m cap2 : Nat) (rr : List ByteArray) (w : World) (hn : ss.length = n) (hr : RV w A (sv ss)) (hm : rr.length = m) (hr2 : RV w B (sv rr)) (hT : Tab w 1) :
    Calls Tryd.prog 14 #[.agg #[.int .u8 (x.toNat : Int), .int .u8 (y.toNat : Int)], .slice A n cap, .slice B m cap2] w fun e w' => e = .returned (.bool true) ∧ Below w.heap.size w w' := by
  by_cases h : fewB ss = true ∧ fewB rr = true
  · exact lawP_in x y A n cap ss B m cap2 rr w hn hr hm hr2 hT h.1 h.2
  · refine lawP_out x y A n cap ss B m cap2 rr w hn hr hm hr2 hT ?_
    rcases Bool.eq_false_or_eq_true (fewB ss) with hf | hf
    · rcases Bool.eq_false_or_eq_true (fewB rr) with hg | hg
      · exact absurd ⟨hf, hg⟩ h
      · exact .inr hg
    · exact .inl hf
end Go.Proofs.YtkineafacekklaaDoor
