/-
  TraceCutsMatchSpec: what alumref05's Choice does; the walk.
-/
import Derived.Test.YtpojhplnhppcpaaGreatDoorQL4Cuts
namespace Go.Proofs.YtpojhplnhppcpaaGreatDoor
open Go.RowKit Go.Maps
theorem rdS {w : World} {e sz n : Nat} {v : Value} {xs : List Value} (h : Sl w e sz v n xs) : Rd w v n xs := by
  obtain ⟨A, cap, rfl, h1, h2, h3, h4⟩ := h.shape
  refine ⟨A, cap, rfl, h1, h2, fun hn => ?_⟩
  cases A with
  | none => have := (h3 rfl).1; omega
  | some ad =>
    obtain ⟨a1, a2, a3⟩ := h4 ad rfl
    obtain ⟨b, o, sp⟩ := ad
    simp only at a1 a2 a3
    subst a1
    exact ⟨b, o, rfl, h.lt a2, a3⟩
set_option maxRecDepth 100000 in
set_option maxHeartbeats 8000000 in
set_option linter.unusedSimpArgs false in
theorem rChoice_any (img : List (List Int × Int)) (l : List (List Int)) (n k : Int) (v lv : Value) (w : World) (h8 : ∀ x ∈ img, x.1.length = 8) (hn : img.length ≤ 5000) (hs : Rd w v img.length (iv (flatI img)))
    (hl : EvI l) (hll : l.length ≤ 400) (hlv : Rd w lv l.length (iv l.flatten)) (hk : I64 k) :
    Calls Tryz.prog 34 #[v, lv, .int .i64 n, .int .i64 k] w fun e w' => (∃ u, e = .returned (.tuple #[u, .int .i64 (atE img l n)]) ∧ Sl w' 48 2 u (choE img l n k).length (iv (flatS (choE img l n k))) ∧ ∀ q, u.ownBlock = some q → w.heap.size ≤ q) ∧ Below w.heap.size w w' := by
  have HAT := Lib.hid (rAt_any img l n v lv w h8 hn hs hl hll hlv)
  have HGD := Lib.hid fun h => at_good (img := img) h8 hl hll (n := n) h
  have HCE : Hid (choE img l n k = if atE img l n = 0 then chosenP (atP img l n) k else []) := Lib.hid rfl
  change Hid (Calls _ _ _ _ fun e w' => ∃ r, e = .returned (.tuple #[.pointer (some ⟨r, 0, none⟩), .int .i64 (atE img l n)]) ∧ (atE img l n = 0 → Ref w' r (atP img l n) (New w w')) ∧ Below w.heap.size w w') at HAT
  generalize choE img l n k = CE at *
  generalize atP img l n = m at *
  generalize atE img l n = E at *
  obtain ⟨A, cap, rfl, _⟩ := hs
  obtain ⟨A2, cap2, rfl, _⟩ := hlv
  clear h8 hl
  by_cases he : E = 0
  · subst he
    have hc := HCE.out
    rw [if_pos rfl] at hc
    subst hc
    obtain ⟨gm, _, gs⟩ := HGD.out rfl
    have GM := Lib.hid gm
    have GS := Lib.hid gs
    clear gm gs HGD HCE
    go_enter Tryz.func34, Tryz.ntmps34
    go_wp2_with fail
    refine HAT.out.mono ?_
    rintro e w1 ⟨r, rfl, hr, hb1⟩
    have HB1 := Lib.hid hb1
    have HPR := Lib.hid (rChosen_any r k m (New w w1) w1 hk GM.out (GS.out.mono (by omega)) (hr trivial))
    clear hr hb1 HAT
    go_wp2_with fail
    refine HPR.out.mono ?_
    rintro e w2 ⟨u, rfl, hsl, how, hb2⟩
    have HB2 := Lib.hid (bel_on HB1.out hb2)
    have HOW : Hid (∀ q, u.ownBlock = some q → w.heap.size ≤ q) := Lib.hid fun q hq => Nat.le_trans HB1.out.size (how q hq)
    have HSL := Lib.hid hsl
    obtain ⟨UA, ucap, rfl, _⟩ := hsl.shape
    clear hsl how hb2 HPR
    go_wp2_with fail
    go_ret2
    exact ⟨⟨_, rfl, HSL.out, HOW.out⟩, HB2.out⟩
  · have hc := HCE.out
    rw [if_neg he] at hc
    subst hc
    clear HGD HCE
    go_enter Tryz.func34, Tryz.ntmps34
    go_wp2_with fail
    refine HAT.out.mono ?_
    rintro e w1 ⟨r, rfl, _, hb1⟩
    have HB1 := Lib.hid hb1
    have hne : (E == 0) = false := by rw [beq_eq_false_iff_ne]; exact he
    clear hb1 HAT
    go_wp2_with fail
    go_ret2
    exact ⟨⟨_, rfl, Sl.nil _ _ _, fun q hq => by simp [Value.ownBlock] at hq⟩, HB1.out⟩
theorem choP_I : ∀ (L : List PL) (i d : Nat), i + L.length ≤ 5000 → d ≤ 9223372036854775807 → ∀ c ∈ choP i d L, I64 c.1 ∧ I64 c.2
  | [], _, _, _, _ => fun c hc => by simp [choP] at hc
  | x :: r, i, d, hi, hd => fun c hc => by
    simp only [List.length_cons] at hi
    unfold choP at hc
    split at hc
    · exact choP_I r (i + 1) d (by omega) hd c hc
    · rcases List.mem_cons.1 hc with rfl | hc
      · have := Nat.mod_le d (x.pend.length + 1)
        generalize d % (x.pend.length + 1) = M at *
        unfold I64
        simp only
        omega
      · exact choP_I r (i + 1) _ (by omega) (Nat.le_trans (Nat.div_le_self _ _) hd) c hc
theorem choE_I {img : List (List Int × Int)} (h8 : ∀ x ∈ img, x.1.length = 8) {l : List (List Int)} (hl : EvI l) (hll : l.length ≤ 400) {n k : Int} (hk : I64 k) (hn : img.length ≤ 4000) : (∀ c ∈ choE img l n k, I64 c.1 ∧ I64 c.2) ∧ (choE img l n k).length ≤ 5000 := by
  unfold choE
  split
  · rename_i h0
    obtain ⟨m1, m2, m3⟩ := at_good h8 hl hll h0
    unfold chosenP
    exact ⟨choP_I _ 0 _ (by rw [m2]; omega) (rest_le hk), Nat.le_trans (choP_len _ _ _) (by rw [m2]; omega)⟩
  · exact ⟨fun c hc => by simp at hc, by simp⟩
set_option maxRecDepth 100000 in
set_option maxHeartbeats 8000000 in
set_option linter.unusedSimpArgs false in
theorem lawCuts (v lv : Value) (img : List (List Int × Int)) (l : List (List Int)) (n k : Int) (w : World) (hi : ImgI img) (hs : Rd w v img.length (iv (flatI img))) (hl : EvI l) (hlv : Rd w lv l.length (iv l.flatten)) (_ : I64 n) (hk : I64 k) (hT : TabA w) :
    Calls Tryz.prog 6 #[v, lv, .int .i64 n, .int .i64 k] w fun e w' => e = .returned (.bool true) ∧ Below w.heap.size w w' := by
  have h8 : ∀ x ∈ img, x.1.length = 8 := fun x hx => (hi x hx).1
  have HS := Lib.hid (tsanity_any w hT)
  have HT := Lib.hid hT
  have HD := Lib.hid hs
  have HL := Lib.hid hlv
  have HEV := Lib.hid hl
  have H8 := Lib.hid h8
  have HK := Lib.hid hk
  obtain ⟨A, cap, rfl, _⟩ := hs
  obtain ⟨A2, cap2, rfl, _⟩ := hlv
  clear hi h8 hl hT hk
  go_enter Tryz.func6, Tryz.ntmps6
  go_wp2_with fail
  refine HS.out.mono ?_
  rintro e w1 ⟨rfl, hb⟩
  have HB1 := Lib.hid hb
  clear hb HS
  have HFW := Lib.hid (few_any A A2 img.length cap l.length cap2 w1)
  go_wp2_with fail
  refine HFW.out.mono ?_
  rintro e w2 ⟨rfl, hb⟩
  have HB2 := Lib.hid (bel_on HB1.out hb)
  clear hb HFW HB1
  cases hf : fewB img.length l.length with
  | false =>
    go_wp2_with fail
    go_ret
    exact ⟨rfl, HB2.out⟩
  | true =>
    obtain ⟨q1, q2⟩ := fewB_t hf
    have HCK := Lib.hid fun w3 (hb3 : Below w.heap.size w w3) => tcuts_any img l n _ _ w3 H8.out (by omega) (HD.out.below hb3) HEV.out (by omega) (HL.out.below hb3) (HT.out.keep hb3).tab
    have HRC := Lib.hid fun w3 (hb3 : Below w.heap.size w w3) => rCutsE_any img l n _ _ w3 H8.out (by omega) (HD.out.below hb3) HEV.out (by omega) (HL.out.below hb3)
    have HCH := Lib.hid fun w3 (hb3 : Below w.heap.size w w3) => tchoice_any img l n k _ _ w3 H8.out (by omega) (HD.out.below hb3) HEV.out (by omega) (HL.out.below hb3) (HT.out.keep hb3).tab HK.out
    have HRH := Lib.hid fun w3 (hb3 : Below w.heap.size w w3) => rChoice_any img l n k _ _ w3 H8.out (by omega) (HD.out.below hb3) HEV.out (by omega) (HL.out.below hb3) HK.out
    obtain ⟨cI, cL⟩ := choE_I (n := n) (k := k) H8.out HEV.out (by omega) HK.out (by omega)
    have HCI := Lib.hid cI
    have HCL := Lib.hid cL
    generalize cutsE img l n = CE at *
    generalize choE img l n k = C at *
    generalize atE img l n = E at *
    obtain ⟨c1, c2⟩ := CE
    have H1 := Lib.hid (HCK.out w2 HB2.out)
    clear q1 q2 hf cI cL HCK
    go_wp2_with fail
    refine H1.out.mono ?_
    rintro e w3 ⟨rfl, hb⟩
    have HB3 := Lib.hid (bel_on HB2.out hb)
    have H2 := Lib.hid (HRC.out w3 HB3.out)
    clear hb H1 HRC HB2
    go_wp2_with fail
    refine H2.out.mono ?_
    rintro e w4 ⟨rfl, hb⟩
    have HB4 := Lib.hid (bel_on HB3.out hb)
    have H3 := Lib.hid (HCH.out w4 HB4.out)
    clear hb H2 HCH HB3
    go_wp2_with fail
    refine H3.out.mono ?_
    rintro e w5 ⟨⟨u, rfl, hu, _⟩, hb⟩
    have HB5 := Lib.hid (bel_on HB4.out hb)
    have HU5 := Lib.hid hu
    have H4 := Lib.hid (HRH.out w5 HB5.out)
    obtain ⟨UA, ucap, rfl, _⟩ := hu.shape
    clear hb hu H3 HRH HB4
    go_wp2_with fail
    refine H4.out.mono ?_
    rintro e w6 ⟨⟨u, rfl, hu, _⟩, hb⟩
    have HB6 := Lib.hid (bel_on HB5.out hb)
    have H5 := Lib.hid (sameCuts_any C C _ _ w6 HCI.out HCI.out HCL.out HCL.out (rdS (HU5.out.below hb)) (rdS hu))
    have hdt : decide (C = C) = true := by simp
    rw [hdt] at H5
    obtain ⟨VA, vcap, rfl, _⟩ := hu.shape
    clear hb hu H4 HB5 hdt
    go_wp2_with fail
    refine H5.out.mono ?_
    rintro e w7 ⟨rfl, hb⟩
    have HB7 := Lib.hid (bel_on HB6.out hb)
    clear hb H5
    go_wp2_with fail
    go_ret
    exact ⟨rfl, HB7.out⟩
end Go.Proofs.YtpojhplnhppcpaaGreatDoor
