/-
  TraceImageMatchesSpec: what alumref05's Image does; the walk.
-/
import Derived.Test.YtpojhplnhppcpaaGreatDoorQU5
import Derived.Test.YtpojhplnhppcpaaGreatDoorQN25z
import Derived.Test.YtpojhplnhppcpaaGreatDoorQL1Image
namespace Go.Proofs.YtpojhplnhppcpaaGreatDoor
open Go.RowKit Go.Maps
set_option maxRecDepth 100000 in
set_option maxHeartbeats 8000000 in
set_option linter.unusedSimpArgs false in
theorem rTImage_any (img : List (List Int × Int)) (l : List (List Int)) (n : Int) (cs : List (Int × Int)) (v lv cv : Value) (w : World) (h8 : ∀ x ∈ img, x.1.length = 8) (hn : img.length ≤ 5000) (hs : Rd w v img.length (iv (flatI img)))
    (hl : EvI l) (hll : l.length ≤ 400) (hlv : Rd w lv l.length (iv l.flatten)) (hcs : Rd w cv cs.length (iv (flatS cs))) (hcI : ∀ c ∈ cs, I64 c.1 ∧ I64 c.2) :
    Calls Tryz.prog 37 #[v, lv, .int .i64 n, cv] w fun e w' => ImPost img l n cs w e w' ∧ Below w.heap.size w w' := by
  have HTO := Lib.hid (rAt_any img l n v lv w h8 hn hs hl hll hlv)
  have HGD := Lib.hid fun h => at_good (img := img) h8 hl hll (n := n) h
  have HIE : Hid (imgE img l n cs = if atE img l n = 0 then (crashP (atP img l n) cs).1 else atE img l n) := Lib.hid rfl
  have HIP : Hid (imgP img l n cs = (crashP (atP img l n) cs).2) := Lib.hid rfl
  have HPO : Hid (∀ e w', ImPost img l n cs w e w' = ((imgE img l n cs ≠ 0 ∧ e = .returned (.tuple #[.slice none 0 0, .int .i64 (imgE img l n cs)])) ∨
    (imgE img l n cs = 0 ∧ ∃ u, e = .returned (.tuple #[u, .int .i64 0]) ∧ Sl w' 77 9 u (imgP img l n cs).L.length (iv (flatL (imgP img l n cs).L)) ∧ ∀ q, u.ownBlock = some q → w.heap.size ≤ q))) := Lib.hid fun _ _ => rfl
  change Hid (Calls _ _ _ _ fun e w' => ∃ r, e = .returned (.tuple #[.pointer (some ⟨r, 0, none⟩), .int .i64 (atE img l n)]) ∧ (atE img l n = 0 → Ref w' r (atP img l n) (New w w')) ∧ Below w.heap.size w w') at HTO
  obtain ⟨PO, hPO⟩ : ∃ PO, ImPost img l n cs w = PO := ⟨_, rfl⟩
  rw [hPO] at HPO ⊢
  obtain ⟨IE, hIE⟩ : ∃ IE, imgE img l n cs = IE := ⟨_, rfl⟩
  obtain ⟨IP, hIP⟩ : ∃ IP, imgP img l n cs = IP := ⟨_, rfl⟩
  rw [hIE] at HPO HIE
  rw [hIP] at HPO HIP
  obtain ⟨E, hE⟩ : ∃ E, atE img l n = E := ⟨_, rfl⟩
  rw [hE] at HIE HTO HGD
  obtain ⟨m, hm⟩ : ∃ m, atP img l n = m := ⟨_, rfl⟩
  rw [hm] at HIE HTO HGD HIP
  have HCS := Lib.hid hcs
  have HCI := Lib.hid hcI
  obtain ⟨A, cap, rfl, _⟩ := hs
  obtain ⟨A2, cap2, rfl, _⟩ := hlv
  obtain ⟨A3, cap3, rfl, _⟩ := hcs
  clear h8 hn hl hll hPO hE hm hIE hIP hcI
  go_enter Tryz.func37, Tryz.ntmps37
  go_wp2_with fail
  refine HTO.out.mono ?_
  rintro e w1 ⟨p, rfl, h3, hb⟩
  have HB1 := Lib.hid hb
  clear hb HTO
  by_cases h1 : E = 0
  case neg =>
    have HF : Hid (PO (.returned (.tuple #[.slice none 0 0, .int .i64 E])) w1) := Lib.hid (by
      rw [HPO.out]
      have : IE = E := HIE.out.trans (if_neg h1)
      rw [this]
      exact .inl ⟨h1, rfl⟩)
    have hne : (E == 0) = false := by rw [beq_eq_false_iff_ne]; exact h1
    clear HIE h1 h3
    go_wp2_with fail
    go_ret2
    exact ⟨HF.out, HB1.out⟩
  case pos =>
    subst h1
    obtain ⟨m1, m2, m3⟩ := HGD.out rfl
    have HRC := Lib.hid (HCS.out.below HB1.out)
    have HCR := Lib.hid (rCrash_any p cs (.slice A3 cs.length cap3) m (New w w1) w1 m1 (m3.mono (by omega)) (h3 rfl) (HCS.out.below HB1.out) (fun q hq hv hF => by
      obtain ⟨_, _, hv9, _, _, hrr⟩ := HCS.out
      simp only [Value.slice.injEq] at hv9
      obtain ⟨b, o, e, hbl, _⟩ := hrr hq
      rw [hv9.1, e] at hv
      simp only [Value.ownBlock, Option.some.injEq] at hv
      have := hF.1
      omega) HCI.out)
    have hie : IE = (crashP m cs).1 := HIE.out.trans (if_pos rfl)
    have HCC := Lib.hid (crash_code m cs)
    have HCG := Lib.hid (crash_good m1 m3 cs).1
    rw [← HIP.out] at HCR HCG
    rw [← hie] at HCR HCC
    clear h3 hie m1 m2 m3 HGD HIE HIP
    go_wp2_with fail
    refine HCR.out.mono ?_
    rintro e w2 ⟨rfl, hst⟩
    have HST := Lib.hid hst
    have HB2 : Hid (Below w.heap.size w w2) := Lib.hid (HB1.out.trans (hst.2.below (fun q _ hq => hq.1) HB1.out.size))
    clear hst HCR
    rcases HCC.out with rfl | rfl
    · have HIM := Lib.hid (rImage_any p IP (Ex (New w w1) w1 w2) w2 HCG.out HST.out.1)
      go_wp2_with fail
      refine HIM.out.mono ?_
      rintro e w3 ⟨u, rfl, hsl, how, hb3⟩
      have HB3 := Lib.hid (bel_on HB2.out hb3)
      have HF : Hid (PO (.returned (.tuple #[u, .int .i64 0])) w3) := Lib.hid (by
        rw [HPO.out]
        exact .inr ⟨by first | rfl | trivial, u, rfl, hsl, fun q hq => Nat.le_trans HB2.out.size (how q hq)⟩)
      obtain ⟨UA, ucap, rfl, _⟩ := hsl.shape
      clear hsl how hb3 HIM
      go_wp2_with fail
      go_ret2
      exact ⟨HF.out, HB3.out⟩
    · have HF : Hid (PO (.returned (.tuple #[.slice none 0 0, .int .i64 1])) w2) := Lib.hid (by
        rw [HPO.out]
        exact .inl ⟨by decide, rfl⟩)
      go_wp2_with fail
      go_ret2
      exact ⟨HF.out, HB2.out⟩
theorem Sl.rd {w : World} {e sz n : Nat} {v : Value} {xs : List Value} (h : Sl w e sz v n xs) : Rd w v n xs := by
  obtain ⟨A, cap, rfl, h1, h2, h3, h4⟩ := h.shape
  refine ⟨A, cap, rfl, h1, h2, fun hn => ?_⟩
  cases A with
  | none => have := (h3 rfl).1; omega
  | some ad =>
    obtain ⟨a1, a2, a3⟩ := h4 ad rfl
    obtain ⟨b, o, sp⟩ := ad
    simp only at a1 a2 a3
    subst a1
    exact ⟨b, o, rfl, h.lt a2, a3⟩
theorem imgE_good {img : List (List Int × Int)} (h8 : ∀ x ∈ img, x.1.length = 8) {l : List (List Int)} (hl : EvI l) (hll : l.length ≤ 400) {n : Int} {cs : List (Int × Int)} (h : imgE img l n cs = 0) : (imgP img l n cs).Ok ∧ (imgP img l n cs).L.length = img.length := by
  unfold imgE at h
  split at h
  · rename_i h0
    obtain ⟨m1, m2, m3⟩ := at_good h8 hl hll h0
    exact ⟨(crash_good m1 m3 cs).1, (crash_len _ _).trans m2⟩
  · rename_i h0
    exact absurd h h0
set_option maxRecDepth 100000 in
set_option maxHeartbeats 8000000 in
set_option linter.unusedSimpArgs false in
theorem lawImage (v lv cv : Value) (img : List (List Int × Int)) (l : List (List Int)) (n : Int) (cs : List (Int × Int)) (w : World) (hi : ImgI img) (hs : Rd w v img.length (iv (flatI img))) (hl : EvI l) (hlv : Rd w lv l.length (iv l.flatten)) (_ : I64 n)
    (hcI : ∀ c ∈ cs, I64 c.1 ∧ I64 c.2) (hcs : Rd w cv cs.length (iv (flatS cs))) (hT : TabA w) :
    Calls Tryz.prog 7 #[v, lv, .int .i64 n, cv] w fun e w' => e = .returned (.bool true) ∧ Below w.heap.size w w' := by
  have h8 : ∀ x ∈ img, x.1.length = 8 := fun x hx => (hi x hx).1
  have HS := Lib.hid (tsanity_any w hT)
  have HT := Lib.hid hT
  have HD := Lib.hid hs
  have HL := Lib.hid hlv
  have HEV := Lib.hid hl
  have H8 := Lib.hid h8
  have HCI := Lib.hid hcI
  have HCS := Lib.hid hcs
  obtain ⟨A, cap, rfl, _⟩ := hs
  obtain ⟨A2, cap2, rfl, _⟩ := hlv
  obtain ⟨A3, cap3, rfl, _⟩ := hcs
  clear hi h8 hl hT hcI
  go_enter Tryz.func7, Tryz.ntmps7
  go_wp2_with fail
  refine HS.out.mono ?_
  rintro e w1 ⟨rfl, hb⟩
  have HB1 := Lib.hid hb
  clear hb HS
  have HFW := Lib.hid (few_any A A2 img.length cap l.length cap2 w1)
  go_wp2_with fail
  refine HFW.out.mono ?_
  rintro e w2 ⟨rfl, hb⟩
  have HB2 := Lib.hid (bel_on HB1.out hb)
  clear hb HFW HB1
  cases hf : fewB img.length l.length with
  | false =>
    go_wp2_with fail
    go_ret
    exact ⟨rfl, HB2.out⟩
  | true =>
    by_cases hc20 : (20 : Int) < (cs.length : Int)
    · go_wp2_with fail
      go_ret
      exact ⟨rfl, HB2.out⟩
    · obtain ⟨q1, q2⟩ := fewB_t hf
      have HQ1 := Lib.hid q1
      have HQ2 := Lib.hid q2
      have HCK := Lib.hid (timage_any img l n cs _ _ _ w2 H8.out (by omega) (HD.out.below HB2.out) HEV.out (by omega) (HL.out.below HB2.out) (HCS.out.below HB2.out) HCI.out (HT.out.keep HB2.out).tab)
      have HCK2 := Lib.hid fun w3 (hb3 : Below w.heap.size w w3) => rTImage_any img l n cs _ _ _ w3 H8.out (by omega) (HD.out.below hb3) HEV.out (by omega) (HL.out.below hb3) (HCS.out.below hb3) HCI.out
      have HGI := Lib.hid fun h => imgE_good (n := n) (cs := cs) H8.out HEV.out (by omega) h
      have HPO : Hid (∀ w e w', ImPost img l n cs w e w' → ((imgE img l n cs ≠ 0 ∧ e = .returned (.tuple #[.slice none 0 0, .int .i64 (imgE img l n cs)])) ∨
        (imgE img l n cs = 0 ∧ ∃ u, e = .returned (.tuple #[u, .int .i64 0]) ∧ Sl w' 77 9 u (imgP img l n cs).L.length (iv (flatL (imgP img l n cs).L)) ∧ ∀ q, u.ownBlock = some q → w.heap.size ≤ q))) := Lib.hid fun _ _ _ h => h
      obtain ⟨PO, hPO⟩ : ∃ PO, ImPost img l n cs = PO := ⟨_, rfl⟩
      rw [hPO] at HPO HCK HCK2
      obtain ⟨IE, hIE⟩ : ∃ IE, imgE img l n cs = IE := ⟨_, rfl⟩
      obtain ⟨IP, hIP⟩ : ∃ IP, imgP img l n cs = IP := ⟨_, rfl⟩
      rw [hIE] at HPO HGI
      rw [hIP] at HPO HGI
      clear q1 q2 hPO hIE hIP
      go_wp2_with fail
      refine HCK.out.mono ?_
      rintro e w3 ⟨hp, hb⟩
      have HB3 := Lib.hid (bel_on HB2.out hb)
      have HCR := Lib.hid (HCK2.out w3 HB3.out)
      rcases HPO.out _ _ _ hp with ⟨hz, rfl⟩ | ⟨rfl, u, rfl, hu, _⟩
      · have HSI : Hid (∀ w, Calls Tryz.prog 22 #[.slice none 0 0, .slice none 0 0] w fun e w' => e = .returned (.bool true) ∧ Below w.heap.size w w') := Lib.hid fun w => sameImage_any [] _ _ w (fun x hx => by cases hx) (Nat.zero_le _) ((Sl.nil w 0 0).rd) ((Sl.nil w 0 0).rd)
        have HZ := Lib.hid hz
        clear hp hb HCK HCK2 hf hc20 hz
        go_wp2_with fail
        refine HCR.out.mono ?_
        rintro e w4 ⟨hp, hb⟩
        have HB4 := Lib.hid (bel_on HB3.out hb)
        rcases HPO.out _ _ _ hp with ⟨_, rfl⟩ | ⟨h0, _⟩
        case inr => exact absurd h0 HZ.out
        have HSJ := Lib.hid (HSI.out w4)
        clear hp hb HCR HPO HSI
        go_wp2_with fail
        refine HSJ.out.mono ?_
        rintro e w5 ⟨rfl, hb⟩
        have HB5 := Lib.hid (bel_on HB4.out hb)
        clear hb HSJ
        go_wp2_with fail
        go_ret
        exact ⟨rfl, HB5.out⟩
      · have HU3 := Lib.hid hu
        obtain ⟨UA, ucap, rfl, _⟩ := hu.shape
        clear hp hb HCK HCK2 hf hc20 hu
        go_wp2_with fail
        refine HCR.out.mono ?_
        rintro e w4 ⟨hp, hb⟩
        have HB4 := Lib.hid (bel_on HB3.out hb)
        rcases HPO.out _ _ _ hp with ⟨h0, _⟩ | ⟨_, u, rfl, hu, _⟩
        · exact absurd rfl h0
        have hrd3 := (HU3.out.below hb).rd
        have hrd4 := hu.rd
        obtain ⟨VA, vcap, rfl, _⟩ := hu.shape
        obtain ⟨gm, gl⟩ := HGI.out trivial
        have HSJ := Lib.hid (sameImage_any (imgOf IP) _ _ w4 (imgOf_ok gm) (by unfold imgOf; rw [List.length_map, gl]; have := HQ1.out; omega) (by rw [imgOf_flat]; unfold imgOf; rw [List.length_map]; exact hrd3) (by rw [imgOf_flat]; unfold imgOf; rw [List.length_map]; exact hrd4))
        clear hp hb HCR HPO HGI hrd3 hrd4 hu gm gl
        go_wp2_with fail
        refine HSJ.out.mono ?_
        rintro e w5 ⟨rfl, hb⟩
        have HB5 := Lib.hid (bel_on HB4.out hb)
        clear hb HSJ
        go_wp2_with fail
        go_ret
        exact ⟨rfl, HB5.out⟩
end Go.Proofs.YtpojhplnhppcpaaGreatDoor
