/-
  What trace's Cuts does. What trace's Image does. What trace's Choice does. What has become of events, as plain data: as the program reckons it, and as the specification does.
-/
import Derived.Test.YtpojhplnhppcpaaGreatDoorQV1
namespace Go.Proofs.YtpojhplnhppcpaaGreatDoor
open Go.RowKit Go.Maps
/-- The product over cuts that keep all. -/
def prodC : Nat → List (Int × Int) → Nat
  | a, [] => a
  | a, c :: r => if 1099511627775 / (c.2.toNat + 1) < a then 1099511627775 else prodC (a * (c.2.toNat + 1)) r
theorem prodC_eq : ∀ (L : List PL) (i a : Nat), a ≤ 1099511627775 → prodC a (wholeP i L) = prodP a L
  | [], _, _, _ => rfl
  | x :: r, i, a, ha => by
    unfold wholeP prodP
    by_cases h : x.pend.length = 0
    · rw [if_pos h, h, Nat.zero_add, Nat.div_one, if_neg (by omega), Nat.mul_one]
      exact prodC_eq r (i + 1) a ha
    · rw [if_neg h]
      unfold prodC
      simp only [Int.toNat_natCast]
      by_cases h2 : 1099511627775 / (x.pend.length + 1) < a
      · rw [if_pos h2, if_pos h2]
      · rw [if_neg h2, if_neg h2]
        exact prodC_eq r (i + 1) _ ((Nat.le_div_iff_mul_le (Nat.succ_pos _)).1 (Nat.le_of_not_lt h2))
theorem whole_I64 {m : PM} (hm : m.Ok) (hs : m.Small 1000000) {c : Int × Int} (hc : c ∈ wholeP 0 m.L) : 0 ≤ c.1 ∧ c.1 < 4096 ∧ 0 < c.2 ∧ c.2 ≤ 1000000 := by
  obtain ⟨h1, h2, x, h3, h4, h5⟩ := whole_pos m.L 0 c hc
  have := hm.few
  have := hs.pend x h3
  omega
set_option maxRecDepth 100000 in
set_option maxHeartbeats 8000000 in
set_option linter.unusedSimpArgs false in
theorem tcuts_any (img : List (List Int × Int)) (l : List (List Int)) (n : Int) (v lv : Value) (w : World) (h8 : ∀ x ∈ img, x.1.length = 8) (hn : img.length ≤ 5000) (hs : Rd w v img.length (iv (flatI img)))
    (hl : EvI l) (hll : l.length ≤ 400) (hlv : Rd w lv l.length (iv l.flatten)) (hT : Tab w) :
    Calls Tryz.prog 31 #[v, lv, .int .i64 n] w fun e w' => e = .returned (.tuple #[.int .i64 (cutsE img l n).1, .int .i64 (cutsE img l n).2]) ∧ Below w.heap.size w w' := by
  have HTO := Lib.hid (to_any img l n v lv w h8 hn hs hl hll hlv hT)
  have HGD := Lib.hid fun h => at_good (img := img) h8 hl hll (n := n) h
  have HCE : Hid (cutsE img l n = if atE img l n = 0 then (((productP (atP img l n) : Nat) : Int), 0) else (0, atE img l n)) := Lib.hid rfl
  change Hid (Calls _ _ _ _ fun e w' => ((atE img l n ≠ 0 ∧ e = .returned (.tuple #[.pointer none, .int .i64 (atE img l n)])) ∨
    (atE img l n = 0 ∧ ∃ p, e = .returned (.tuple #[.pointer (some ⟨p, 0, none⟩), .int .i64 0]) ∧ Rep w' p (atP img l n) (New w w'))) ∧ Below w.heap.size w w') at HTO
  obtain ⟨CE, hCE⟩ : ∃ CE, cutsE img l n = CE := ⟨_, rfl⟩
  rw [hCE] at HCE ⊢
  obtain ⟨E, hE⟩ : ∃ E, atE img l n = E := ⟨_, rfl⟩
  rw [hE] at HCE HTO HGD
  obtain ⟨m, hm⟩ : ∃ m, atP img l n = m := ⟨_, rfl⟩
  rw [hm] at HCE HTO HGD
  obtain ⟨A, cap, rfl, _⟩ := hs
  obtain ⟨A2, cap2, rfl, _⟩ := hlv
  clear h8 hn hl hll hT hCE hE hm
  go_enter Tryz.func31, Tryz.ntmps31
  go_wp2_with fail
  refine HTO.out.mono ?_
  rintro e w1 ⟨hp, hb⟩
  have HB1 := Lib.hid hb
  clear hb HTO
  rcases hp with ⟨h1, rfl⟩ | ⟨h1, p, rfl, h3⟩
  · obtain rfl := HCE.out.trans (if_neg h1)
    have hne : (E == 0) = false := by rw [beq_eq_false_iff_ne]; exact h1
    clear HCE
    go_wp2_with fail
    go_ret2
    exact ⟨rfl, HB1.out⟩
  · have hce := HCE.out.trans (if_pos h1)
    subst h1
    obtain ⟨m1, m2, m3⟩ := HGD.out rfl
    have HMO := Lib.hid m1
    have HMS := Lib.hid (m3.mono (show 800 ≤ 1000000 by omega))
    have HWH := Lib.hid (whole_any p m (New w w1) w1 m1 HMS.out h3)
    have hpe : productP m = prodC 1 (wholeP 0 m.L) := (prodC_eq m.L 0 1 (by omega)).symm
    have HWI : Hid (∀ c ∈ wholeP 0 m.L, 0 ≤ c.1 ∧ c.1 < 4096 ∧ 0 < c.2 ∧ c.2 ≤ 1000000) := Lib.hid fun c hc => whole_I64 m1 HMS.out hc
    have HWN : Hid ((wholeP 0 m.L).length ≤ 4096) := Lib.hid (Nat.le_trans (whole_len m.L 0) m1.few)
    rw [hpe] at hce
    generalize wholeP 0 m.L = W at *
    obtain ⟨R, hR⟩ : ∃ R, prodC 1 W = R := ⟨_, rfl⟩
    rw [hR] at hce
    obtain rfl := hce
    have HP0 : Hid (R = prodC 1 (W.drop 0)) := Lib.hid hR.symm
    obtain ⟨N, hN⟩ : ∃ N, W.length = N := ⟨_, rfl⟩
    have HN := Lib.hid hN
    rw [hN] at HWH HWN
    have hN2 := HWN.out
    clear HCE m1 m2 m3 h3 hpe hR hN HGD HMO HMS
    go_wp2_with fail
    refine HWH.out.mono ?_
    rintro e w2 ⟨cv, rfl, hsl, _, hb2⟩
    have HB2 := Lib.hid (bel_on HB1.out hb2)
    obtain ⟨CA, ccap, rfl, hcc, hcm, hc0, hcs⟩ := hsl.shape
    have HSL := Lib.hid hsl
    have HCN : Hid (CA = none → N = 0) := Lib.hid fun h => (hc0 h).1
    have hcm2 : ccap ≤ 9223372036854775807 := by unfold maxLen at hcm; omega
    clear hsl hb2 HWH hc0 hcs hcm
    go_wp2_with fail
    go_loopw [10, 27] (fun u i wr => ∃ k a : Nat, u = .int .i64 (a : Int) ∧ i = .int .i64 (k : Int) ∧ k ≤ N ∧ a ≤ 1099511627775 ∧ Hid (R = prodC a (W.drop k)) ∧ Hid (Below w2.heap.size w2 wr)) (fun _ i _ => N - (intOf i).toNat)
    case atStart => exact ⟨0, 1, rfl, rfl, by omega, by omega, HP0, Lib.hid (Below.refl _ _)⟩
    case round =>
      clear HP0
      obtain ⟨k, a, rfl, rfl, hk, ha, HP, HB⟩ := hrel
      by_cases hlt : k < N
      · have hkl : k < W.length := by rw [HN.out]; exact hlt
        have hkI : (k : Int) < (N : Int) := by omega
        cases CA with
        | none => exact absurd (HCN.out rfl) (by omega)
        | some ad =>
        obtain ⟨hsp, hob, hcell⟩ : ad.spot = none ∧ (Value.slice (some ad) N ccap).ownBlock = some ad.block ∧ ∀ j u, (iv (flatS W))[j]? = some u → w2.cell? ⟨ad.block, ad.off + j, none⟩ = some u := by
          obtain ⟨_, _, hv9, _, _, _, h9⟩ := HSL.out.shape
          simp only [Value.slice.injEq] at hv9
          exact h9 ad hv9.1.symm
        have hbl := HSL.out.lt hob
        obtain ⟨cb, co, sp⟩ := ad
        simp only at hsp hcell hbl
        subst hsp
        obtain ⟨cl0, cl1⟩ := rd_get hkl fun j u hj => (HB.out.cell (p := ⟨cb, co + j, none⟩) hbl).trans (hcell j u hj)
        have hwi := HWI.out _ (List.getElem_mem hkl)
        have hpo := HP.out
        rw [drop_cons hkl] at hpo
        generalize W[k] = x at *
        obtain ⟨ln, kp⟩ := x
        obtain ⟨i1, i2, i3, i4⟩ := hwi
        simp only at i1 i2 i3 i4 cl0 cl1
        obtain ⟨c, hc⟩ : ∃ c : Nat, kp + 1 = (c : Int) := ⟨(kp + 1).toNat, by omega⟩
        have hcn : kp.toNat + 1 = c := by omega
        change R = (if 1099511627775 / (kp.toNat + 1) < a then 1099511627775 else prodC (a * (kp.toNat + 1)) (W.drop (k + 1))) at hpo
        rw [hcn] at hpo
        have hw1 : IntKind.i64.wrap (kp + 1) = (c : Int) := by rw [i64_wraps]; omega
        have hcz : ¬ (c : Int) = 0 := by omega
        obtain ⟨D, hD⟩ : ∃ D, 1099511627775 / c = D := ⟨_, rfl⟩
        have hDl : D ≤ 1099511627775 := by rw [← hD]; exact Nat.div_le_self _ _
        have hq : IntKind.i64.wrap (Int.tdiv 1099511627775 (c : Int)) = (D : Int) := by
          have h1 : Int.tdiv 1099511627775 (c : Int) = (D : Int) := by
            rw [Int.tdiv_eq_ediv_of_nonneg (by omega), ← hD]
            exact (Int.natCast_ediv 1099511627775 c).symm
          rw [h1, i64_wraps]
          omega
        rw [hD] at hpo
        have HBX := Lib.hid (bel_on HB.out (bel_new wr (.cells #[.int .i64 ln, .int .i64 kp] 48)))
        have HBY := Lib.hid (bel_on HB2.out HBX.out)
        clear hcell hob
        by_cases hgt : D < a
        · have hgI : (D : Int) < (a : Int) := by omega
          rw [if_pos hgt] at hpo
          subst hpo
          clear HP hD hc hcn i1 i2 i3 i4
          go_wp2_with fail
          go_ret2
          exact ⟨rfl, HBY.out⟩
        · have hgI : ¬ (D : Int) < (a : Int) := by omega
          rw [if_neg hgt] at hpo
          have hac : a * c ≤ 1099511627775 := by
            have h1 : a ≤ 1099511627775 / c := by rw [hD]; omega
            exact (Nat.le_div_iff_mul_le (by omega)).1 h1
          have hmul : IntKind.i64.wrap ((a : Int) * (c : Int)) = ((a * c : Nat) : Int) := by
            rw [← Int.natCast_mul, i64_wraps]
            omega
          have HPO := Lib.hid hpo
          clear HP hD hc hcn hpo i1 i2 i3 i4
          go_wp2_with fail
          go_roundw
          case rel => exact ⟨k + 1, a * c, by simp [hmul], by simp, by omega, hac, HPO, HBX⟩
          case measure => simp [intOf]; omega
      · obtain rfl : k = N := by omega
        have hkI : ¬ (k : Int) < (k : Int) := by omega
        have hR : R = a := by
          have h1 := HP.out
          rw [List.drop_of_length_le (by rw [HN.out]; exact Nat.le_refl _)] at h1
          exact h1
        subst hR
        clear HP
        go_wp2_with fail
        go_ret2
        exact ⟨rfl, bel_on HB2.out HB.out⟩
end Go.Proofs.YtpojhplnhppcpaaGreatDoor
namespace Go.Proofs.YtpojhplnhppcpaaGreatDoor
open Go.RowKit Go.Maps
def imgE (img : List (List Int × Int)) (l : List (List Int)) (n : Int) (cs : List (Int × Int)) : Int := if atE img l n = 0 then (crashP (atP img l n) cs).1 else atE img l n
def imgP (img : List (List Int × Int)) (l : List (List Int)) (n : Int) (cs : List (Int × Int)) : PM := (crashP (atP img l n) cs).2
/-- What Image answers. -/
def ImPost (img : List (List Int × Int)) (l : List (List Int)) (n : Int) (cs : List (Int × Int)) (w : World) (e : Ending) (w' : World) : Prop :=
  (imgE img l n cs ≠ 0 ∧ e = .returned (.tuple #[.slice none 0 0, .int .i64 (imgE img l n cs)])) ∨
  (imgE img l n cs = 0 ∧ ∃ u, e = .returned (.tuple #[u, .int .i64 0]) ∧ Sl w' 77 9 u (imgP img l n cs).L.length (iv (flatL (imgP img l n cs).L)) ∧ ∀ q, u.ownBlock = some q → w.heap.size ≤ q)
theorem crash_code (m : PM) (cs : List (Int × Int)) : (crashP m cs).1 = 0 ∨ (crashP m cs).1 = 1 := by
  unfold crashP
  split
  · exact .inr rfl
  · exact .inl rfl
theorem crash_len (m : PM) (cs : List (Int × Int)) : (crashP m cs).2.L.length = m.L.length := by
  unfold crashP
  split
  · rfl
  · show ((settles m cs).L.map PL.lost).length = _
    rw [List.length_map, settles_len]
set_option maxRecDepth 100000 in
set_option maxHeartbeats 8000000 in
set_option linter.unusedSimpArgs false in
theorem timage_any (img : List (List Int × Int)) (l : List (List Int)) (n : Int) (cs : List (Int × Int)) (v lv cv : Value) (w : World) (h8 : ∀ x ∈ img, x.1.length = 8) (hn : img.length ≤ 5000) (hs : Rd w v img.length (iv (flatI img)))
    (hl : EvI l) (hll : l.length ≤ 400) (hlv : Rd w lv l.length (iv l.flatten)) (hcs : Rd w cv cs.length (iv (flatS cs))) (hcI : ∀ c ∈ cs, I64 c.1 ∧ I64 c.2) (hT : Tab w) :
    Calls Tryz.prog 36 #[v, lv, .int .i64 n, cv] w fun e w' => ImPost img l n cs w e w' ∧ Below w.heap.size w w' := by
  have HTO := Lib.hid (to_any img l n v lv w h8 hn hs hl hll hlv hT)
  have HGD := Lib.hid fun h => at_good (img := img) h8 hl hll (n := n) h
  have HIE : Hid (imgE img l n cs = if atE img l n = 0 then (crashP (atP img l n) cs).1 else atE img l n) := Lib.hid rfl
  have HIP : Hid (imgP img l n cs = (crashP (atP img l n) cs).2) := Lib.hid rfl
  have HPO : Hid (∀ e w', ImPost img l n cs w e w' = ((imgE img l n cs ≠ 0 ∧ e = .returned (.tuple #[.slice none 0 0, .int .i64 (imgE img l n cs)])) ∨
    (imgE img l n cs = 0 ∧ ∃ u, e = .returned (.tuple #[u, .int .i64 0]) ∧ Sl w' 77 9 u (imgP img l n cs).L.length (iv (flatL (imgP img l n cs).L)) ∧ ∀ q, u.ownBlock = some q → w.heap.size ≤ q))) := Lib.hid fun _ _ => rfl
  change Hid (Calls _ _ _ _ fun e w' => ((atE img l n ≠ 0 ∧ e = .returned (.tuple #[.pointer none, .int .i64 (atE img l n)])) ∨
    (atE img l n = 0 ∧ ∃ p, e = .returned (.tuple #[.pointer (some ⟨p, 0, none⟩), .int .i64 0]) ∧ Rep w' p (atP img l n) (New w w'))) ∧ Below w.heap.size w w') at HTO
  obtain ⟨PO, hPO⟩ : ∃ PO, ImPost img l n cs w = PO := ⟨_, rfl⟩
  rw [hPO] at HPO ⊢
  obtain ⟨IE, hIE⟩ : ∃ IE, imgE img l n cs = IE := ⟨_, rfl⟩
  obtain ⟨IP, hIP⟩ : ∃ IP, imgP img l n cs = IP := ⟨_, rfl⟩
  rw [hIE] at HPO HIE
  rw [hIP] at HPO HIP
  obtain ⟨E, hE⟩ : ∃ E, atE img l n = E := ⟨_, rfl⟩
  rw [hE] at HIE HTO HGD
  obtain ⟨m, hm⟩ : ∃ m, atP img l n = m := ⟨_, rfl⟩
  rw [hm] at HIE HTO HGD HIP
  have HCS := Lib.hid hcs
  have HCI := Lib.hid hcI
  have HT := Lib.hid hT
  obtain ⟨A, cap, rfl, _⟩ := hs
  obtain ⟨A2, cap2, rfl, _⟩ := hlv
  obtain ⟨A3, cap3, rfl, _⟩ := hcs
  clear h8 hn hl hll hT hPO hE hm hIE hIP hcI
  go_enter Tryz.func36, Tryz.ntmps36
  go_wp2_with fail
  refine HTO.out.mono ?_
  rintro e w1 ⟨hp, hb⟩
  have HB1 := Lib.hid hb
  clear hb HTO
  rcases hp with ⟨h1, rfl⟩ | ⟨h1, p, rfl, h3⟩
  · have HF : Hid (PO (.returned (.tuple #[.slice none 0 0, .int .i64 E])) w1) := Lib.hid (by
      rw [HPO.out]
      have : IE = E := HIE.out.trans (if_neg h1)
      rw [this]
      exact .inl ⟨h1, rfl⟩)
    have hne : (E == 0) = false := by rw [beq_eq_false_iff_ne]; exact h1
    clear HIE h1
    go_wp2_with fail
    go_ret2
    exact ⟨HF.out, HB1.out⟩
  · subst h1
    obtain ⟨m1, m2, m3⟩ := HGD.out rfl
    have hF1 : ¬ New w w1 6 := by
      rintro ⟨h1, _⟩
      have := HT.out.lt
      omega
    have HRC := Lib.hid (HCS.out.below HB1.out)
    have HCR := Lib.hid (crash_any p cs (.slice A3 cs.length cap3) m (New w w1) w1 m1 h3 (HT.out.keep HB1.out) hF1 (HCS.out.below HB1.out) (fun q hq hv hF => by
      obtain ⟨_, _, hv9, _, _, hrr⟩ := HCS.out
      simp only [Value.slice.injEq] at hv9
      obtain ⟨b, o, e, hbl, _⟩ := hrr hq
      rw [hv9.1, e] at hv
      simp only [Value.ownBlock, Option.some.injEq] at hv
      have := hF.1
      omega) HCI.out)
    have hie : IE = (crashP m cs).1 := HIE.out.trans (if_pos rfl)
    have HCC := Lib.hid (crash_code m cs)
    have HCL := Lib.hid (crash_len m cs)
    have hfew := m1.few
    rw [← HIP.out] at HCR HCL
    rw [← hie] at HCR HCC
    have HM1 := Lib.hid m1
    clear h3 hF1 hie m1 m2 m3 HGD HIE HIP
    go_wp2_with fail
    refine HCR.out.mono ?_
    rintro e w2 ⟨rfl, hst⟩
    have HST := Lib.hid hst
    have HB2 : Hid (Below w.heap.size w w2) := Lib.hid (HB1.out.trans (hst.2.below (fun q _ hq => hq.1) HB1.out.size))
    clear hst HCR
    rcases HCC.out with rfl | rfl
    · have HIM := Lib.hid (image_any p IP (Ex (New w w1) w1 w2) w2 (by rw [HCL.out]; exact hfew) HST.out.1)
      go_wp2_with fail
      refine HIM.out.mono ?_
      rintro e w3 ⟨u, rfl, hsl, how, hb3⟩
      have HB3 := Lib.hid (bel_on HB2.out hb3)
      have HF : Hid (PO (.returned (.tuple #[u, .int .i64 0])) w3) := Lib.hid (by
        rw [HPO.out]
        exact .inr ⟨by first | rfl | trivial, u, rfl, hsl, fun q hq => Nat.le_trans HB2.out.size (how q hq)⟩)
      obtain ⟨UA, ucap, rfl, _⟩ := hsl.shape
      clear hsl how hb3 HIM
      go_wp2_with fail
      go_ret2
      exact ⟨HF.out, HB3.out⟩
    · have HF : Hid (PO (.returned (.tuple #[.slice none 0 0, .int .i64 1])) w2) := Lib.hid (by
        rw [HPO.out]
        exact .inl ⟨by decide, rfl⟩)
      go_wp2_with fail
      go_ret2
      exact ⟨HF.out, HB2.out⟩
end Go.Proofs.YtpojhplnhppcpaaGreatDoor
namespace Go.Proofs.YtpojhplnhppcpaaGreatDoor
open Go.RowKit Go.Maps
/-- The choice by a number, of cuts that keep all. -/
def choC : Nat → List (Int × Int) → List (Int × Int)
  | _, [] => []
  | d, c :: r => (c.1, ((d % (c.2.toNat + 1) : Nat) : Int)) :: choC (d / (c.2.toNat + 1)) r
theorem choC_eq : ∀ (L : List PL) (i d : Nat), choC d (wholeP i L) = choP i d L
  | [], _, _ => rfl
  | x :: r, i, d => by
    unfold wholeP choP
    by_cases h : x.pend.length = 0
    · rw [if_pos h, if_pos h]
      exact choC_eq r (i + 1) d
    · rw [if_neg h, if_neg h]
      unfold choC
      simp only [Int.toNat_natCast]
      rw [choC_eq r (i + 1)]
theorem choC_len : ∀ (cs : List (Int × Int)) (d : Nat), (choC d cs).length = cs.length
  | [], _ => rfl
  | c :: r, d => by
    unfold choC
    rw [List.length_cons, List.length_cons, choC_len r]
theorem flatS_set {V r : List (Int × Int)} {a b x : Int} : (iv (flatS (V ++ (a, b) :: r))).set (V.length * 2 + 1) (.int .i64 x) = iv (flatS (V ++ (a, x) :: r)) := by
  have h1 : ∀ y : Int, flatS (V ++ (a, y) :: r) = flatS V ++ (a :: y :: flatS r) := fun y => by simp [flatS]
  rw [h1, h1]
  unfold iv
  rw [List.map_append, List.map_append, List.set_append_right _ _ (by rw [List.length_map, flatS_len]; omega)]
  congr 1
  rw [List.length_map, flatS_len, show V.length * 2 + 1 - V.length * 2 = 1 by omega]
  rfl
theorem Sl.free {w : World} {e sz n : Nat} {v : Value} {xs : List Value} (h : Sl w e sz v n xs) {g : Nat} (hg : v.ownBlock = some g) (j : Nat) : w.frozen? ⟨g, j, none⟩ = false := by
  rcases h.2 with ⟨rfl, _⟩ | ⟨g', o, cap, cur, rfl, hb, _⟩
  · simp [Value.ownBlock] at hg
  · simp [Value.ownBlock] at hg
    subst hg
    exact frozen_of_row w g' j _ e hb
theorem rest_le {k : Int} (h : I64 k) : restZ k ≤ 9223372036854775807 := by
  unfold I64 at h
  unfold restZ
  split <;> omega
def choE (img : List (List Int × Int)) (l : List (List Int)) (n k : Int) : List (Int × Int) := if atE img l n = 0 then chosenP (atP img l n) k else []
set_option maxRecDepth 100000 in
set_option maxHeartbeats 8000000 in
set_option linter.unusedSimpArgs false in
theorem tchoice_any (img : List (List Int × Int)) (l : List (List Int)) (n k : Int) (v lv : Value) (w : World) (h8 : ∀ x ∈ img, x.1.length = 8) (hn : img.length ≤ 5000) (hs : Rd w v img.length (iv (flatI img)))
    (hl : EvI l) (hll : l.length ≤ 400) (hlv : Rd w lv l.length (iv l.flatten)) (hT : Tab w) (hk : I64 k) :
    Calls Tryz.prog 33 #[v, lv, .int .i64 n, .int .i64 k] w fun e w' => (∃ u, e = .returned (.tuple #[u, .int .i64 (atE img l n)]) ∧ Sl w' 48 2 u (choE img l n k).length (iv (flatS (choE img l n k))) ∧ ∀ q, u.ownBlock = some q → w.heap.size ≤ q) ∧ Below w.heap.size w w' := by
  have hb0 := bel_new w (.cells #[.int .i64 k] 3)
  have HTO := Lib.hid (to_any img l n v lv (w.alloc (.cells #[.int .i64 k] 3)) h8 hn (hs.below hb0) hl hll (hlv.below hb0) (hT.keep hb0))
  have HGD := Lib.hid fun h => at_good (img := img) h8 hl hll (n := n) h
  have HCE : Hid (choE img l n k = if atE img l n = 0 then chosenP (atP img l n) k else []) := Lib.hid rfl
  obtain ⟨W0, hW0⟩ : ∃ W0, w.alloc (.cells #[.int .i64 k] 3) = W0 := ⟨_, rfl⟩
  have HK0 : Hid (Arr W0 w.heap.size 3 [.int .i64 k]) := Lib.hid (by rw [← hW0]; exact Arr.new w [.int .i64 k] 3)
  rw [hW0] at HTO hb0
  change Hid (Calls _ _ _ _ fun e w' => ((atE img l n ≠ 0 ∧ e = .returned (.tuple #[.pointer none, .int .i64 (atE img l n)])) ∨
    (atE img l n = 0 ∧ ∃ p, e = .returned (.tuple #[.pointer (some ⟨p, 0, none⟩), .int .i64 0]) ∧ Rep w' p (atP img l n) (New W0 w'))) ∧ Below W0.heap.size W0 w') at HTO
  obtain ⟨CE, hCE⟩ : ∃ CE, choE img l n k = CE := ⟨_, rfl⟩
  rw [hCE] at HCE ⊢
  obtain ⟨E, hE⟩ : ∃ E, atE img l n = E := ⟨_, rfl⟩
  rw [hE] at HCE HTO HGD ⊢
  obtain ⟨m, hm⟩ : ∃ m, atP img l n = m := ⟨_, rfl⟩
  rw [hm] at HCE HTO HGD
  obtain ⟨A, cap, rfl, _⟩ := hs
  obtain ⟨A2, cap2, rfl, _⟩ := hlv
  have HB0 := Lib.hid hb0
  have HW0 := Lib.hid hW0
  have hkb : w.heap.size < W0.heap.size := by rw [← hW0]; simp
  clear h8 hn hl hll hT hCE hE hm hb0
  go_enter Tryz.func33, Tryz.ntmps33
  go_wp2_with fail
  refine HTO.out.mono ?_
  rintro e w1 ⟨hp, hb⟩
  have HB1 := Lib.hid (bel_on HB0.out hb)
  have HK1 := Lib.hid (HK0.out.keep hb)
  have hsz1 := hb.size
  clear hb HTO
  rcases hp with ⟨h1, rfl⟩ | ⟨h1, p, rfl, h3⟩
  · obtain rfl := HCE.out.trans (if_neg h1)
    have hne : (E == 0) = false := by rw [beq_eq_false_iff_ne]; exact h1
    clear HCE
    go_wp2_with fail
    go_ret2
    exact ⟨⟨_, rfl, Sl.nil _ _ _, fun q hq => by simp [Value.ownBlock] at hq⟩, HB1.out⟩
  · have hce := HCE.out.trans (if_pos h1)
    subst h1
    obtain ⟨m1, m2, m3⟩ := HGD.out rfl
    have HMS := Lib.hid (m3.mono (show 800 ≤ 1000000 by omega))
    have HWI : Hid (∀ c ∈ wholeP 0 m.L, 0 ≤ c.1 ∧ c.1 < 4096 ∧ 0 < c.2 ∧ c.2 ≤ 1000000) := Lib.hid fun c hc => whole_I64 m1 HMS.out hc
    have HWN : Hid ((wholeP 0 m.L).length ≤ 4096) := Lib.hid (Nat.le_trans (whole_len m.L 0) m1.few)
    unfold chosenP at hce
    rw [← choC_eq] at hce
    have HWH := Lib.hid fun w2 (hb2 : Kept (fun q => q = w.heap.size) w1 w2) => whole_any p m (New W0 w1) w2 m1 HMS.out (h3.kept hb2 (fun q hq h => by
      have := hq.1
      omega))
    generalize wholeP 0 m.L = W at *
    have HCC := Lib.hid hce
    obtain ⟨N, hN⟩ : ∃ N, W.length = N := ⟨_, rfl⟩
    have HN := Lib.hid hN
    rw [hN] at HWH HWN
    have hN2 := HWN.out
    clear HCE m1 m2 m3 h3 hce hN HGD HMS
    have c0 := HK1.out.cell (j := 0) (u := .int .i64 k) rfl
    go_upto_if 27 with (fail)
    go_cut [] from 28 to 31 (fun wx => Hid (Arr wx w.heap.size 3 [.int .i64 ((restZ k : Nat) : Int)]) ∧ Hid (Kept (fun q => q = w.heap.size) w1 wx))
    case first =>
      have fz := HK1.out.free 0
      by_cases hneg : k < 0
      · have hr : ((restZ k : Nat) : Int) = -(k + 1) := by unfold restZ; rw [if_pos hneg]; omega
        have hw1 : IntKind.i64.wrap (k + 1) = k + 1 := by unfold I64 at hk; rw [i64_wraps]; omega
        have hw2 : IntKind.i64.wrap (-(k + 1)) = -(k + 1) := by unfold I64 at hk; rw [i64_wraps]; omega
        have HA := Lib.hid (HK1.out.set 0 (.int .i64 (-(k + 1))))
        have HKE := Lib.hid (Kept.setCell (F := fun q => q = w.heap.size) w1 (a := ⟨w.heap.size, 0, none⟩) (.int .i64 (-(k + 1))) rfl)
        unfold I64 at hk
        clear hk
        go_wp2_with fail
        go_meet
        case rel => exact ⟨Lib.hid (by rw [hr]; exact HA.out), HKE⟩
      · have hr : ((restZ k : Nat) : Int) = k := by unfold restZ; rw [if_neg hneg]; omega
        go_wp2_with fail
        go_meet
        case rel => exact ⟨Lib.hid (by rw [hr]; exact HK1.out), Lib.hid (Kept.refl _ _)⟩
    case rest =>
      obtain ⟨HAK, HKE⟩ := hcut
      have HWH2 := Lib.hid (HWH.out _ HKE.out)
      have HBC : Hid (Below w.heap.size w wc) := Lib.hid (HB1.out.trans (HKE.out.below (fun q _ hq => by subst hq; exact Nat.le_refl _) HB1.out.size))
      have hdl := rest_le hk
      generalize restZ k = d0 at *
      have HC0 : Hid (CE = [] ++ choC d0 (W.drop 0)) := HCC
      clear HWH HKE HCC HB1 HK1 hsz1
      go_wp2_with fail
      refine HWH2.out.mono ?_
      rintro e w2 ⟨cv, rfl, hsl, how, hb2⟩
      have HB2 := Lib.hid (bel_on HBC.out hb2)
      have HAK2 := Lib.hid (HAK.out.keep hb2)
      have hkw : w.heap.size < wc.heap.size := HAK.out.lt
      obtain ⟨CA, ccap, rfl, hcc, hcm, hc0, hcs⟩ := hsl.shape
      have HOW : Hid (∀ q, (Value.slice CA N ccap).ownBlock = some q → w.heap.size < q) := Lib.hid fun q hq => Nat.lt_of_lt_of_le hkw (how q hq)
      have HCN : Hid (CA = none → N = 0) := Lib.hid fun h => (hc0 h).1
      have HCS : Hid (∀ ad, CA = some ad → ad.spot = none ∧ (Value.slice CA N ccap).ownBlock = some ad.block) := Lib.hid fun ad h => ⟨(hcs ad h).1, (hcs ad h).2.1⟩
      have HSL : Hid (Sl w2 48 2 (.slice CA N ccap) N (iv (flatS ([] ++ W.drop 0)))) := Lib.hid hsl
      have hcm2 : ccap ≤ 9223372036854775807 := by unfold maxLen at hcm; omega
      clear hsl how hb2 HWH2 hc0 hcs hcm HAK HBC
      go_wp2_with fail
      go_loopw [36] (fun i wr => ∃ (j d : Nat) (V : List (Int × Int)), i = .int .i64 (j : Int) ∧ j ≤ N ∧ Hid (V.length = j) ∧ Hid (CE = V ++ choC d (W.drop j)) ∧ Hid (Sl wr 48 2 (.slice CA N ccap) N (iv (flatS (V ++ W.drop j)))) ∧ Hid (Arr wr w.heap.size 3 [.int .i64 (d : Int)]) ∧ d ≤ 9223372036854775807 ∧ Hid (Below w.heap.size w wr)) (fun i _ => N - (intOf i).toNat)
      case atStart => exact ⟨0, d0, [], rfl, by omega, Lib.hid rfl, HC0, HSL, HAK2, hdl, HB2⟩
      case round =>
        clear HC0 HSL HAK2 hdl HB2
        obtain ⟨j, d, V, rfl, hj, HVL, HC, HSL, HAK, hd, HB⟩ := hrel
        by_cases hlt : j < N
        · have hjl : j < W.length := by rw [HN.out]; exact hlt
          have hjI : (j : Int) < (N : Int) := by omega
          cases CA with
          | none => exact absurd (HCN.out rfl) (by omega)
          | some ad =>
          obtain ⟨hsp, hob⟩ := HCS.out ad rfl
          obtain ⟨cb, co, sp⟩ := ad
          simp only at hsp hob
          subst hsp
          have hbl := HSL.out.lt hob
          have hkc := HOW.out cb hob
          have hfr := HSL.out.free hob
          have hcat : V ++ W.drop j = V ++ W[j] :: W.drop (j + 1) := by rw [drop_cons hjl]
          have hlen : j < (V ++ W.drop j).length := by
            rw [List.length_append, HVL.out, List.length_drop]
            omega
          have hget : (V ++ W.drop j)[j] = W[j] := by
            rw [List.getElem_append_right (by rw [HVL.out]; exact Nat.le_refl _)]
            simp [HVL.out]
          obtain ⟨cl0, cl1⟩ := rd_get hlen (HSL.out.cells rfl)
          rw [hget] at cl0 cl1
          have HWJ := HWI.out _ (List.getElem_mem hjl)
          have hcc := HC.out
          rw [drop_cons hjl] at hcc
          have HSL1 := HSL.out
          rw [hcat] at HSL1
          generalize W[j] = x at *
          obtain ⟨ln, kp⟩ := x
          obtain ⟨i1, i2, i3, i4⟩ := HWJ
          simp only at i1 i2 i3 i4 cl0 cl1
          obtain ⟨c, hc⟩ : ∃ c : Nat, kp + 1 = (c : Int) := ⟨(kp + 1).toNat, by omega⟩
          have hcn : kp.toNat + 1 = c := by omega
          change CE = V ++ (ln, ((d % (kp.toNat + 1) : Nat) : Int)) :: choC (d / (kp.toNat + 1)) (W.drop (j + 1)) at hcc
          rw [hcn] at hcc
          have hw1 : IntKind.i64.wrap (kp + 1) = (c : Int) := by rw [i64_wraps]; omega
          have hcz : ¬ (c : Int) = 0 := by omega
          obtain ⟨D, hD⟩ : ∃ D, d / c = D := ⟨_, rfl⟩
          obtain ⟨M, hM⟩ : ∃ M, d % c = M := ⟨_, rfl⟩
          have hDl : D ≤ 9223372036854775807 := by rw [← hD]; exact Nat.le_trans (Nat.div_le_self _ _) hd
          have hMl : M ≤ 9223372036854775807 := by rw [← hM]; exact Nat.le_trans (Nat.mod_le _ _) hd
          have hq : IntKind.i64.wrap (Int.tdiv (d : Int) (c : Int)) = (D : Int) := by
            have h1 : Int.tdiv (d : Int) (c : Int) = (D : Int) := by
              rw [Int.tdiv_eq_ediv_of_nonneg (by omega), ← hD]
              exact (Int.natCast_ediv d c).symm
            rw [h1, i64_wraps]
            omega
          have hr : IntKind.i64.wrap (Int.tmod (d : Int) (c : Int)) = (M : Int) := by
            have h1 : Int.tmod (d : Int) (c : Int) = (M : Int) := by
              rw [Int.tmod_eq_emod_of_nonneg (by omega), ← hM]
              exact (Int.natCast_emod d c).symm
            rw [h1, i64_wraps]
            omega
          have hq2 : wrap64 ((d : Int) / (c : Int)) = (D : Int) := by
            have h1 : (d : Int) / (c : Int) = (D : Int) := by rw [← hD]; exact (Int.natCast_ediv d c).symm
            rw [h1]
            unfold wrap64
            omega
          have hr2 : (d : Int) % (c : Int) = (M : Int) := by rw [← hM]; exact (Int.natCast_emod d c).symm
          rw [hD, hM] at hcc
          have hbn := bel_new wr (.cells #[.int .i64 ln, .int .i64 kp] 48)
          have HA1 := HAK.out.keep hbn
          have ck := HA1.cell (j := 0) (u := .int .i64 (d : Int)) rfl
          have fk := HA1.free 0
          have hS1 := HSL1.keep (w' := wr.alloc (.cells #[.int .i64 ln, .int .i64 kp] 48)) fun g hg => hbn.block g (HSL1.lt hg)
          obtain ⟨W1, hW1⟩ : ∃ W1, wr.alloc (.cells #[.int .i64 ln, .int .i64 kp] 48) = W1 := ⟨_, rfl⟩
          have cp0 := (Arr.new wr [.int .i64 ln, .int .i64 kp] 48).cell (j := 0) (u := .int .i64 ln) rfl
          have cp1 := (Arr.new wr [.int .i64 ln, .int .i64 kp] 48).cell (j := 1) (u := .int .i64 kp) rfl
          rw [hW1] at hbn HA1 ck fk hS1 cp0 cp1
          have fr1 := hS1.free hob (co + j * 2 + 1)
          have cl1' := (rd_get (ss := V ++ (ln, kp) :: W.drop (j + 1)) (j := j) (by rw [List.length_append, HVL.out]; simp) (hS1.cells rfl)).2
          have he1 : (V ++ (ln, kp) :: W.drop (j + 1))[j]'(by rw [List.length_append, HVL.out]; simp) = (ln, kp) := by
            rw [List.getElem_append_right (by rw [HVL.out]; exact Nat.le_refl _)]
            simp [HVL.out]
          rw [he1] at cl1'
          have hne : cb ≠ w.heap.size := by omega
          have hA2 := HA1.set 0 (.int .i64 (D : Int))
          have hS2 := hS1.keep (w' := W1.setCell ⟨w.heap.size, 0, none⟩ (.int .i64 (D : Int))) fun g hg => Below.heap_setCell _ _ _ _ (by
            have := HOW.out g hg
            intro e
            simp only at e
            omega)
          have hK2 : Kept (fun q => w.heap.size ≤ q) W1 (W1.setCell ⟨w.heap.size, 0, none⟩ (.int .i64 (D : Int))) := Kept.setCell _ _ (Nat.le_refl _)
          obtain ⟨W2, hW2⟩ : ∃ W2, W1.setCell ⟨w.heap.size, 0, none⟩ (.int .i64 (D : Int)) = W2 := ⟨_, rfl⟩
          rw [hW2] at hA2 hS2 hK2
          have fr2 := hS2.free hob (co + j * 2 + 1)
          have cl2 : ∃ u, W2.cell? ⟨cb, co + j * 2 + 1, none⟩ = some u := ⟨_, (rd_get (ss := V ++ (ln, kp) :: W.drop (j + 1)) (j := j) (by rw [List.length_append, HVL.out]; simp) (hS2.cells rfl)).2⟩
          obtain ⟨cu, cl2⟩ := cl2
          have hS3 := hS2.set (j * 2 + 1) (.int .i64 (M : Int))
          rw [← Nat.add_assoc, ← HVL.out, flatS_set, HVL.out] at hS3
          have hA3 := hA2.other (a := ⟨cb, co + j * 2 + 1, none⟩) (by simp only; omega) (.int .i64 (M : Int))
          have hB3 : Below w.heap.size w (W2.setCell ⟨cb, co + j * 2 + 1, none⟩ (.int .i64 (M : Int))) := (bel_on HB.out hbn).trans ((hK2.then_ (Kept.setCell _ _ (by simp only; omega))).below (fun q _ hq => hq) (bel_on HB.out hbn).size)
          have HS3 : Hid (Sl (W2.setCell ⟨cb, co + j * 2 + 1, none⟩ (.int .i64 (M : Int))) 48 2 (.slice (some ⟨cb, co, none⟩) N ccap) N (iv (flatS ((V ++ [(ln, (M : Int))]) ++ W.drop (j + 1))))) := Lib.hid (by
            rw [List.append_assoc]
            exact hS3)
          have HA3 : Hid (Arr (W2.setCell ⟨cb, co + j * 2 + 1, none⟩ (.int .i64 (M : Int))) w.heap.size 3 [.int .i64 (D : Int)]) := Lib.hid hA3
          have HB3 := Lib.hid hB3
          have HCX : Hid (CE = (V ++ [(ln, (M : Int))]) ++ choC D (W.drop (j + 1))) := Lib.hid (by rw [hcc]; simp)
          have HVX : Hid ((V ++ [(ln, (M : Int))]).length = j + 1) := Lib.hid (by rw [List.length_append, HVL.out]; rfl)
          clear hS1 hS2 hS3 hA2 hA3 hB3 hK2 hcc HC HSL HSL1 HA1 hbn hD hM hc hcn hcat hlen hget i1 i2 i3 i4 hob
          go_wp2_with (go_in)
          go_roundw
          case rel => exact ⟨j + 1, D, _, by simp, by omega, HVX, HCX, HS3, HA3, hDl, HB3⟩
          case measure => simp [intOf]; omega
        · obtain rfl : j = N := by omega
          have hjI : ¬ (j : Int) < (j : Int) := by omega
          have hfin : CE = V := by
            have h1 := HC.out
            rw [List.drop_of_length_le (by rw [HN.out]; exact Nat.le_refl _)] at h1
            simpa [choC] using h1
          subst hfin
          have HS2 : Hid (Sl wr 48 2 (.slice CA j ccap) CE.length (iv (flatS CE))) := Lib.hid (by
            have h1 := HSL.out
            rw [List.drop_of_length_le (by rw [HN.out]; exact Nat.le_refl _), List.append_nil] at h1
            rw [HVL.out]
            exact h1)
          have HOW2 : Hid (∀ q, (Value.slice CA j ccap).ownBlock = some q → w.heap.size ≤ q) := Lib.hid fun q hq => Nat.le_of_lt (HOW.out q hq)
          go_wp2_with fail
          go_ret2
          exact ⟨⟨_, rfl, HS2.out, HOW2.out⟩, HB.out⟩
end Go.Proofs.YtpojhplnhppcpaaGreatDoor
namespace Go.Proofs.YtpojhplnhppcpaaGreatDoor
open Go.RowKit
/-- A store; its line. -/
def stq (x : List Int) : Bool := decide (x.getD 0 0 = 1) || decide (x.getD 0 0 = 2)
def lnq (x : List Int) : Nat := (x.getD 1 0 / 8).toNat
def atq (x : List Int) : Nat := (x.getD 1 0).toNat
def PM.pl (m : PM) (j : Nat) : Nat := (m.line j).pend.length
theorem line_upd {m : PM} {i : Nat} {f : PL → PL} (hi : i < m.L.length) (j : Nat) : ((m.upd i f).line j) = if j = i then f (m.line i) else m.line j := upd_line hi j
theorem settle_pl (l : PL) (n : Nat) : (l.settle n).pend.length ≤ l.pend.length := by
  unfold PL.settle
  split
  · exact Nat.le_refl _
  · show (l.pend.drop n).length ≤ _
    rw [List.length_drop]
    omega
theorem map_line {m : PM} {f : PL → PL} (hz : f PL.zero = PL.zero) (j : Nat) : (PM.mk (m.L.map f) m.span m.ev).line j = f (m.line j) := by
  unfold PM.line
  simp only [List.getD_eq_getElem?_getD, List.getElem?_map]
  cases h : m.L[j]? with
  | none => simp [hz]
  | some x => rfl
theorem zero_settle : PL.zero.settle PL.zero.mark = PL.zero := by unfold PL.settle; exact if_pos rfl
theorem not_self {l : List (List Int)} {x : List Int} : l ≠ l ++ [x] := fun h => by
  have := congrArg List.length h
  simp at this
/-- What a call that is recorded as it is makes of the pending stores. -/
theorem apply_pl {m : PM} {x : List Int} (h : appliesB m x = true) :
    (stq x = true → lnq x < m.L.length ∧ 0 ≤ x.getD 1 0 ∧ ∀ j, (applyP m x).pl j = m.pl j + (if j = lnq x then 1 else 0)) ∧
    (x.getD 0 0 = 6 → 0 ≤ x.getD 1 0 ∧ atq x < m.L.length ∧ ∀ j, (applyP m x).pl j = if j = atq x then 0 else m.pl j) ∧
    (stq x = false → ∀ j, (applyP m x).pl j ≤ m.pl j) := by
  have hev : (applyP m x).ev = m.ev ++ [x] := of_decide_eq_true h
  obtain ⟨k, hk⟩ : ∃ k, x.getD 0 0 = k := ⟨_, rfl⟩
  obtain ⟨a, ha⟩ : ∃ a, x.getD 1 0 = a := ⟨_, rfl⟩
  obtain ⟨v, hv⟩ : ∃ v, x.getD 2 0 = v := ⟨_, rfl⟩
  obtain ⟨s, hs⟩ : ∃ s, x.getD 3 0 = s := ⟨_, rfl⟩
  have hst : stq x = (decide (k = 1) || decide (k = 2)) := by unfold stq; rw [hk]
  have hln : lnq x = (a / 8).toNat := by unfold lnq; rw [ha]
  have hat : atq x = a.toNat := by unfold atq; rw [ha]
  unfold applyP at hev ⊢
  rw [hk, ha, hv, hs] at hev ⊢
  rw [hst, hln, hat]
  unfold callP at hev ⊢
  have store : ∀ kk : Int, (storeP (spanP m s) kk a v).2.ev = m.ev ++ [x] → (a / 8).toNat < m.L.length ∧ 0 ≤ a ∧ ∀ j, (storeP (spanP m s) kk a v).2.pl j = m.pl j + (if j = (a / 8).toNat then 1 else 0) := by
    intro kk hev
    by_cases hp : (putP (spanP m s) a v).1 = 0
    · unfold storeP at hev ⊢
      rw [rec_done hp] at hev ⊢
      unfold putP at hp ⊢
      by_cases h1 : (spanP m s).hasA a = false
      · rw [if_pos h1] at hp
        cases hp
      · rw [if_neg h1] at hp ⊢
        by_cases h2 : okW v = false
        · rw [if_pos h2] at hp
          cases hp
        · rw [if_neg h2] at hp ⊢
          by_cases h3 : ((spanP m s).line (a / 8).toNat).state = 2
          · rw [if_pos h3] at hp
            cases hp
          · rw [if_neg h3]
            have hA : 0 ≤ a ∧ a < 8 * (m.L.length : Int) := by
              have : (spanP m s).hasA a = true := by simpa using h1
              exact of_decide_eq_true this
            have hl : (a / 8).toNat < m.L.length := by omega
            refine ⟨hl, hA.1, fun j => ?_⟩
            show ((((spanP m s).upd (a / 8).toNat (·.push (a % 8, v))).line j).pend.length) = _
            rw [line_upd (m := spanP m s) hl j]
            by_cases hj : j = (a / 8).toNat
            · rw [if_pos hj, if_pos hj]
              show ((m.line (a / 8).toNat).pend ++ [(a % 8, v)]).length = (m.line j).pend.length + 1
              rw [List.length_append, hj]
              rfl
            · rw [if_neg hj, if_neg hj]
              rfl
    · unfold storeP at hev
      rw [rec_fail hp, put_fail hp] at hev
      exact absurd hev not_self
  by_cases k1 : k = 1
  · rw [if_pos k1] at hev ⊢
    subst k1
    exact ⟨fun _ => store 1 hev, fun h => absurd h (by decide), fun h => absurd h (by decide)⟩
  · rw [if_neg k1] at hev ⊢
    by_cases k2 : k = 2
    · rw [if_pos k2] at hev ⊢
      subst k2
      exact ⟨fun _ => store 2 hev, fun h => absurd h (by decide), fun h => absurd h (by decide)⟩
    · rw [if_neg k2] at hev ⊢
      have hf : (decide (k = 1) || decide (k = 2)) = false := by simp [k1, k2]
      rw [hf]
      by_cases k3 : k = 3
      · rw [if_pos k3]
        subst k3
        refine ⟨fun h => absurd h (by decide), fun h => absurd h (by decide), fun _ j => ?_⟩
        by_cases hc : (flushP m a).1 = 0
        · rw [rec_done hc]
          unfold flushP at hc ⊢
          by_cases h1 : m.has a = false
          · rw [if_pos h1] at hc
            cases hc
          · rw [if_neg h1]
            have hA : 0 ≤ a ∧ a < (m.L.length : Int) := by
              have : m.has a = true := by simpa using h1
              exact of_decide_eq_true this
            show (((m.upd a.toNat (·.flushed)).line j).pend.length) ≤ _
            rw [line_upd (by omega) j]
            by_cases hj : j = a.toNat
            · rw [if_pos hj, hj]
              exact Nat.le_refl _
            · rw [if_neg hj]
              exact Nat.le_refl _
        · rw [rec_fail hc, flush_fail hc]
          exact Nat.le_refl _
      · rw [if_neg k3] at hev ⊢
        by_cases k4 : k = 4
        · rw [if_pos k4]
          subst k4
          refine ⟨fun h => absurd h (by decide), fun h => absurd h (by decide), fun _ j => ?_⟩
          show ((fenceP m).line j).pend.length ≤ _
          have := map_line (m := m) (f := fun l => l.settle l.mark) zero_settle j
          show ((PM.mk (m.L.map fun l => l.settle l.mark) m.span m.ev).line j).pend.length ≤ _
          rw [this]
          exact settle_pl _ _
        · rw [if_neg k4] at hev ⊢
          by_cases k5 : k = 5
          · rw [if_pos k5]
            subst k5
            refine ⟨fun h => absurd h (by decide), fun h => absurd h (by decide), fun _ j => ?_⟩
            by_cases hc : (evictP m a v).1 = 0
            · rw [rec_done hc]
              unfold evictP at hc ⊢
              by_cases h1 : m.has a = false
              · rw [if_pos h1] at hc
                cases hc
              · rw [if_neg h1] at hc ⊢
                by_cases h2 : v < 1 ∨ ((m.line a.toNat).pend.length : Int) < v
                · rw [if_pos h2] at hc
                  cases hc
                · rw [if_neg h2]
                  have hA : 0 ≤ a ∧ a < (m.L.length : Int) := by
                    have : m.has a = true := by simpa using h1
                    exact of_decide_eq_true this
                  show (((m.upd a.toNat (·.settle v.toNat)).line j).pend.length) ≤ _
                  rw [line_upd (by omega) j]
                  by_cases hj : j = a.toNat
                  · rw [if_pos hj, hj]
                    exact settle_pl _ _
                  · rw [if_neg hj]
                    exact Nat.le_refl _
            · rw [rec_fail hc, evict_fail hc]
              exact Nat.le_refl _
          · rw [if_neg k5] at hev ⊢
            by_cases k6 : k = 6
            · rw [if_pos k6] at hev ⊢
              have hH : 0 ≤ a ∧ a.toNat < m.L.length ∧ ∀ j, (rec_ (healP m a (x.drop 4)) (evt 6 a 0 0 (x.drop 4))).2.pl j = if j = a.toNat then 0 else m.pl j := by
                by_cases hc : (healP m a (x.drop 4)).1 = 0
                · rw [rec_done hc]
                  unfold healP at hc ⊢
                  by_cases h1 : m.has a = false
                  · rw [if_pos h1] at hc
                    cases hc
                  · rw [if_neg h1] at hc ⊢
                    by_cases h2 : (x.drop 4).all okW = false
                    · rw [if_pos h2] at hc
                      cases hc
                    · rw [if_neg h2]
                      have hA : 0 ≤ a ∧ a < (m.L.length : Int) := by
                        have : m.has a = true := by simpa using h1
                        exact of_decide_eq_true this
                      refine ⟨hA.1, by omega, fun j => ?_⟩
                      show (((m.upd a.toNat fun _ => PL.made (x.drop 4)).line j).pend.length) = _
                      rw [line_upd (by omega) j]
                      by_cases hj : j = a.toNat
                      · rw [if_pos hj, if_pos hj]
                        rfl
                      · rw [if_neg hj, if_neg hj]
                        rfl
                · rw [rec_fail hc, heal_fail hc] at hev
                  exact absurd hev not_self
              refine ⟨fun h => absurd h (by decide), fun _ => hH, fun _ j => ?_⟩
              rw [hH.2.2 j]
              split
              · exact Nat.zero_le _
              · exact Nat.le_refl _
            · rw [if_neg k6] at hev ⊢
              refine ⟨fun h => absurd h (by decide), fun h => absurd h k6, fun _ j => ?_⟩
              by_cases k7 : k = 7
              · rw [if_pos k7]
                by_cases hc : (rotP m a (x.drop 4) v).1 = 0
                · rw [rec_done hc]
                  unfold rotP at hc ⊢
                  by_cases h1 : m.has a = false
                  · rw [if_pos h1] at hc
                    cases hc
                  · rw [if_neg h1] at hc ⊢
                    by_cases h2 : validB (x.drop 4) v = false
                    · rw [if_pos h2] at hc
                      cases hc
                    · rw [if_neg h2] at hc ⊢
                      by_cases h3 : (m.line a.toNat).pend ≠ []
                      · rw [if_pos h3] at hc
                        cases hc
                      · rw [if_neg h3]
                        have hA : 0 ≤ a ∧ a < (m.L.length : Int) := by
                          have : m.has a = true := by simpa using h1
                          exact of_decide_eq_true this
                        show (((m.upd a.toNat (·.rotted (x.drop 4) v)).line j).pend.length) ≤ _
                        rw [line_upd (by omega) j]
                        by_cases hj : j = a.toNat
                        · rw [if_pos hj, hj]
                          exact Nat.le_refl _
                        · rw [if_neg hj]
                          exact Nat.le_refl _
                · rw [rec_fail hc, rot_fail hc]
                  exact Nat.le_refl _
              · rw [if_neg k7]
                exact Nat.le_refl _
end Go.Proofs.YtpojhplnhppcpaaGreatDoor
