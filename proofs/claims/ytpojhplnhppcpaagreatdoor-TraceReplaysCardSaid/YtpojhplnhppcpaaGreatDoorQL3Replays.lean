/-
  TraceReplays answers true: the walk.
-/
import Derived.Test.YtpojhplnhppcpaaGreatDoorQL2Replays
import Derived.Test.YtpojhplnhppcpaaGreatDoorQV1
import Derived.Test.YtpojhplnhppcpaaGreatDoorQN25z
import Derived.Test.YtpojhplnhppcpaaGreatDoorQArgAReplays
namespace Go.Proofs.YtpojhplnhppcpaaGreatDoor
open Go.RowKit Go.Maps
theorem plays_replays {img : List (List Int × Int)} : ∀ (xs : List POp) {m : PM} {n : Nat}, Replays img m → m.Ok → m.Small n → (∀ x ∈ xs, x.Ok) → Replays img (playsP m xs)
  | [], _, _, h, _, _, _ => h
  | x :: r, _, _, h, hm, hs, hx => plays_replays r (play_replays h hm x) (playP_good hm hs x (hx x (by simp))).ok (playP_good hm hs x (hx x (by simp))).small fun y hy => hx y (by simp [hy])
theorem cutsOk_snoc {m : PM} {c : Int × Int} (hh : m.has c.1 = true) (h0 : 0 ≤ c.2) (h1 : c.2 ≤ ((m.line c.1.toNat).pend.length : Int)) :
    ∀ (cs : List (Int × Int)) (last : Int), last < c.1 → (∀ d ∈ cs, d.1 < c.1) → cutsOk m last cs = true → cutsOk m last (cs ++ [c]) = true
  | [], last, hl, _, _ => by
    show (!(decide (c.1 ≤ last) || !m.has c.1 || decide (c.2 < 0) || decide (((m.line c.1.toNat).pend.length : Int) < c.2)) && true) = true
    rw [hh, decide_eq_false (by omega), decide_eq_false (by omega), decide_eq_false (by omega)]
    rfl
  | d :: r, last, hl, hd, hc => by
    have hc' : (!(decide (d.1 ≤ last) || !m.has d.1 || decide (d.2 < 0) || decide (((m.line d.1.toNat).pend.length : Int) < d.2)) && cutsOk m d.1 r) = true := hc
    obtain ⟨a, b⟩ := Bool.and_eq_true_iff.1 hc'
    show (!(decide (d.1 ≤ last) || !m.has d.1 || decide (d.2 < 0) || decide (((m.line d.1.toNat).pend.length : Int) < d.2)) && cutsOk m d.1 (r ++ [c])) = true
    rw [a, cutsOk_snoc hh h0 h1 r d.1 (hd d (.head _)) (fun x hx => hd x (.tail _ hx)) b]
    rfl
theorem cutsOk_L {m m' : PM} (h : m.L = m'.L) : ∀ (cs : List (Int × Int)) (a : Int), cutsOk m a cs = cutsOk m' a cs
  | [], _ => rfl
  | c :: r, a => by
    have h1 : m.has c.1 = m'.has c.1 := by unfold PM.has; rw [h]
    have h2 : m.line c.1.toNat = m'.line c.1.toNat := by unfold PM.line; rw [h]
    show (!(decide (c.1 ≤ a) || !m.has c.1 || decide (c.2 < 0) || decide (((m.line c.1.toNat).pend.length : Int) < c.2)) && cutsOk m c.1 r) = _
    rw [h1, h2, cutsOk_L h r c.1]
    rfl
theorem upd_L {m m' : PM} (h : m.L = m'.L) (i : Nat) (f : PL → PL) : (m.upd i f).L = (m'.upd i f).L := by
  unfold PM.upd PM.line
  rw [h]
theorem settles_L : ∀ (cs : List (Int × Int)) {m m' : PM}, m.L = m'.L → (settles m cs).L = (settles m' cs).L
  | [], _, _, h => h
  | _ :: r, _, _, h => settles_L r (upd_L h _ _)
theorem crash_L {m m' : PM} (h : m.L = m'.L) {cs : List (Int × Int)} (hc : cutsOk m (-1) cs = true) : (crashP m cs).1 = 0 ∧ (crashP m' cs).1 = 0 ∧ (crashP m cs).2.L = (crashP m' cs).2.L := by
  have hc' := (cutsOk_L h cs (-1)).symm.trans hc
  unfold crashP
  rw [hc, hc', if_neg (by simp), if_neg (by simp)]
  refine ⟨rfl, rfl, ?_⟩
  show (settles m cs).L.map PL.lost = (settles m' cs).L.map PL.lost
  rw [settles_L cs h]
theorem Sl.rd0 {w : World} {e sz n : Nat} {v : Value} {xs : List Value} (h : Sl w e sz v n xs) : Rd w v n xs := by
  obtain ⟨A, cap, rfl, h1, h2, h3, h4⟩ := h.shape
  refine ⟨A, cap, rfl, h1, h2, fun hn => ?_⟩
  cases A with
  | none => have := (h3 rfl).1; omega
  | some ad =>
    obtain ⟨a1, a2, a3⟩ := h4 ad rfl
    obtain ⟨b, o, sp⟩ := ad
    simp only at a1 a2 a3
    subst a1
    exact ⟨b, o, rfl, h.lt a2, a3⟩
set_option maxRecDepth 100000 in
set_option maxHeartbeats 16000000 in
set_option linter.unusedSimpArgs false in
theorem lawReplays (v lv kv : Value) (img : List (List Int × Int)) (xs : List POp) (bs : List Nat) (w : World) (hi : ImgI img) (hs : Rd w v img.length (iv (flatI img))) (hsc : Script w lv xs) (hbs : ∀ b ∈ bs, b < 256)
    (hkv : Rd w kv bs.length (bs.map fun b : Nat => Value.int .u8 (b : Int))) (hT : TabA w) :
    Calls Tryz.prog 4 #[v, lv, kv] w fun e w' => e = .returned (.bool true) ∧ Below w.heap.size w w' := by
  have h8 : ∀ x ∈ img, x.1.length = 8 := fun x hx => (hi x hx).1
  have HS := Lib.hid (tsanity_any w hT)
  have HT := Lib.hid hT
  have HD := Lib.hid hs
  have HSC := Lib.hid hsc
  have H8 := Lib.hid h8
  have HBS := Lib.hid hbs
  have HXO : Hid (∀ x ∈ xs, x.Ok) := Lib.hid (by obtain ⟨_, _, _, h, _⟩ := hsc; exact h)
  have HKV := Lib.hid hkv
  have HPL := Lib.hid fun w1 (hb : Below w.heap.size w w1) => played_any img xs v lv w1 h8 (hs.below hb) (hsc.keep hb) (hT.keep hb).tab
  obtain ⟨A, cap, rfl, _⟩ := hs
  obtain ⟨_, _, ⟨A2, cap2, rfl, _⟩, _⟩ := hsc
  obtain ⟨A3, cap3, rfl, hk1, hk2, hk3⟩ := hkv
  have HK3 := Lib.hid hk3
  have hcap3 : cap3 ≤ 9223372036854775807 := by unfold maxLen at hk2; omega
  have hbl0 : bs.length ≤ cap3 := hk1
  clear hi h8 hT hbs hk1 hk2 hk3
  go_enter Tryz.func4, Tryz.ntmps4
  go_wp2_with fail
  refine HS.out.mono ?_
  rintro e w1 ⟨rfl, hb⟩
  have HB1 := Lib.hid hb
  have HP1 := Lib.hid (HPL.out w1 hb)
  clear hb HS HPL
  go_wp2_with fail
  refine HP1.out.mono ?_
  rintro e w2 ⟨hp, hb⟩
  have HB2 := Lib.hid (bel_on HB1.out hb)
  have hsz12 := hb.size
  have hsz01 := HB1.out.size
  clear hb HP1 HB1
  rcases hp with ⟨_, rfl⟩ | ⟨hM, hN, hrb, p, rfl, hrp, hmo, hms, hml⟩
  · go_wp2_with fail
    go_ret
    exact ⟨rfl, HB2.out⟩
  have HRE : Hid (Replays img (playsP (fromP img) xs)) := Lib.hid (by
    obtain ⟨f1, f2, _⟩ := fromP_ok H8.out hrb
    exact plays_replays xs (Replays.from_ img) f1 f2 HXO.out)
  obtain ⟨m, hm⟩ : ∃ m, playsP (fromP img) xs = m := ⟨_, rfl⟩
  rw [hm] at hrp hmo hms hml HRE
  have HR2 := Lib.hid hrp
  have HMO := Lib.hid hmo
  have HMS := Lib.hid hms
  have HRB := Lib.hid hrb
  have HEI : Hid (EvI m.ev) := Lib.hid hmo.evs
  have HEL : Hid (m.ev.length ≤ 80) := Lib.hid hms.ev
  have HML := Lib.hid hml
  obtain ⟨hfit, s, hrun⟩ := HRE.out
  have HCK0 : Hid (checkP img m.ev = ((m.ev.length : Int), 0)) := Lib.hid (checkP_2 hrb hfit)
  have HRG : Hid ((m.sp s).Ok) := Lib.hid (by
    obtain ⟨f1, f2, _⟩ := fromP_ok H8.out hrb
    rw [← hrun]
    exact (run_good m.ev f1 f2 HEI.out).1)
  have HRN := Lib.hid hrun
  have HFT := Lib.hid hfit
  have HEV := Lib.hid (events_any p m (New w1 w2) w2 (by have := hms.ev; omega) hrp)
  have hm12 : m.L.length ≤ 12 := by omega
  clear hrp hmo hms hrb hm hfit hrun HSC HXO HRE hml
  go_wp2_with fail
  refine HEV.out.mono ?_
  rintro e w3 ⟨ev, rfl, hsl, how, hb⟩
  have HB3 := Lib.hid (bel_on HB2.out hb)
  have HR3 := Lib.hid (HR2.out.below hb)
  have HE3 := Lib.hid (Sl.rd0 hsl)
  have hsz23 := hb.size
  have HTC := Lib.hid (tcheck_any img m.ev _ ev w3 H8.out (by omega) (HD.out.below HB3.out) HEI.out (by have := HEL.out; omega) HE3.out (HT.out.keep HB3.out).tab)
  rw [HCK0.out] at HTC
  obtain ⟨EA, ecap, rfl, _⟩ := hsl.shape
  obtain ⟨EL, hEL⟩ : ∃ EL, m.ev.length = EL := ⟨_, rfl⟩
  rw [hEL] at HTC
  clear hsl how hb HEV HR2
  have HELE := Lib.hid hEL
  rw [hEL]
  clear hEL
  go_wp2_with fail
  refine HTC.out.mono ?_
  rintro e w4 ⟨rfl, hb⟩
  have HB4 := Lib.hid (bel_on HB3.out hb)
  have HR4 := Lib.hid (HR3.out.below hb)
  have HE4 := Lib.hid (HE3.out.below hb)
  have hsz34 := hb.size
  have hrep := treplay_any img m.ev _ _ w4 H8.out (by omega) (HD.out.below HB4.out) HEI.out (by have := HEL.out; omega) HE4.out (HT.out.keep HB4.out).tab
  rw [HELE.out] at hrep
  have HRP := Lib.hid hrep
  clear hb HTC HR3 HE3 hrep
  go_wp2_with fail
  refine HRP.out.mono ?_
  rintro e w5 ⟨hp, hb⟩
  have HB5 := Lib.hid (bel_on HB4.out hb)
  have hsz45 := hb.size
  have hq : ∃ p2, e = .returned (.tuple #[.pointer (some ⟨p2, 0, none⟩), .int .i64 0]) ∧ Rep w5 p2 (m.sp s) (New w4 w5) := by
    rcases hp with ⟨h1, _⟩ | ⟨_, _, _, p2, h4, h5⟩
    · rw [HCK0.out] at h1
      exact absurd rfl h1
    · rw [HRN.out] at h5
      exact ⟨p2, h4, h5⟩
  obtain ⟨p2, rfl, hrp2⟩ := hq
  have HP5 := Lib.hid (HR4.out.below hb)
  have HQ5 := Lib.hid hrp2
  have HE5 := Lib.hid (HE4.out.below hb)
  clear hp hb hrp2 HRP HR4 HE4 HRN HFT HCK0
  obtain ⟨R, hR⟩ : ∃ R, m.sp s = R := ⟨_, rfl⟩
  have HRL : Hid (R.L = m.L ∧ R.ev = m.ev ∧ R.seen = m.seen) := Lib.hid (by rw [← hR]; exact ⟨rfl, rfl, rfl⟩)
  rw [hR] at HQ5 HRG
  clear hR
  have hfew : m.L.length ≤ 4096 := by omega
  have HIM := Lib.hid (image_any p2 R (New w4 w5) w5 (by rw [HRL.out.1]; exact hfew) HQ5.out)
  rw [HRL.out.1] at HIM
  go_wp2_with fail
  refine HIM.out.mono ?_
  rintro e w6 ⟨i1, rfl, hsl, _, hb⟩
  have HB6 := Lib.hid (bel_on HB5.out hb)
  have HP6 := Lib.hid (HP5.out.below hb)
  have HQ6 := Lib.hid (HQ5.out.below hb)
  have HE6 := Lib.hid (HE5.out.below hb)
  have HI6 := Lib.hid (Sl.rd0 hsl)
  have hsz56 := hb.size
  have HIM2 := Lib.hid (image_any p m (New w1 w2) w6 hfew HP6.out)
  obtain ⟨IA, icap, rfl, _⟩ := hsl.shape
  clear hsl hb HIM HP5 HQ5 HE5
  go_wp2_with fail
  refine HIM2.out.mono ?_
  rintro e w7 ⟨i2, rfl, hsl, _, hb⟩
  have HB7 := Lib.hid (bel_on HB6.out hb)
  have HP7 := Lib.hid (HP6.out.below hb)
  have HQ7 := Lib.hid (HQ6.out.below hb)
  have HE7 := Lib.hid (HE6.out.below hb)
  have hsz67 := hb.size
  have HSI := Lib.hid (sameImage_any (imgOf m) _ i2 w7 (imgOf_ok HMO.out) (by unfold imgOf; rw [List.length_map]; omega) (by rw [imgOf_flat]; unfold imgOf; rw [List.length_map]; exact HI6.out.below hb) (by rw [imgOf_flat]; unfold imgOf; rw [List.length_map]; exact Sl.rd0 hsl))
  obtain ⟨JA, jcap, rfl, _⟩ := hsl.shape
  clear hsl hb HIM2 HP6 HQ6 HE6 HI6
  go_wp2_with fail
  refine HSI.out.mono ?_
  rintro e w8 ⟨rfl, hb⟩
  have HB8 := Lib.hid (bel_on HB7.out hb)
  have HP8 := Lib.hid (HP7.out.below hb)
  have HQ8 := Lib.hid (HQ7.out.below hb)
  have HE8 := Lib.hid (HE7.out.below hb)
  have hsz78 := hb.size
  have HSE := Lib.hid (seen_any p2 R (New w4 w5) w8 HRG.out HQ8.out (HT.out.keep HB8.out).tab)
  rw [HRL.out.1, HRL.out.2.2] at HSE
  clear hb HSI HP7 HQ7 HE7
  go_wp2_with fail
  refine HSE.out.mono ?_
  rintro e w9 ⟨s1, rfl, hsl, _, hb⟩
  have HB9 := Lib.hid (bel_on HB8.out hb)
  have HP9 := Lib.hid (HP8.out.below hb)
  have HQ9 := Lib.hid (HQ8.out.below hb)
  have HE9 := Lib.hid (HE8.out.below hb)
  have HI9 := Lib.hid (Sl.rd0 hsl)
  have hsz89 := hb.size
  have HSE2 := Lib.hid (seen_any p m (New w1 w2) w9 HMO.out HP9.out (HT.out.keep HB9.out).tab)
  obtain ⟨KA, kcap, rfl, _⟩ := hsl.shape
  clear hsl hb HSE HP8 HQ8 HE8
  go_wp2_with fail
  refine HSE2.out.mono ?_
  rintro e wa ⟨s2, rfl, hsl, _, hb⟩
  have HBa := Lib.hid (bel_on HB9.out hb)
  have HPa := Lib.hid (HP9.out.below hb)
  have HQa := Lib.hid (HQ9.out.below hb)
  have HEa := Lib.hid (HE9.out.below hb)
  have hsz9a := hb.size
  have hsl9 : m.seen.length = m.L.length := by unfold PM.seen; rw [List.length_map]
  have HSS := Lib.hid (sameSeen_any m.seen _ s2 wa (seen_ok HMO.out) (by rw [hsl9]; omega) (by rw [hsl9]; exact HI9.out.below hb) (by rw [hsl9]; exact Sl.rd0 hsl))
  obtain ⟨LA, lcap, rfl, _⟩ := hsl.shape
  clear hsl hb HSE2 HP9 HQ9 HE9 HI9 hsl9
  go_wp2_with fail
  refine HSS.out.mono ?_
  rintro e wb ⟨rfl, hb⟩
  have HBb := Lib.hid (bel_on HBa.out hb)
  have HPb := Lib.hid (HPa.out.below hb)
  have HQb := Lib.hid (HQa.out.below hb)
  have HEb := Lib.hid (HEa.out.below hb)
  have hszab := hb.size
  have HEV2 := Lib.hid (events_any p2 R (New w4 w5) wb (by rw [HRL.out.2.1]; have := HEL.out; omega) HQb.out)
  rw [HRL.out.2.1] at HEV2
  clear hb HSS HPa HQa HEa
  go_wp2_with fail
  refine HEV2.out.mono ?_
  rintro e wc ⟨e2, rfl, hsl, _, hb⟩
  have HBc := Lib.hid (bel_on HBb.out hb)
  have HPc := Lib.hid (HPb.out.below hb)
  have HQc := Lib.hid (HQb.out.below hb)
  have hszbc := hb.size
  obtain ⟨MA, mcap, rfl, _⟩ := hsl.shape
  have hse := sameEvents_any m.ev _ _ wc HEI.out (by have := HEL.out; omega) (Sl.rd0 hsl) (HEb.out.below hb)
  rw [HELE.out] at hse
  have HSV := Lib.hid hse
  rw [HELE.out]
  clear hsl hb HEV2 HPb HQb HEb hse
  go_wp2_with fail
  refine HSV.out.mono ?_
  rintro e wd ⟨rfl, hb⟩
  have HBd := Lib.hid (bel_on HBc.out hb)
  have HPd := Lib.hid (HPc.out.below hb)
  have HQd := Lib.hid (HQc.out.below hb)
  have hszcd := hb.size
  clear hb HSV HPc HQc
  go_wp2_with fail
  obtain ⟨N, hN9⟩ : ∃ N, img.length = N := ⟨_, rfl⟩
  rw [hN9] at hM
  rw [hN9]
  have HN9 := Lib.hid hN9
  clear hN9
  have HBDD : Hid (Below wd.heap.size wd wd) := Lib.hid (Below.refl _ _)
  go_loopw [14] (fun i wr => ∃ k : Nat, i = .int .i64 (k : Int) ∧ k ≤ N ∧ Hid (Below wd.heap.size wd wr)) (fun i _ => N - (intOf i).toNat)
  case atStart => exact ⟨0, rfl, by omega, HBDD⟩
  case round =>
    clear HBDD
    obtain ⟨k, rfl, hk, HB⟩ := hrel
    by_cases hlt : k < N
    · have hkI : (k : Int) < (N : Int) := by omega
      have hI : I64 (k : Int) := by unfold I64; omega
      have hkm : k < m.L.length := by rw [HML.out, HN9.out]; exact hlt
      have hpe : pendP m (k : Int) = (m.line k).pend := by unfold pendP PM.has; rw [if_pos (by simp; exact hkm), Int.toNat_natCast]
      have hpr : pendP R (k : Int) = (m.line k).pend := by rw [← hpe]; unfold pendP PM.has PM.line; rw [HRL.out.1]
      have hpl := HMS.out.pend _ (PM.line_mem hkm)
      have hp1 := pending_any p2 (k : Int) R (New w4 w5) wr hI (by rw [HRL.out.1]; exact hfew) (by rw [hpr]; omega) (HQd.out.below HB.out)
      rw [hpr] at hp1
      have HPE := Lib.hid hp1
      have HPE2 := Lib.hid fun w' (hb : Below wd.heap.size wd w') => pending_any p (k : Int) m (New w1 w2) w' hI hfew (by rw [hpe]; omega) (HPd.out.below hb)
      rw [hpe] at HPE2
      generalize (m.line k).pend = ps at *
      have HPL := Lib.hid hpl
      clear hI hpe hpr hp1 hpl
      go_wp2_with fail
      refine HPE.out.mono ?_
      rintro e we ⟨pv, rfl, hsl, _, hb⟩
      have HBe := Lib.hid (bel_on HB.out hb)
      have HS1 := Lib.hid (Sl.rd0 hsl)
      have HPF := Lib.hid (HPE2.out we HBe.out)
      obtain ⟨PA, pcap, rfl, _⟩ := hsl.shape
      clear hsl hb HPE HPE2
      go_wp2_with fail
      refine HPF.out.mono ?_
      rintro e wf ⟨pv2, rfl, hsl, _, hb⟩
      have HBf := Lib.hid (bel_on HBe.out hb)
      have HSS := Lib.hid (sameStores_any ps _ pv2 wf (by have := HPL.out; omega) (HS1.out.below hb) (Sl.rd0 hsl))
      obtain ⟨PB, pcap2, rfl, _⟩ := hsl.shape
      clear hsl hb HPF HS1
      go_wp2_with fail
      refine HSS.out.mono ?_
      rintro e wg ⟨rfl, hb⟩
      have HBg := Lib.hid (bel_on HBf.out hb)
      clear hb HSS
      go_wp2_with fail
      go_roundw
      case rel => exact ⟨k + 1, by simp, by omega, HBg⟩
      case measure => simp [intOf]; omega
    · obtain rfl : k = N := by omega
      have hkI : ¬ (k : Int) < (k : Int) := by omega
      have HBr := Lib.hid (bel_on HBd.out HB.out)
      have hszr := HB.out.size
      have HPr := Lib.hid (HPd.out.below HB.out)
      have HQr := Lib.hid (HQd.out.below HB.out)
      have HRS : Hid (R.Small 80) := Lib.hid ⟨by rw [HRL.out.2.1]; exact HMS.out.ev, fun l hl => HMS.out.pend l (by rw [← HRL.out.1]; exact hl)⟩
      have hTl := (HT.out.tab).lt
      have HFE := Lib.hid (fenceC_any p2 R (New w4 w5) wr HRG.out (HRS.out.mono (by omega)) HQr.out (HT.out.keep HBr.out).tab (by rintro ⟨h1, _⟩; omega))
      clear HB HPd HQd
      go_wp2_with fail
      refine HFE.out.mono ?_
      rintro e wx ⟨rfl, hst⟩
      have HQx := Lib.hid hst.1
      have HPx := Lib.hid (HPr.out.kept hst.2 (fun q h1 h2 => by have := h1.2; have := h2.1; omega))
      have HBx : Hid (Below w.heap.size w wx) := Lib.hid (HBr.out.trans (hst.2.below (fun q _ hq => by have := hq.1; omega) HBr.out.size))
      have hszx := hst.2.size
      have HFE2 := Lib.hid (fenceC_any p m (New w1 w2) wx HMO.out (HMS.out.mono (by omega)) HPx.out (HT.out.keep HBx.out).tab (by rintro ⟨h1, _⟩; omega))
      clear hst HFE HQr HPr
      go_wp2_with fail
      refine HFE2.out.mono ?_
      rintro e wy ⟨rfl, hst⟩
      have HPy := Lib.hid hst.1
      have HQy := Lib.hid (HQx.out.kept hst.2 (fun q h1 h2 => by
        have h3 := h2.2
        rcases h1 with h4 | h4
        · have := h4.1; omega
        · have := h4.1; omega))
      have HBy : Hid (Below w.heap.size w wy) := Lib.hid (HBx.out.trans (hst.2.below (fun q _ hq => by have := hq.1; omega) HBx.out.size))
      have hszy := hst.2.size
      obtain ⟨gm1, gm2, gm3⟩ := fence_good HMO.out HMS.out
      obtain ⟨gr1, gr2, gr3⟩ := fence_good HRG.out HRS.out
      have HLL : Hid (((fenceP R).add (evt 4 0 0 0 Z8)).L = ((fenceP m).add (evt 4 0 0 0 Z8)).L) := Lib.hid (by
        show R.L.map _ = m.L.map _
        rw [HRL.out.1])
      obtain ⟨mf, hmf⟩ : ∃ mf, (fenceP m).add (evt 4 0 0 0 Z8) = mf := ⟨_, rfl⟩
      obtain ⟨rf, hrf⟩ : ∃ rf, (fenceP R).add (evt 4 0 0 0 Z8) = rf := ⟨_, rfl⟩
      rw [hmf] at gm1 gm2 gm3 HPy HLL
      rw [hrf] at gr1 gr2 gr3 HQy HLL
      have HMF := Lib.hid gm1
      have HMFS := Lib.hid gm3
      have HMFL : Hid (mf.L.length = k) := Lib.hid (gm2.trans (HML.out.trans HN9.out))
      have HRF := Lib.hid gr1
      clear hst HFE2 HQx HPx gm1 gm2 gm3 gr1 gr2 gr3 hmf hrf
      obtain ⟨i0, hi0, hz0, hz1, hz2⟩ := info_parts infoCut
      have HIS := Lib.hid hi0
      have HZ0 := Lib.hid hz0
      have HZ1 := Lib.hid hz1
      have HZ2 := Lib.hid hz2
      have HBYY : Hid (Below wy.heap.size wy wy) := Lib.hid (Below.refl _ _)
      have HSL0 : Hid (Sl wy 48 2 (.slice none 0 0) ([] : List (Int × Int)).length (iv (flatS []))) := Lib.hid (Sl.nil _ _ _)
      have HPN := Lib.hid fun (j : Nat) (hj : j < k) w' (hb : Below wy.heap.size wy w') => pending_any p (j : Int) mf _ w' (show I64 (j : Int) by unfold I64; omega) (by rw [HMFL.out]; omega) (by
        have hjm : j < mf.L.length := by rw [HMFL.out]; exact hj
        have : pendP mf (j : Int) = (mf.line j).pend := by unfold pendP PM.has; rw [if_pos (by simp; exact hjm), Int.toNat_natCast]
        rw [this]
        have := HMFS.out.pend _ (PM.line_mem hjm)
        omega) (HPy.out.below hb)
      have HPJ : Hid (∀ j : Nat, j < k → pendP mf (j : Int) = (mf.line j).pend ∧ (mf.line j).pend.length ≤ 81 ∧ mf.has (j : Int) = true) := Lib.hid fun j hj => by
        have hjm : j < mf.L.length := by rw [HMFL.out]; exact hj
        exact ⟨by unfold pendP PM.has; rw [if_pos (by simp; exact hjm), Int.toNat_natCast], HMFS.out.pend _ (PM.line_mem hjm), has_k hjm⟩
      clear hi0 hz0 hz1 hz2
      go_wp2_with fail
      go_loopw [15, 16] (fun c i wr => ∃ (j : Nat) (V : List (Int × Int)), i = .int .i64 (j : Int) ∧ j ≤ k ∧ Hid (cutsOk mf (-1) V = true) ∧ Hid (∀ d ∈ V, d.1 < (j : Int)) ∧ Hid (V.length ≤ j) ∧ Hid (∀ c ∈ V, I64 c.1 ∧ I64 c.2) ∧ Hid (Sl wr 48 2 c V.length (iv (flatS V))) ∧ Hid (∀ q, c.ownBlock = some q → wy.heap.size ≤ q) ∧ Hid (Below wy.heap.size wy wr)) (fun _ i _ => k - (intOf i).toNat)
      case atStart => exact ⟨0, [], rfl, by omega, Lib.hid rfl, Lib.hid (fun d hd => by cases hd), Lib.hid (Nat.le_refl _), Lib.hid (fun d hd => by cases hd), HSL0, Lib.hid (fun q hq => by simp [Value.ownBlock] at hq), HBYY⟩
      case round =>
        clear HBYY HSL0
        obtain ⟨j, V, rfl, hj, HV1, HV2, HV3, HV4, HSL, HOW, HBZ⟩ := hrel
        by_cases hboth : j < k ∧ j < bs.length
        · obtain ⟨hj1, hj2⟩ := hboth
          have hj1I : (j : Int) < (k : Int) := by omega
          have hj2I : (j : Int) < (bs.length : Int) := by omega
          obtain ⟨kb, ko, rfl, hkbl, hkc⟩ := HK3.out (by omega)
          have HBW := Lib.hid (bel_on HBy.out HBZ.out)
          have hcell0 : wr.cell? ⟨kb, ko + j, none⟩ = some (.int .u8 ((bs[j] : Nat) : Int)) := (HBW.out.cell (p := ⟨kb, ko + j, none⟩) hkbl).trans (hkc j _ (by rw [List.getElem?_map, List.getElem?_eq_getElem hj2]; rfl))
          have hb256 := HBS.out _ (List.getElem_mem hj2)
          generalize bs[j] = b at *
          have hpn := HPN.out j hj1 wr.drew (bel_on HBZ.out (bel_drew _))
          obtain ⟨hpj1, hpj2, hpj3⟩ := HPJ.out j hj1
          rw [hpj1] at hpn
          have HLN : Hid ((mf.line j).pend.length ≤ 81) := Lib.hid hpj2
          obtain ⟨ps, hps⟩ : ∃ ps, (mf.line j).pend = ps := ⟨_, rfl⟩
          rw [hps] at hpn HLN
          obtain ⟨pl, hpl⟩ : ∃ pl, ps.length = pl := ⟨_, rfl⟩
          have HPE := Lib.hid hpn
          rw [hpl] at HPE HLN
          have hpl81 := HLN.out
          obtain ⟨c, hc⟩ : ∃ c, pl + 1 = c := ⟨_, rfl⟩
          obtain ⟨M, hM9⟩ : ∃ M, b % c = M := ⟨_, rfl⟩
          have hMl : M ≤ pl := by have := Nat.mod_lt b (show 0 < c by omega); omega
          have hwb : IntKind.i64.wrap (b : Int) = (b : Int) := by rw [i64_wraps]; omega
          have hw1 : IntKind.i64.wrap ((pl : Int) + 1) = (c : Int) := by rw [i64_wraps]; omega
          have hcz : ¬ (c : Int) = 0 := by omega
          have hr : IntKind.i64.wrap (Int.tmod (b : Int) (c : Int)) = (M : Int) := by
            have h1 : Int.tmod (b : Int) (c : Int) = (M : Int) := by
              rw [Int.tmod_eq_emod_of_nonneg (by omega), ← hM9]
              exact (Int.natCast_emod b c).symm
            rw [h1, i64_wraps]
            omega
          have hcN : ¬ c = 0 := by omega
          have hr3 : Int.tmod (b : Int) (c : Int) = (M : Int) := by
            rw [Int.tmod_eq_emod_of_nonneg (by omega), ← hM9]
            exact (Int.natCast_emod b c).symm
          have hr2 : (b : Int) % (c : Int) = (M : Int) := by rw [← hM9]; exact (Int.natCast_emod b c).symm
          have HCK : Hid (cutsOk mf (-1) (V ++ [((j : Int), (M : Int))]) = true) := Lib.hid (cutsOk_snoc (c := ((j : Int), (M : Int))) hpj3 (by simp) (by simp only [Int.toNat_natCast]; rw [hps, hpl]; omega) V (-1) (by simp only; omega) HV2.out HV1.out)
          have HVN : Hid (V.length ≤ 12) := Lib.hid (by have := HV3.out; omega)
          obtain ⟨CA, ccap, rfl, _⟩ := HSL.out.shape
          have hcell1 : wr.drew.cell? ⟨kb, ko + j, none⟩ = some (.int .u8 (b : Int)) := hcell0
          have HSLd := Lib.hid (HSL.out.below (bel_drew wr))
          have HBZd := Lib.hid (bel_on HBZ.out (bel_drew wr))
          clear hpn hpj1 hpj2 hpj3 hps hpl hM9 hcell0 hkc HSL HBW hb256
          go_wp2_with fail
          refine wp_region_held_drew (S := fun W => W.cell? ⟨kb, ko + j, none⟩ = some (.int .u8 (b : Int))) (by kernel_rfl) hcell1 (fun hHeld => ?_)
          generalize wr.drew = wd2 at *
          refine wpAnyH_take (i := 0) (v := .slice CA V.length ccap) rfl (by kernel_rfl) (by kernel_rfl) (by kernel_rfl) (fun _ _ _ h => h) (Or.inl ⟨by rfl, fun w hSw => by have h1 := hSw; go_simp⟩) (by assumption) ?_
          change wpAnyH _ _ _ _ _ _ _ (Act.put _ (some 107) _) _
          simp only [Act.put, List.setIfInBounds_toArray, List.set_cons_zero, List.set_cons_succ]
          refine wpAnyH_take (i := 1) (v := .int .i64 (j : Int)) rfl (by kernel_rfl) (by kernel_rfl) (by kernel_rfl) (fun _ _ _ h => h) (Or.inl ⟨by rfl, fun w hSw => by have h1 := hSw; go_simp⟩) (by assumption) ?_
          change wpAnyH _ _ _ _ _ _ _ (Act.put _ (some 108) _) _
          simp only [Act.put, List.setIfInBounds_toArray, List.set_cons_zero, List.set_cons_succ]
          refine wpAnyH_take (i := 2) (v := .slice (some ⟨kb, ko, none⟩) bs.length cap3) rfl (by kernel_rfl) (by kernel_rfl) (by kernel_rfl) (fun _ _ _ h => h) (Or.inl ⟨by rfl, fun w hSw => by have h1 := hSw; go_simp⟩) (by assumption) ?_
          change wpAnyH _ _ _ _ _ _ _ (Act.put _ (some 109) _) _
          simp only [Act.put, List.setIfInBounds_toArray, List.set_cons_zero, List.set_cons_succ]
          refine wpAnyH_take (i := 3) (v := .int .i64 (j : Int)) rfl (by kernel_rfl) (by kernel_rfl) (by kernel_rfl) (fun _ _ _ h => h) (Or.inl ⟨by rfl, fun w hSw => by have h1 := hSw; go_simp⟩) (by assumption) ?_
          change wpAnyH _ _ _ _ _ _ _ (Act.put _ (some 110) _) _
          simp only [Act.put, List.setIfInBounds_toArray, List.set_cons_zero, List.set_cons_succ]
          refine wpAnyH_take (i := 4) (v := .pointer (some ⟨kb, ko + j, none⟩)) rfl (by kernel_rfl) (by kernel_rfl) (by kernel_rfl) (fun _ _ _ h => h) (Or.inl ⟨by rfl, fun w hSw => by have h1 := hSw; go_simp⟩) (by assumption) ?_
          change wpAnyH _ _ _ _ _ _ _ (Act.put _ (some 111) _) _
          simp only [Act.put, List.setIfInBounds_toArray, List.set_cons_zero, List.set_cons_succ]
          refine wpAnyH_take (i := 5) (v := .int .u8 (b : Int)) rfl (by kernel_rfl) (by kernel_rfl) (by kernel_rfl) (fun _ _ _ h => h) (Or.inl ⟨by rfl, fun w hSw => by have h1 := hSw; go_simp⟩) (by assumption) ?_
          change wpAnyH _ _ _ _ _ _ _ (Act.put _ (some 112) _) _
          simp only [Act.put, List.setIfInBounds_toArray, List.set_cons_zero, List.set_cons_succ]
          refine wpAnyH_take (i := 6) (v := .int .i64 (b : Int)) rfl (by kernel_rfl) (by kernel_rfl) (by kernel_rfl) (fun _ _ _ h => h) (Or.inl ⟨by rfl, fun w hSw => by have h1 := hSw; go_simp⟩) (by assumption) ?_
          change wpAnyH _ _ _ _ _ _ _ (Act.put _ (some 113) _) _
          simp only [Act.put, List.setIfInBounds_toArray, List.set_cons_zero, List.set_cons_succ]
          refine wpAnyH_take (i := 7) (v := .pointer (some ⟨p, 0, none⟩)) rfl (by kernel_rfl) (by kernel_rfl) (by kernel_rfl) (fun _ _ _ h => h) (Or.inl ⟨by rfl, fun w hSw => by have h1 := hSw; go_simp⟩) (by assumption) ?_
          change wpAnyH _ _ _ _ _ _ _ (Act.put _ (some 114) _) _
          simp only [Act.put, List.setIfInBounds_toArray, List.set_cons_zero, List.set_cons_succ]
          refine wpAnyH_take (i := 8) (v := .int .i64 (j : Int)) rfl (by kernel_rfl) (by kernel_rfl) (by kernel_rfl) (fun _ _ _ h => h) (Or.inl ⟨by rfl, fun w hSw => by have h1 := hSw; go_simp⟩) (by assumption) ?_
          change wpAnyH _ _ _ _ _ _ _ (Act.put _ (some 115) _) _
          simp only [Act.put, List.setIfInBounds_toArray, List.set_cons_zero, List.set_cons_succ]
          refine wpAnyH_ready (rs := [9]) (by kernel_rfl) (by simp) ?_
          refine AllReadyH.cons rfl (fun K hK => ?_) AllReadyH.nil
          go_simp
          refine HPE.out.mono ?_
          rintro e we ⟨pv, rfl, hsl, _, hb⟩
          have hcell2 := cell_below hb hcell1
          have HBe := Lib.hid (bel_on HBZd.out hb)
          have HSLe := Lib.hid (HSLd.out.below hb)
          obtain ⟨PA, pcap, rfl, _⟩ := hsl.shape
          refine hK.out _ _ hcell2 (fun hHeld1 => ?_)
          clear hK K hHeld hsl hb HPE HSLd HBZd
          refine wpAnyH_take (i := 10) (v := .int .i64 (pl : Int)) rfl (by kernel_rfl) (by kernel_rfl) (by kernel_rfl) (fun _ _ _ h => h) (Or.inl ⟨by rfl, fun w hSw => by have h1 := hSw; go_simp⟩) (by assumption) ?_
          change wpAnyH _ _ _ _ _ _ _ (Act.put _ (some 117) _) _
          simp only [Act.put, List.setIfInBounds_toArray, List.set_cons_zero, List.set_cons_succ]
          refine wpAnyH_take (i := 11) (v := .int .i64 (c : Int)) rfl (by kernel_rfl) (by kernel_rfl) (by kernel_rfl) (fun _ _ _ h => h) (Or.inl ⟨by rfl, fun w hSw => by have h1 := hSw; go_simp⟩) (by assumption) ?_
          change wpAnyH _ _ _ _ _ _ _ (Act.put _ (some 118) _) _
          simp only [Act.put, List.setIfInBounds_toArray, List.set_cons_zero, List.set_cons_succ]
          refine wpAnyH_take (i := 12) (v := .int .i64 (M : Int)) rfl (by kernel_rfl) (by kernel_rfl) (by kernel_rfl) (fun _ _ _ h => h) (Or.inl ⟨by rfl, fun w hSw => by go_simp⟩) (by assumption) ?_
          change wpAnyH _ _ _ _ _ _ _ (Act.put _ (some 119) _) _
          simp only [Act.put, List.setIfInBounds_toArray, List.set_cons_zero, List.set_cons_succ]
          refine wpAnyH_take (i := 13) (v := .agg #[.int .i64 (j : Int), .int .i64 (M : Int)]) rfl (by kernel_rfl) (by kernel_rfl) (by kernel_rfl) (fun _ _ _ h => h) (Or.inl ⟨by rfl, fun w hSw => by have h1 := hSw; go_simp⟩) (by assumption) ?_
          change wpAnyH _ _ _ _ _ _ _ (Act.put _ (some 120) _) _
          simp only [Act.put, List.setIfInBounds_toArray, List.set_cons_zero, List.set_cons_succ]
          refine wpAnyH_ready (rs := [14]) (by kernel_rfl) (by simp) ?_
          refine AllReadyH.cons rfl (fun K hK => ?_) AllReadyH.nil
          go_simp
          have hbn := bel_new we (.cells #[.int .i64 (j : Int), .int .i64 (M : Int)] 48)
          have HNW : Hid (∀ i u, [Value.int .i64 (j : Int), Value.int .i64 (M : Int)][i]? = some u → (we.alloc (.cells #[.int .i64 (j : Int), .int .i64 (M : Int)] 48)).cell? ((⟨we.heap.size, 0, none⟩ : Addr).add i) = some u) := Lib.hid (by
            intro i u hi
            have h1 := (Arr.new we [Value.int .i64 (j : Int), .int .i64 (M : Int)] 48).cell hi
            have e1 : (⟨we.heap.size, 0, none⟩ : Addr).add i = ⟨we.heap.size, i, none⟩ := by unfold Addr.add; split <;> simp_all
            rw [e1]
            exact h1)
          have HSN := Lib.hid (HSLe.out.below hbn)
          have HB3 := Lib.hid (bel_on HBe.out hbn)
          have hcell3 := cell_below hbn hcell2
          refine hK.out _ _ hcell3 (fun hHeld2 => ?_)
          clear hK K hHeld1 hbn
          generalize we.alloc (.cells #[.int .i64 (j : Int), .int .i64 (M : Int)] 48) = wn at *
          have HON : Hid (∀ u ∈ [Value.int .i64 (j : Int), Value.int .i64 (M : Int)], u.oneCell' = true) := Lib.hid (by
            intro u hu
            rcases List.mem_cons.1 hu with rfl | hu
            · rfl
            · rcases List.mem_cons.1 hu with rfl | hu
              · rfl
              · cases hu)
          refine wpAnyH_ready (rs := [15]) (by kernel_rfl) (by simp) ?_
          refine AllReadyH.cons rfl (fun K hK => ?_) AllReadyH.nil
          refine wp_append_sl _ _ 46 rfl 48 i0 _ 2 16 Tryz.underlying46 HIS.out HZ0.out HZ1.out HZ2.out rfl (by decide) (.slice CA V.length ccap) V.length (iv (flatS V)) rfl HSN.out ⟨we.heap.size, 0, none⟩ 1 1 [Value.int .i64 (j : Int), Value.int .i64 (M : Int)] rfl rfl HNW.out HON.out (by have := HVN.out; unfold maxLen; omega) (by have := HVN.out; omega) fun v' w3 h1 h2 h3 => ?_
          have hbg : Below wy.heap.size wy w3 := HB3.out.grown h2 HB3.out.size (fun g hg => HOW.out g hg)
          have hkby : kb < wy.heap.size := Nat.lt_of_lt_of_le hkbl HBy.out.size
          have hcell4 : w3.cell? ⟨kb, ko + j, none⟩ = some (.int .u8 (b : Int)) := by
            have h5 := HB3.out.cell (p := ⟨kb, ko + j, none⟩) hkby
            have h6 := hbg.cell (p := ⟨kb, ko + j, none⟩) hkby
            exact h6.trans (h5.symm.trans hcell3)
          refine hK.out _ _ hcell4 (fun hHeld3 => ?_)
          have HSX : Hid (Sl w3 48 2 v' (V ++ [((j : Int), (M : Int))]).length (iv (flatS (V ++ [((j : Int), (M : Int))])))) := Lib.hid (by
            rw [flatS_snoc, List.length_append]
            unfold iv at h1 ⊢
            rw [List.map_append]
            exact h1)
          have HOX : Hid (∀ q, v'.ownBlock = some q → wy.heap.size ≤ q) := Lib.hid fun q hq => by
            rcases h3 with h3 | h3
            · exact HOW.out q (h3 ▸ hq)
            · rw [h3] at hq
              cases hq
              exact HB3.out.size
          have HBX := Lib.hid hbg
          obtain ⟨XA, xcap, rfl, _⟩ := h1.shape
          clear hK K hHeld2 h1 h2 h3 hbg HSN HNW HB3 hcell3 hcell2 hcell1
          refine wpAnyH_take (i := 16) (v := .slice XA (V.length + 1) xcap) rfl (by kernel_rfl) (by kernel_rfl) (by kernel_rfl) (fun _ _ _ h => h) (Or.inl ⟨by rfl, fun w hSw => by have h1 := hSw; go_simp⟩) (by assumption) ?_
          change wpAnyH _ _ _ _ _ _ _ (Act.put _ (some 15) _) _
          simp only [Act.put, List.setIfInBounds_toArray, List.set_cons_zero, List.set_cons_succ]
          refine wpAnyH_done (by kernel_rfl) ?_ _
          have HV2' : Hid (∀ d ∈ V ++ [((j : Int), (M : Int))], d.1 < ((j + 1 : Nat) : Int)) := Lib.hid fun d hd => by
            rcases List.mem_append.1 hd with h | h
            · have := HV2.out d h; omega
            · rw [List.mem_singleton.1 h]; simp only; omega
          have HV3' : Hid ((V ++ [((j : Int), (M : Int))]).length ≤ j + 1) := Lib.hid (by rw [List.length_append]; have := HV3.out; simp; omega)
          have HV4' : Hid (∀ d ∈ V ++ [((j : Int), (M : Int))], I64 d.1 ∧ I64 d.2) := Lib.hid fun d hd => by
            rcases List.mem_append.1 hd with h | h
            · exact HV4.out d h
            · rw [List.mem_singleton.1 h]; unfold I64; simp only; omega
          clear hHeld3 hcell4
          go_wp2_with fail
          go_roundw
          case rel => exact ⟨j + 1, V ++ [((j : Int), (M : Int))], by simp, by omega, HCK, HV2', HV3', HV4', HSX, HOX, HBX⟩
          case measure => simp [intOf]; omega
        · have hcond : ¬ (j : Int) < (k : Int) ∨ ((j : Int) < (k : Int) ∧ ¬ (j : Int) < (bs.length : Int)) := by omega
          have HBW := Lib.hid (bel_on HBy.out HBZ.out)
          have HPz := Lib.hid (HPy.out.below HBZ.out)
          have HQz := Lib.hid (HQy.out.below HBZ.out)
          have hszz := HBZ.out.size
          obtain ⟨hc1, hc2, hc3⟩ := crash_L HLL.out (cs := V) ((cutsOk_L HLL.out V (-1)).trans HV1.out)
          have hrc := crash_any p2 V _ rf _ wr HRF.out HQz.out (HT.out.keep HBW.out).tab (by
            rintro (h1 | h1)
            · have := h1.1; omega
            · have := h1.1; omega) (Sl.rd0 HSL.out) (fun q hq hv => by
            have h9 := HOW.out q hv
            rintro (h1 | h1)
            · have := h1.2; omega
            · have := h1.2; omega) HV4.out
          rw [hc1] at hrc
          have HCR := Lib.hid hrc
          have HC2 := Lib.hid hc2
          have HC3 := Lib.hid hc3
          obtain ⟨CA, ccap, rfl, _⟩ := HSL.out.shape
          clear hc1 hc2 hc3 hrc hboth HPN HPJ
          rcases hcond with hcA | ⟨hcA, hcB⟩
          all_goals
            go_wp2_with fail
            refine HCR.out.mono ?_
            rintro e w9 ⟨rfl, hst⟩
            have HQ9 := Lib.hid hst.1
            have HP9 := Lib.hid (HPz.out.kept hst.2 (fun q h1 h2 => by
              rcases h1 with h1 | h1 <;> rcases h2 with h2 | h2
              · have := h1.2; have := h2.1; omega
              · have := h1.2; have := h2.1; omega
              · have := h1.1; have := h2.2; omega
              · have := h1.1; have := h2.2; omega))
            have hszz9 := hst.2.size
            have HB9 : Hid (Below w.heap.size w w9) := Lib.hid (HBW.out.trans (hst.2.below (fun q _ hq => by rcases hq with hq | hq <;> (have := hq.1; omega)) HBW.out.size))
            have HSL9 : Hid (Sl w9 48 2 (.slice CA V.length ccap) V.length (iv (flatS V))) := Lib.hid (HSL.out.keep fun g hg => hst.2.block g (HSL.out.lt hg) (by
              have h9 := HOW.out g hg
              rintro (h1 | h1)
              · have := h1.2; omega
              · have := h1.2; omega))
            have hrc := crash_any p V _ mf _ w9 HMF.out HP9.out (HT.out.keep HB9.out).tab (by
              rintro (h1 | h1)
              · have := h1.1; omega
              · have := h1.1; omega) (Sl.rd0 HSL9.out) (fun q hq hv => by
              have h9 := HOW.out q hv
              rintro (h1 | h1)
              · have := h1.2; omega
              · have := h1.2; omega) HV4.out
            rw [HC2.out] at hrc
            have HCS := Lib.hid hrc
            clear hst HCR hrc
            go_wp2_with fail
            refine HCS.out.mono ?_
            rintro e wA ⟨rfl, hst⟩
            have HPA := Lib.hid hst.1
            have HQA := Lib.hid (HQ9.out.kept hst.2 (fun q h1 h2 => by
              rcases h1 with (h1 | h1) | h1 <;> rcases h2 with h2 | h2
              all_goals (have := h1.1; have := h1.2; have := h2.1; have := h2.2; omega)))
            have HBA : Hid (Below w.heap.size w wA) := Lib.hid (HB9.out.trans (hst.2.below (fun q _ hq => by rcases hq with hq | hq <;> (have := hq.1; omega)) HB9.out.size))
            have hcr := (crash_good HMF.out HMFS.out V).1
            have hcl : (crashP mf V).2.L.length = k := (crash_good HMF.out HMFS.out V).2.trans HMFL.out
            have HCO := Lib.hid hcr
            have HCL := Lib.hid hcl
            have hcL : (crashP rf V).2.L.length = k := by rw [HC3.out]; exact hcl
            generalize (crashP mf V).2 = mc at *
            generalize (crashP rf V).2 = rc at *
            have him := image_any p2 rc _ wA (by omega) HQA.out
            rw [HC3.out] at him
            have HIM := Lib.hid him
            clear hst HCS hcr hcl hcL him
            go_wp2_with fail
            refine HIM.out.mono ?_
            rintro e wB ⟨u1, rfl, hsl, _, hb⟩
            have HBB := Lib.hid (bel_on HBA.out hb)
            have HU1 := Lib.hid (Sl.rd0 hsl)
            have HIN := Lib.hid (image_any p mc _ wB (by rw [HCL.out]; omega) (HPA.out.below hb))
            obtain ⟨UA, ucap, rfl, _⟩ := hsl.shape
            clear hsl hb HIM
            go_wp2_with fail
            refine HIN.out.mono ?_
            rintro e wC ⟨u2, rfl, hsl, _, hb⟩
            have HBC := Lib.hid (bel_on HBB.out hb)
            obtain ⟨UB, ucap2, rfl, _⟩ := hsl.shape
            have HSJ := Lib.hid (sameImage_any (imgOf mc) _ _ wC (imgOf_ok HCO.out) (by unfold imgOf; rw [List.length_map, HCL.out]; omega) (by rw [imgOf_flat]; unfold imgOf; rw [List.length_map]; exact HU1.out.below hb) (by rw [imgOf_flat]; unfold imgOf; rw [List.length_map]; exact Sl.rd0 hsl))
            clear hsl hb HIN
            go_wp2_with fail
            refine HSJ.out.mono ?_
            rintro e wD ⟨rfl, hb⟩
            have HBD := Lib.hid (bel_on HBC.out hb)
            clear hb HSJ
            go_wp2_with fail
            go_ret
            exact ⟨rfl, HBD.out⟩
end Go.Proofs.YtpojhplnhppcpaaGreatDoor
