/-
  TraceFatesAreOrdered answers true: the walk.
-/
import Derived.Test.YtpojhplnhppcpaaGreatDoorQL9pOrdered
import Derived.Test.YtpojhplnhppcpaaGreatDoorQL3Ordered
import Derived.Test.YtpojhplnhppcpaaGreatDoorQU10
import Derived.Test.YtpojhplnhppcpaaGreatDoorQLCpOrdered
import Derived.BigQuiet
namespace Go.Proofs.YtpojhplnhppcpaaGreatDoor
open Go.RowKit Go.Maps
set_option maxRecDepth 100000 in
set_option maxHeartbeats 16000000 in
set_option linter.unusedSimpArgs false in
theorem lawOrdered (v lv : Value) (img : List (List Int × Int)) (xs : List POp) (z : Int) (z2 : Int) (w : World) (hi : ImgI img) (hs : Rd w v img.length (iv (flatI img))) (hsc : Script w lv xs) (hz : I64 z) (hz2 : I64 z2) (hT : TabA w) :
    Calls Tryz.prog 14 #[v, lv, .int .i64 z, .int .i64 z2] w fun e w' => e = .returned (.bool true) ∧ Below w.heap.size w w' := by
  have h8 : ∀ x ∈ img, x.1.length = 8 := fun x hx => (hi x hx).1
  have HT := Lib.hid hT
  have HD := Lib.hid hs
  have H8 := Lib.hid h8
  have HZI := Lib.hid hz
  have HZJ := Lib.hid hz2
  have HXO : Hid (∀ x ∈ xs, x.Ok) := Lib.hid (by obtain ⟨_, _, _, h, _⟩ := hsc; exact h)
  have HPL := Lib.hid fun w1 (hb : Below w.heap.size w w1) => played_any img xs v lv w1 h8 (hs.below hb) (hsc.keep hb) (hT.keep hb).tab
  obtain ⟨A, cap, rfl, _⟩ := hs
  obtain ⟨_, _, ⟨A2, cap2, rfl, _⟩, _⟩ := hsc
  have HS := Lib.hid (tsanity_any w hT)
  clear hi h8 hT hz hz2
  go_enter Tryz.func14, Tryz.ntmps14
  go_wp2_with fail
  refine HS.out.mono ?_
  rintro e w1 ⟨rfl, hb⟩
  have HB1 := Lib.hid hb
  have HP1 := Lib.hid (HPL.out w1 HB1.out)
  clear hb HS HPL
  go_wp2_with fail
  refine HP1.out.mono ?_
  rintro e w2 ⟨hp, hb⟩
  have HB2 := Lib.hid (bel_on HB1.out hb)
  clear hb HP1 HB1
  rcases hp with ⟨_, rfl⟩ | ⟨hM, hN, hrb, p, rfl, hrp, hmo, hms, hml⟩
  · go_wp2_with fail
    go_ret
    exact ⟨rfl, HB2.out⟩
  have HRE : Hid (Replays img (playsP (fromP img) xs)) := Lib.hid (by
    obtain ⟨f1, f2, _⟩ := fromP_ok H8.out hrb
    exact plays_replays xs (Replays.from_ img) f1 f2 HXO.out)
  obtain ⟨m, hm⟩ : ∃ m, playsP (fromP img) xs = m := ⟨_, rfl⟩
  rw [hm] at hrp hmo hms hml HRE
  have HEI : Hid (EvI m.ev) := Lib.hid hmo.evs
  have HRB := Lib.hid hrb
  have HEV := Lib.hid (events_any p m (New w1 w2) w2 (by have := hms.ev; omega) hrp)
  have hn80 := hms.ev
  obtain ⟨s, hs9⟩ := HRE.out.run
  clear hrp hmo hms hrb hm hml HXO s hs9
  go_wp2_with fail
  refine HEV.out.mono ?_
  rintro e w3 ⟨ev, rfl, hsl, how, hb⟩
  have HB3 := Lib.hid (bel_on HB2.out hb)
  have HE3 := Lib.hid (Sl.rd0 hsl)
  obtain ⟨EA, ecap, rfl, hec1, hec2, _⟩ := hsl.shape
  obtain ⟨n, hn9⟩ : ∃ n, pointP m.ev.length z = n := ⟨_, rfl⟩
  have hnl : n ≤ m.ev.length := by rw [← hn9]; exact point_le _ _
  have hat := atE_of HRE.out HRB.out hnl
  obtain ⟨gM1, gM2, gM3⟩ := at_good H8.out HEI.out (show m.ev.length ≤ 400 by omega) hat
  have HPT := Lib.hid (point_any EA m.ev.length ecap z w3 (by omega) HZI.out)
  rw [hn9] at HPT
  obtain ⟨more, hmore⟩ : ∃ more, n + pointP (m.ev.length - n) z2 = more := ⟨_, rfl⟩
  have hml2 := point_le (m.ev.length - n) z2
  have hmn : n ≤ more := by omega
  have hmN : more ≤ m.ev.length := by omega
  have hat2 := atE_of HRE.out HRB.out hmN
  have HFA := Lib.hid fun w' (hb : Below w3.heap.size w3 w') => tfates_any img m.ev (n : Int) _ _ w' H8.out (by omega) (HD.out.below (bel_on HB3.out hb)) HEI.out (by omega) (HE3.out.below hb) (HT.out.keep (bel_on HB3.out hb)).tab
  have HFB := Lib.hid fun w' (hb : Below w3.heap.size w3 w') => tfates_any img m.ev (more : Int) _ _ w' H8.out (by omega) (HD.out.below (bel_on HB3.out hb)) HEI.out (by omega) (HE3.out.below hb) (HT.out.keep (bel_on HB3.out hb)).tab
  have htk : (m.ev.take n).length = n := by rw [List.length_take]; omega
  have HTE : Hid (∀ w', Rd w' (.slice EA m.ev.length ecap) m.ev.length (iv m.ev.flatten) → Rd w' (.slice EA n ecap) (m.ev.take n).length (iv (m.ev.take n).flatten)) := Lib.hid fun w' h => by
    rw [htk]
    exact h.takeE hnl
  have HRP := Lib.hid fun w' (hb : Below w3.heap.size w3 w') => treplay_any img (m.ev.take n) _ (.slice EA n ecap) w' H8.out (by omega) (HD.out.below (bel_on HB3.out hb)) (fun x hx => HEI.out x (List.mem_of_mem_take hx)) (by omega) (HTE.out w' (HE3.out.below hb)) (HT.out.keep (bel_on HB3.out hb)).tab
  obtain ⟨fok, fsm, flen⟩ := fromP_ok H8.out HRB.out
  have hfit : fitsP (fromP img) m.ev = m.ev.length := HRE.out.fits
  have hMN : ∀ i, (memT (fromP img) m.ev i).L.length = (fromP img).L.length := fun i => memT_len m.ev i HEI.out fok fsm
  have hpl := from_pl img
  have hfl : (fromP img).L.length = img.length := by unfold fromP; rw [List.length_map]
  have hA := FInv.all (n := n) (l := m.ev.take n) htk (by rw [htk]; exact fits_take m.ev n (by rw [hfit]; exact hnl)) (fun i => by
    unfold memT
    rw [List.take_take]
    exact hMN _) hpl n (Nat.le_refl _)
  have hFD := fated_of (O := outT (fromP img) (m.ev.take n) n n) (rfl : m.ev.length = m.ev.length) hnl hfit hMN hpl hA.ol (fun k hk => out_take rfl hnl hfit hMN hpl n (Nat.le_refl _) k hk)
  rw [hfl] at hFD
  have hF2 := fun (k : Nat) (hk : k < n) h => fates_two (m0 := fromP img) (l := m.ev) rfl hmn hmN hfit hMN hpl (k := k) hk h
  have hat3 := fun (k : Nat) (hk : k < n) (h : stq (m.ev.getD k []) = true) => store_at (m0 := fromP img) (l := m.ev) (k := k) hfit (by omega) h
  have hPA : ∀ w e w', FatPost img m.ev (n : Int) w e w' → ∃ u, e = .returned (.tuple #[u, .int .i64 0]) ∧ Sl w' 3 1 u n (iv (outT (fromP img) (m.ev.take n) n n)) := fun w e w' h => by
    unfold FatPost fatesP at h
    rw [hat, Int.toNat_natCast] at h
    rcases h with ⟨h1, _⟩ | ⟨_, u, h2, h3, _⟩
    · exact absurd rfl h1
    · exact ⟨u, h2, h3⟩
  have hPB : ∀ w e w', FatPost img m.ev (more : Int) w e w' → ∃ u, e = .returned (.tuple #[u, .int .i64 0]) ∧ Sl w' 3 1 u more (iv (outT (fromP img) (m.ev.take more) more more)) := fun w e w' h => by
    unfold FatPost fatesP at h
    rw [hat2, Int.toNat_natCast] at h
    rcases h with ⟨h1, _⟩ | ⟨_, u, h2, h3, _⟩
    · exact absurd rfl h1
    · exact ⟨u, h2, h3⟩
  have hPR : ∀ w e w', RepPost img (m.ev.take n) w e w' → ∃ p, e = .returned (.tuple #[.pointer (some ⟨p, 0, none⟩), .int .i64 0]) ∧ Rep w' p (memT (fromP img) m.ev n) (New w w') := fun w e w' h => by
    unfold RepPost at h
    rw [checkP_2 HRB.out (by rw [htk]; exact fits_take m.ev n (by rw [hfit]; exact hnl))] at h
    rcases h with ⟨h1, _⟩ | ⟨_, _, _, p, h2, h3⟩
    · exact absurd rfl h1
    · exact ⟨p, h2, h3⟩
  obtain ⟨gR1, _, gR3⟩ := run_good (m.ev.take n) fok fsm fun x hx => HEI.out x (List.mem_of_mem_take hx)
  change (memT (fromP img) m.ev n).Ok at gR1
  change (memT (fromP img) m.ev n).Small _ at gR3
  have hRL : (memT (fromP img) m.ev n).L.length = img.length := (hMN n).trans hfl
  have HFD := Lib.hid hFD
  have HF2 := Lib.hid hF2
  have HA3 := Lib.hid hat3
  have HPA := Lib.hid hPA
  have HPB := Lib.hid hPB
  have HPR := Lib.hid hPR
  have HGR := Lib.hid gR1
  have HGS := Lib.hid (gR3.mono (show 0 + 2 * (m.ev.take n).length ≤ 1000000 by omega))
  have HRL := Lib.hid hRL
  obtain ⟨FA, hFA⟩ : ∃ F, outT (fromP img) (m.ev.take n) n n = F := ⟨_, rfl⟩
  obtain ⟨FB, hFB⟩ : ∃ F, outT (fromP img) (m.ev.take more) more more = F := ⟨_, rfl⟩
  obtain ⟨M, hM9⟩ : ∃ M, memT (fromP img) m.ev n = M := ⟨_, rfl⟩
  rw [hFA] at HFD HF2 HPA
  rw [hFB] at HF2 HPB
  rw [hM9] at HFD HPR HGR HGS HRL
  obtain ⟨PA, hPA9⟩ : ∃ P, FatPost img m.ev (n : Int) = P := ⟨_, rfl⟩
  obtain ⟨PB, hPB9⟩ : ∃ P, FatPost img m.ev (more : Int) = P := ⟨_, rfl⟩
  obtain ⟨PR, hPR9⟩ : ∃ P, RepPost img (m.ev.take n) = P := ⟨_, rfl⟩
  rw [hPA9] at HFA HPA
  rw [hPB9] at HFB HPB
  rw [hPR9] at HRP HPR
  have HEC : Hid (0 < m.ev.length → ∃ eb eo, EA = some ⟨eb, eo, none⟩ ∧ eb < w3.heap.size ∧ ∀ W, Below w3.heap.size w3 W → ∀ k, k < m.ev.length → W.cell? ⟨eb, eo + k * 12 + 1, none⟩ = some (.int .i64 ((m.ev.getD k []).getD 1 0)) ∧ I64 ((m.ev.getD k []).getD 1 0)) := Lib.hid fun h0 => by
    obtain ⟨_, _, hv9, _, _, hrr⟩ := HE3.out
    simp only [Value.slice.injEq, true_and] at hv9
    obtain ⟨hv10, _⟩ := hv9
    obtain ⟨eb, eo, hva, hbl, hcells⟩ := hrr h0
    refine ⟨eb, eo, hv10.trans hva, hbl, fun W hW k hk => ?_⟩
    have hgd : m.ev.getD k [] = m.ev[k] := by rw [List.getD_eq_getElem?_getD, List.getElem?_eq_getElem hk]; rfl
    rw [hgd]
    obtain ⟨g1, g2⟩ := HEI.out _ (List.getElem_mem hk)
    exact ⟨evLine (fun x hx => (HEI.out x hx).1) (cells_at hcells hW hbl) hk 1 _ (iv_getD (by omega)), getD_I g2 1⟩
  have HEN : Hid (EA = none → m.ev.length = 0) := Lib.hid fun h => by
    apply Classical.byContradiction
    intro h0
    obtain ⟨_, _, he, _⟩ := HEC.out (by omega)
    rw [h] at he
    cases he
  have HP2 := Lib.hid fun A N cap w' (h : N ≤ 1000000) => point_any A N cap z2 w' h HZJ.out
  obtain ⟨EL, hEL⟩ : ∃ EL, m.ev.length = EL := ⟨_, rfl⟩
  rw [hEL] at HPT HFA HFB hec1 hnl hn80 hmN hmore HEC HEN
  rw [hEL]
  obtain ⟨NB, hNB⟩ : ∃ NB, img.length = NB := ⟨_, rfl⟩
  rw [hNB] at HFA HFB HRP HRL HFD ⊢
  have HNB5 : Hid (NB ≤ 12) := Lib.hid (by omega)
  have HMO := Lib.hid hmore
  have hI0 : (0 : Int) ≤ (n : Int) := by omega
  have hI1 : ¬ (n : Int) < 0 := by omega
  have hI2 : (n : Int) ≤ (EL : Int) := by omega
  have hI3 : (n : Int) ≤ (ecap : Int) := by omega
  have hI4 : n ≤ ecap := by omega
  have hI5 : (EL : Int) ≤ (ecap : Int) := by omega
  have hn8 : n ≤ 80 := by omega
  have hm8 : more ≤ 80 := by omega
  have hEL8 : EL ≤ 80 := by omega
  have hec3 : ecap ≤ 9223372036854775807 := by unfold maxLen at hec2; omega
  clear hb how HEV HB2 gM1 gM2 gM3 hat hat2 hn9 hn80 hsl hM hec2 hml2 htk fok fsm flen hfit hMN hpl hfl hA hFD hF2 hat3 hPA hPB hPR gR1 gR3 hRL hFA hFB hM9 hPA9 hPB9 hPR9 hmore HTE
  clear hEL hNB hN
  go_wp2_with fail
  refine HPT.out.mono ?_
  rintro e w4 ⟨rfl, hb⟩
  have HB4 := Lib.hid hb
  clear hb HPT
  obtain ⟨ER, hER⟩ : ∃ ER, EL - n = ER := ⟨_, rfl⟩
  have hERI : (EL : Int) - (n : Int) = (ER : Int) := by omega
  have hcn0 : n = ecap ∨ ¬ ecap = n := by omega
  rcases hcn0 with hcn | hcn
  all_goals try subst hcn
  all_goals
    go_wp2_with fail
    refine (HP2.out _ _ _ _ (by omega)).mono ?_
    rintro e w5 ⟨rfl, hb⟩
    have HB5 := Lib.hid (bel_on HB4.out hb)
    have hmoI : (n : Int) + ((pointP ER z2 : Nat) : Int) = (more : Int) := by
      have h := HMO.out
      rw [hER] at h
      omega
    have hmoW : IntKind.i64.wrap ((n : Int) + ((pointP ER z2 : Nat) : Int)) = (more : Int) := by rw [hmoI, i64_wraps]; omega
    generalize pointP ER z2 = PP at *
    have H6 := Lib.hid (HFA.out w5 HB5.out)
    clear hb HP2 HB4 HMO HFA
    go_wp2_with fail
    refine H6.out.mono ?_
    rintro e w6 ⟨hp, hb⟩
    obtain ⟨u, rfl, hu⟩ := HPA.out _ _ _ hp
    have HB6 := Lib.hid (bel_on HB5.out hb)
    have HU6 := Lib.hid (Rd.of_sl hu)
    have H7 := Lib.hid (HFB.out w6 HB6.out)
    obtain ⟨UA, ucap, rfl, hu1, hu2, _⟩ := hu.shape
    have hu3 : ucap ≤ 9223372036854775807 := by unfold maxLen at hu2; omega
    clear hp hb hu hu2 H6 HPA HFB HB5
    go_wp2_with fail
    refine H7.out.mono ?_
    rintro e w7 ⟨hp, hb⟩
    obtain ⟨u, rfl, hu⟩ := HPB.out _ _ _ hp
    have HB7 := Lib.hid (bel_on HB6.out hb)
    have HU7 := Lib.hid (HU6.out.below hb)
    have HV7 := Lib.hid (Rd.of_sl hu)
    have H8' := Lib.hid (HRP.out w7 HB7.out)
    obtain ⟨VA, vcap, rfl, hv1, hv2, _⟩ := hu.shape
    have hv3 : vcap ≤ 9223372036854775807 := by unfold maxLen at hv2; omega
    clear hp hb hu hv2 H7 HPB HRP HU6 HB6
    go_wp2_with fail
    refine H8'.out.mono ?_
    rintro e w8 ⟨hp, hb⟩
    obtain ⟨r, rfl, hr⟩ := HPR.out _ _ _ hp
    have HB8 := Lib.hid (bel_on HB7.out hb)
    have HU8 := Lib.hid (HU7.out.below hb)
    have HV8 := Lib.hid (HV7.out.below hb)
    have HR8 := Lib.hid hr
    clear hp hb hr H8' HPR HU7 HV7 HB7
    obtain ⟨i0, hi, hz0, hz1, hz2⟩ := info_parts intInfo3
    have HI0 := Lib.hid hi
    have HZ0 := Lib.hid hz0
    have HZ1 := Lib.hid hz1
    have HZ2 := Lib.hid hz2
    have hnb := HNB5.out
    clear hi hz0 hz1 hz2
    go_wp2_with (at_make; refine wpList_make_full _ rfl _ _ 59 rfl w8.heap.size 3 i0 _ 1 Tryz.underlying59 HI0.out HZ0.out HZ1.out .i64 .i64 _ _ NB rfl rfl rfl rfl (by rw [HZ2.out]; omega) (by unfold maxLen; omega) (by simp) ?_; intro w9 hown hgrow; have HSL4 := Lib.hid (Sl.of_row hown); have HGR4 := Lib.hid hgrow; clear hown hgrow)
    have HS9 : Hid (Sl w9 3 1 (.slice (some ⟨w8.heap.size, 0, none⟩) NB NB) NB (iv (cntL FA m.ev NB 0))) := Lib.hid (by
      have h1 := HSL4.out
      rw [show (Value.int .i64 0).cells = #[.int .i64 0] from rfl, made_ints, Nat.mul_one] at h1
      rw [cntL_zero]
      simpa using h1)
    have hb9 : Below w8.heap.size w8 w9 := (Below.refl w8.heap.size w8).grown HGR4.out (Nat.le_refl _) (fun k hk => by cases hk)
    have HB9 := Lib.hid (bel_on HB8.out hb9)
    have HU9 := Lib.hid (HU8.out.below hb9)
    have HV9 := Lib.hid (HV8.out.below hb9)
    have HR9 := Lib.hid (HR8.out.below hb9)
    have HUQ : Hid (∀ q, 0 < n → (Value.slice UA n ucap).ownBlock = some q → q < w8.heap.size) := Lib.hid fun q hn hq => HU8.out.lt hn hq
    have HVQ : Hid (∀ q, 0 < more → (Value.slice VA more vcap).ownBlock = some q → q < w8.heap.size) := Lib.hid fun q hn hq => HV8.out.lt hn hq
    have HFQ : Hid (∀ q, New w7 w8 q → q < w8.heap.size) := Lib.hid fun q hq => hq.2
    have HPB9 : Hid (w3.heap.size ≤ w8.heap.size) := Lib.hid HB8.out.size
    generalize w8.heap.size = pb at *
    have HK0 : Hid (Kept (fun q => q = pb) w9 w9) := Lib.hid (Kept.refl _ _)
    clear HSL4 HGR4 hb9 HU8 HV8 HR8 HB8
    go_wp2_with fail
    go_loopw [21] (fun i wr => ∃ k : Nat, i = .int .i64 (k : Int) ∧ k ≤ n ∧ Hid (Sl wr 3 1 (.slice (some ⟨pb, 0, none⟩) NB NB) NB (iv (cntL FA m.ev NB k))) ∧ Hid (Kept (fun q => q = pb) w9 wr)) (fun i _ => n - (intOf i).toNat)
    case atStart => exact ⟨0, rfl, by omega, HS9, HK0⟩
    case round =>
      clear HS9 HK0
      obtain ⟨k, rfl, hk, HS, HK⟩ := hrel
      have HBK : Hid (Below w3.heap.size w3 wr) := Lib.hid (HB9.out.trans (HK.out.below (fun q _ hq => by rw [hq]; exact HPB9.out) HB9.out.size))
      by_cases hlt : k < n
      · have hkI : (k : Int) < (n : Int) := by omega
        have hkM : (k : Int) < (more : Int) := by omega
        have hkE : (k : Int) < (EL : Int) := by omega
        obtain ⟨eb, eo, rfl, _, hec⟩ := HEC.out (by omega)
        obtain ⟨c1, aI⟩ := hec wr HBK.out k (by omega)
        have hu := HU9.out.keep HK.out.size fun q hn hq => HK.out.block q (HU9.out.lt hn hq) (by have := HUQ.out q hn hq; omega)
        have hv := HV9.out.keep HK.out.size fun q hn hq => HK.out.block q (HV9.out.lt hn hq) (by have := HVQ.out q hn hq; omega)
        obtain ⟨_, _, e1, _, _, r1⟩ := hu
        obtain ⟨_, _, e2, _, _, r2⟩ := hv
        simp only [Value.slice.injEq, true_and] at e1 e2
        obtain ⟨f1, zz1⟩ := e1
        obtain ⟨f2, zz2⟩ := e2
        obtain ⟨ub, uo, g1, _, uc⟩ := r1 (by omega)
        obtain ⟨vb, vo, g2, _, vc⟩ := r2 (by omega)
        obtain rfl := f1.trans g1
        obtain rfl := f2.trans g2
        have hfl := HFD.out.len
        have cu := uc k _ (iv_getD (x := FA) (j := k) (by omega))
        have HST := Lib.hid (HFD.out.st k hlt)
        have HLN := Lib.hid (HFD.out.line k hlt)
        have HAH := Lib.hid (HFD.out.ahead k hlt)
        have HTW := Lib.hid (HF2.out k hlt)
        have HAT := Lib.hid (HA3.out k hlt)
        have HN1 := Lib.hid (cntL_no (O := FA) (l := m.ev) (NL := NB) (k := k))
        have HY1 := Lib.hid (cntL_yes (O := FA) (l := m.ev) (NL := NB) (k := k))
        have hvl : more ≤ FB.length ∨ True := .inr trivial
        have hbc : ∃ u, vc = vc := ⟨(), rfl⟩
        have HVC : Hid (∀ zz, FB.getD k 0 = zz → k < FB.length → wr.cell? ⟨vb, vo + k, none⟩ = some (.int .i64 zz)) := Lib.hid fun zz hz hl => by
          have := vc k _ (iv_getD (x := FB) (j := k) hl)
          rw [hz] at this
          exact this
        have hlnq : lnq (m.ev.getD k []) = ((m.ev.getD k []).getD 1 0 / 8).toNat := rfl
        obtain ⟨at_, hat⟩ : ∃ a, (m.ev.getD k []).getD 1 0 = a := ⟨_, rfl⟩
        rw [hat] at c1 aI hlnq HAT
        obtain ⟨jq, hjq⟩ : ∃ j, lnq (m.ev.getD k []) = j := ⟨_, rfl⟩
        rw [hjq] at hlnq HLN HAH HY1
        obtain ⟨zf, hzf⟩ : ∃ zz, FA.getD k 0 = zz := ⟨_, rfl⟩
        rw [hzf] at cu HST HLN HAH HTW HN1 HY1
        clear uc vc r1 r2 f1 f2 g1 g2 zz1 zz2 hec hvl hbc hat hjq hzf hfl
        by_cases h0 : zf = 0
        · subst h0
          have HSX : Hid (Sl wr 3 1 (.slice (some ⟨pb, 0, none⟩) NB NB) NB (iv (cntL FA m.ev NB (k + 1)))) := Lib.hid (by rw [HN1.out (by decide)]; exact HS.out)
          clear HS HST HLN HAH HTW HN1 HY1 HAT HVC c1
          go_wp2_with fail
          go_roundw
          case rel => exact ⟨k + 1, by simp, by omega, HSX, HK⟩
          case measure => simp [intOf]; omega
        have hst := HST.out h0
        have ha0 := HAT.out hst
        have hjn := HLN.out h0
        have b0 : (zf == 0) = false := by rw [beq_eq_false_iff_ne]; exact h0
        have hjI : (jq : Int) < (NB : Int) := by omega
        have hd1 : at_ / 8 = (jq : Int) := by omega
        have hd2 : IntKind.i64.wrap (Int.tdiv at_ 8) = (jq : Int) := by
          unfold I64 at aI
          rw [Int.tdiv_eq_ediv_of_nonneg ha0, hd1, i64_wraps]
          omega
        have hd3 : wrap64 (at_ / 8) = (jq : Int) := by
          unfold I64 at aI
          rw [hd1]
          unfold wrap64
          omega
        clear hlnq
        have cp := HS.out.cells rfl jq _ (iv_getD (x := cntL FA m.ev NB k) (j := jq) (by rw [cntL_len]; exact hjn))
        rw [Nat.zero_add, cntL_at hjn] at cp
        have hpc := pcnt_le FA m.ev jq k
        by_cases h1 : zf = 1
        · subst h1
          have fr := HS.out.free (g := pb) rfl jq
          have hS1 := HS.out.set jq (.int .i64 (((pcnt FA m.ev jq k : Nat) : Int) + 1))
          rw [iv_set, ← HY1.out rfl, Nat.zero_add] at hS1
          have HS1 := Lib.hid hS1
          have hpw : IntKind.i64.wrap (((pcnt FA m.ev jq k : Nat) : Int) + 1) = ((pcnt FA m.ev jq k : Nat) : Int) + 1 := by rw [i64_wraps]; omega
          have HK1 : Hid (Kept (fun q => q = pb) w9 (wr.setCell ⟨pb, jq, none⟩ (.int .i64 (((pcnt FA m.ev jq k : Nat) : Int) + 1)))) := Lib.hid (HK.out.then_ (Kept.setCell wr (a := ⟨pb, jq, none⟩) _ rfl))
          generalize pcnt FA m.ev jq k = pc at *
          have hcu : (wr.setCell ⟨pb, jq, none⟩ (.int .i64 ((pc : Int) + 1))).cell? ⟨ub, uo + k, none⟩ = some (.int .i64 1) := by
            rw [World.cell?_setCell_far _ _ _ _ (show pb ≠ ub by have := HUQ.out ub (by omega) rfl; omega)]
            exact cu
          obtain ⟨W1, hW1⟩ : ∃ W1, wr.setCell ⟨pb, jq, none⟩ (.int .i64 ((pc : Int) + 1)) = W1 := ⟨_, rfl⟩
          rw [hW1] at HS1 HK1 hcu
          clear hS1 HS HST HLN HAH HTW HN1 HY1 HAT HVC hst ha0 hjn aI hpc
          go_wp2_with fail
          go_roundw
          case rel => exact ⟨k + 1, by simp, by omega, HS1, HK1⟩
          case measure => simp [intOf]; omega
        have b1 : (zf == 1) = false := by rw [beq_eq_false_iff_ne]; exact h1
        have HSX : Hid (Sl wr 3 1 (.slice (some ⟨pb, 0, none⟩) NB NB) NB (iv (cntL FA m.ev NB (k + 1)))) := Lib.hid (by rw [HN1.out h1]; exact HS.out)
        by_cases h2 : zf = 2
        · subst h2
          have hc0 := HAH.out rfl
          rw [hc0] at cp
          have hb2 := HTW.out rfl
          have hbl : k < FB.length := by
            apply Nat.lt_of_not_le
            intro hle
            rw [List.getD_eq_getElem?_getD, List.getElem?_eq_none hle] at hb2
            cases hb2
          have cv := HVC.out 2 hb2 hbl
          clear HS HST HLN HAH HTW HN1 HY1 HAT HVC hst ha0 hjn aI hpc hc0 hb2 hbl b0 b1 h0 h1
          go_wp2_with fail
          go_roundw
          case rel => exact ⟨k + 1, by simp, by omega, HSX, HK⟩
          case measure => simp [intOf]; omega
        · have b2 : (zf == 2) = false := by rw [beq_eq_false_iff_ne]; exact h2
          clear HS HST HLN HAH HTW HN1 HY1 HAT HVC hst ha0 hjn aI hpc h0 h1 h2
          go_wp2_with fail
          go_roundw
          case rel => exact ⟨k + 1, by simp, by omega, HSX, HK⟩
          case measure => simp [intOf]; omega
      · obtain rfl : k = n := by omega
        have hkI : ¬ (k : Int) < (k : Int) := by omega
        have HRK := Lib.hid (HR9.out.kept HK.out fun q h1 h2 => by have := HFQ.out q h1; omega)
        have HRdS := Lib.hid (Rd.of_sl HS.out)
        obtain ⟨wo, rfl⟩ : ∃ wo : World, wo = wr := ⟨_, rfl⟩
        clear HU9 HV9 HK HS
        go_wp2_with fail
        go_loopw [23] (fun i wr => ∃ j : Nat, i = .int .i64 (j : Int) ∧ j ≤ NB ∧ Hid (Below wo.heap.size wo wr)) (fun i _ => NB - (intOf i).toNat)
        case atStart => exact ⟨0, rfl, by omega, Lib.hid (Below.refl _ _)⟩
        case round =>
          obtain ⟨j, rfl, hj, HB⟩ := hrel
          by_cases hjl : j < NB
          · have hjI : (j : Int) < (NB : Int) := by omega
            have hs := HRdS.out.below HB.out
            obtain ⟨_, _, e1, _, _, r1⟩ := hs
            simp only [Value.slice.injEq, true_and] at e1
            obtain ⟨f1, zz1⟩ := e1
            obtain ⟨ub, uo, g1, _, uc⟩ := r1 (by omega)
            have hub := f1.symm.trans f1
            have cp := uc j _ (iv_getD (x := cntL FA m.ev NB k) (j := j) (by rw [cntL_len]; exact hjl))
            rw [cntL_at hjl, HFD.out.all j] at cp
            have hff := f1.trans g1
            simp only [Option.some.injEq, Addr.mk.injEq, and_true] at hff
            obtain ⟨rfl, rfl⟩ := hff
            rw [Nat.zero_add] at cp
            have hpp : pendP M (j : Int) = (M.line j).pend := by
              unfold pendP
              rw [if_pos (by unfold PM.has; exact decide_eq_true (by rw [HRL.out]; omega)), Int.toNat_natCast]
            have hpl2 := HGS.out.pend _ (PM.line_mem (i := j) (by rw [HRL.out]; exact hjl))
            have HPE := Lib.hid (pending_any r (j : Int) M _ wr.drew (by unfold I64; omega) HGR.out.few (by rw [hpp]; exact hpl2) ((HRK.out.below HB.out).below (bel_drew wr)))
            rw [hpp] at HPE
            change wr.cell? _ = some (.int .i64 (((M.line j).pend.length : Nat) : Int)) at cp
            generalize (M.line j).pend = PD at *
            obtain ⟨pl, hpl⟩ : ∃ pl, PD.length = pl := ⟨_, rfl⟩
            rw [hpl] at cp HPE
            have hS0 : wr.drew.cell? ⟨pb, j, none⟩ = some (.int .i64 (pl : Int)) := cp
            have HBd := Lib.hid (HB.out.drew)
            clear uc r1 f1 g1 zz1 hub hpp hpl2 hpl HB cp
            go_wp2_with fail
            refine wp_region_held_drew (S := fun W => W.cell? ⟨pb, j, none⟩ = some (.int .i64 (pl : Int))) (by kernel_rfl) hS0 (fun hHeld => ?_)
            generalize wr.drew = we at *
            refine wpAnyH_take (i := 0) (v := .slice (some ⟨pb, 0, none⟩) NB NB) rfl (by kernel_rfl) (by kernel_rfl) (by kernel_rfl) (fun _ _ _ h => h) (Or.inl ⟨by rfl, fun w hSw => by have h1 := hSw; go_simp⟩) (by assumption) ?_
            change wpAnyH _ _ _ _ _ _ _ (Act.put _ (some 146) _) _
            simp only [Act.put, List.setIfInBounds_toArray, List.set_cons_zero, List.set_cons_succ]
            refine wpAnyH_take (i := 1) (v := .int .i64 (j : Int)) rfl (by kernel_rfl) (by kernel_rfl) (by kernel_rfl) (fun _ _ _ h => h) (Or.inl ⟨by rfl, fun w hSw => by have h1 := hSw; go_simp⟩) (by assumption) ?_
            change wpAnyH _ _ _ _ _ _ _ (Act.put _ (some 147) _) _
            simp only [Act.put, List.setIfInBounds_toArray, List.set_cons_zero, List.set_cons_succ]
            refine wpAnyH_take (i := 2) (v := .pointer (some ⟨pb, j, none⟩)) rfl (by kernel_rfl) (by kernel_rfl) (by kernel_rfl) (fun _ _ _ h => h) (Or.inl ⟨by rfl, fun w hSw => by have h1 := hSw; go_simp⟩) (by assumption) ?_
            change wpAnyH _ _ _ _ _ _ _ (Act.put _ (some 148) _) _
            simp only [Act.put, List.setIfInBounds_toArray, List.set_cons_zero, List.set_cons_succ]
            refine wpAnyH_take (i := 3) (v := .int .i64 (pl : Int)) rfl (by kernel_rfl) (by kernel_rfl) (by kernel_rfl) (fun _ _ _ h => h) (Or.inl ⟨by rfl, fun w hSw => by have h1 := hSw; go_simp⟩) (by assumption) ?_
            change wpAnyH _ _ _ _ _ _ _ (Act.put _ (some 149) _) _
            simp only [Act.put, List.setIfInBounds_toArray, List.set_cons_zero, List.set_cons_succ]
            refine wpAnyH_take (i := 4) (v := .pointer (some ⟨r, 0, none⟩)) rfl (by kernel_rfl) (by kernel_rfl) (by kernel_rfl) (fun _ _ _ h => h) (Or.inl ⟨by rfl, fun w hSw => by have h1 := hSw; go_simp⟩) (by assumption) ?_
            change wpAnyH _ _ _ _ _ _ _ (Act.put _ (some 150) _) _
            simp only [Act.put, List.setIfInBounds_toArray, List.set_cons_zero, List.set_cons_succ]
            refine wpAnyH_take (i := 5) (v := .int .i64 (j : Int)) rfl (by kernel_rfl) (by kernel_rfl) (by kernel_rfl) (fun _ _ _ h => h) (Or.inl ⟨by rfl, fun w hSw => by have h1 := hSw; go_simp⟩) (by assumption) ?_
            change wpAnyH _ _ _ _ _ _ _ (Act.put _ (some 151) _) _
            simp only [Act.put, List.setIfInBounds_toArray, List.set_cons_zero, List.set_cons_succ]
            refine wpAnyH_ready (rs := [6]) (by kernel_rfl) (by simp) ?_
            refine AllReadyH.cons rfl (fun K hK => ?_) AllReadyH.nil
            go_simp
            refine HPE.out.mono ?_
            rintro e wf ⟨pv, rfl, hsl, _, hb⟩
            have HBe := Lib.hid (bel_on HBd.out hb)
            obtain ⟨XA, xcap, rfl, _⟩ := hsl.shape
            refine hK.out _ _ (cell_below hb hS0) (fun hHeld1 => ?_)
            clear hK K hHeld hsl hb HPE HBd hS0
            refine wpAnyH_take (i := 7) (v := .int .i64 (pl : Int)) rfl (by kernel_rfl) (by kernel_rfl) (by kernel_rfl) (fun _ _ _ h => h) (Or.inl ⟨by rfl, fun w hSw => by have h1 := hSw; go_simp⟩) (by assumption) ?_
            change wpAnyH _ _ _ _ _ _ _ (Act.put _ (some 153) _) _
            simp only [Act.put, List.setIfInBounds_toArray, List.set_cons_zero, List.set_cons_succ]
            refine wpAnyH_take (i := 8) (v := .bool false) rfl (by kernel_rfl) (by kernel_rfl) (by kernel_rfl) (fun _ _ _ h => h) (Or.inl ⟨by rfl, fun w hSw => by have h1 := hSw; go_simp⟩) (by assumption) ?_
            change wpAnyH _ _ _ _ _ _ _ (Act.put _ (some 154) _) _
            simp only [Act.put, List.setIfInBounds_toArray, List.set_cons_zero, List.set_cons_succ]
            refine wpAnyH_done (by kernel_rfl) ?_ _
            clear hHeld1
            go_wp2_with fail
            go_roundw
            case rel => exact ⟨j + 1, by simp, by omega, HBe⟩
            case measure => simp [intOf]; omega
          · obtain rfl : j = NB := by omega
            have hjI : ¬ (j : Int) < (j : Int) := by omega
            have HBW := Lib.hid (bel_on HB3.out (bel_on HBK.out HB.out))
            go_wp2_with fail
            go_ret
            exact ⟨rfl, HBW.out⟩
end Go.Proofs.YtpojhplnhppcpaaGreatDoor
