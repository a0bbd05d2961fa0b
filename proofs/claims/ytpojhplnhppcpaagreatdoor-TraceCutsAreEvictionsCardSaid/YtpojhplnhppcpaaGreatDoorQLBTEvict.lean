/-
  TraceCutsAreEvictions answers true: the walk.
-/
import Derived.Test.YtpojhplnhppcpaaGreatDoorQL9pTEvict
import Derived.Test.YtpojhplnhppcpaaGreatDoorQL3TEvict
import Derived.Test.YtpojhplnhppcpaaGreatDoorQL4bTEvict
import Derived.Test.YtpojhplnhppcpaaGreatDoorQL5TEvict
import Derived.Test.YtpojhplnhppcpaaGreatDoorQLApTEvict
namespace Go.Proofs.YtpojhplnhppcpaaGreatDoor
open Go.RowKit Go.Maps
theorem evs_more {cs : List (Int × Int)} {j : Nat} (h : j < cs.length) : evsC (cs.take (j + 1)) = evsC (cs.take j) ++ (if 0 < cs[j].2 then [evt 5 cs[j].1 cs[j].2 0 Z8] else []) := by
  unfold evsC
  rw [List.take_succ_eq_append_getElem h, List.filter_append, List.map_append, List.filter_cons, List.filter_nil]
  by_cases h2 : 0 < cs[j].2
  · rw [if_pos h2, if_pos (by simpa using h2)]
    rfl
  · rw [if_neg h2, if_neg (by simpa using h2)]
    rfl
theorem flat12 : ∀ {l : List (List Int)}, (∀ x ∈ l, x.length = 12) → l.flatten.length = l.length * 12
  | [], _ => rfl
  | x :: r, h => by
    have h1 := flat12 (l := r) fun y hy => h y (by simp [hy])
    have h2 := h x (by simp)
    rw [List.flatten_cons, List.length_append, h1, h2, List.length_cons]
    omega
/-- A failure after the evictions leaves what the cuts leave. -/
theorem evict_same {img : List (List Int × Int)} {l : List (List Int)} {n : Nat} {cs : List (Int × Int)} (hat : atE img l (n : Int) = 0) (hc : cutsOk (atP img l (n : Int)) (-1) cs = true) :
    imgE img (l.take n ++ evsC cs) ((l.take n ++ evsC cs).length : Int) [] = 0 ∧ imgP img (l.take n ++ evsC cs) ((l.take n ++ evsC cs).length : Int) [] = imgP img l (n : Int) cs := by
  obtain ⟨hr, _, h2, hf⟩ := atE_ok hat
  rw [Int.toNat_natCast] at hf
  have hM : atP img l (n : Int) = runP (fromP img) (l.take n) := by unfold atP; rw [Int.toNat_natCast]
  rw [hM] at hc
  obtain ⟨g1, g2⟩ := evs_run cs _ (-1) (Int.le_refl _) hc
  have hln : (l.take n).length = n := by rw [List.length_take]; omega
  have hfa := fits_append (m := fromP img) (l := l.take n) (r := evsC cs) (by rw [hln]; exact hf) g1
  have hP : atP img (l.take n ++ evsC cs) ((l.take n ++ evsC cs).length : Int) = runP (runP (fromP img) (l.take n)) (evsC cs) := by
    unfold atP
    rw [Int.toNat_natCast, List.take_length, run_append]
  have hE : atE img (l.take n ++ evsC cs) ((l.take n ++ evsC cs).length : Int) = 0 := by
    unfold atE
    rw [if_neg (by rw [hr]; simp only [Bool.true_eq_false, false_or]; omega), Int.toNat_natCast, List.take_length, hfa, if_neg (Nat.lt_irrefl _)]
  constructor
  · unfold imgE
    rw [if_pos hE]
    exact crash_zero rfl
  · unfold imgP
    rw [hP, hM]
    unfold crashP
    rw [if_neg (by simp [cutsOk]), if_neg (by rw [hc]; simp)]
    show (settles (runP (runP (fromP img) (l.take n)) (evsC cs)) []).lost = (settles (runP (fromP img) (l.take n)) cs).lost
    unfold PM.lost
    show PM.mk ((runP (runP (fromP img) (l.take n)) (evsC cs)).L.map PL.lost) 0 [] = _
    rw [g2]
set_option maxRecDepth 100000 in
set_option maxHeartbeats 16000000 in
set_option linter.unusedSimpArgs false in
theorem lawTEvict (v lv : Value) (img : List (List Int × Int)) (xs : List POp) (z : Int) (x : Int) (w : World) (hi : ImgI img) (hs : Rd w v img.length (iv (flatI img))) (hsc : Script w lv xs) (hz : I64 z) (hx4 : 0 ≤ x ∧ x < 4294967296) (hT : TabA w) :
    Calls Tryz.prog 13 #[v, lv, .int .i64 z, .int .u32 x] w fun e w' => e = .returned (.bool true) ∧ Below w.heap.size w w' := by
  have h8 : ∀ x ∈ img, x.1.length = 8 := fun x hx => (hi x hx).1
  obtain ⟨x0, x1⟩ := hx4
  obtain ⟨a, rfl⟩ : ∃ a : Nat, x = (a : Int) := ⟨x.toNat, by omega⟩
  have HT := Lib.hid hT
  have HD := Lib.hid hs
  have H8 := Lib.hid h8
  have HZI := Lib.hid hz
  have HXO : Hid (∀ x ∈ xs, x.Ok) := Lib.hid (by obtain ⟨_, _, _, h, _⟩ := hsc; exact h)
  have HPL := Lib.hid fun w1 (hb : Below w.heap.size w w1) => played_any img xs v lv w1 h8 (hs.below hb) (hsc.keep hb) (hT.keep hb).tab
  obtain ⟨A, cap, rfl, _⟩ := hs
  obtain ⟨_, _, ⟨A2, cap2, rfl, _⟩, _⟩ := hsc
  have HS := Lib.hid (tsanity_any w hT)
  clear hi h8 hT hz
  go_enter Tryz.func13, Tryz.ntmps13
  go_wp2_with fail
  refine HS.out.mono ?_
  rintro e w1 ⟨rfl, hb⟩
  have HB1 := Lib.hid hb
  have HP1 := Lib.hid (HPL.out w1 HB1.out)
  clear hb HS HPL
  go_wp2_with fail
  refine HP1.out.mono ?_
  rintro e w2 ⟨hp, hb⟩
  have HB2 := Lib.hid (bel_on HB1.out hb)
  clear hb HP1 HB1
  rcases hp with ⟨_, rfl⟩ | ⟨hM, hN, hrb, p, rfl, hrp, hmo, hms, hml⟩
  · go_wp2_with fail
    go_ret
    exact ⟨rfl, HB2.out⟩
  have HRE : Hid (Replays img (playsP (fromP img) xs)) := Lib.hid (by
    obtain ⟨f1, f2, _⟩ := fromP_ok H8.out hrb
    exact plays_replays xs (Replays.from_ img) f1 f2 HXO.out)
  obtain ⟨m, hm⟩ : ∃ m, playsP (fromP img) xs = m := ⟨_, rfl⟩
  rw [hm] at hrp hmo hms hml HRE
  have HEI : Hid (EvI m.ev) := Lib.hid hmo.evs
  have HRB := Lib.hid hrb
  have HEV := Lib.hid (events_any p m (New w1 w2) w2 (by have := hms.ev; omega) hrp)
  have hn80 := hms.ev
  obtain ⟨s, hs9⟩ := HRE.out.run
  clear hrp hmo hms hrb hm hml HXO s hs9
  go_wp2_with fail
  refine HEV.out.mono ?_
  rintro e w3 ⟨ev, rfl, hsl, how, hb⟩
  have HB3 := Lib.hid (bel_on HB2.out hb)
  have HE3 := Lib.hid (Sl.rd0 hsl)
  obtain ⟨EA, ecap, rfl, hec1, hec2, _⟩ := hsl.shape
  obtain ⟨n, hn9⟩ : ∃ n, pointP m.ev.length z = n := ⟨_, rfl⟩
  have hnl : n ≤ m.ev.length := by rw [← hn9]; exact point_le _ _
  have hat := atE_of HRE.out HRB.out hnl
  obtain ⟨gM1, gM2, gM3⟩ := at_good H8.out HEI.out (show m.ev.length ≤ 400 by omega) hat
  have ha64 : I64 (a : Int) := by unfold I64; omega
  have HPT := Lib.hid (point_any EA m.ev.length ecap z w3 (by omega) HZI.out)
  rw [hn9] at HPT
  have HC1 := Lib.hid fun w' (hb : Below w3.heap.size w3 w') => tchoice_any img m.ev (n : Int) (a : Int) _ _ w' H8.out (by omega) (HD.out.below (bel_on HB3.out hb)) HEI.out (by omega) (HE3.out.below hb) (HT.out.keep (bel_on HB3.out hb)).tab ha64
  obtain ⟨cI, cL⟩ := choE_I (n := (n : Int)) (k := (a : Int)) H8.out HEI.out (by omega) ha64 (by omega)
  have HIM := Lib.hid fun cs w' cv (hb : Below w3.heap.size w3 w') (hc : Rd w' cv cs.length (iv (flatS cs))) (hcI : ∀ c ∈ cs, I64 c.1 ∧ I64 c.2) => timage_any img m.ev (n : Int) cs _ _ cv w' H8.out (by omega) (HD.out.below (bel_on HB3.out hb)) HEI.out (by omega) (HE3.out.below hb) hc hcI (HT.out.keep (bel_on HB3.out hb)).tab
  have HIN := Lib.hid fun LL w' llv (hb : Below w3.heap.size w3 w') (h1 : EvI LL) (h2 : LL.length ≤ 400) (h3 : Rd w' llv LL.length (iv LL.flatten)) => timage_any img LL (LL.length : Int) [] _ llv (.slice none 0 0) w' H8.out (by omega) (HD.out.below (bel_on HB3.out hb)) h1 h2 h3 (Rd.of_sl (Sl.nil w' 0 0)) (fun c hc => by cases hc) (HT.out.keep (bel_on HB3.out hb)).tab
  have hc1 : choE img m.ev (n : Int) (a : Int) = chosenP (atP img m.ev (n : Int)) (a : Int) := by unfold choE; rw [if_pos hat]
  have hk1 := cho_ok (atP img m.ev (n : Int)) (a : Int)
  rw [← hc1] at hk1
  obtain ⟨hev1, hev2⟩ := evict_same hat hk1
  have hie : imgE img m.ev (n : Int) (choE img m.ev (n : Int) (a : Int)) = 0 := by
    unfold imgE
    rw [if_pos hat]
    exact crash_zero hk1
  obtain ⟨C1, hC1⟩ : ∃ C1, choE img m.ev (n : Int) (a : Int) = C1 := ⟨_, rfl⟩
  rw [hC1] at HC1 hk1 cI cL hev1 hev2 hie
  obtain ⟨gi1, gi2⟩ := imgE_good H8.out HEI.out (show m.ev.length ≤ 400 by omega) hie
  obtain ⟨IP, hIP⟩ : ∃ IP, imgP img m.ev (n : Int) C1 = IP := ⟨_, rfl⟩
  rw [hIP] at hev2 gi1 gi2
  have HIP : Hid (∀ w e w', ImPost img m.ev (n : Int) C1 w e w' → ∃ u, e = .returned (.tuple #[u, .int .i64 0]) ∧ Sl w' 77 9 u img.length (iv (flatI (imgOf IP)))) := Lib.hid fun w e w' h => by
    unfold ImPost at h
    rw [hie, hIP] at h
    rcases h with ⟨h1, _⟩ | ⟨_, u, h2, h3, h4⟩
    · exact absurd rfl h1
    · refine ⟨u, h2, ?_⟩
      rw [imgOf_flat, ← gi2]
      exact h3
  have HIQ : Hid (∀ w e w', ImPost img (m.ev.take n ++ evsC C1) ((m.ev.take n ++ evsC C1).length : Int) [] w e w' → ∃ u, e = .returned (.tuple #[u, .int .i64 0]) ∧ Sl w' 77 9 u img.length (iv (flatI (imgOf IP)))) := Lib.hid fun w e w' h => by
    unfold ImPost at h
    rw [hev1, hev2] at h
    rcases h with ⟨h1, _⟩ | ⟨_, u, h2, h3, h4⟩
    · exact absurd rfl h1
    · refine ⟨u, h2, ?_⟩
      rw [imgOf_flat, ← gi2]
      exact h3
  have HOI := Lib.hid (imgOf_ok gi1)
  have HOL : Hid ((imgOf IP).length = img.length) := Lib.hid (by unfold imgOf; rw [List.length_map]; exact gi2)
  have HCI := Lib.hid cI
  have HLE : Hid (EvI (m.ev.take n ++ evsC C1)) := Lib.hid fun x hx => by
    rcases List.mem_append.1 hx with h | h
    · exact HEI.out x (List.mem_of_mem_take h)
    · exact evs_I cI x h
  have HCL : Hid (C1.length ≤ 12) := Lib.hid (by
    rw [← hC1, hc1]
    unfold chosenP
    exact Nat.le_trans (choP_len _ _ _) (by rw [gM2]; exact hM))
  have HTK : Hid ((m.ev.take n).length = n) := Lib.hid (by rw [List.length_take]; omega)
  have HTE : Hid (∀ w', Rd w' (.slice EA m.ev.length ecap) m.ev.length (iv m.ev.flatten) → Rd w' (.slice EA n ecap) n (iv (m.ev.take n).flatten)) := Lib.hid fun w' h => h.takeE hnl
  have hwa : IntKind.i64.wrap (a : Int) = (a : Int) := by rw [i64_wraps]; omega
  rw [hat] at HC1
  obtain ⟨EL, hEL⟩ : ∃ EL, m.ev.length = EL := ⟨_, rfl⟩
  rw [hEL] at HPT HC1 HIM HTE hec1 hnl hn80 HE3
  rw [hEL]
  obtain ⟨NB, hNB⟩ : ∃ NB, img.length = NB := ⟨_, rfl⟩
  rw [hNB] at HC1 HIM HIP HIQ HIN HOL ⊢
  have HNB5 : Hid (NB ≤ 12) := Lib.hid (by omega)
  have hI0 : (0 : Int) ≤ (n : Int) := by omega
  have hI1 : ¬ (n : Int) < 0 := by omega
  have hI2 : (n : Int) ≤ (EL : Int) := by omega
  have hI3 : (n : Int) ≤ (ecap : Int) := by omega
  have hI4 : n ≤ ecap := by omega
  have hn8 : n ≤ 80 := by omega
  have hec3 : ecap ≤ 9223372036854775807 := by unfold maxLen at hec2; omega
  clear hb how HEV HB2 gM1 gM2 gM3 ha64 cI cL hc1 hC1 hat hn9 hnl hn80 hsl x0 x1 hk1 hev1 hev2 hie gi1 gi2 hIP hM hec2
  clear hEL hNB hN
  go_wp2_with fail
  refine HPT.out.mono ?_
  rintro e w4 ⟨rfl, hb⟩
  have HB4 := Lib.hid hb
  have H5 := Lib.hid (HC1.out w4 hb)
  clear hb HPT HC1
  go_wp2_with fail
  refine H5.out.mono ?_
  rintro e w7 ⟨⟨u, rfl, hu, _⟩, hb⟩
  have HB7 := Lib.hid (bel_on HB4.out hb)
  have HU7 := Lib.hid (Sl.rd0 hu)
  obtain ⟨UA, ucap, rfl, hu1, hu2, _⟩ := hu.shape
  have hu3 : ucap ≤ 9223372036854775807 := by unfold maxLen at hu2; omega
  clear hb hu H5 hu2
  have hE4 := bel_new w7 (.cells #[] 68)
  have hEA := Arr.new w7 [] 68
  obtain ⟨wE, hwE⟩ : ∃ wE, w7.alloc (.cells #[] 68) = wE := ⟨_, rfl⟩
  change Arr (w7.alloc (.cells #[] 68)) w7.heap.size 68 [] at hEA
  rw [hwE] at hE4 hEA
  have HSE : Hid (Sl wE 68 12 (.slice (some ⟨w7.heap.size, 0, none⟩) 0 0) 0 []) := Lib.hid (hEA.sl rfl (by decide))
  have HBE := Lib.hid (bel_on HB7.out hE4)
  have HUE := Lib.hid (HU7.out.below hE4)
  have HSZ : Hid (w3.heap.size ≤ w7.heap.size) := Lib.hid HB7.out.size
  have HUQ : Hid (∀ q, 0 < C1.length → (Value.slice UA C1.length ucap).ownBlock = some q → q < w7.heap.size) := Lib.hid fun q hn hq => HU7.out.lt hn hq
  obtain ⟨eb, heb⟩ : ∃ eb, w7.heap.size = eb := ⟨_, rfl⟩
  rw [heb] at HSE HSZ HUQ
  obtain ⟨CN, hCN⟩ : ∃ CN, C1.length = CN := ⟨_, rfl⟩
  have HCN := Lib.hid hCN
  rw [hCN] at HUQ HUE HCL hu1 ⊢
  obtain ⟨i0, hi0, hz0, hz1, hz2⟩ := info_parts infoEvent
  have HI0 := Lib.hid hi0
  have HZ0 := Lib.hid hz0
  have HZ1 := Lib.hid hz1
  have HZ2 := Lib.hid hz2
  have HRT := Lib.hid (HTE.out wE (HE3.out.below HBE.out))
  have HL2 : Hid ((iv (m.ev.take n).flatten).length = n * 12) := Lib.hid (by
    rw [iv_len, flat12 fun x hx => (HEI.out x (List.mem_of_mem_take hx)).1, HTK.out])
  clear hE4 hEA HU7 hi0 hz0 hz1 hz2 hCN
  go_wp2_with (at_builtin; (refine wpList_append_rd rfl _ _ 24 rfl 68 i0 _ 12 96 Tryz.underlying24 HI0.out HZ0.out HZ1.out HZ2.out rfl (by decide) (.slice (some ⟨eb, 0, none⟩) 0 0) 0 [] rfl HSE.out (.slice EA n ecap) n (iv (m.ev.take n).flatten) rfl HRT.out HL2.out (iv_one _) (by unfold maxLen; omega) (by omega) ?_); intro v' wF h1 h2 h3; refine Hid.out ?_)
  refine Lib.hid ?_
  rw [Nat.zero_add, List.nil_append] at h1
  have hsE : eb ≤ wE.heap.size := by rw [← hwE, ← heb]; simp
  have kF : Kept (fun q => q = eb) wE wF := Kept.of_grown h2 fun q hq => by simpa [Value.ownBlock] using hq.symm
  have HBF : Hid (Below w3.heap.size w3 wF) := Lib.hid (HBE.out.trans (kF.below (fun q _ hq => by have := HSZ.out; omega) HBE.out.size))
  have HOW0 : Hid (∀ q, v'.ownBlock = some q → eb ≤ q) := Lib.hid fun q hq => by
    rcases h3 with h3 | h3
    · rw [hq] at h3
      simp only [Value.ownBlock, Option.some.injEq] at h3
      omega
    · rw [hq] at h3
      simp only [Option.some.injEq] at h3
      omega
  have HUF : Hid (Rd wF (.slice UA CN ucap) CN (iv (flatS C1))) := Lib.hid (by
    have := HUE.out
    exact this.keep kF.size fun q hn hq => kF.block q (by have := HUQ.out q hn hq; omega) (by have := HUQ.out q hn hq; omega))
  have HS0 : Hid (Sl wF 68 12 v' (n + (evsC (C1.take 0)).length) (iv (m.ev.take n ++ evsC (C1.take 0)).flatten)) := Lib.hid (by
    rw [show evsC (C1.take 0) = [] from rfl, List.append_nil]
    exact h1)
  have HK0 : Hid (Kept (fun q => eb ≤ q) wF wF) := Lib.hid (Kept.refl _ _)
  have HOB9 : Hid (eb ≤ wF.heap.size) := Lib.hid (by have := kF.size; omega)
  obtain ⟨LA, lcap, rfl, _⟩ := h1.shape
  clear h1 h2 h3 kF hsE HSE HUE HBE hwE HRT HL2
  go_wp2_with fail
  go_loopw [15, 16] (fun lv i wr => ∃ j : Nat, i = .int .i64 (j : Int) ∧ j ≤ CN ∧ Hid (Sl wr 68 12 lv (n + (evsC (C1.take j)).length) (iv (m.ev.take n ++ evsC (C1.take j)).flatten)) ∧ Hid (∀ q, lv.ownBlock = some q → eb ≤ q) ∧ Hid (Kept (fun q => eb ≤ q) wF wr)) (fun _ i _ => CN - (intOf i).toNat)
  case atStart => exact ⟨0, rfl, by omega, HS0, HOW0, HK0⟩
  case round =>
    clear HS0 HOW0 HK0
    obtain ⟨j, rfl, hj, HS, HOW, HK⟩ := hrel
    have HBK : Hid (Below w3.heap.size w3 wr) := Lib.hid (HBF.out.trans (HK.out.below (fun q _ hq => by have := HSZ.out; omega) HBF.out.size))
    have HUK : Hid (Rd wr (.slice UA CN ucap) CN (iv (flatS C1))) := Lib.hid (HUF.out.keep HK.out.size fun q hn hq => HK.out.block q (HUF.out.lt hn hq) (by have := HUQ.out q hn hq; omega))
    by_cases hlt : j < CN
    · have hjI : (j : Int) < (CN : Int) := by omega
      have hj1 : j < C1.length := by rw [HCN.out]; exact hlt
      have HEL : Hid ((evsC (C1.take j)).length ≤ 12) := Lib.hid (by
        have h1 := evs_len (C1.take j)
        rw [List.length_take] at h1
        have := HCL.out
        omega)
      obtain ⟨_, _, hv9, _, _, hvr⟩ := HUK.out
      simp only [Value.slice.injEq, true_and] at hv9
      obtain ⟨hv10, hv11⟩ := hv9
      obtain ⟨cb, co, hva, hbl, hcells⟩ := hvr (by omega)
      obtain rfl := hv10.trans hva
      have hcbe : cb < eb := HUQ.out cb (by omega) rfl
      obtain ⟨d0, d1⟩ := rd_get hj1 hcells
      have hmo := evs_more hj1
      clear hv10 hva hv11 hvr hcells
      generalize C1[j] = c at *
      obtain ⟨c1, c2⟩ := c
      simp only at d0 d1 hmo
      have HMO := Lib.hid hmo
      clear hmo
      by_cases hpos : 0 < c2
      · have HMX : Hid (evsC (C1.take (j + 1)) = evsC (C1.take j) ++ [evt 5 c1 c2 0 Z8]) := Lib.hid (by rw [HMO.out, if_pos hpos])
        obtain ⟨Y, hY⟩ : ∃ Y, evsC (C1.take j) = Y := ⟨_, rfl⟩
        rw [hY] at HS HMX HEL
        obtain ⟨LJ, ljcap, rfl, _⟩ := HS.out.shape
        have HYN : Hid (n + Y.length ≤ 92) := Lib.hid (by have := HEL.out; omega)
        obtain ⟨NL, hNL⟩ : ∃ NL, n + Y.length = NL := ⟨_, rfl⟩
        rw [hNL] at HS HYN ⊢
        have HNL := Lib.hid hNL
        have hS0 : wr.drew.cell? ⟨cb, co + j * 2, none⟩ = some (.int .i64 c1) ∧ wr.drew.cell? ⟨cb, co + j * 2 + 1, none⟩ = some (.int .i64 c2) := ⟨d0, d1⟩
        have HSd := Lib.hid (HS.out.below (bel_drew wr))
        have HKd : Hid (Kept (fun q => eb ≤ q) wF wr.drew) := Lib.hid (HK.out.then_ (Kept.of_below (bel_drew wr)))
        have hcbw : cb < wr.drew.heap.size := hbl
        have HOWJ : Hid (∀ q, (Value.slice LJ NL ljcap).ownBlock = some q → eb ≤ q) := Lib.hid fun q hq => HOW.out q (by
          cases LJ with
          | none => simp [Value.ownBlock] at hq
          | some ad => simpa [Value.ownBlock] using hq)
        clear hY hNL HMO HS HK HBK HUK HOW
        go_wp2_with fail
        clear d0 d1
        refine wp_region_held_drew (S := fun W => W.cell? ⟨cb, co + j * 2, none⟩ = some (.int .i64 c1) ∧ W.cell? ⟨cb, co + j * 2 + 1, none⟩ = some (.int .i64 c2)) (by kernel_rfl) hS0 (fun hHeld => ?_)
        generalize wr.drew = we at *
        refine wpAnyH_take (i := 0) (v := .slice LJ NL ljcap) rfl (by kernel_rfl) (by kernel_rfl) (by kernel_rfl) (fun _ _ _ h => h) (Or.inl ⟨by rfl, fun w hSw => by obtain ⟨h1, h2⟩ := hSw; go_simp⟩) (by assumption) ?_
        change wpAnyH _ _ _ _ _ _ _ (Act.put _ (some 59) _) _
        simp only [Act.put, List.setIfInBounds_toArray, List.set_cons_zero, List.set_cons_succ]
        refine wpAnyH_take (i := 1) (v := .slice (some ⟨cb, co, none⟩) CN ucap) rfl (by kernel_rfl) (by kernel_rfl) (by kernel_rfl) (fun _ _ _ h => h) (Or.inl ⟨by rfl, fun w hSw => by obtain ⟨h1, h2⟩ := hSw; go_simp⟩) (by assumption) ?_
        change wpAnyH _ _ _ _ _ _ _ (Act.put _ (some 60) _) _
        simp only [Act.put, List.setIfInBounds_toArray, List.set_cons_zero, List.set_cons_succ]
        refine wpAnyH_take (i := 2) (v := .int .i64 (j : Int)) rfl (by kernel_rfl) (by kernel_rfl) (by kernel_rfl) (fun _ _ _ h => h) (Or.inl ⟨by rfl, fun w hSw => by obtain ⟨h1, h2⟩ := hSw; go_simp⟩) (by assumption) ?_
        change wpAnyH _ _ _ _ _ _ _ (Act.put _ (some 61) _) _
        simp only [Act.put, List.setIfInBounds_toArray, List.set_cons_zero, List.set_cons_succ]
        refine wpAnyH_take (i := 3) (v := .pointer (some ⟨cb, co + j * 2, none⟩)) rfl (by kernel_rfl) (by kernel_rfl) (by kernel_rfl) (fun _ _ _ h => h) (Or.inl ⟨by rfl, fun w hSw => by obtain ⟨h1, h2⟩ := hSw; go_simp⟩) (by assumption) ?_
        change wpAnyH _ _ _ _ _ _ _ (Act.put _ (some 62) _) _
        simp only [Act.put, List.setIfInBounds_toArray, List.set_cons_zero, List.set_cons_succ]
        refine wpAnyH_take (i := 4) (v := .pointer (some ⟨cb, co + j * 2, none⟩)) rfl (by kernel_rfl) (by kernel_rfl) (by kernel_rfl) (fun _ _ _ h => h) (Or.inl ⟨by rfl, fun w hSw => by obtain ⟨h1, h2⟩ := hSw; go_simp⟩) (by assumption) ?_
        change wpAnyH _ _ _ _ _ _ _ (Act.put _ (some 63) _) _
        simp only [Act.put, List.setIfInBounds_toArray, List.set_cons_zero, List.set_cons_succ]
        refine wpAnyH_take (i := 5) (v := .int .i64 c1) rfl (by kernel_rfl) (by kernel_rfl) (by kernel_rfl) (fun _ _ _ h => h) (Or.inl ⟨by rfl, fun w hSw => by obtain ⟨h1, h2⟩ := hSw; go_simp⟩) (by assumption) ?_
        change wpAnyH _ _ _ _ _ _ _ (Act.put _ (some 64) _) _
        simp only [Act.put, List.setIfInBounds_toArray, List.set_cons_zero, List.set_cons_succ]
        refine wpAnyH_take (i := 6) (v := .slice (some ⟨cb, co, none⟩) CN ucap) rfl (by kernel_rfl) (by kernel_rfl) (by kernel_rfl) (fun _ _ _ h => h) (Or.inl ⟨by rfl, fun w hSw => by obtain ⟨h1, h2⟩ := hSw; go_simp⟩) (by assumption) ?_
        change wpAnyH _ _ _ _ _ _ _ (Act.put _ (some 65) _) _
        simp only [Act.put, List.setIfInBounds_toArray, List.set_cons_zero, List.set_cons_succ]
        refine wpAnyH_take (i := 7) (v := .int .i64 (j : Int)) rfl (by kernel_rfl) (by kernel_rfl) (by kernel_rfl) (fun _ _ _ h => h) (Or.inl ⟨by rfl, fun w hSw => by obtain ⟨h1, h2⟩ := hSw; go_simp⟩) (by assumption) ?_
        change wpAnyH _ _ _ _ _ _ _ (Act.put _ (some 66) _) _
        simp only [Act.put, List.setIfInBounds_toArray, List.set_cons_zero, List.set_cons_succ]
        refine wpAnyH_take (i := 8) (v := .pointer (some ⟨cb, co + j * 2, none⟩)) rfl (by kernel_rfl) (by kernel_rfl) (by kernel_rfl) (fun _ _ _ h => h) (Or.inl ⟨by rfl, fun w hSw => by obtain ⟨h1, h2⟩ := hSw; go_simp⟩) (by assumption) ?_
        change wpAnyH _ _ _ _ _ _ _ (Act.put _ (some 67) _) _
        simp only [Act.put, List.setIfInBounds_toArray, List.set_cons_zero, List.set_cons_succ]
        refine wpAnyH_take (i := 9) (v := .pointer (some ⟨cb, co + j * 2 + 1, none⟩)) rfl (by kernel_rfl) (by kernel_rfl) (by kernel_rfl) (fun _ _ _ h => h) (Or.inl ⟨by rfl, fun w hSw => by obtain ⟨h1, h2⟩ := hSw; go_simp⟩) (by assumption) ?_
        change wpAnyH _ _ _ _ _ _ _ (Act.put _ (some 68) _) _
        simp only [Act.put, List.setIfInBounds_toArray, List.set_cons_zero, List.set_cons_succ]
        refine wpAnyH_take (i := 10) (v := .int .i64 c2) rfl (by kernel_rfl) (by kernel_rfl) (by kernel_rfl) (fun _ _ _ h => h) (Or.inl ⟨by rfl, fun w hSw => by obtain ⟨h1, h2⟩ := hSw; go_simp⟩) (by assumption) ?_
        change wpAnyH _ _ _ _ _ _ _ (Act.put _ (some 69) _) _
        simp only [Act.put, List.setIfInBounds_toArray, List.set_cons_zero, List.set_cons_succ]
        refine wpAnyH_take (i := 11) (v := .agg #[.int .i64 5, .int .i64 c1, .int .i64 c2, .int .i64 0, .int .i64 0, .int .i64 0, .int .i64 0, .int .i64 0, .int .i64 0, .int .i64 0, .int .i64 0, .int .i64 0]) rfl (by kernel_rfl) (by kernel_rfl) (by kernel_rfl) (fun _ _ _ h => h) (Or.inl ⟨by rfl, fun w hSw => by obtain ⟨h1, h2⟩ := hSw; go_simp⟩) (by assumption) ?_
        change wpAnyH _ _ _ _ _ _ _ (Act.put _ (some 70) _) _
        simp only [Act.put, List.setIfInBounds_toArray, List.set_cons_zero, List.set_cons_succ]
        refine wpAnyH_ready (rs := [12]) (by kernel_rfl) (by simp) ?_
        refine AllReadyH.cons rfl (fun K hK => ?_) AllReadyH.nil
        go_simp
        have hbn := bel_new we (.cells #[.int .i64 5, .int .i64 c1, .int .i64 c2, .int .i64 0, .int .i64 0, .int .i64 0, .int .i64 0, .int .i64 0, .int .i64 0, .int .i64 0, .int .i64 0, .int .i64 0] 68)
        have HNW : Hid (∀ i u, (iv (evt 5 c1 c2 0 Z8))[i]? = some u → (we.alloc (.cells #[.int .i64 5, .int .i64 c1, .int .i64 c2, .int .i64 0, .int .i64 0, .int .i64 0, .int .i64 0, .int .i64 0, .int .i64 0, .int .i64 0, .int .i64 0, .int .i64 0] 68)).cell? ((⟨we.heap.size, 0, none⟩ : Addr).add i) = some u) := Lib.hid (by
          intro i u hi
          rw [add_zero_at]
          exact (Arr.new we (iv (evt 5 c1 c2 0 Z8)) 68).cell hi)
        have HSN := Lib.hid (HSd.out.below hbn)
        have HKN : Hid (Kept (fun q => eb ≤ q) wF (we.alloc (.cells #[.int .i64 5, .int .i64 c1, .int .i64 c2, .int .i64 0, .int .i64 0, .int .i64 0, .int .i64 0, .int .i64 0, .int .i64 0, .int .i64 0, .int .i64 0, .int .i64 0] 68))) := Lib.hid (HKd.out.then_ (Kept.of_below hbn))
        have hcell3 := cell_below hbn hS0.1
        have hcell4 := cell_below hbn hS0.2
        have hcbn : cb < (we.alloc (.cells #[.int .i64 5, .int .i64 c1, .int .i64 c2, .int .i64 0, .int .i64 0, .int .i64 0, .int .i64 0, .int .i64 0, .int .i64 0, .int .i64 0, .int .i64 0, .int .i64 0] 68)).heap.size := Nat.lt_of_lt_of_le hcbw hbn.size
        have HSZN : Hid (eb ≤ we.heap.size) := Lib.hid (by
          have := HKd.out.size
          have := HOB9.out
          omega)
        have HSWN : Hid (we.heap.size ≤ (we.alloc (.cells #[.int .i64 5, .int .i64 c1, .int .i64 c2, .int .i64 0, .int .i64 0, .int .i64 0, .int .i64 0, .int .i64 0, .int .i64 0, .int .i64 0, .int .i64 0, .int .i64 0] 68)).heap.size) := Lib.hid hbn.size
        refine hK.out _ _ ⟨hcell3, hcell4⟩ (fun hHeld2 => ?_)
        clear hK K hHeld hbn HSd HKd
        generalize we.alloc (.cells #[.int .i64 5, .int .i64 c1, .int .i64 c2, .int .i64 0, .int .i64 0, .int .i64 0, .int .i64 0, .int .i64 0, .int .i64 0, .int .i64 0, .int .i64 0, .int .i64 0] 68) = wn at *
        refine wpAnyH_ready (rs := [13]) (by kernel_rfl) (by simp) ?_
        refine AllReadyH.cons rfl (fun K hK => ?_) AllReadyH.nil
        refine wp_append_sl _ _ 24 rfl 68 i0 _ 12 96 Tryz.underlying24 HI0.out HZ0.out HZ1.out HZ2.out rfl (by decide) (.slice LJ NL ljcap) NL (iv (m.ev.take n ++ Y).flatten) rfl HSN.out ⟨we.heap.size, 0, none⟩ 1 1 (iv (evt 5 c1 c2 0 Z8)) rfl rfl HNW.out (iv_one _) (by have := HYN.out; unfold maxLen; omega) (by have := HYN.out; omega) fun v' w5 h1 h2 h3 => ?_
        have hkg : Kept (fun q => eb ≤ q) wn w5 := Kept.of_grown h2 fun q hq => HOWJ.out q hq
        have hc5 : w5.cell? ⟨cb, co + j * 2, none⟩ = some (.int .i64 c1) := (cell_of_block (a := ⟨cb, co + j * 2, none⟩) (hkg.block cb hcbn (by omega))).trans hcell3
        have hc6 : w5.cell? ⟨cb, co + j * 2 + 1, none⟩ = some (.int .i64 c2) := (cell_of_block (a := ⟨cb, co + j * 2 + 1, none⟩) (hkg.block cb hcbn (by omega))).trans hcell4
        refine hK.out _ _ ⟨hc5, hc6⟩ (fun hHeld3 => ?_)
        have HSX : Hid (Sl w5 68 12 v' (n + (evsC (C1.take (j + 1))).length) (iv (m.ev.take n ++ evsC (C1.take (j + 1))).flatten)) := Lib.hid (by
          rw [HMX.out, ← List.append_assoc, List.flatten_append, List.length_append, ← Nat.add_assoc, HNL.out]
          have e : iv ((m.ev.take n ++ Y).flatten ++ [evt 5 c1 c2 0 Z8].flatten) = iv (m.ev.take n ++ Y).flatten ++ iv (evt 5 c1 c2 0 Z8) := by
            rw [List.flatten_cons, List.flatten_nil, List.append_nil]
            unfold iv
            rw [List.map_append]
          rw [e]
          exact h1)
        have HOX : Hid (∀ q, v'.ownBlock = some q → eb ≤ q) := Lib.hid fun q hq => by
          rcases h3 with h3 | h3
          · exact HOWJ.out q (h3 ▸ hq)
          · rw [h3] at hq
            simp only [Option.some.injEq] at hq
            have := HSZN.out
            have := HSWN.out
            omega
        have HKX : Hid (Kept (fun q => eb ≤ q) wF w5) := Lib.hid (HKN.out.then_ hkg)
        obtain ⟨XA, xcap, rfl, _⟩ := h1.shape
        clear hK K hHeld2 h1 h2 h3 hkg HSN HNW HKN hcell3 hcell4 hS0
        refine wpAnyH_take (i := 14) (v := .slice XA (NL + 1) xcap) rfl (by kernel_rfl) (by kernel_rfl) (by kernel_rfl) (fun _ _ _ h => h) (Or.inl ⟨by rfl, fun w hSw => by obtain ⟨h1, h2⟩ := hSw; go_simp⟩) (by assumption) ?_
        change wpAnyH _ _ _ _ _ _ _ (Act.put _ (some 15) _) _
        simp only [Act.put, List.setIfInBounds_toArray, List.set_cons_zero, List.set_cons_succ]
        refine wpAnyH_done (by kernel_rfl) ?_ _
        clear hHeld3 hc5 hc6
        go_wp2_with fail
        go_roundw
        case rel => exact ⟨j + 1, by simp, by omega, HSX, HOX, HKX⟩
        case measure => simp [intOf]; omega
      · have HMX : Hid (evsC (C1.take (j + 1)) = evsC (C1.take j)) := Lib.hid (by rw [HMO.out, if_neg hpos, List.append_nil])
        have HSX : Hid (Sl wr 68 12 u15 (n + (evsC (C1.take (j + 1))).length) (iv (m.ev.take n ++ evsC (C1.take (j + 1))).flatten)) := Lib.hid (by rw [HMX.out]; exact HS.out)
        clear HS HMX HMO
        go_wp2_with fail
        go_roundw
        case rel => exact ⟨j + 1, by simp, by omega, HSX, HOW, HK⟩
        case measure => simp [intOf]; omega
    · obtain rfl : j = CN := by omega
      have hjI : ¬ (j : Int) < (j : Int) := by omega
      have hS := HS.out
      rw [List.take_of_length_le (by rw [HCN.out]; exact Nat.le_refl _)] at hS
      have HLN : Hid ((m.ev.take n ++ evsC C1).length = n + (evsC C1).length) := Lib.hid (by rw [List.length_append, HTK.out])
      have hel := evs_len C1
      rw [HCN.out] at hel
      have HLL : Hid ((m.ev.take n ++ evsC C1).length ≤ 400) := Lib.hid (by rw [HLN.out]; have := HCL.out; omega)
      have HRL : Hid (Rd wr u15 (m.ev.take n ++ evsC C1).length (iv (m.ev.take n ++ evsC C1).flatten)) := Lib.hid (by rw [HLN.out]; exact Rd.of_sl hS)
      obtain ⟨LJ, ljcap, rfl, _⟩ := hS.shape
      have HI1 := Lib.hid (HIM.out C1 wr (.slice UA j ucap) HBK.out (by rw [HCN.out]; exact HUK.out) HCI.out)
      have HI2 := Lib.hid fun w' (hb : Below wr.heap.size wr w') => HIN.out (m.ev.take n ++ evsC C1) w' _ (bel_on HBK.out hb) HLE.out HLL.out (HRL.out.below hb)
      have HPQ : Hid (∀ w e w', ImPost img (m.ev.take n ++ evsC C1) ((m.ev.take n ++ evsC C1).length : Int) [] w e w' → ∃ u, e = .returned (.tuple #[u, .int .i64 0]) ∧ Sl w' 77 9 u NB (iv (flatI (imgOf IP)))) := HIQ
      obtain ⟨QQ, hQQ⟩ : ∃ QQ, ImPost img (m.ev.take n ++ evsC C1) ((m.ev.take n ++ evsC C1).length : Int) [] = QQ := ⟨_, rfl⟩
      rw [hQQ] at HI2 HPQ
      rw [HLN.out] at HI2
      obtain ⟨NL, hNL⟩ : ∃ NL, n + (evsC C1).length = NL := ⟨_, rfl⟩
      rw [hNL] at HI2 ⊢
      clear HS hS HK HUK HIM HIN HRL hel hNL HIQ hQQ
      go_wp2_with fail
      refine HI1.out.mono ?_
      rintro e w8 ⟨hp, hb⟩
      obtain ⟨u, rfl, hx⟩ := HIP.out _ _ _ hp
      have HB8 := Lib.hid (bel_on HBK.out hb)
      have HX8 := Lib.hid (Rd.of_sl hx)
      have HI3 := Lib.hid (HI2.out w8 hb)
      obtain ⟨XA, xcap, rfl, _⟩ := hx.shape
      clear hp hb hx HI1 HI2
      go_wp2_with fail
      refine HI3.out.mono ?_
      rintro e w9 ⟨hp, hb⟩
      obtain ⟨u, rfl, hx⟩ := HPQ.out _ _ _ hp
      have HB9 := Lib.hid (bel_on HB8.out hb)
      have hx9 := HX8.out.below hb
      have hy9 := Rd.of_sl hx
      have HSI := Lib.hid (sameImage_any (imgOf IP) _ _ w9 HOI.out (by rw [HOL.out]; have := HNB5.out; omega) (by rw [HOL.out]; exact hx9) (by rw [HOL.out]; exact hy9))
      obtain ⟨YA, ycap, rfl, _⟩ := hx.shape
      clear hp hb hx hx9 hy9 HI3 HX8
      go_wp2_with fail
      refine HSI.out.mono ?_
      rintro e wt ⟨rfl, hb⟩
      have HBt := Lib.hid (bel_on HB3.out (bel_on HB9.out hb))
      clear hb HSI
      go_wp2_with fail
      go_ret
      exact ⟨rfl, HBt.out⟩
end Go.Proofs.YtpojhplnhppcpaaGreatDoor
