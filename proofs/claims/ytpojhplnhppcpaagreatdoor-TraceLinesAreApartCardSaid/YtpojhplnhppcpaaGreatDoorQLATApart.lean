/-
  TraceLinesAreApart answers true: the walk.
-/
import Derived.Test.YtpojhplnhppcpaaGreatDoorQL9pTApart
import Derived.Test.YtpojhplnhppcpaaGreatDoorQL3TApart
import Derived.Test.YtpojhplnhppcpaaGreatDoorQL4bTApart
import Derived.Test.YtpojhplnhppcpaaGreatDoorQLApTApart
namespace Go.Proofs.YtpojhplnhppcpaaGreatDoor
open Go.RowKit Go.Maps
theorem mix_row {m : PM} {a b : List (Int × Int)} {one : Nat} (ht : Twin a b) (ha : cutsOk m (-1) a = true) (hb : cutsOk m (-1) b = true) {j : Nat} (hj : j < m.L.length) :
    (imgOf (crashP m (mixC one a b)).2)[j]? = if j = one then (imgOf (crashP m b).2)[j]? else (imgOf (crashP m a).2)[j]? := by
  have h : ∀ cs, (imgOf (crashP m cs).2)[j]? = some (((crashP m cs).2.line j).ws, ((crashP m cs).2.line j).code) := fun cs => by
    have hl : j < (crashP m cs).2.L.length := by rw [crash_len]; exact hj
    unfold imgOf PM.line
    rw [List.getElem?_map, List.getD_eq_getElem?_getD, List.getElem?_eq_getElem hl]
    rfl
  rw [h, h, h, mix_line ht ha hb]
  split <;> rfl
theorem mix_take {one : Int} : ∀ {a b : List (Int × Int)} {j : Nat}, Twin a b → (hj : j < a.length) → (hb : j < b.length) → mixC one (a.take (j + 1)) (b.take (j + 1)) = mixC one (a.take j) (b.take j) ++ [if a[j].1 = one then b[j] else a[j]]
  | x :: a, y :: b, 0, _, _, _ => by
    rw [List.take_succ_cons, List.take_succ_cons, List.take_zero, List.take_zero, List.take_zero, List.take_zero]
    rfl
  | x :: a, y :: b, j + 1, h, hj, hb => by
    rw [List.take_succ_cons, List.take_succ_cons, List.take_succ_cons, List.take_succ_cons]
    show (if x.1 = one then y else x) :: mixC one (a.take (j + 1)) (b.take (j + 1)) = (if x.1 = one then y else x) :: mixC one (a.take j) (b.take j) ++ _
    rw [mix_take h.2 (by simpa using hj) (by simpa using hb)]
    rfl
  | [], _, _, _, hj, _ => by simp at hj
  | _ :: _, [], _, h, _, _ => h.elim
theorem flatS_put {V r : List (Int × Int)} {c d : Int × Int} : ((iv (flatS (V ++ c :: r))).set (V.length * 2) (.int .i64 d.1)).set (V.length * 2 + 1) (.int .i64 d.2) = iv (flatS (V ++ d :: r)) := by
  have e : ∀ y : Int × Int, iv (flatS (V ++ y :: r)) = iv (flatS V) ++ (Value.int .i64 y.1 :: Value.int .i64 y.2 :: iv (flatS r)) := fun y => by simp [flatS, iv]
  have hl : (iv (flatS V)).length = V.length * 2 := by rw [iv_len, flatS_len]
  rw [e, e, List.set_append_right _ _ (by omega), List.set_append_right _ _ (by omega), hl, Nat.sub_self, show V.length * 2 + 1 - V.length * 2 = 1 by omega]
  rfl
theorem twin_take : ∀ {a b : List (Int × Int)} (j : Nat), Twin a b → Twin (a.take j) (b.take j)
  | [], [], j, _ => by simp [Twin]
  | x :: a, y :: b, 0, _ => trivial
  | x :: a, y :: b, j + 1, h => ⟨h.1, twin_take j h.2⟩
  | [], _ :: _, _, h => h.elim
  | _ :: _, [], _, h => h.elim
set_option maxRecDepth 100000 in
set_option maxHeartbeats 16000000 in
set_option linter.unusedSimpArgs false in
theorem lawTApart (v lv : Value) (img : List (List Int × Int)) (xs : List POp) (z : Int) (x y y4 : Int) (w : World) (hi : ImgI img) (hs : Rd w v img.length (iv (flatI img))) (hsc : Script w lv xs) (hz : I64 z) (hxy : (0 ≤ x ∧ x < 4294967296) ∧ (0 ≤ y ∧ y < 4294967296)) (h4 : 0 ≤ y4 ∧ y4 < 256) (hT : TabA w) :
    Calls Tryz.prog 12 #[v, lv, .int .i64 z, .agg #[.int .u32 x, .int .u32 y], .int .u8 y4] w fun e w' => e = .returned (.bool true) ∧ Below w.heap.size w w' := by
  have h8 : ∀ x ∈ img, x.1.length = 8 := fun x hx => (hi x hx).1
  obtain ⟨⟨x0, x1⟩, y0, y1⟩ := hxy
  obtain ⟨ln, rfl⟩ : ∃ ln : Nat, y4 = (ln : Int) := ⟨y4.toNat, by omega⟩
  obtain ⟨a, rfl⟩ : ∃ a : Nat, x = (a : Int) := ⟨x.toNat, by omega⟩
  obtain ⟨b, rfl⟩ : ∃ b : Nat, y = (b : Int) := ⟨y.toNat, by omega⟩
  have hb0 := bel_new w (.cells #[.int .u32 (a : Int), .int .u32 (b : Int)] 73)
  have HK0 := Lib.hid (Arr.new w [.int .u32 (a : Int), .int .u32 (b : Int)] 73)
  have HT := Lib.hid hT
  have HD := Lib.hid hs
  have H8 := Lib.hid h8
  have HZI := Lib.hid hz
  have HXO : Hid (∀ x ∈ xs, x.Ok) := Lib.hid (by obtain ⟨_, _, _, h, _⟩ := hsc; exact h)
  have HPL := Lib.hid fun w1 (hb : Below w.heap.size w w1) => played_any img xs v lv w1 h8 (hs.below hb) (hsc.keep hb) (hT.keep hb).tab
  obtain ⟨A, cap, rfl, _⟩ := hs
  obtain ⟨_, _, ⟨A2, cap2, rfl, _⟩, _⟩ := hsc
  obtain ⟨W0, hW0⟩ : ∃ W0, w.alloc (.cells #[.int .u32 (a : Int), .int .u32 (b : Int)] 73) = W0 := ⟨_, rfl⟩
  change Hid (Arr (w.alloc (.cells #[.int .u32 (a : Int), .int .u32 (b : Int)] 73)) w.heap.size 73 [.int .u32 (a : Int), .int .u32 (b : Int)]) at HK0
  rw [hW0] at hb0 HK0
  have HB0 := Lib.hid hb0
  have HW0 := Lib.hid hW0
  have HS := Lib.hid (tsanity_any W0 (hT.keep hb0))
  clear hi h8 hT hz hW0 hb0
  go_enter Tryz.func12, Tryz.ntmps12
  go_wp2_with fail
  rw [HW0.out]
  refine HS.out.mono ?_
  rintro e w1 ⟨rfl, hb⟩
  have HB1 := Lib.hid (bel_on HB0.out hb)
  have HK1 := Lib.hid (HK0.out.keep hb)
  have HP1 := Lib.hid (HPL.out w1 HB1.out)
  clear hb HS HPL HK0
  go_wp2_with fail
  refine HP1.out.mono ?_
  rintro e w2 ⟨hp, hb⟩
  have HB2 := Lib.hid (bel_on HB1.out hb)
  have HK2 := Lib.hid (HK1.out.keep hb)
  clear hb HP1 HB1 HK1
  rcases hp with ⟨_, rfl⟩ | ⟨hM, hN, hrb, p, rfl, hrp, hmo, hms, hml⟩
  · go_wp2_with fail
    go_ret
    exact ⟨rfl, HB2.out⟩
  have HRE : Hid (Replays img (playsP (fromP img) xs)) := Lib.hid (by
    obtain ⟨f1, f2, _⟩ := fromP_ok H8.out hrb
    exact plays_replays xs (Replays.from_ img) f1 f2 HXO.out)
  obtain ⟨m, hm⟩ : ∃ m, playsP (fromP img) xs = m := ⟨_, rfl⟩
  rw [hm] at hrp hmo hms hml HRE
  have HEI : Hid (EvI m.ev) := Lib.hid hmo.evs
  have HEL : Hid (m.ev.length ≤ 80) := Lib.hid hms.ev
  have HRB := Lib.hid hrb
  have HEV := Lib.hid (events_any p m (New w1 w2) w2 (by have := hms.ev; omega) hrp)
  have hn80 := hms.ev
  obtain ⟨s, hs9⟩ := HRE.out.run
  clear hrp hmo hms hrb hm hml HXO s hs9
  go_wp2_with fail
  refine HEV.out.mono ?_
  rintro e w3 ⟨ev, rfl, hsl, how, hb⟩
  have HB3 := Lib.hid (bel_on HB2.out hb)
  have HK3 := Lib.hid (HK2.out.keep hb)
  have HE3 := Lib.hid (Sl.rd0 hsl)
  obtain ⟨EA, ecap, rfl, _⟩ := hsl.shape
  obtain ⟨n, hn9⟩ : ∃ n, pointP m.ev.length z = n := ⟨_, rfl⟩
  have hnl : n ≤ m.ev.length := by rw [← hn9]; exact point_le _ _
  have hat := atE_of HRE.out HRB.out hnl
  obtain ⟨gM1, gM2, gM3⟩ := at_good H8.out HEI.out (show m.ev.length ≤ 400 by omega) hat
  have ha64 : I64 (a : Int) := by unfold I64; omega
  have hb64 : I64 (b : Int) := by unfold I64; omega
  have HPT := Lib.hid (point_any EA m.ev.length ecap z w3 (by omega) HZI.out)
  rw [hn9] at HPT
  have HC1 := Lib.hid fun w' (hb : Below w3.heap.size w3 w') => tchoice_any img m.ev (n : Int) (a : Int) _ _ w' H8.out (by omega) (HD.out.below (bel_on HB3.out hb)) HEI.out (by omega) (HE3.out.below hb) (HT.out.keep (bel_on HB3.out hb)).tab ha64
  have HC2 := Lib.hid fun w' (hb : Below w3.heap.size w3 w') => tchoice_any img m.ev (n : Int) (b : Int) _ _ w' H8.out (by omega) (HD.out.below (bel_on HB3.out hb)) HEI.out (by omega) (HE3.out.below hb) (HT.out.keep (bel_on HB3.out hb)).tab hb64
  obtain ⟨cI, cL⟩ := choE_I (n := (n : Int)) (k := (a : Int)) H8.out HEI.out (by omega) ha64 (by omega)
  obtain ⟨dI, dL⟩ := choE_I (n := (n : Int)) (k := (b : Int)) H8.out HEI.out (by omega) hb64 (by omega)
  have HIM := Lib.hid fun cs w' cv (hb : Below w3.heap.size w3 w') (hc : Rd w' cv cs.length (iv (flatS cs))) (hcI : ∀ c ∈ cs, I64 c.1 ∧ I64 c.2) => timage_any img m.ev (n : Int) cs _ _ cv w' H8.out (by omega) (HD.out.below (bel_on HB3.out hb)) HEI.out (by omega) (HE3.out.below hb) hc hcI (HT.out.keep (bel_on HB3.out hb)).tab
  have hc1 : choE img m.ev (n : Int) (a : Int) = chosenP (atP img m.ev (n : Int)) (a : Int) := by unfold choE; rw [if_pos hat]
  have hc2 : choE img m.ev (n : Int) (b : Int) = chosenP (atP img m.ev (n : Int)) (b : Int) := by unfold choE; rw [if_pos hat]
  obtain ⟨M, hM⟩ : ∃ M, atP img m.ev (n : Int) = M := ⟨_, rfl⟩
  rw [hM] at hc1 hc2 gM1 gM2 gM3
  have htw : Twin (chosenP M (a : Int)) (chosenP M (b : Int)) := choP_twin M.L 0 _ _
  have hk1 := cho_ok M (a : Int)
  have hk2 := cho_ok M (b : Int)
  rw [← hc1, ← hc2] at htw
  rw [← hc1] at hk1
  rw [← hc2] at hk2
  have hgood : ∀ cs, cutsOk M (-1) cs = true → (crashP M cs).2.Ok ∧ (crashP M cs).2.L.length = img.length := fun cs h => ⟨(crash_good gM1 gM3 cs).1, (crash_len _ _).trans gM2⟩
  have HIP : Hid (∀ cs w e w', ImPost img m.ev (n : Int) cs w e w' → cutsOk M (-1) cs = true → ∃ u, e = .returned (.tuple #[u, .int .i64 0]) ∧ Sl w' 77 9 u img.length (iv (flatI (imgOf (crashP M cs).2))) ∧ ∀ q, u.ownBlock = some q → w.heap.size ≤ q) := Lib.hid fun cs w e w' h hk => by
    unfold ImPost at h
    have hie : imgE img m.ev (n : Int) cs = 0 := by
      unfold imgE
      rw [if_pos hat, hM]
      exact crash_zero hk
    have hip : imgP img m.ev (n : Int) cs = (crashP M cs).2 := by unfold imgP; rw [hM]
    rw [hie, hip] at h
    rcases h with ⟨h1, _⟩ | ⟨_, u, h2, h3, h4⟩
    · exact absurd rfl h1
    · refine ⟨u, h2, ?_, h4⟩
      rw [imgOf_flat, ← (hgood cs hk).2]
      exact h3
  obtain ⟨IPO, hIPO⟩ : ∃ IPO, ImPost img m.ev (n : Int) = IPO := ⟨_, rfl⟩
  rw [hIPO] at HIM HIP
  rw [hat] at HC1 HC2
  obtain ⟨C1, hC1⟩ : ∃ C1, choE img m.ev (n : Int) (a : Int) = C1 := ⟨_, rfl⟩
  obtain ⟨C2, hC2⟩ : ∃ C2, choE img m.ev (n : Int) (b : Int) = C2 := ⟨_, rfl⟩
  rw [hC1] at HC1 htw hk1 cI cL
  rw [hC2] at HC2 htw hk2 dI dL
  obtain ⟨EL, hEL⟩ : ∃ EL, m.ev.length = EL := ⟨_, rfl⟩
  rw [hEL] at HPT HC1 HC2 HIM
  rw [hEL]
  obtain ⟨NB, hNB⟩ : ∃ NB, img.length = NB := ⟨_, rfl⟩
  have hNB0 : 0 < NB := by
    have := HRB.out
    unfold rightB at this
    rw [Bool.and_eq_true, decide_eq_true_iff] at this
    omega
  rw [hNB] at HC1 HC2 HIM HIP gM2 hgood ⊢
  obtain ⟨one, hone⟩ : ∃ one, ln % NB = one := ⟨_, rfl⟩
  have HONE : Hid (one < NB) := Lib.hid (by rw [← hone]; exact Nat.mod_lt _ hNB0)
  have HGD := Lib.hid hgood
  have HTW := Lib.hid htw
  have HKA := Lib.hid hk1
  have HKB := Lib.hid hk2
  have HCI := Lib.hid cI
  have HDI := Lib.hid dI
  have HROW := Lib.hid fun (j : Nat) (hj : j < NB) => mix_row (m := M) (one := one) htw hk1 hk2 (j := j) (by rw [gM2]; exact hj)
  have HMK := Lib.hid (mix_ok (one := (one : Int)) htw hk1 hk2)
  have HMI : Hid (∀ c ∈ mixC (one : Int) C1 C2, I64 c.1 ∧ I64 c.2) := Lib.hid fun c hc => by
    rcases mix_mem hc with h | h
    · exact cI c h
    · exact dI c h
  obtain ⟨CN, hCN⟩ : ∃ CN, C1.length = CN := ⟨_, rfl⟩
  have HCN := Lib.hid hCN
  have HCN2 : Hid (C2.length = CN) := Lib.hid (htw.len.symm.trans hCN)
  have HMN : Hid ((mixC (one : Int) C1 C2).length = CN) := Lib.hid ((mixC_len htw).trans hCN)
  have hwa : IntKind.i64.wrap (a : Int) = (a : Int) := by rw [i64_wraps]; omega
  have hwb : IntKind.i64.wrap (b : Int) = (b : Int) := by rw [i64_wraps]; omega
  have hwl : IntKind.i64.wrap (ln : Int) = (ln : Int) := by rw [i64_wraps]; omega
  have hbz : ¬ (NB : Int) = 0 := by omega
  have hbn : ¬ NB = 0 := by omega
  have ho1 : Int.tmod (ln : Int) (NB : Int) = (one : Int) := by rw [Int.tmod_eq_emod_of_nonneg (by omega), ← hone]; exact (Int.natCast_emod ln NB).symm
  have ho2 : IntKind.i64.wrap (Int.tmod (ln : Int) (NB : Int)) = (one : Int) := by
    rw [ho1, i64_wraps]
    have := Nat.mod_le ln NB
    omega
  have ho3 : (ln : Int) % (NB : Int) = (one : Int) := by rw [← hone]; exact (Int.natCast_emod ln NB).symm
  have hCN9 : CN ≤ 5000 := by omega
  have HNB5 : Hid (NB ≤ 12) := Lib.hid (by omega)
  rw [hCN] at HC1
  rw [HCN2.out] at HC2
  clear hb how HEV HB2 HK2 gM1 gM2 gM3 ha64 hb64 cI cL dI dL hc1 hc2 hIPO hC1 hC2 hat hn9 hnl hn80 hsl x0 x1 y0 y1 hgood htw hk1 hk2 hCN hM hone h4
  clear hEL hNB hN
  go_wp2_with fail
  refine HPT.out.mono ?_
  rintro e w4 ⟨rfl, hb⟩
  have HB4 := Lib.hid hb
  have H5 := Lib.hid (HC1.out w4 hb)
  have HK5 := Lib.hid (HK3.out.keep hb)
  have e0 := HK5.out.cell (j := 0) (u := .int .u32 (a : Int)) rfl
  have e1 := HK5.out.cell (j := 1) (u := .int .u32 (b : Int)) rfl
  clear hb HPT HC1
  go_wp2_with fail
  refine H5.out.mono ?_
  rintro e w6 ⟨⟨u, rfl, hu, _⟩, hb⟩
  have HB6 := Lib.hid (bel_on HB4.out hb)
  have HU6 := Lib.hid (Sl.rd0 hu)
  have H6 := Lib.hid (HC2.out w6 HB6.out)
  have e0' := cell_below hb e0
  have e1' := cell_below hb e1
  obtain ⟨UA, ucap, rfl, hu1, hu2, _⟩ := hu.shape
  clear hb hu H5 HC2 e0 e1
  go_wp2_with fail
  refine H6.out.mono ?_
  rintro e w7 ⟨⟨u, rfl, hu, _⟩, hb⟩
  have HB7 := Lib.hid (bel_on HB6.out hb)
  have HU7 := Lib.hid (HU6.out.below hb)
  have HV7 := Lib.hid (Sl.rd0 hu)
  obtain ⟨VA, vcap, rfl, hv1, hv2, _⟩ := hu.shape
  clear hb hu H6 e0' e1' HU6
  have hE4 := bel_new w7 (.cells #[] 48)
  have hEA := Arr.new w7 [] 48
  obtain ⟨wE, hwE⟩ : ∃ wE, w7.alloc (.cells #[] 48) = wE := ⟨_, rfl⟩
  change Arr (w7.alloc (.cells #[] 48)) w7.heap.size 48 [] at hEA
  rw [hwE] at hE4 hEA
  have HSE : Hid (Sl wE 48 2 (.slice (some ⟨w7.heap.size, 0, none⟩) 0 0) 0 []) := Lib.hid (hEA.sl rfl (by decide))
  have HUE := Lib.hid (HU7.out.below hE4)
  have HVE := Lib.hid (HV7.out.below hE4)
  have HBE := Lib.hid (bel_on HB7.out hE4)
  have HSZ : Hid (w3.heap.size ≤ w7.heap.size) := Lib.hid HB7.out.size
  have HUQ : Hid (∀ q, 0 < CN → (Value.slice UA CN ucap).ownBlock = some q → q < w7.heap.size) := Lib.hid fun q hn hq => HU7.out.lt hn hq
  have HVQ : Hid (∀ q, 0 < CN → (Value.slice VA CN vcap).ownBlock = some q → q < w7.heap.size) := Lib.hid fun q hn hq => HV7.out.lt hn hq
  obtain ⟨eb, heb⟩ : ∃ eb, w7.heap.size = eb := ⟨_, rfl⟩
  rw [heb] at HSE HSZ HUQ HVQ
  obtain ⟨i0, hi0, hz0, hz1, hz2⟩ := info_parts infoCut
  have HI0 := Lib.hid hi0
  have HZ0 := Lib.hid hz0
  have HZ1 := Lib.hid hz1
  have HZ2 := Lib.hid hz2
  have hl2 : (iv (flatS C1)).length = CN * 2 := by rw [iv_len, flatS_len, HCN.out]
  have HL2 := Lib.hid hl2
  have HUE2 : Hid (Rd wE (.slice UA CN ucap) CN (iv (flatS C1))) := HUE
  clear hE4 hEA HU7 HV7 hi0 hz0 hz1 hz2 hl2
  go_wp2_with (at_builtin; (refine wpList_append_rd rfl _ _ 46 rfl 48 i0 _ 2 16 Tryz.underlying46 HI0.out HZ0.out HZ1.out HZ2.out rfl (by decide) (.slice (some ⟨eb, 0, none⟩) 0 0) 0 [] rfl HSE.out (.slice UA CN ucap) CN (iv (flatS C1)) rfl HUE2.out HL2.out (iv_one _) (by unfold maxLen; omega) (by omega) ?_); intro v' wF h1 h2 h3; refine Hid.out ?_)
  refine Lib.hid ?_
  rw [Nat.zero_add, List.nil_append] at h1
  have hsE : eb ≤ wE.heap.size := by rw [← hwE, ← heb]; simp
  have kF : Kept (fun q => q = eb) wE wF := Kept.of_grown h2 fun q hq => by simpa [Value.ownBlock] using hq.symm
  have HBF : Hid (Below w3.heap.size w3 wF) := Lib.hid (HBE.out.trans (kF.below (fun q _ hq => by have := HSZ.out; omega) HBE.out.size))
  have HMQ : Hid (∀ q, v'.ownBlock = some q → eb ≤ q) := Lib.hid fun q hq => by
    rcases h3 with h3 | h3
    · rw [hq] at h3
      simp only [Value.ownBlock, Option.some.injEq] at h3
      omega
    · rw [hq] at h3
      simp only [Option.some.injEq] at h3
      omega
  have HUF : Hid (Rd wF (.slice UA CN ucap) CN (iv (flatS C1))) := Lib.hid (HUE2.out.keep kF.size fun q hn hq => kF.block q (by have := HUQ.out q hn hq; omega) (by have := HUQ.out q hn hq; omega))
  have HVF : Hid (Rd wF (.slice VA CN vcap) CN (iv (flatS C2))) := Lib.hid (HVE.out.keep kF.size fun q hn hq => kF.block q (by have := HVQ.out q hn hq; omega) (by have := HVQ.out q hn hq; omega))
  have HM0 : Hid (Sl wF 48 2 v' CN (iv (flatS (mixC (one : Int) (C1.take 0) (C2.take 0) ++ C1.drop 0)))) := Lib.hid h1
  have HK0 : Hid (Kept (fun q => eb ≤ q) wF wF) := Lib.hid (Kept.refl _ _)
  obtain ⟨MA, mcap, rfl, hm1, hm2, hm0, hms⟩ := h1.shape
  have HMN0 : Hid (MA = none → CN = 0) := Lib.hid fun h => (hm0 h).1
  have HMS : Hid (∀ ad, MA = some ad → ad.spot = none ∧ (Value.slice MA CN mcap).ownBlock = some ad.block) := Lib.hid fun ad h => ⟨(hms ad h).1, (hms ad h).2.1⟩
  have hm3 : mcap ≤ 9223372036854775807 := by unfold maxLen at hm2; omega
  clear h1 h2 h3 kF hm0 hms hm2 hsE HSE HUE2 HVE HBE HUE hwE
  go_wp2_with fail
  go_loopw [21] (fun i wr => ∃ j : Nat, i = .int .i64 (j : Int) ∧ j ≤ CN ∧ Hid (Sl wr 48 2 (.slice MA CN mcap) CN (iv (flatS (mixC (one : Int) (C1.take j) (C2.take j) ++ C1.drop j)))) ∧ Hid (Kept (fun q => eb ≤ q) wF wr)) (fun i _ => CN - (intOf i).toNat)
  case atStart => exact ⟨0, rfl, by omega, HM0, HK0⟩
  case round =>
    clear HM0 HK0
    obtain ⟨j, rfl, hj, HS, HK⟩ := hrel
    have HBK : Hid (Below w3.heap.size w3 wr) := Lib.hid (HBF.out.trans (HK.out.below (fun q _ hq => by have := HSZ.out; omega) HBF.out.size))
    have HUK : Hid (Rd wr (.slice UA CN ucap) CN (iv (flatS C1))) := Lib.hid (HUF.out.keep HK.out.size fun q hn hq => HK.out.block q (HUF.out.lt hn hq) (by have := HUQ.out q hn hq; omega))
    have HVK : Hid (Rd wr (.slice VA CN vcap) CN (iv (flatS C2))) := Lib.hid (HVF.out.keep HK.out.size fun q hn hq => HK.out.block q (HVF.out.lt hn hq) (by have := HVQ.out q hn hq; omega))
    by_cases hlt : j < CN
    · have hjI : (j : Int) < (CN : Int) := by omega
      have hj1 : j < C1.length := by rw [HCN.out]; exact hlt
      have hj2 : j < C2.length := by rw [HCN2.out]; exact hlt
      cases MA with
      | none => exact absurd (HMN0.out rfl) (by omega)
      | some ad =>
      obtain ⟨hsp, hob⟩ := HMS.out ad rfl
      obtain ⟨mb, mo, sp⟩ := ad
      simp only at hsp hob
      subst hsp
      have HML : Hid ((mixC (one : Int) (C1.take j) (C2.take j)).length = j) := Lib.hid (by
        rw [mixC_len (twin_take j HTW.out), List.length_take]
        omega)
      have hlen : j < (mixC (one : Int) (C1.take j) (C2.take j) ++ C1.drop j).length := by
        rw [List.length_append, HML.out, List.length_drop]
        omega
      have hget : (mixC (one : Int) (C1.take j) (C2.take j) ++ C1.drop j)[j] = C1[j] := by
        rw [List.getElem_append_right (by rw [HML.out]; exact Nat.le_refl _)]
        simp [HML.out]
      obtain ⟨cl0, cl1⟩ := rd_get hlen (HS.out.cells rfl)
      rw [hget] at cl0 cl1
      obtain ⟨_, _, hv9, _, _, hvr⟩ := HVK.out
      simp only [Value.slice.injEq, true_and] at hv9
      obtain ⟨hv10, hv11⟩ := hv9
      obtain ⟨bb, oo, hva, hbl, hcells⟩ := hvr (by omega)
      obtain rfl := hv10.trans hva
      obtain ⟨d0, d1⟩ := rd_get hj2 hcells
      clear hv10 hva
      have hmx := mix_take (one := (one : Int)) HTW.out hj1 hj2
      have hdr : C1.drop j = C1[j] :: C1.drop (j + 1) := drop_cons hj1
      have HS0 := HS.out
      rw [hdr] at HS0
      have fr0 := HS.out.free hob (mo + j * 2)
      have fr1 := HS.out.free hob (mo + j * 2 + 1)
      generalize C1[j] = c at *
      generalize C2[j] = d at *
      obtain ⟨c1, c2⟩ := c
      obtain ⟨q1, q2⟩ := d
      simp only at cl0 cl1 d0 d1 hmx
      obtain ⟨V, hV⟩ : ∃ V, mixC (one : Int) (C1.take j) (C2.take j) = V := ⟨_, rfl⟩
      rw [hV] at HS0 HML hmx
      have HMX := Lib.hid hmx
      by_cases hco : c1 = (one : Int)
      · subst hco
        have hmx2 : mixC (one : Int) (C1.take (j + 1)) (C2.take (j + 1)) = V ++ [(q1, q2)] := by rw [HMX.out, if_pos rfl]
        have hS1 := (HS0.set (j * 2) (.int .i64 q1)).set (j * 2 + 1) (.int .i64 q2)
        rw [← HML.out, flatS_put (c := ((one : Int), c2)) (d := (q1, q2)), HML.out, ← Nat.add_assoc] at hS1
        have HS1 : Hid (Sl ((wr.setCell ⟨mb, mo + j * 2, none⟩ (.int .i64 q1)).setCell ⟨mb, mo + j * 2 + 1, none⟩ (.int .i64 q2)) 48 2 (.slice (some ⟨mb, mo, none⟩) CN mcap) CN (iv (flatS (mixC (one : Int) (C1.take (j + 1)) (C2.take (j + 1)) ++ C1.drop (j + 1))))) := Lib.hid (by
          rw [hmx2, List.append_assoc]
          exact hS1)
        have HK1 : Hid (Kept (fun q => eb ≤ q) wF ((wr.setCell ⟨mb, mo + j * 2, none⟩ (.int .i64 q1)).setCell ⟨mb, mo + j * 2 + 1, none⟩ (.int .i64 q2))) := Lib.hid (HK.out.then_ ((Kept.setCell wr (a := ⟨mb, mo + j * 2, none⟩) _ (HMQ.out mb hob)).then_ (Kept.setCell _ (a := ⟨mb, mo + j * 2 + 1, none⟩) _ (HMQ.out mb hob))))
        clear HS0 hS1 hmx hmx2 hV hdr hget hlen hcells hvr hv11 HS HK hob
        go_wp2_with fail
        go_roundw
        case rel => exact ⟨j + 1, by simp, by omega, HS1, HK1⟩
        case measure => simp [intOf]; omega
      · have hcn : (c1 == (one : Int)) = false := by rw [beq_eq_false_iff_ne]; exact hco
        have hmx2 : mixC (one : Int) (C1.take (j + 1)) (C2.take (j + 1)) = V ++ [(c1, c2)] := by rw [HMX.out, if_neg hco]
        have HS1 : Hid (Sl wr 48 2 (.slice (some ⟨mb, mo, none⟩) CN mcap) CN (iv (flatS (mixC (one : Int) (C1.take (j + 1)) (C2.take (j + 1)) ++ C1.drop (j + 1))))) := Lib.hid (by
          rw [hmx2, List.append_assoc]
          exact HS0)
        clear HS0 hmx hmx2 hV hdr hget hlen hcells hvr hv11 HS hob hco
        go_wp2_with fail
        go_roundw
        case rel => exact ⟨j + 1, by simp, by omega, HS1, HK⟩
        case measure => simp [intOf]; omega
    · obtain rfl : j = CN := by omega
      have hjI : ¬ (j : Int) < (j : Int) := by omega
      have HMX : Hid (Rd wr (.slice MA j mcap) (mixC (one : Int) C1 C2).length (iv (flatS (mixC (one : Int) C1 C2)))) := Lib.hid (by
        have h := HS.out
        rw [List.take_of_length_le (by rw [HCN.out]; exact Nat.le_refl _), List.take_of_length_le (by rw [HCN2.out]; exact Nat.le_refl _), List.drop_of_length_le (by rw [HCN.out]; exact Nat.le_refl _), List.append_nil] at h
        rw [HMN.out]
        exact Rd.of_sl h)
      have HI1 := Lib.hid (HIM.out C1 wr (.slice UA j ucap) HBK.out (by rw [HCN.out]; exact HUK.out) HCI.out)
      have HI2 := Lib.hid fun w' (hb : Below wr.heap.size wr w') => HIM.out C2 w' (.slice VA j vcap) (bel_on HBK.out hb) (by rw [HCN2.out]; exact HVK.out.below hb) HDI.out
      have HI3 := Lib.hid fun w' (hb : Below wr.heap.size wr w') => HIM.out (mixC (one : Int) C1 C2) w' (.slice MA j mcap) (bel_on HBK.out hb) (HMX.out.below hb) HMI.out
      clear HS HK HUK HVK HIM
      go_wp2_with fail
      refine HI1.out.mono ?_
      rintro e w8 ⟨hp, hb⟩
      obtain ⟨u, rfl, hx, _⟩ := HIP.out _ _ _ _ hp HKA.out
      have HB8 := Lib.hid (bel_on HBK.out hb)
      have HX8 := Lib.hid (Rd.of_sl hx)
      have HI2' := Lib.hid (HI2.out w8 hb)
      have HI3' := Lib.hid fun w' (hb2 : Below w8.heap.size w8 w') => HI3.out w' (bel_on hb hb2)
      obtain ⟨XA, xcap, rfl, hx1, hx2, _⟩ := hx.shape
      have hx3 : xcap ≤ 9223372036854775807 := by unfold maxLen at hx2; omega
      clear hp hb hx hx2 HI1 HI2 HI3
      go_wp2_with fail
      refine HI2'.out.mono ?_
      rintro e w9 ⟨hp, hb⟩
      obtain ⟨u, rfl, hx, _⟩ := HIP.out _ _ _ _ hp HKB.out
      have HB9 := Lib.hid (bel_on HB8.out hb)
      have HX9 := Lib.hid (HX8.out.below hb)
      have HY9 := Lib.hid (Rd.of_sl hx)
      have HI3 := Lib.hid (HI3'.out w9 hb)
      obtain ⟨YA, ycap, rfl, hy1, hy2, _⟩ := hx.shape
      have hy3 : ycap ≤ 9223372036854775807 := by unfold maxLen at hy2; omega
      clear hp hb hx hy2 HI2' HI3' HX8
      go_wp2_with fail
      refine HI3.out.mono ?_
      rintro e wt ⟨hp, hb⟩
      obtain ⟨u, rfl, hx, _⟩ := HIP.out _ _ _ _ hp HMK.out
      have HBt := Lib.hid (bel_on HB9.out hb)
      have HXt := Lib.hid (HX9.out.below hb)
      have HYt := Lib.hid (HY9.out.below hb)
      have HZt := Lib.hid (Rd.of_sl hx)
      obtain ⟨ZA, zcap, rfl, hz1, hz2, _⟩ := hx.shape
      have hz3 : zcap ≤ 9223372036854775807 := by unfold maxLen at hz2; omega
      clear hp hb hx hz2 HI3 HX9 HY9 HIP
      obtain ⟨wo, rfl⟩ : ∃ wo : World, wo = wr := ⟨_, rfl⟩
      have HG1 := HGD.out _ HKA.out
      have HG2 := HGD.out _ HKB.out
      have HG3 := HGD.out _ HMK.out
      have HOX := Lib.hid (imgOf_ok HG1.1)
      have HOY := Lib.hid (imgOf_ok HG2.1)
      have HOZ := Lib.hid (imgOf_ok HG3.1)
      have HLX : Hid ((imgOf (crashP M C1).2).length = NB) := Lib.hid (by unfold imgOf; rw [List.length_map]; exact HG1.2)
      have HLY : Hid ((imgOf (crashP M C2).2).length = NB) := Lib.hid (by unfold imgOf; rw [List.length_map]; exact HG2.2)
      have HLZ : Hid ((imgOf (crashP M (mixC (one : Int) C1 C2)).2).length = NB) := Lib.hid (by unfold imgOf; rw [List.length_map]; exact HG3.2)
      obtain ⟨IX, hIX⟩ : ∃ I, imgOf (crashP M C1).2 = I := ⟨_, rfl⟩
      obtain ⟨IY, hIY⟩ : ∃ I, imgOf (crashP M C2).2 = I := ⟨_, rfl⟩
      obtain ⟨IZ, hIZ⟩ : ∃ I, imgOf (crashP M (mixC (one : Int) C1 C2)).2 = I := ⟨_, rfl⟩
      rw [hIX] at HXt HOX HLX HROW
      rw [hIY] at HYt HOY HLY HROW
      rw [hIZ] at HZt HOZ HLZ HROW
      have hu77 := Tryz.underlying77
      clear hIX hIY hIZ HG1 HG2 HG3 HGD
      go_wp2_with fail
      go_loopw [28] (fun i wr => ∃ k : Nat, i = .int .i64 (k : Int) ∧ k ≤ NB ∧ Hid (Below wt.heap.size wt wr)) (fun i _ => NB - (intOf i).toNat)
      case atStart => exact ⟨0, rfl, by omega, Lib.hid (Below.refl _ _)⟩
      case round =>
        obtain ⟨k, rfl, hk, HB⟩ := hrel
        by_cases hkl : k < NB
        · skip
          have hkI : (k : Int) < (NB : Int) := by omega
          have hxl : k < IX.length := by rw [HLX.out]; exact hkl
          have hyl : k < IY.length := by rw [HLY.out]; exact hkl
          have hzl : k < IZ.length := by rw [HLZ.out]; exact hkl
          obtain ⟨_, _, e1, _, _, r1⟩ := HXt.out
          obtain ⟨_, _, e2, _, _, r2⟩ := HYt.out
          obtain ⟨_, _, e3, _, _, r3⟩ := HZt.out
          simp only [Value.slice.injEq, true_and] at e1 e2 e3
          obtain ⟨f1, zz1⟩ := e1
          obtain ⟨f2, zz2⟩ := e2
          obtain ⟨f3, zz3⟩ := e3
          obtain ⟨xb, xo, g1, xbl, xc⟩ := r1 hNB0
          obtain ⟨yb, yo, g2, ybl, yc⟩ := r2 hNB0
          obtain ⟨zb, zo, g3, zbl, zc⟩ := r3 hNB0
          obtain rfl := f1.trans g1
          obtain rfl := f2.trans g2
          obtain rfl := f3.trans g3
          have HRX : Hid (∀ W, Below wt.heap.size wt W → W.rangeAt xb (xo + k * 9) (iv (IX[k].1 ++ [IX[k].2]))) := Lib.hid fun W hW => imgLine (fun x hx => (HOX.out x hx).1) (fun j u hj => (hW.cell (p := ⟨xb, xo + j, none⟩) xbl).trans (xc j u hj)) hxl
          have HRY : Hid (∀ W, Below wt.heap.size wt W → W.rangeAt yb (yo + k * 9) (iv (IY[k].1 ++ [IY[k].2]))) := Lib.hid fun W hW => imgLine (fun x hx => (HOY.out x hx).1) (fun j u hj => (hW.cell (p := ⟨yb, yo + j, none⟩) ybl).trans (yc j u hj)) hyl
          have HRZ : Hid (∀ W, Below wt.heap.size wt W → W.rangeAt zb (zo + k * 9) (iv (IZ[k].1 ++ [IZ[k].2]))) := Lib.hid fun W hW => imgLine (fun x hx => (HOZ.out x hx).1) (fun j u hj => (hW.cell (p := ⟨zb, zo + j, none⟩) zbl).trans (zc j u hj)) hzl
          have hrow := HROW.out k hkl
          rw [List.getElem?_eq_getElem hxl, List.getElem?_eq_getElem hyl, List.getElem?_eq_getElem hzl] at hrow
          obtain ⟨x8, xI, xI2⟩ := HOX.out _ (List.getElem_mem hxl)
          obtain ⟨y8, yI, yI2⟩ := HOY.out _ (List.getElem_mem hyl)
          have heX := fun w => eq_line68 IX[k].1 IX[k].2 x8 xI xI2 w
          have heY := fun w => eq_line68 IY[k].1 IY[k].2 y8 yI yI2 w
          have hx9 : (iv (IX[k].1 ++ [IX[k].2])).length = 9 := by rw [iv_len, List.length_append, x8]; rfl
          have hy9 : (iv (IY[k].1 ++ [IY[k].2])).length = 9 := by rw [iv_len, List.length_append, y8]; rfl
          have hZX : k ≠ one → IZ[k].1 ++ [IZ[k].2] = IX[k].1 ++ [IX[k].2] := fun h => by
            rw [if_neg h] at hrow
            have := Option.some.inj hrow
            rw [this]
          have hZY : k = one → IZ[k].1 ++ [IZ[k].2] = IY[k].1 ++ [IY[k].2] := fun h => by
            rw [if_pos h] at hrow
            have := Option.some.inj hrow
            rw [this]
          have HZX := Lib.hid hZX
          have HZY := Lib.hid hZY
          generalize IZ[k].1 ++ [IZ[k].2] = LZ at *
          generalize IX[k].1 ++ [IX[k].2] = LX at *
          generalize IY[k].1 ++ [IY[k].2] = LY at *
          have HX9 := Lib.hid hx9
          have hix : (Tryz.prog.info? 77).map (·.size) = some (iv LX).length := by rw [size68, hx9]
          have hiy : (Tryz.prog.info? 77).map (·.size) = some (iv LY).length := by rw [size68, hy9]
          have rX := HRX.out wr HB.out
          have HOL := Lib.hid (iv_one LX)
          have HOM := Lib.hid (iv_one LY)
          have HBA := Lib.hid (bel_on HB.out (bel_new wr (.cells (iv LX).toArray 77)))
          have HWA := Lib.hid (Arr.new wr (iv LX) 77)
          have hwbw : wt.heap.size ≤ wr.heap.size := HB.out.size
          clear zz1 zz2 zz3 hrow x8 xI xI2 y8 yI yI2 hx9 hZX hZY xc yc zc r1 r2 r3 f1 f2 f3 g1 g2 g3
          by_cases hko : k = one
          · subst hko
            obtain rfl := HZY.out rfl
            have rY := HRY.out _ HBA.out
            have HLE : Hid ((iv LX).length = (iv LZ).length) := Lib.hid (by rw [HX9.out, hy9])
            have HIY := Lib.hid hiy
            obtain ⟨wb, hwb⟩ : ∃ wb, wr.heap.size = wb := ⟨_, rfl⟩
            have hbel := bel_row (a := wt) (B := wt.heap.size) (g := wb) HBA.out (by omega) (iv LZ).toArray
            have hAR := HWA.out.row (iv LZ)
            rw [hwb] at hAR
            have hS0 : ((wr.alloc (.cells (iv LX).toArray 77)).setRow wb (iv LZ).toArray).drew.rangeAt zb (zo + k * 9) (iv LZ) ∧ ((wr.alloc (.cells (iv LX).toArray 77)).setRow wb (iv LZ).toArray).drew.rangeAt wb 0 (iv LZ) := ⟨HRZ.out _ hbel.drew, hAR.range⟩
            have HBN : Hid (Below wt.heap.size wt ((wr.alloc (.cells (iv LX).toArray 77)).setRow wb (iv LZ).toArray).drew) := Lib.hid hbel.drew
            have HWB := Lib.hid hwb
            clear hbel hAR HZX HZY HRX HRY HRZ heX hwb hwbw hy9
            go_wp2_with (first
              | ((with_reducible refine arm_range 77 xb (xo + k * 9) (iv LX) rX _ hu77 rfl hix rfl _ rfl ?_ ?_); focus rfl)
              | ((with_reducible refine arm_range 77 yb (yo + k * 9) (iv LZ) rY _ hu77 rfl hiy rfl _ rfl ?_ ?_); focus rfl)
              | ((with_reducible refine arm_new 77 (iv LX) 9 ?_ size68 HOL.out _ rfl rfl _ _ rfl ?_ ?_ ?_); (focus (rw [HX9.out])); (focus rfl); (focus rfl))
              | ((with_reducible refine arm_put 77 wr.heap.size 77 _ (iv LZ) HWA.out HIY.out HLE.out HOM.out rfl _ _ rfl ?_ ?_ ?_); (focus rfl); (focus rfl)))
            rw [HWB.out]
            have hi9 := HIY.out
            obtain ⟨L, hL⟩ : ∃ L, LZ = L := ⟨_, rfl⟩
            obtain ⟨Wn, hWn⟩ : ∃ Wn, (wr.alloc (.cells (iv LX).toArray 77)).setRow wb (iv LZ).toArray = Wn := ⟨_, rfl⟩
            rw [hWn] at hS0 HBN ⊢
            subst hL
            have heq := heY
            clear hWn heY
            refine wp_region_held_drew (S := fun W => W.rangeAt zb (zo + k * 9) (iv LZ) ∧ W.rangeAt wb 0 (iv LZ)) (by kernel_rfl) hS0 (fun hHeld => ?_)
            generalize Wn.drew = wd at *
            refine wpAnyH_take (i := 0) (v := .slice (some ⟨zb, zo, none⟩) NB zcap) rfl (by kernel_rfl) (by kernel_rfl) (by kernel_rfl) (fun _ _ _ h => h) (Or.inl ⟨by rfl, fun w hSw => by obtain ⟨h1, h2⟩ := hSw; go_simp⟩) (by assumption) ?_
            change wpAnyH _ _ _ _ _ _ _ (Act.put _ (some 167) _) _
            simp only [Act.put, List.setIfInBounds_toArray, List.set_cons_zero, List.set_cons_succ]
            refine wpAnyH_take (i := 1) (v := .int .i64 (k : Int)) rfl (by kernel_rfl) (by kernel_rfl) (by kernel_rfl) (fun _ _ _ h => h) (Or.inl ⟨by rfl, fun w hSw => by obtain ⟨h1, h2⟩ := hSw; go_simp⟩) (by assumption) ?_
            change wpAnyH _ _ _ _ _ _ _ (Act.put _ (some 168) _) _
            simp only [Act.put, List.setIfInBounds_toArray, List.set_cons_zero, List.set_cons_succ]
            refine wpAnyH_take (i := 2) (v := .pointer (some ⟨zb, zo + k * 9, none⟩)) rfl (by kernel_rfl) (by kernel_rfl) (by kernel_rfl) (fun _ _ _ h => h) (Or.inl ⟨by rfl, fun w hSw => by obtain ⟨h1, h2⟩ := hSw; go_simp⟩) (by assumption) ?_
            change wpAnyH _ _ _ _ _ _ _ (Act.put _ (some 169) _) _
            simp only [Act.put, List.setIfInBounds_toArray, List.set_cons_zero, List.set_cons_succ]
            refine wpAnyH_take (i := 3) (v := .agg (iv LZ).toArray) rfl (by kernel_rfl) (by kernel_rfl) (by kernel_rfl) (fun _ _ _ h => h) (yieldsIf_load_mid (by rfl) _ _ rfl _ _ rfl _ _ (fun w h => h.1) hu77 rfl hi9) (by assumption) ?_
            change wpAnyH _ _ _ _ _ _ _ (Act.put _ (some 170) _) _
            simp only [Act.put, List.setIfInBounds_toArray, List.set_cons_zero, List.set_cons_succ]
            refine wpAnyH_take (i := 4) (v := .agg (iv LZ).toArray) rfl (by kernel_rfl) (by kernel_rfl) (by kernel_rfl) (fun _ _ _ h => h) (yieldsIf_load_mid (by rfl) _ _ rfl _ _ rfl _ _ (fun w h => h.2) hu77 rfl hi9) (by assumption) ?_
            change wpAnyH _ _ _ _ _ _ _ (Act.put _ (some 171) _) _
            simp only [Act.put, List.setIfInBounds_toArray, List.set_cons_zero, List.set_cons_succ]
            refine wpAnyH_take (i := 5) (v := .bool false) rfl (by kernel_rfl) (by kernel_rfl) (by kernel_rfl) (fun _ _ _ h => h) (Or.inl ⟨by rfl, fun w hSw => by obtain ⟨h1, h2⟩ := hSw; go_simp⟩) (by assumption) ?_
            change wpAnyH _ _ _ _ _ _ _ (Act.put _ (some 172) _) _
            simp only [Act.put, List.setIfInBounds_toArray, List.set_cons_zero, List.set_cons_succ]
            refine wpAnyH_done (by kernel_rfl) ?_ _
            go_wp2_with fail
            go_roundw
            case rel => exact ⟨k + 1, by simp, by omega, HBN⟩
            case measure => simp [intOf]; omega
          · obtain rfl := HZX.out hko
            have hkn : ((k : Int) == (one : Int)) = false := by rw [beq_eq_false_iff_ne]; omega
            obtain ⟨wb, hwb⟩ : ∃ wb, wr.heap.size = wb := ⟨_, rfl⟩
            have hAR := HWA.out
            rw [hwb] at hAR
            have hS0 : (wr.alloc (.cells (iv LZ).toArray 77)).drew.rangeAt zb (zo + k * 9) (iv LZ) ∧ (wr.alloc (.cells (iv LZ).toArray 77)).drew.rangeAt wb 0 (iv LZ) := ⟨HRZ.out _ HBA.out.drew, hAR.range⟩
            have HBN : Hid (Below wt.heap.size wt (wr.alloc (.cells (iv LZ).toArray 77)).drew) := Lib.hid HBA.out.drew
            have HWB := Lib.hid hwb
            have hi9 := hix
            have heq := heX
            clear hAR HZX HZY HRX HRY HRZ heX heY hwb hwbw hy9 hko HWA
            go_wp2_with (first
              | ((with_reducible refine arm_range 77 xb (xo + k * 9) (iv LZ) rX _ hu77 rfl hix rfl _ rfl ?_ ?_); focus rfl)
              | ((with_reducible refine arm_new 77 (iv LZ) 9 ?_ size68 HOL.out _ rfl rfl _ _ rfl ?_ ?_ ?_); (focus (rw [HX9.out])); (focus rfl); (focus rfl)))
            rw [HWB.out]
            obtain ⟨Wn, hWn⟩ : ∃ Wn, wr.alloc (.cells (iv LZ).toArray 77) = Wn := ⟨_, rfl⟩
            rw [hWn] at hS0 HBN ⊢
            clear hWn
            refine wp_region_held_drew (S := fun W => W.rangeAt zb (zo + k * 9) (iv LZ) ∧ W.rangeAt wb 0 (iv LZ)) (by kernel_rfl) hS0 (fun hHeld => ?_)
            generalize Wn.drew = wd at *
            refine wpAnyH_take (i := 0) (v := .slice (some ⟨zb, zo, none⟩) NB zcap) rfl (by kernel_rfl) (by kernel_rfl) (by kernel_rfl) (fun _ _ _ h => h) (Or.inl ⟨by rfl, fun w hSw => by obtain ⟨h1, h2⟩ := hSw; go_simp⟩) (by assumption) ?_
            change wpAnyH _ _ _ _ _ _ _ (Act.put _ (some 167) _) _
            simp only [Act.put, List.setIfInBounds_toArray, List.set_cons_zero, List.set_cons_succ]
            refine wpAnyH_take (i := 1) (v := .int .i64 (k : Int)) rfl (by kernel_rfl) (by kernel_rfl) (by kernel_rfl) (fun _ _ _ h => h) (Or.inl ⟨by rfl, fun w hSw => by obtain ⟨h1, h2⟩ := hSw; go_simp⟩) (by assumption) ?_
            change wpAnyH _ _ _ _ _ _ _ (Act.put _ (some 168) _) _
            simp only [Act.put, List.setIfInBounds_toArray, List.set_cons_zero, List.set_cons_succ]
            refine wpAnyH_take (i := 2) (v := .pointer (some ⟨zb, zo + k * 9, none⟩)) rfl (by kernel_rfl) (by kernel_rfl) (by kernel_rfl) (fun _ _ _ h => h) (Or.inl ⟨by rfl, fun w hSw => by obtain ⟨h1, h2⟩ := hSw; go_simp⟩) (by assumption) ?_
            change wpAnyH _ _ _ _ _ _ _ (Act.put _ (some 169) _) _
            simp only [Act.put, List.setIfInBounds_toArray, List.set_cons_zero, List.set_cons_succ]
            refine wpAnyH_take (i := 3) (v := .agg (iv LZ).toArray) rfl (by kernel_rfl) (by kernel_rfl) (by kernel_rfl) (fun _ _ _ h => h) (yieldsIf_load_mid (by rfl) _ _ rfl _ _ rfl _ _ (fun w h => h.1) hu77 rfl hi9) (by assumption) ?_
            change wpAnyH _ _ _ _ _ _ _ (Act.put _ (some 170) _) _
            simp only [Act.put, List.setIfInBounds_toArray, List.set_cons_zero, List.set_cons_succ]
            refine wpAnyH_take (i := 4) (v := .agg (iv LZ).toArray) rfl (by kernel_rfl) (by kernel_rfl) (by kernel_rfl) (fun _ _ _ h => h) (yieldsIf_load_mid (by rfl) _ _ rfl _ _ rfl _ _ (fun w h => h.2) hu77 rfl hi9) (by assumption) ?_
            change wpAnyH _ _ _ _ _ _ _ (Act.put _ (some 171) _) _
            simp only [Act.put, List.setIfInBounds_toArray, List.set_cons_zero, List.set_cons_succ]
            refine wpAnyH_take (i := 5) (v := .bool false) rfl (by kernel_rfl) (by kernel_rfl) (by kernel_rfl) (fun _ _ _ h => h) (Or.inl ⟨by rfl, fun w hSw => by obtain ⟨h1, h2⟩ := hSw; go_simp⟩) (by assumption) ?_
            change wpAnyH _ _ _ _ _ _ _ (Act.put _ (some 172) _) _
            simp only [Act.put, List.setIfInBounds_toArray, List.set_cons_zero, List.set_cons_succ]
            refine wpAnyH_done (by kernel_rfl) ?_ _
            go_wp2_with fail
            go_roundw
            case rel => exact ⟨k + 1, by simp, by omega, HBN⟩
            case measure => simp [intOf]; omega
        · obtain rfl : k = NB := by omega
          have hkI : ¬ (k : Int) < (k : Int) := by omega
          have HBW := Lib.hid (bel_on HB3.out (bel_on HBt.out HB.out))
          go_wp2_with fail
          go_ret
          exact ⟨rfl, HBW.out⟩
end Go.Proofs.YtpojhplnhppcpaaGreatDoor
