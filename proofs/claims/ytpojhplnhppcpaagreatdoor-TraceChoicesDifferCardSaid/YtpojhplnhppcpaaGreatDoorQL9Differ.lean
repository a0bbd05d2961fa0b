/-
  TraceChoicesDiffer answers true: the walk.
-/
import Derived.Test.YtpojhplnhppcpaaGreatDoorQL9pDiffer
import Derived.Test.YtpojhplnhppcpaaGreatDoorQL3Differ
import Derived.Test.YtpojhplnhppcpaaGreatDoorQL4bDiffer
import Derived.Test.YtpojhplnhppcpaaGreatDoorQArgBDiffer
namespace Go.Proofs.YtpojhplnhppcpaaGreatDoor
open Go.RowKit Go.Maps
set_option maxRecDepth 100000 in
set_option maxHeartbeats 16000000 in
set_option linter.unusedSimpArgs false in
theorem lawDiffer (v lv : Value) (img : List (List Int × Int)) (xs : List POp) (z : Int) (x y : Int) (w : World) (hi : ImgI img) (hs : Rd w v img.length (iv (flatI img))) (hsc : Script w lv xs) (hz : I64 z) (hxy : (0 ≤ x ∧ x < 4294967296) ∧ (0 ≤ y ∧ y < 4294967296)) (hT : TabA w) :
    Calls Tryz.prog 11 #[v, lv, .int .i64 z, .agg #[.int .u32 x, .int .u32 y]] w fun e w' => e = .returned (.bool true) ∧ Below w.heap.size w w' := by
  have h8 : ∀ x ∈ img, x.1.length = 8 := fun x hx => (hi x hx).1
  obtain ⟨⟨x0, x1⟩, y0, y1⟩ := hxy
  obtain ⟨a, rfl⟩ : ∃ a : Nat, x = (a : Int) := ⟨x.toNat, by omega⟩
  obtain ⟨b, rfl⟩ : ∃ b : Nat, y = (b : Int) := ⟨y.toNat, by omega⟩
  have hb0 := bel_new w (.cells #[.int .u32 (a : Int), .int .u32 (b : Int)] 73)
  have HK0 := Lib.hid (Arr.new w [.int .u32 (a : Int), .int .u32 (b : Int)] 73)
  have HT := Lib.hid hT
  have HD := Lib.hid hs
  have H8 := Lib.hid h8
  have HZI := Lib.hid hz
  have HXO : Hid (∀ x ∈ xs, x.Ok) := Lib.hid (by obtain ⟨_, _, _, h, _⟩ := hsc; exact h)
  have HPL := Lib.hid fun w1 (hb : Below w.heap.size w w1) => played_any img xs v lv w1 h8 (hs.below hb) (hsc.keep hb) (hT.keep hb).tab
  obtain ⟨A, cap, rfl, _⟩ := hs
  obtain ⟨_, _, ⟨A2, cap2, rfl, _⟩, _⟩ := hsc
  obtain ⟨W0, hW0⟩ : ∃ W0, w.alloc (.cells #[.int .u32 (a : Int), .int .u32 (b : Int)] 73) = W0 := ⟨_, rfl⟩
  change Hid (Arr (w.alloc (.cells #[.int .u32 (a : Int), .int .u32 (b : Int)] 73)) w.heap.size 73 [.int .u32 (a : Int), .int .u32 (b : Int)]) at HK0
  rw [hW0] at hb0 HK0
  have HB0 := Lib.hid hb0
  have HW0 := Lib.hid hW0
  have HS := Lib.hid (tsanity_any W0 (hT.keep hb0))
  clear hi h8 hT hz hW0 hb0
  go_enter Tryz.func11, Tryz.ntmps11
  go_wp2_with fail
  rw [HW0.out]
  refine HS.out.mono ?_
  rintro e w1 ⟨rfl, hb⟩
  have HB1 := Lib.hid (bel_on HB0.out hb)
  have HK1 := Lib.hid (HK0.out.keep hb)
  have HP1 := Lib.hid (HPL.out w1 HB1.out)
  clear hb HS HPL HK0
  go_wp2_with fail
  refine HP1.out.mono ?_
  rintro e w2 ⟨hp, hb⟩
  have HB2 := Lib.hid (bel_on HB1.out hb)
  have HK2 := Lib.hid (HK1.out.keep hb)
  clear hb HP1 HB1 HK1
  rcases hp with ⟨_, rfl⟩ | ⟨hM, hN, hrb, p, rfl, hrp, hmo, hms, hml⟩
  · go_wp2_with fail
    go_ret
    exact ⟨rfl, HB2.out⟩
  have HRE : Hid (Replays img (playsP (fromP img) xs)) := Lib.hid (by
    obtain ⟨f1, f2, _⟩ := fromP_ok H8.out hrb
    exact plays_replays xs (Replays.from_ img) f1 f2 HXO.out)
  obtain ⟨m, hm⟩ : ∃ m, playsP (fromP img) xs = m := ⟨_, rfl⟩
  rw [hm] at hrp hmo hms hml HRE
  have HEI : Hid (EvI m.ev) := Lib.hid hmo.evs
  have HEL : Hid (m.ev.length ≤ 80) := Lib.hid hms.ev
  have HRB := Lib.hid hrb
  have HEV := Lib.hid (events_any p m (New w1 w2) w2 (by have := hms.ev; omega) hrp)
  have hn80 := hms.ev
  obtain ⟨s, hs9⟩ := HRE.out.run
  clear hrp hmo hms hrb hm hml HXO s hs9
  go_wp2_with fail
  refine HEV.out.mono ?_
  rintro e w3 ⟨ev, rfl, hsl, how, hb⟩
  have HB3 := Lib.hid (bel_on HB2.out hb)
  have HK3 := Lib.hid (HK2.out.keep hb)
  have HE3 := Lib.hid (Sl.rd0 hsl)
  obtain ⟨EA, ecap, rfl, _⟩ := hsl.shape
  obtain ⟨n, hn9⟩ : ∃ n, pointP m.ev.length z = n := ⟨_, rfl⟩
  have hnl : n ≤ m.ev.length := by rw [← hn9]; exact point_le _ _
  have hat := atE_of HRE.out HRB.out hnl
  obtain ⟨gM1, gM2, gM3⟩ := at_good H8.out HEI.out (show m.ev.length ≤ 400 by omega) hat
  have ha64 : I64 (a : Int) := by unfold I64; omega
  have hb64 : I64 (b : Int) := by unfold I64; omega
  have HPT := Lib.hid (point_any EA m.ev.length ecap z w3 (by omega) HZI.out)
  rw [hn9] at HPT
  have HCU := Lib.hid fun w' (hb : Below w3.heap.size w3 w') => tcuts_any img m.ev (n : Int) _ _ w' H8.out (by omega) (HD.out.below (bel_on HB3.out hb)) HEI.out (by omega) (HE3.out.below hb) (HT.out.keep (bel_on HB3.out hb)).tab
  have HC1 := Lib.hid fun w' (hb : Below w3.heap.size w3 w') => tchoice_any img m.ev (n : Int) (a : Int) _ _ w' H8.out (by omega) (HD.out.below (bel_on HB3.out hb)) HEI.out (by omega) (HE3.out.below hb) (HT.out.keep (bel_on HB3.out hb)).tab ha64
  have HC2 := Lib.hid fun w' (hb : Below w3.heap.size w3 w') => tchoice_any img m.ev (n : Int) (b : Int) _ _ w' H8.out (by omega) (HD.out.below (bel_on HB3.out hb)) HEI.out (by omega) (HE3.out.below hb) (HT.out.keep (bel_on HB3.out hb)).tab hb64
  obtain ⟨cI, cL⟩ := choE_I (n := (n : Int)) (k := (a : Int)) H8.out HEI.out (by omega) ha64 (by omega)
  obtain ⟨dI, dL⟩ := choE_I (n := (n : Int)) (k := (b : Int)) H8.out HEI.out (by omega) hb64 (by omega)
  have HIM := Lib.hid fun w' cv (hb : Below w3.heap.size w3 w') (hc : Rd w' cv (choE img m.ev (n : Int) (a : Int)).length (iv (flatS (choE img m.ev (n : Int) (a : Int))))) => timage_any img m.ev (n : Int) (choE img m.ev (n : Int) (a : Int)) _ _ cv w' H8.out (by omega) (HD.out.below (bel_on HB3.out hb)) HEI.out (by omega) (HE3.out.below hb) hc cI (HT.out.keep (bel_on HB3.out hb)).tab
  have hce : cutsE img m.ev (n : Int) = (((productP (atP img m.ev (n : Int)) : Nat) : Int), 0) := by unfold cutsE; rw [if_pos hat]
  have hc1 : choE img m.ev (n : Int) (a : Int) = chosenP (atP img m.ev (n : Int)) (a : Int) := by unfold choE; rw [if_pos hat]
  have hc2 : choE img m.ev (n : Int) (b : Int) = chosenP (atP img m.ev (n : Int)) (b : Int) := by unfold choE; rw [if_pos hat]
  have hie : imgE img m.ev (n : Int) (choE img m.ev (n : Int) (a : Int)) = 0 := by
    unfold imgE
    rw [if_pos hat, hc1]
    exact crash_chosen
  have HIP : Hid (∀ w e w', ImPost img m.ev (n : Int) (choE img m.ev (n : Int) (a : Int)) w e w' → ∃ A n cap, e = .returned (.tuple #[.slice A n cap, .int .i64 0])) := Lib.hid fun w e w' h => by
    unfold ImPost at h
    rw [hie] at h
    rcases h with ⟨h1, _⟩ | ⟨_, u, h2, h3, _⟩
    · exact absurd rfl h1
    · obtain ⟨A, cap, rfl, _⟩ := h3.shape
      exact ⟨_, _, _, h2⟩
  obtain ⟨IPO, hIPO⟩ : ∃ IPO, ImPost img m.ev (n : Int) (choE img m.ev (n : Int) (a : Int)) = IPO := ⟨_, rfl⟩
  rw [hIPO] at HIM HIP
  rw [hat] at HC1 HC2
  rw [hce] at HCU
  have HQ1 := Lib.hid (product_pos (atP img m.ev (n : Int)))
  have HQ2 := Lib.hid (product_le (atP img m.ev (n : Int)))
  have HQE := Lib.hid (chosen_eq (m := atP img m.ev (n : Int)) (a := a) (b := b))
  rw [← hc1, ← hc2] at HQE
  obtain ⟨c, hc9⟩ : ∃ c, productP (atP img m.ev (n : Int)) = c := ⟨_, rfl⟩
  rw [hc9] at HCU HQ1 HQ2 HQE
  obtain ⟨C1, hC1⟩ : ∃ C1, choE img m.ev (n : Int) (a : Int) = C1 := ⟨_, rfl⟩
  obtain ⟨C2, hC2⟩ : ∃ C2, choE img m.ev (n : Int) (b : Int) = C2 := ⟨_, rfl⟩
  rw [hC1] at HC1 HIM HQE cI cL
  rw [hC2] at HC2 HQE dI dL
  have HSC9 := Lib.hid fun (v u : Value) (w' : World) (h1 : Rd w' v C1.length (iv (flatS C1))) (h2 : Rd w' u C2.length (iv (flatS C2))) => sameCuts_any C1 C2 v u w' cI dI cL dL h1 h2
  obtain ⟨EL, hEL⟩ : ∃ EL, m.ev.length = EL := ⟨_, rfl⟩
  rw [hEL] at HPT HCU HC1 HC2 HIM
  rw [hEL]
  have HXB := Lib.hid (And.intro (And.intro x0 x1) (And.intro y0 y1))
  have hwa : IntKind.i64.wrap (a : Int) = (a : Int) := by rw [i64_wraps]; omega
  have hwb : IntKind.i64.wrap (b : Int) = (b : Int) := by rw [i64_wraps]; omega
  have hcp : ¬ (c : Int) < 1 := by have := HQ1.out; omega
  have HBB : Hid (Below w3.heap.size w3 w3) := Lib.hid (Below.refl _ _)
  clear hb how HEV HB2 HK2 gM1 gM2 gM3 ha64 hb64 cI cL dI dL hce hc1 hc2 hie hIPO hc9 hC1 hC2 hat hn9 hnl hn80 hsl x0 x1 y0 y1
  clear hEL
  go_wp2_with fail
  refine HPT.out.mono ?_
  rintro e w4 ⟨rfl, hb⟩
  have HB4 := Lib.hid hb
  have H4 := Lib.hid (HCU.out w4 hb)
  clear hb HPT HCU HBB
  go_wp2_with fail
  refine H4.out.mono ?_
  rintro e w5 ⟨rfl, hb⟩
  have HB5 := Lib.hid (bel_on HB4.out hb)
  have H5 := Lib.hid (HC1.out w5 HB5.out)
  have HK5 := Lib.hid (HK3.out.keep HB5.out)
  have e0 := HK5.out.cell (j := 0) (u := .int .u32 (a : Int)) rfl
  have e1 := HK5.out.cell (j := 1) (u := .int .u32 (b : Int)) rfl
  clear hb H4 HC1
  go_wp2_with fail
  refine H5.out.mono ?_
  rintro e w6 ⟨⟨u, rfl, hu, _⟩, hb⟩
  have HB6 := Lib.hid (bel_on HB5.out hb)
  have HU6 := Lib.hid (Sl.rd0 hu)
  have H6 := Lib.hid (HC2.out w6 HB6.out)
  have e0' := cell_below hb e0
  have e1' := cell_below hb e1
  obtain ⟨UA, ucap, rfl, _⟩ := hu.shape
  clear hb hu H5 HC2 e0 e1
  go_wp2_with fail
  refine H6.out.mono ?_
  rintro e w7 ⟨⟨u, rfl, hu, _⟩, hb⟩
  have HB7 := Lib.hid (bel_on HB6.out hb)
  have HU7 := Lib.hid (HU6.out.below hb)
  have HV7 := Lib.hid (Sl.rd0 hu)
  have H7 := Lib.hid (HIM.out w7 _ HB7.out HU7.out)
  have e0 := cell_below hb e0'
  have e1 := cell_below hb e1'
  obtain ⟨VA, vcap, rfl, _⟩ := hu.shape
  clear hb hu H6 HIM e0' e1' HU6
  go_wp2_with fail
  refine H7.out.mono ?_
  rintro e w8 ⟨hp, hb⟩
  obtain ⟨IA, il, icap, rfl⟩ := HIP.out _ _ _ hp
  have HB8 := Lib.hid (bel_on HB7.out hb)
  have HU8 := Lib.hid (HU7.out.below hb)
  have HV8 := Lib.hid (HV7.out.below hb)
  have e0' := cell_below hb e0
  have e1' := cell_below hb e1
  clear hp hb H7 HIP e0 e1 HU7 HV7
  go_wp2_with fail
  have hS0 : w8.drew.cell? ⟨w.heap.size, 0, none⟩ = some (.int .u32 (a : Int)) ∧ w8.drew.cell? ⟨w.heap.size, 1, none⟩ = some (.int .u32 (b : Int)) := ⟨e0', e1'⟩
  have HBd := Lib.hid HB8.out.drew
  have HUd := Lib.hid (HU8.out.below (bel_drew w8))
  have HVd := Lib.hid (HV8.out.below (bel_drew w8))
  clear e0' e1' HB8 HU8 HV8
  by_cases hcm : c = 1099511627775
  · have hcx : ((c : Int) == 1099511627775) = true := by rw [beq_iff_eq]; omega
    clear hcm HQE
    refine wp_region_held_drew (S := fun W => W.cell? ⟨w.heap.size, 0, none⟩ = some (.int .u32 (a : Int)) ∧ W.cell? ⟨w.heap.size, 1, none⟩ = some (.int .u32 (b : Int))) (by kernel_rfl) hS0 (fun hHeld => ?_)
    generalize w8.drew = wd at *
    refine wpAnyH_take (i := 0) (v := .bool true) rfl (by kernel_rfl) (by kernel_rfl) (by kernel_rfl) (fun _ _ _ h => h) (Or.inl ⟨by rfl, fun w hSw => by obtain ⟨h1, h2⟩ := hSw; go_simp⟩) (by assumption) ?_
    change wpAnyH _ _ _ _ _ _ _ (Act.put _ (some 86) _) _
    simp only [Act.put, List.setIfInBounds_toArray, List.set_cons_zero, List.set_cons_succ]
    refine wpAnyH_take (i := 1) (v := .bool true) rfl (by kernel_rfl) (by kernel_rfl) (by kernel_rfl) (fun _ _ _ h => h) (Or.inl ⟨by rfl, fun w hSw => by obtain ⟨h1, h2⟩ := hSw; go_simp⟩) (by assumption) ?_
    change wpAnyH _ _ _ _ _ _ _ (Act.put _ (some 87) _) _
    simp only [Act.put, List.setIfInBounds_toArray, List.set_cons_zero, List.set_cons_succ]
    refine wpAnyH_take (i := 2) (v := .int .i64 (c : Int)) rfl (by kernel_rfl) (by kernel_rfl) (by kernel_rfl) (fun _ _ _ h => h) (Or.inl ⟨by rfl, fun w hSw => by obtain ⟨h1, h2⟩ := hSw; go_simp⟩) (by assumption) ?_
    change wpAnyH _ _ _ _ _ _ _ (Act.put _ (some 88) _) _
    simp only [Act.put, List.setIfInBounds_toArray, List.set_cons_zero, List.set_cons_succ]
    refine wpAnyH_take (i := 3) (v := .bool true) rfl (by kernel_rfl) (by kernel_rfl) (by kernel_rfl) (fun _ _ _ h => h) (Or.inl ⟨by rfl, fun w hSw => by obtain ⟨h1, h2⟩ := hSw; go_simp⟩) (by assumption) ?_
    change wpAnyH _ _ _ _ _ _ _ (Act.put _ (some 89) _) _
    simp only [Act.put, List.setIfInBounds_toArray, List.set_cons_zero, List.set_cons_succ]
    refine wpAnyH_take (i := 4) (v := .bool true) rfl (by kernel_rfl) (by kernel_rfl) (by kernel_rfl) (fun _ _ _ h => h) (Or.inl ⟨by rfl, fun w hSw => by obtain ⟨h1, h2⟩ := hSw; go_simp⟩) (by assumption) ?_
    change wpAnyH _ _ _ _ _ _ _ (Act.put _ (some 90) _) _
    simp only [Act.put, List.setIfInBounds_toArray, List.set_cons_zero, List.set_cons_succ]
    refine wpAnyH_take (i := 5) (v := undef) rfl (by kernel_rfl) (by kernel_rfl) (by kernel_rfl) (fun _ _ _ h => h) (Or.inr ⟨by rfl, rfl⟩) (by assumption) ?_
    change wpAnyH _ _ _ _ _ _ _ (Act.put _ (some 91) _) _
    simp only [Act.put, List.setIfInBounds_toArray, List.set_cons_zero, List.set_cons_succ]
    refine wpAnyH_take (i := 6) (v := undef) rfl (by kernel_rfl) (by kernel_rfl) (by kernel_rfl) (fun _ _ _ h => h) (Or.inr ⟨by rfl, rfl⟩) (by assumption) ?_
    change wpAnyH _ _ _ _ _ _ _ (Act.put _ (some 92) _) _
    simp only [Act.put, List.setIfInBounds_toArray, List.set_cons_zero, List.set_cons_succ]
    refine wpAnyH_take (i := 7) (v := undef) rfl (by kernel_rfl) (by kernel_rfl) (by kernel_rfl) (fun _ _ _ h => h) (Or.inr ⟨by rfl, rfl⟩) (by assumption) ?_
    change wpAnyH _ _ _ _ _ _ _ (Act.put _ (some 93) _) _
    simp only [Act.put, List.setIfInBounds_toArray, List.set_cons_zero, List.set_cons_succ]
    refine wpAnyH_take (i := 8) (v := undef) rfl (by kernel_rfl) (by kernel_rfl) (by kernel_rfl) (fun _ _ _ h => h) (Or.inr ⟨by rfl, rfl⟩) (by assumption) ?_
    change wpAnyH _ _ _ _ _ _ _ (Act.put _ (some 94) _) _
    simp only [Act.put, List.setIfInBounds_toArray, List.set_cons_zero, List.set_cons_succ]
    refine wpAnyH_take (i := 9) (v := undef) rfl (by kernel_rfl) (by kernel_rfl) (by kernel_rfl) (fun _ _ _ h => h) (Or.inr ⟨by rfl, rfl⟩) (by assumption) ?_
    change wpAnyH _ _ _ _ _ _ _ (Act.put _ (some 95) _) _
    simp only [Act.put, List.setIfInBounds_toArray, List.set_cons_zero, List.set_cons_succ]
    refine wpAnyH_take (i := 10) (v := undef) rfl (by kernel_rfl) (by kernel_rfl) (by kernel_rfl) (fun _ _ _ h => h) (Or.inr ⟨by rfl, rfl⟩) (by assumption) ?_
    change wpAnyH _ _ _ _ _ _ _ (Act.put _ (some 96) _) _
    simp only [Act.put, List.setIfInBounds_toArray, List.set_cons_zero, List.set_cons_succ]
    refine wpAnyH_take (i := 11) (v := undef) rfl (by kernel_rfl) (by kernel_rfl) (by kernel_rfl) (fun _ _ _ h => h) (Or.inr ⟨by rfl, rfl⟩) (by assumption) ?_
    change wpAnyH _ _ _ _ _ _ _ (Act.put _ (some 97) _) _
    simp only [Act.put, List.setIfInBounds_toArray, List.set_cons_zero, List.set_cons_succ]
    refine wpAnyH_take (i := 12) (v := undef) rfl (by kernel_rfl) (by kernel_rfl) (by kernel_rfl) (fun _ _ _ h => h) (Or.inr ⟨by rfl, rfl⟩) (by assumption) ?_
    change wpAnyH _ _ _ _ _ _ _ (Act.put _ (some 98) _) _
    simp only [Act.put, List.setIfInBounds_toArray, List.set_cons_zero, List.set_cons_succ]
    refine wpAnyH_take (i := 13) (v := undef) rfl (by kernel_rfl) (by kernel_rfl) (by kernel_rfl) (fun _ _ _ h => h) (Or.inr ⟨by rfl, rfl⟩) (by assumption) ?_
    change wpAnyH _ _ _ _ _ _ _ (Act.put _ (some 99) _) _
    simp only [Act.put, List.setIfInBounds_toArray, List.set_cons_zero, List.set_cons_succ]
    refine wpAnyH_take (i := 14) (v := undef) rfl (by kernel_rfl) (by kernel_rfl) (by kernel_rfl) (fun _ _ _ h => h) (Or.inr ⟨by rfl, rfl⟩) (by assumption) ?_
    change wpAnyH _ _ _ _ _ _ _ (Act.put _ (some 100) _) _
    simp only [Act.put, List.setIfInBounds_toArray, List.set_cons_zero, List.set_cons_succ]
    refine wpAnyH_take (i := 15) (v := undef) rfl (by kernel_rfl) (by kernel_rfl) (by kernel_rfl) (fun _ _ _ h => h) (Or.inr ⟨by rfl, rfl⟩) (by assumption) ?_
    change wpAnyH _ _ _ _ _ _ _ (Act.put _ (some 101) _) _
    simp only [Act.put, List.setIfInBounds_toArray, List.set_cons_zero, List.set_cons_succ]
    refine wpAnyH_take (i := 16) (v := undef) rfl (by kernel_rfl) (by kernel_rfl) (by kernel_rfl) (fun _ _ _ h => h) (Or.inr ⟨by rfl, rfl⟩) (by assumption) ?_
    change wpAnyH _ _ _ _ _ _ _ (Act.put _ (some 102) _) _
    simp only [Act.put, List.setIfInBounds_toArray, List.set_cons_zero, List.set_cons_succ]
    refine wpAnyH_take (i := 17) (v := undef) rfl (by kernel_rfl) (by kernel_rfl) (by kernel_rfl) (fun _ _ _ h => h) (Or.inr ⟨by rfl, rfl⟩) (by assumption) ?_
    change wpAnyH _ _ _ _ _ _ _ (Act.put _ (some 103) _) _
    simp only [Act.put, List.setIfInBounds_toArray, List.set_cons_zero, List.set_cons_succ]
    refine wpAnyH_take (i := 18) (v := undef) rfl (by kernel_rfl) (by kernel_rfl) (by kernel_rfl) (fun _ _ _ h => h) (Or.inr ⟨by rfl, rfl⟩) (by assumption) ?_
    change wpAnyH _ _ _ _ _ _ _ (Act.put _ (some 104) _) _
    simp only [Act.put, List.setIfInBounds_toArray, List.set_cons_zero, List.set_cons_succ]
    refine wpAnyH_take (i := 19) (v := undef) rfl (by kernel_rfl) (by kernel_rfl) (by kernel_rfl) (fun _ _ _ h => h) (Or.inr ⟨by rfl, rfl⟩) (by assumption) ?_
    change wpAnyH _ _ _ _ _ _ _ (Act.put _ (some 105) _) _
    simp only [Act.put, List.setIfInBounds_toArray, List.set_cons_zero, List.set_cons_succ]
    refine wpAnyH_take (i := 20) (v := .bool true) rfl (by kernel_rfl) (by kernel_rfl) (by kernel_rfl) (fun _ _ _ h => h) (Or.inl ⟨by rfl, fun w hSw => by obtain ⟨h1, h2⟩ := hSw; go_simp⟩) (by assumption) ?_
    change wpAnyH _ _ _ _ _ _ _ (Act.put _ (some 106) _) _
    simp only [Act.put, List.setIfInBounds_toArray, List.set_cons_zero, List.set_cons_succ]
    refine wpAnyH_take (i := 21) (v := .bool true) rfl (by kernel_rfl) (by kernel_rfl) (by kernel_rfl) (fun _ _ _ h => h) (Or.inl ⟨by rfl, fun w hSw => by obtain ⟨h1, h2⟩ := hSw; go_simp⟩) (by assumption) ?_
    change wpAnyH _ _ _ _ _ _ _ (Act.put _ (some 107) _) _
    simp only [Act.put, List.setIfInBounds_toArray, List.set_cons_zero, List.set_cons_succ]
    refine wpAnyH_take (i := 22) (v := .bool true) rfl (by kernel_rfl) (by kernel_rfl) (by kernel_rfl) (fun _ _ _ h => h) (Or.inl ⟨by rfl, fun w hSw => by obtain ⟨h1, h2⟩ := hSw; go_simp⟩) (by assumption) ?_
    change wpAnyH _ _ _ _ _ _ _ (Act.put _ (some 8) _) _
    simp only [Act.put, List.setIfInBounds_toArray, List.set_cons_zero, List.set_cons_succ]
    refine wpAnyH_done (by kernel_rfl) ?_ _
    go_wp2_with fail
    go_ret
    exact ⟨rfl, bel_on HB3.out HBd.out⟩
  · have hcx : ((c : Int) == 1099511627775) = false := by rw [beq_eq_false_iff_ne]; omega
    have hqe := HQE.out hcm
    have hcz : ¬ (c : Int) = 0 := by have := HQ1.out; omega
    obtain ⟨⟨x0, x1⟩, y0, y1⟩ := HXB.out
    obtain ⟨M1, hM1⟩ : ∃ M1, a % c = M1 := ⟨_, rfl⟩
    obtain ⟨M2, hM2⟩ : ∃ M2, b % c = M2 := ⟨_, rfl⟩
    rw [hM1, hM2] at hqe
    have hcn : ¬ c = 0 := by omega
    have q5 : Int.tmod (a : Int) (c : Int) = (M1 : Int) := by rw [Int.tmod_eq_emod_of_nonneg (by omega), ← hM1]; exact (Int.natCast_emod a c).symm
    have q6 : Int.tmod (b : Int) (c : Int) = (M2 : Int) := by rw [Int.tmod_eq_emod_of_nonneg (by omega), ← hM2]; exact (Int.natCast_emod b c).symm
    have q1 : IntKind.i64.wrap (Int.tmod (a : Int) (c : Int)) = (M1 : Int) := by
      rw [Int.tmod_eq_emod_of_nonneg (by omega), show (a : Int) % (c : Int) = (M1 : Int) by rw [← hM1]; exact (Int.natCast_emod a c).symm, i64_wraps]
      have := Nat.mod_le a c
      omega
    have q2 : IntKind.i64.wrap (Int.tmod (b : Int) (c : Int)) = (M2 : Int) := by
      rw [Int.tmod_eq_emod_of_nonneg (by omega), show (b : Int) % (c : Int) = (M2 : Int) by rw [← hM2]; exact (Int.natCast_emod b c).symm, i64_wraps]
      have := Nat.mod_le b c
      omega
    have q3 : (a : Int) % (c : Int) = (M1 : Int) := by rw [← hM1]; exact (Int.natCast_emod a c).symm
    have q4 : (b : Int) % (c : Int) = (M2 : Int) := by rw [← hM2]; exact (Int.natCast_emod b c).symm
    obtain ⟨D, hD⟩ : ∃ D, decide (M1 = M2) = D := ⟨_, rfl⟩
    have hDD : ((M1 : Int) == (M2 : Int)) = D := by
      rw [← hD]
      by_cases h : M1 = M2
      · rw [decide_eq_true h, h]
        simp
      · rw [decide_eq_false h, beq_eq_false_iff_ne]
        omega
    rw [hD] at hqe
    have HSD := Lib.hid fun w' (hb : Below w8.drew.heap.size w8.drew w') => HSC9.out _ _ w' (HUd.out.below hb) (HVd.out.below hb)
    rw [hqe] at HSD
    clear hqe hD hM1 hM2 hcm HQE HSC9 x0 x1 y0 y1
    refine wp_region_held_drew (S := fun W => W.cell? ⟨w.heap.size, 0, none⟩ = some (.int .u32 (a : Int)) ∧ W.cell? ⟨w.heap.size, 1, none⟩ = some (.int .u32 (b : Int))) (by kernel_rfl) hS0 (fun hHeld => ?_)
    have HSE := Lib.hid (HSD.out _ (Below.refl _ _))
    clear HSD
    generalize w8.drew = wd at *
    refine wpAnyH_take (i := 0) (v := .bool true) rfl (by kernel_rfl) (by kernel_rfl) (by kernel_rfl) (fun _ _ _ h => h) (Or.inl ⟨by rfl, fun w hSw => by obtain ⟨h1, h2⟩ := hSw; go_simp⟩) (by assumption) ?_
    change wpAnyH _ _ _ _ _ _ _ (Act.put _ (some 86) _) _
    simp only [Act.put, List.setIfInBounds_toArray, List.set_cons_zero, List.set_cons_succ]
    refine wpAnyH_take (i := 1) (v := .bool true) rfl (by kernel_rfl) (by kernel_rfl) (by kernel_rfl) (fun _ _ _ h => h) (Or.inl ⟨by rfl, fun w hSw => by obtain ⟨h1, h2⟩ := hSw; go_simp⟩) (by assumption) ?_
    change wpAnyH _ _ _ _ _ _ _ (Act.put _ (some 87) _) _
    simp only [Act.put, List.setIfInBounds_toArray, List.set_cons_zero, List.set_cons_succ]
    refine wpAnyH_take (i := 2) (v := .int .i64 (c : Int)) rfl (by kernel_rfl) (by kernel_rfl) (by kernel_rfl) (fun _ _ _ h => h) (Or.inl ⟨by rfl, fun w hSw => by obtain ⟨h1, h2⟩ := hSw; go_simp⟩) (by assumption) ?_
    change wpAnyH _ _ _ _ _ _ _ (Act.put _ (some 88) _) _
    simp only [Act.put, List.setIfInBounds_toArray, List.set_cons_zero, List.set_cons_succ]
    refine wpAnyH_take (i := 3) (v := .bool false) rfl (by kernel_rfl) (by kernel_rfl) (by kernel_rfl) (fun _ _ _ h => h) (Or.inl ⟨by rfl, fun w hSw => by obtain ⟨h1, h2⟩ := hSw; go_simp⟩) (by assumption) ?_
    change wpAnyH _ _ _ _ _ _ _ (Act.put _ (some 89) _) _
    simp only [Act.put, List.setIfInBounds_toArray, List.set_cons_zero, List.set_cons_succ]
    refine wpAnyH_take (i := 4) (v := .bool false) rfl (by kernel_rfl) (by kernel_rfl) (by kernel_rfl) (fun _ _ _ h => h) (Or.inl ⟨by rfl, fun w hSw => by obtain ⟨h1, h2⟩ := hSw; go_simp⟩) (by assumption) ?_
    change wpAnyH _ _ _ _ _ _ _ (Act.put _ (some 90) _) _
    simp only [Act.put, List.setIfInBounds_toArray, List.set_cons_zero, List.set_cons_succ]
    refine wpAnyH_take (i := 5) (v := .slice UA C1.length ucap) rfl (by kernel_rfl) (by kernel_rfl) (by kernel_rfl) (fun _ _ _ h => h) (Or.inl ⟨by rfl, fun w hSw => by obtain ⟨h1, h2⟩ := hSw; go_simp⟩) (by assumption) ?_
    change wpAnyH _ _ _ _ _ _ _ (Act.put _ (some 91) _) _
    simp only [Act.put, List.setIfInBounds_toArray, List.set_cons_zero, List.set_cons_succ]
    refine wpAnyH_take (i := 6) (v := .slice VA C2.length vcap) rfl (by kernel_rfl) (by kernel_rfl) (by kernel_rfl) (fun _ _ _ h => h) (Or.inl ⟨by rfl, fun w hSw => by obtain ⟨h1, h2⟩ := hSw; go_simp⟩) (by assumption) ?_
    change wpAnyH _ _ _ _ _ _ _ (Act.put _ (some 92) _) _
    simp only [Act.put, List.setIfInBounds_toArray, List.set_cons_zero, List.set_cons_succ]
    refine wpAnyH_take (i := 8) (v := .pointer (some ⟨w.heap.size, 0, none⟩)) rfl (by kernel_rfl) (by kernel_rfl) (by kernel_rfl) (fun _ _ _ h => h) (Or.inl ⟨by rfl, fun w hSw => by obtain ⟨h1, h2⟩ := hSw; go_simp⟩) (by assumption) ?_
    change wpAnyH _ _ _ _ _ _ _ (Act.put _ (some 94) _) _
    simp only [Act.put, List.setIfInBounds_toArray, List.set_cons_zero, List.set_cons_succ]
    refine wpAnyH_take (i := 9) (v := .int .u32 (a : Int)) rfl (by kernel_rfl) (by kernel_rfl) (by kernel_rfl) (fun _ _ _ h => h) (Or.inl ⟨by rfl, fun w hSw => by obtain ⟨h1, h2⟩ := hSw; go_simp⟩) (by assumption) ?_
    change wpAnyH _ _ _ _ _ _ _ (Act.put _ (some 95) _) _
    simp only [Act.put, List.setIfInBounds_toArray, List.set_cons_zero, List.set_cons_succ]
    refine wpAnyH_take (i := 10) (v := .int .i64 (a : Int)) rfl (by kernel_rfl) (by kernel_rfl) (by kernel_rfl) (fun _ _ _ h => h) (Or.inl ⟨by rfl, fun w hSw => by obtain ⟨h1, h2⟩ := hSw; go_simp⟩) (by assumption) ?_
    change wpAnyH _ _ _ _ _ _ _ (Act.put _ (some 96) _) _
    simp only [Act.put, List.setIfInBounds_toArray, List.set_cons_zero, List.set_cons_succ]
    refine wpAnyH_take (i := 11) (v := .int .i64 (c : Int)) rfl (by kernel_rfl) (by kernel_rfl) (by kernel_rfl) (fun _ _ _ h => h) (Or.inl ⟨by rfl, fun w hSw => by obtain ⟨h1, h2⟩ := hSw; go_simp⟩) (by assumption) ?_
    change wpAnyH _ _ _ _ _ _ _ (Act.put _ (some 97) _) _
    simp only [Act.put, List.setIfInBounds_toArray, List.set_cons_zero, List.set_cons_succ]
    refine wpAnyH_take (i := 12) (v := .int .i64 (M1 : Int)) rfl (by kernel_rfl) (by kernel_rfl) (by kernel_rfl) (fun _ _ _ h => h) (Or.inl ⟨by rfl, fun w hSw => by obtain ⟨h1, h2⟩ := hSw; go_simp⟩) (by assumption) ?_
    change wpAnyH _ _ _ _ _ _ _ (Act.put _ (some 98) _) _
    simp only [Act.put, List.setIfInBounds_toArray, List.set_cons_zero, List.set_cons_succ]
    refine wpAnyH_take (i := 13) (v := .pointer (some ⟨w.heap.size, 1, none⟩)) rfl (by kernel_rfl) (by kernel_rfl) (by kernel_rfl) (fun _ _ _ h => h) (Or.inl ⟨by rfl, fun w hSw => by obtain ⟨h1, h2⟩ := hSw; go_simp⟩) (by assumption) ?_
    change wpAnyH _ _ _ _ _ _ _ (Act.put _ (some 99) _) _
    simp only [Act.put, List.setIfInBounds_toArray, List.set_cons_zero, List.set_cons_succ]
    refine wpAnyH_take (i := 14) (v := .int .u32 (b : Int)) rfl (by kernel_rfl) (by kernel_rfl) (by kernel_rfl) (fun _ _ _ h => h) (Or.inl ⟨by rfl, fun w hSw => by obtain ⟨h1, h2⟩ := hSw; go_simp⟩) (by assumption) ?_
    change wpAnyH _ _ _ _ _ _ _ (Act.put _ (some 100) _) _
    simp only [Act.put, List.setIfInBounds_toArray, List.set_cons_zero, List.set_cons_succ]
    refine wpAnyH_take (i := 15) (v := .int .i64 (b : Int)) rfl (by kernel_rfl) (by kernel_rfl) (by kernel_rfl) (fun _ _ _ h => h) (Or.inl ⟨by rfl, fun w hSw => by obtain ⟨h1, h2⟩ := hSw; go_simp⟩) (by assumption) ?_
    change wpAnyH _ _ _ _ _ _ _ (Act.put _ (some 101) _) _
    simp only [Act.put, List.setIfInBounds_toArray, List.set_cons_zero, List.set_cons_succ]
    refine wpAnyH_take (i := 16) (v := .int .i64 (c : Int)) rfl (by kernel_rfl) (by kernel_rfl) (by kernel_rfl) (fun _ _ _ h => h) (Or.inl ⟨by rfl, fun w hSw => by obtain ⟨h1, h2⟩ := hSw; go_simp⟩) (by assumption) ?_
    change wpAnyH _ _ _ _ _ _ _ (Act.put _ (some 102) _) _
    simp only [Act.put, List.setIfInBounds_toArray, List.set_cons_zero, List.set_cons_succ]
    refine wpAnyH_take (i := 17) (v := .int .i64 (M2 : Int)) rfl (by kernel_rfl) (by kernel_rfl) (by kernel_rfl) (fun _ _ _ h => h) (Or.inl ⟨by rfl, fun w hSw => by obtain ⟨h1, h2⟩ := hSw; go_simp⟩) (by assumption) ?_
    change wpAnyH _ _ _ _ _ _ _ (Act.put _ (some 103) _) _
    simp only [Act.put, List.setIfInBounds_toArray, List.set_cons_zero, List.set_cons_succ]
    refine wpAnyH_take (i := 18) (v := .bool D) rfl (by kernel_rfl) (by kernel_rfl) (by kernel_rfl) (fun _ _ _ h => h) (Or.inl ⟨by rfl, fun w hSw => by obtain ⟨h1, h2⟩ := hSw; go_simp⟩) (by assumption) ?_
    change wpAnyH _ _ _ _ _ _ _ (Act.put _ (some 104) _) _
    simp only [Act.put, List.setIfInBounds_toArray, List.set_cons_zero, List.set_cons_succ]
    refine wpAnyH_ready (rs := [7]) (by kernel_rfl) (by simp) ?_
    refine AllReadyH.cons rfl (fun K hK => ?_) AllReadyH.nil
    go_simp
    refine HSE.out.mono ?_
    rintro e we ⟨rfl, hb⟩
    have HBe := Lib.hid (bel_on HBd.out hb)
    refine hK.out _ _ ⟨cell_below hb hHeld.1, cell_below hb hHeld.2⟩ (fun hHeld1 => ?_)
    clear hK K hHeld hb HSE
    refine wpAnyH_take (i := 19) (v := .bool true) rfl (by kernel_rfl) (by kernel_rfl) (by kernel_rfl) (fun _ _ _ h => h) (Or.inl ⟨by rfl, fun w hSw => by obtain ⟨h1, h2⟩ := hSw; go_simp⟩) (by assumption) ?_
    change wpAnyH _ _ _ _ _ _ _ (Act.put _ (some 105) _) _
    simp only [Act.put, List.setIfInBounds_toArray, List.set_cons_zero, List.set_cons_succ]
    refine wpAnyH_take (i := 20) (v := .bool true) rfl (by kernel_rfl) (by kernel_rfl) (by kernel_rfl) (fun _ _ _ h => h) (Or.inl ⟨by rfl, fun w hSw => by obtain ⟨h1, h2⟩ := hSw; go_simp⟩) (by assumption) ?_
    change wpAnyH _ _ _ _ _ _ _ (Act.put _ (some 106) _) _
    simp only [Act.put, List.setIfInBounds_toArray, List.set_cons_zero, List.set_cons_succ]
    refine wpAnyH_take (i := 21) (v := .bool true) rfl (by kernel_rfl) (by kernel_rfl) (by kernel_rfl) (fun _ _ _ h => h) (Or.inl ⟨by rfl, fun w hSw => by obtain ⟨h1, h2⟩ := hSw; go_simp⟩) (by assumption) ?_
    change wpAnyH _ _ _ _ _ _ _ (Act.put _ (some 107) _) _
    simp only [Act.put, List.setIfInBounds_toArray, List.set_cons_zero, List.set_cons_succ]
    refine wpAnyH_take (i := 22) (v := .bool true) rfl (by kernel_rfl) (by kernel_rfl) (by kernel_rfl) (fun _ _ _ h => h) (Or.inl ⟨by rfl, fun w hSw => by obtain ⟨h1, h2⟩ := hSw; go_simp⟩) (by assumption) ?_
    change wpAnyH _ _ _ _ _ _ _ (Act.put _ (some 8) _) _
    simp only [Act.put, List.setIfInBounds_toArray, List.set_cons_zero, List.set_cons_succ]
    refine wpAnyH_done (by kernel_rfl) ?_ _
    go_wp2_with fail
    go_ret
    exact ⟨rfl, bel_on HB3.out HBe.out⟩
end Go.Proofs.YtpojhplnhppcpaaGreatDoor
