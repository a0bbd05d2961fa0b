/-
  What alumlaw05's played does.
-/
import Derived.Test.YtpojhplnhppcpaaGreatDoorQS2
import Derived.Test.YtpojhplnhppcpaaGreatDoorQV1
import Derived.Test.YtpojhplnhppcpaaGreatDoorQN22z
import Derived.Test.YtpojhplnhppcpaaGreatDoorQU1
namespace Go.Proofs.YtpojhplnhppcpaaGreatDoor
open Go.RowKit Go.Maps
theorem playP_good {m : PM} {n : Nat} (hm : m.Ok) (hs : m.Small n) (x : POp) (hx : x.Ok) : PM.Good m (playP m x) (n + 1) := by
  unfold playP
  split
  · exact doP_good hm hs x hx
  · exact PM.Good.refl hm hs
theorem plays_on {m : PM} {xs : List POp} {k : Nat} (hk : k < xs.length) : playsP m (xs.drop k) = playsP (playP m xs[k]) (xs.drop (k + 1)) := by
  rw [List.drop_eq_getElem_cons hk]
  rfl
theorem opV_one (x : POp) {c : Value} (hc : c.oneCell' = true) : ∀ u ∈ opV x c, u.oneCell' = true := by
  intro u hu
  unfold opV at hu
  rcases List.mem_append.1 hu with h | h
  · exact iv_one _ u h
  · simp only [List.mem_cons, List.not_mem_nil, or_false] at h
    rw [h]
    exact hc
theorem sizeOp : (Tryz.prog.info? 91).map (·.size) = some 12 := by kernel_rfl
/-- What played answers. -/
def PlayedPost (img : List (List Int × Int)) (xs : List POp) (w : World) (e : Ending) (w' : World) : Prop :=
  ((12 < img.length ∨ 80 < xs.length ∨ rightB img = false) ∧ e = .returned (.pointer none)) ∨
  (img.length ≤ 12 ∧ xs.length ≤ 80 ∧ rightB img = true ∧ ∃ p, e = .returned (.pointer (some ⟨p, 0, none⟩)) ∧ Rep w' p (playsP (fromP img) xs) (New w w') ∧ (playsP (fromP img) xs).Ok ∧ (playsP (fromP img) xs).Small 80 ∧ (playsP (fromP img) xs).L.length = img.length)
set_option maxRecDepth 100000 in
set_option maxHeartbeats 8000000 in
set_option linter.unusedSimpArgs false in
theorem played_any (img : List (List Int × Int)) (xs : List POp) (v lv : Value) (w : World) (h8 : ∀ x ∈ img, x.1.length = 8) (hs : Rd w v img.length (iv (flatI img))) (hlv : Script w lv xs) (hT : Tab w) :
    Calls Tryz.prog 19 #[v, lv] w fun e w' => PlayedPost img xs w e w' ∧ Below w.heap.size w w' := by
  have HPO : Hid (∀ e w', PlayedPost img xs w e w' = (((12 < img.length ∨ 80 < xs.length ∨ rightB img = false) ∧ e = .returned (.pointer none)) ∨
    (img.length ≤ 12 ∧ xs.length ≤ 80 ∧ rightB img = true ∧ ∃ p, e = .returned (.pointer (some ⟨p, 0, none⟩)) ∧ Rep w' p (playsP (fromP img) xs) (New w w') ∧ (playsP (fromP img) xs).Ok ∧ (playsP (fromP img) xs).Small 80 ∧ (playsP (fromP img) xs).L.length = img.length))) := Lib.hid fun _ _ => rfl
  have HFR := Lib.hid fun (h : img.length ≤ 5000) => from_any img v w h8 h hs
  have HOK := Lib.hid fun (hr : rightB img = true) => fromP_ok h8 hr
  obtain ⟨m0, hm0⟩ : ∃ m0, fromP img = m0 := ⟨_, rfl⟩
  change Hid (img.length ≤ 5000 → Calls _ _ _ _ fun e w' => FromPost w img e w' ∧ Below w.heap.size w w') at HFR
  unfold FromPost at HFR
  rw [hm0] at HFR HOK HPO
  obtain ⟨PO, hPO⟩ : ∃ PO, PlayedPost img xs w = PO := ⟨_, rfl⟩
  rw [hPO] at HPO ⊢
  have HT := Lib.hid hT
  have HSC := Lib.hid hlv
  obtain ⟨A, cap, rfl, _⟩ := hs
  obtain ⟨cvs, _, hrd, hxo, _⟩ := hlv
  have HXO := Lib.hid hxo
  obtain ⟨A2, cap2, rfl, hcap2, hcm2, _⟩ := hrd
  have hc2 : cap2 ≤ 9223372036854775807 := by unfold maxLen at hcm2; omega
  obtain ⟨N, hN⟩ : ∃ N, xs.length = N := ⟨_, rfl⟩
  have HN := Lib.hid hN
  obtain ⟨M, hM⟩ : ∃ M, img.length = M := ⟨_, rfl⟩
  rw [hN] at hcap2 HPO ⊢
  rw [hM] at HFR HPO HOK ⊢
  have hu91 := Tryz.underlying91
  have hu22 := Tryz.underlying66
  clear hT hm0 hPO hxo hN hM hcm2 h8
  by_cases h12 : (12 : Int) < (M : Int)
  · have HF := Lib.hid fun w' => (HPO.out (.returned (.pointer none)) w').mpr (.inl ⟨.inl (by omega), rfl⟩)
    go_enter Tryz.func19, Tryz.ntmps19
    go_wp2_with fail
    go_ret
    exact ⟨HF.out _, .refl _ _⟩
  by_cases h80 : (80 : Int) < (N : Int)
  · have HF := Lib.hid fun w' => (HPO.out (.returned (.pointer none)) w').mpr (.inl ⟨.inr (.inl (by omega)), rfl⟩)
    go_enter Tryz.func19, Tryz.ntmps19
    go_wp2_with fail
    go_ret
    exact ⟨HF.out _, .refl _ _⟩
  have hM12 : M ≤ 12 := by omega
  have hN80 : N ≤ 80 := by omega
  have HFM := Lib.hid (HFR.out (by omega))
  clear HFR
  go_enter Tryz.func19, Tryz.ntmps19
  go_wp2_with fail
  refine HFM.out.mono ?_
  rintro e w1 ⟨hp, hb1⟩
  have HB1 := Lib.hid hb1
  clear HFM hb1
  rcases hp with ⟨hrb, p, rfl, hp1⟩ | ⟨hrb, rfl⟩
  case inr =>
    have HF := Lib.hid fun w' => (HPO.out (.returned (.pointer none)) w').mpr (.inl ⟨.inr (.inr hrb), rfl⟩)
    clear h12 h80 HPO
    go_wp2_with fail
    go_loopw [6] (fun i wr => i = .int .i64 0 ∧ wr = w1) (fun i _ => 0)
    case atStart => exact ⟨rfl, rfl⟩
    case round =>
      obtain ⟨rfl, rfl⟩ := hrel
      by_cases hz : (0 : Int) < (N : Int)
      · go_wp2_with fail
        go_ret
        exact ⟨HF.out _, HB1.out⟩
      · go_wp2_with fail
        go_ret
        exact ⟨HF.out _, HB1.out⟩
  have HRB := Lib.hid hrb
  obtain ⟨fok, fsm, flen⟩ := HOK.out hrb
  have HP1 : Hid (Rep w1 p m0 (New w w1)) := Lib.hid hp1
  have HFO := Lib.hid fok
  have HS1 : Hid (m0.Small 0) := Lib.hid fsm
  have HLN : Hid (m0.L.length = M) := Lib.hid flen
  have HG1 : Hid (playsP m0 xs = playsP m0 (xs.drop 0)) := Lib.hid rfl
  clear hp1 hrb fok fsm flen HOK h12 h80
  go_wp2_with fail
  go_loopw [6] (fun i wr => ∃ (k : Nat) (mk : PM), i = .int .i64 (k : Int) ∧ k ≤ N ∧ Hid (playsP m0 xs = playsP mk (xs.drop k)) ∧ Hid mk.Ok ∧ Hid (mk.Small k) ∧ Hid (mk.L.length = M) ∧ Hid (Rep wr p mk (New w wr)) ∧ Hid (Below w.heap.size w wr)) (fun i _ => N - (intOf i).toNat)
  case atStart => exact ⟨0, m0, rfl, by omega, HG1, HFO, HS1, HLN, HP1, HB1⟩
  case round =>
    clear HG1 HFO HS1 HP1 HB1 HLN
    obtain ⟨k, mk, rfl, hk, HMK, HMO, HMS, HLN, HRF, HB⟩ := hrel
    by_cases hlt : k < N
    · have hkc : k < xs.length := by rw [HN.out]; exact hlt
      have hkI : (k : Int) < (N : Int) := by omega
      have hsc := HSC.out.keep HB.out
      obtain ⟨bb, oo, c, rfl, rE, hrc⟩ := hsc.at hkc
      have hxo := HXO.out _ (List.getElem_mem hkc)
      have HNX : Hid (playsP m0 xs = playsP (playP mk xs[k]) (xs.drop (k + 1))) := Lib.hid (HMK.out.trans (plays_on hkc))
      have HGD := Lib.hid (playP_good HMO.out HMS.out xs[k] hxo)
      have hi12 : (Tryz.prog.info? 91).map (·.size) = some (opV xs[k] c).length := by
        have := size61 (opV_len hxo c)
        rwa [List.size_toArray] at this
      generalize xs[k] = x at *
      have hcone : c.oneCell' = true := by obtain ⟨_, _, rfl, _⟩ := hrc; rfl
      have HB2 := Lib.hid (bel_on HB.out (bel_new wr (.cells (opV x c).toArray 91)))
      have hA := Arr.new wr (opV x c) 91
      have hrp := HRF.out.below (bel_new wr (.cells (opV x c).toArray 91))
      have hT1 := HT.out.keep HB2.out
      have HO := Lib.hid (opV_one x hcone)
      have HL12 := Lib.hid (opV_len hxo c)
      have hsm := HMS.out.mono (show k ≤ 1000000 by omega)
      have hF : ¬ New w wr 6 := by
        rintro ⟨h1, _⟩
        have := HT.out.lt
        omega
      have hsz0 := HB.out.size
      have hszA : (wr.alloc (.cells (opV x c).toArray 91)).heap.size = wr.heap.size + 1 := by simp
      have HST : Hid (∀ m' w3, Step (New w wr) (wr.alloc (.cells (opV x c).toArray 91)) p m' w3 → Rep w3 p m' (New w w3) ∧ Below w.heap.size w w3) := Lib.hid fun m' w3 hst => by
        have hsz3 := hst.2.size
        exact ⟨hst.1.wide (fun q h1 => by
          rcases h1 with h2 | h2
          · exact ⟨h2.1, by have := h2.2; omega⟩
          · exact ⟨by have := h2.1; omega, h2.2⟩) fun q h1 => h1.2, HB2.out.trans (hst.2.below (fun q _ hq => hq.1) (by omega))⟩
      obtain ⟨xk, xa, xb, ws, cs⟩ := x
      obtain ⟨x1, x2, x3, x8, x4, _⟩ := hxo
      simp only at x1 x2 x3 x8 x4
      have e0 := hA.cell (j := 0) (u := .int .i64 xk) (by rfl)
      have e1 := hA.cell (j := 1) (u := .int .i64 xa) (by rfl)
      have e2 := hA.cell (j := 2) (u := .int .i64 xb) (by rfl)
      have r3 : (wr.alloc (.cells (opV ⟨xk, xa, xb, ws, cs⟩ c).toArray 91)).rangeAt wr.heap.size 3 (iv ws) := fun j u hj => hA.cell (by
        unfold opV iv
        rw [List.map_append, Nat.add_comm, List.append_assoc]
        show ((ws.map (Value.int .i64)) ++ [c])[j]? = some u
        rw [List.getElem?_append_left (show j < (ws.map (Value.int .i64)).length from (List.getElem?_eq_some_iff.1 hj).1)]
        exact hj)
      have hi8 : (Tryz.prog.info? 66).map (·.size) = some (iv ws).length := size22' x8
      obtain ⟨g1, g2, g3⟩ := HGD.out
      have G1 := Lib.hid g1
      have G2 := Lib.hid (g2.trans HLN.out)
      have G3 := Lib.hid g3
      obtain ⟨RP, hRP⟩ : ∃ RP, playP mk ⟨xk, xa, xb, ws, cs⟩ = RP := ⟨_, rfl⟩
      rw [hRP] at HNX G1 G2 G3
      have HRP : Hid (playP mk ⟨xk, xa, xb, ws, cs⟩ = RP) := Lib.hid hRP
      have hMO := HMO.out
      generalize opV ⟨xk, xa, xb, ws, cs⟩ c = OV at *
      clear hsc hrc g1 g2 g3 HGD hRP hA HMK hkc hcone HSC hsz0
      by_cases q0 : xk = 0
      · subst q0
        have HM : Hid ((storeP mk 1 xa xb).2 = RP) := Lib.hid (by rw [← HRP.out]; unfold playP doP; simp)
        have HC := Lib.hid (store_any p xa xb mk _ _ hMO hsm hrp hT1 x2)
        clear HRP hMO hsm hrp hT1 hF x1 x2 x3 x4
        go_wp2_with (first
          | ((with_reducible refine arm_range 91 bb (oo + k * 12) OV rE _ hu91 rfl hi12 rfl _ rfl ?_ ?_); focus rfl)
          | ((with_reducible refine arm_new 91 OV 12 ?_ sizeOp HO.out _ rfl rfl _ _ rfl ?_ ?_ ?_); (focus (rw [HL12.out])); (focus rfl); (focus rfl))
          | ((with_reducible refine arm_range 66 wr.heap.size 3 (iv ws) r3 _ hu22 rfl hi8 rfl _ rfl ?_ ?_); focus rfl))
        refine HC.out.mono ?_
        rintro e w3 ⟨rfl, hst⟩
        obtain ⟨h1, h2⟩ := HST.out _ _ hst
        have HR3 : Hid (Rep w3 p RP (New w w3)) := Lib.hid (by rw [← HM.out]; exact h1)
        have HB3 := Lib.hid h2
        clear hst HC HST rE r3 h1 h2 HM
        go_wp2_with fail
        go_roundw
        case rel => exact ⟨k + 1, RP, by simp, by omega, HNX, G1, G3, G2, HR3, HB3⟩
        case measure => simp [intOf]; omega
      by_cases q1 : xk = 1
      · subst q1
        have HM : Hid ((storeP mk 2 xa xb).2 = RP) := Lib.hid (by rw [← HRP.out]; unfold playP doP; simp)
        have HC := Lib.hid (publish_any p xa xb mk _ _ hMO hsm hrp hT1 x2)
        clear HRP hMO hsm hrp hT1 hF x1 x2 x3 x4
        go_wp2_with (first
          | ((with_reducible refine arm_range 91 bb (oo + k * 12) OV rE _ hu91 rfl hi12 rfl _ rfl ?_ ?_); focus rfl)
          | ((with_reducible refine arm_new 91 OV 12 ?_ sizeOp HO.out _ rfl rfl _ _ rfl ?_ ?_ ?_); (focus (rw [HL12.out])); (focus rfl); (focus rfl))
          | ((with_reducible refine arm_range 66 wr.heap.size 3 (iv ws) r3 _ hu22 rfl hi8 rfl _ rfl ?_ ?_); focus rfl))
        refine HC.out.mono ?_
        rintro e w3 ⟨rfl, hst⟩
        obtain ⟨h1, h2⟩ := HST.out _ _ hst
        have HR3 : Hid (Rep w3 p RP (New w w3)) := Lib.hid (by rw [← HM.out]; exact h1)
        have HB3 := Lib.hid h2
        clear hst HC HST rE r3 h1 h2 HM
        go_wp2_with fail
        go_roundw
        case rel => exact ⟨k + 1, RP, by simp, by omega, HNX, G1, G3, G2, HR3, HB3⟩
        case measure => simp [intOf]; omega
      by_cases q2 : xk = 2
      · subst q2
        have HM : Hid (spanP mk xa = RP) := Lib.hid (by rw [← HRP.out]; unfold playP doP; simp)
        have HC := Lib.hid (span_any p xa mk _ _ hrp)
        clear HRP hMO hsm hrp hT1 hF x1 x2 x3 x4
        go_wp2_with (first
          | ((with_reducible refine arm_range 91 bb (oo + k * 12) OV rE _ hu91 rfl hi12 rfl _ rfl ?_ ?_); focus rfl)
          | ((with_reducible refine arm_new 91 OV 12 ?_ sizeOp HO.out _ rfl rfl _ _ rfl ?_ ?_ ?_); (focus (rw [HL12.out])); (focus rfl); (focus rfl))
          | ((with_reducible refine arm_range 66 wr.heap.size 3 (iv ws) r3 _ hu22 rfl hi8 rfl _ rfl ?_ ?_); focus rfl))
        refine HC.out.mono ?_
        rintro e w3 ⟨rfl, hst⟩
        obtain ⟨h1, h2⟩ := HST.out _ _ hst
        have HR3 : Hid (Rep w3 p RP (New w w3)) := Lib.hid (by rw [← HM.out]; exact h1)
        have HB3 := Lib.hid h2
        clear hst HC HST rE r3 h1 h2 HM
        go_wp2_with fail
        go_roundw
        case rel => exact ⟨k + 1, RP, by simp, by omega, HNX, G1, G3, G2, HR3, HB3⟩
        case measure => simp [intOf]; omega
      by_cases q3 : xk = 3
      · subst q3
        have HM : Hid ((rec_ (flushP mk xa) (evt 3 xa 0 0 Z8)).2 = RP) := Lib.hid (by rw [← HRP.out]; unfold playP doP; simp)
        have HC := Lib.hid (flushC_any p xa mk _ _ hMO hsm hrp)
        clear HRP hMO hsm hrp hT1 hF x1 x2 x3 x4
        go_wp2_with (first
          | ((with_reducible refine arm_range 91 bb (oo + k * 12) OV rE _ hu91 rfl hi12 rfl _ rfl ?_ ?_); focus rfl)
          | ((with_reducible refine arm_new 91 OV 12 ?_ sizeOp HO.out _ rfl rfl _ _ rfl ?_ ?_ ?_); (focus (rw [HL12.out])); (focus rfl); (focus rfl))
          | ((with_reducible refine arm_range 66 wr.heap.size 3 (iv ws) r3 _ hu22 rfl hi8 rfl _ rfl ?_ ?_); focus rfl))
        refine HC.out.mono ?_
        rintro e w3 ⟨rfl, hst⟩
        obtain ⟨h1, h2⟩ := HST.out _ _ hst
        have HR3 : Hid (Rep w3 p RP (New w w3)) := Lib.hid (by rw [← HM.out]; exact h1)
        have HB3 := Lib.hid h2
        clear hst HC HST rE r3 h1 h2 HM
        go_wp2_with fail
        go_roundw
        case rel => exact ⟨k + 1, RP, by simp, by omega, HNX, G1, G3, G2, HR3, HB3⟩
        case measure => simp [intOf]; omega
      by_cases q4 : xk = 4
      · subst q4
        have HM : Hid ((fenceP mk).add (evt 4 0 0 0 Z8) = RP) := Lib.hid (by rw [← HRP.out]; unfold playP doP; simp)
        have HC := Lib.hid (fenceC_any p mk _ _ hMO hsm hrp hT1 hF)
        clear HRP hMO hsm hrp hT1 hF x1 x2 x3 x4
        go_wp2_with (first
          | ((with_reducible refine arm_range 91 bb (oo + k * 12) OV rE _ hu91 rfl hi12 rfl _ rfl ?_ ?_); focus rfl)
          | ((with_reducible refine arm_new 91 OV 12 ?_ sizeOp HO.out _ rfl rfl _ _ rfl ?_ ?_ ?_); (focus (rw [HL12.out])); (focus rfl); (focus rfl))
          | ((with_reducible refine arm_range 66 wr.heap.size 3 (iv ws) r3 _ hu22 rfl hi8 rfl _ rfl ?_ ?_); focus rfl))
        refine HC.out.mono ?_
        rintro e w3 ⟨rfl, hst⟩
        obtain ⟨h1, h2⟩ := HST.out _ _ hst
        have HR3 : Hid (Rep w3 p RP (New w w3)) := Lib.hid (by rw [← HM.out]; exact h1)
        have HB3 := Lib.hid h2
        clear hst HC HST rE r3 h1 h2 HM
        go_wp2_with fail
        go_roundw
        case rel => exact ⟨k + 1, RP, by simp, by omega, HNX, G1, G3, G2, HR3, HB3⟩
        case measure => simp [intOf]; omega
      by_cases q5 : xk = 5
      · subst q5
        have HM : Hid ((rec_ (evictP mk xa xb) (evt 5 xa xb 0 Z8)).2 = RP) := Lib.hid (by rw [← HRP.out]; unfold playP doP; simp)
        have HC := Lib.hid (evictC_any p xa xb mk _ _ hMO hsm hrp hT1 x2 x3)
        clear HRP hMO hsm hrp hT1 hF x1 x2 x3 x4
        go_wp2_with (first
          | ((with_reducible refine arm_range 91 bb (oo + k * 12) OV rE _ hu91 rfl hi12 rfl _ rfl ?_ ?_); focus rfl)
          | ((with_reducible refine arm_new 91 OV 12 ?_ sizeOp HO.out _ rfl rfl _ _ rfl ?_ ?_ ?_); (focus (rw [HL12.out])); (focus rfl); (focus rfl))
          | ((with_reducible refine arm_range 66 wr.heap.size 3 (iv ws) r3 _ hu22 rfl hi8 rfl _ rfl ?_ ?_); focus rfl))
        refine HC.out.mono ?_
        rintro e w3 ⟨rfl, hst⟩
        obtain ⟨h1, h2⟩ := HST.out _ _ hst
        have HR3 : Hid (Rep w3 p RP (New w w3)) := Lib.hid (by rw [← HM.out]; exact h1)
        have HB3 := Lib.hid h2
        clear hst HC HST rE r3 h1 h2 HM
        go_wp2_with fail
        go_roundw
        case rel => exact ⟨k + 1, RP, by simp, by omega, HNX, G1, G3, G2, HR3, HB3⟩
        case measure => simp [intOf]; omega
      by_cases q6 : xk = 6
      · subst q6
        have HM : Hid ((rec_ (healP mk xa ws) (evt 6 xa 0 0 ws)).2 = RP) := Lib.hid (by rw [← HRP.out]; unfold playP doP; simp)
        have HC := Lib.hid (healC_any p xa ws mk _ _ hMO hsm hrp x8 hT1 hF)
        clear HRP hMO hsm hrp hT1 hF x1 x2 x3 x4
        go_wp2_with (first
          | ((with_reducible refine arm_range 91 bb (oo + k * 12) OV rE _ hu91 rfl hi12 rfl _ rfl ?_ ?_); focus rfl)
          | ((with_reducible refine arm_new 91 OV 12 ?_ sizeOp HO.out _ rfl rfl _ _ rfl ?_ ?_ ?_); (focus (rw [HL12.out])); (focus rfl); (focus rfl))
          | ((with_reducible refine arm_range 66 wr.heap.size 3 (iv ws) r3 _ hu22 rfl hi8 rfl _ rfl ?_ ?_); focus rfl))
        refine HC.out.mono ?_
        rintro e w3 ⟨rfl, hst⟩
        obtain ⟨h1, h2⟩ := HST.out _ _ hst
        have HR3 : Hid (Rep w3 p RP (New w w3)) := Lib.hid (by rw [← HM.out]; exact h1)
        have HB3 := Lib.hid h2
        clear hst HC HST rE r3 h1 h2 HM
        go_wp2_with fail
        go_roundw
        case rel => exact ⟨k + 1, RP, by simp, by omega, HNX, G1, G3, G2, HR3, HB3⟩
        case measure => simp [intOf]; omega
      by_cases q7 : xk = 7
      · subst q7
        have HM : Hid ((rec_ (rotP mk xa ws xb) (evt 7 xa xb 0 ws)).2 = RP) := Lib.hid (by rw [← HRP.out]; unfold playP doP; simp)
        have HC := Lib.hid (rotC_any p xa ws xb mk _ _ hMO hsm hrp x8)
        clear HRP hMO hsm hrp hT1 hF x1 x2 x3 x4
        go_wp2_with (first
          | ((with_reducible refine arm_range 91 bb (oo + k * 12) OV rE _ hu91 rfl hi12 rfl _ rfl ?_ ?_); focus rfl)
          | ((with_reducible refine arm_new 91 OV 12 ?_ sizeOp HO.out _ rfl rfl _ _ rfl ?_ ?_ ?_); (focus (rw [HL12.out])); (focus rfl); (focus rfl))
          | ((with_reducible refine arm_range 66 wr.heap.size 3 (iv ws) r3 _ hu22 rfl hi8 rfl _ rfl ?_ ?_); focus rfl))
        refine HC.out.mono ?_
        rintro e w3 ⟨rfl, hst⟩
        obtain ⟨h1, h2⟩ := HST.out _ _ hst
        have HR3 : Hid (Rep w3 p RP (New w w3)) := Lib.hid (by rw [← HM.out]; exact h1)
        have HB3 := Lib.hid h2
        clear hst HC HST rE r3 h1 h2 HM
        go_wp2_with fail
        go_roundw
        case rel => exact ⟨k + 1, RP, by simp, by omega, HNX, G1, G3, G2, HR3, HB3⟩
        case measure => simp [intOf]; omega
      have HM : Hid (mk = RP) := Lib.hid (by
        rw [← HRP.out]
        unfold playP
        rw [if_neg (by simp only; omega)])
      have HR3 : Hid (Rep (wr.alloc (.cells OV.toArray 91)) p RP (New w (wr.alloc (.cells OV.toArray 91)))) := Lib.hid (by
        rw [← HM.out]
        exact hrp.wide (fun q h1 => ⟨h1.1, by have := h1.2; omega⟩) fun q h1 => h1.2)
      clear HRP hMO hsm hrp hT1 hF x1 x2 x3 x4 HST
      go_wp2_with (first
          | ((with_reducible refine arm_range 91 bb (oo + k * 12) OV rE _ hu91 rfl hi12 rfl _ rfl ?_ ?_); focus rfl)
          | ((with_reducible refine arm_new 91 OV 12 ?_ sizeOp HO.out _ rfl rfl _ _ rfl ?_ ?_ ?_); (focus (rw [HL12.out])); (focus rfl); (focus rfl))
          | ((with_reducible refine arm_range 66 wr.heap.size 3 (iv ws) r3 _ hu22 rfl hi8 rfl _ rfl ?_ ?_); focus rfl))
      go_roundw
      case rel => exact ⟨k + 1, RP, by simp, by omega, HNX, G1, G3, G2, HR3, HB2⟩
      case measure => simp [intOf]; omega
    · obtain rfl : k = N := by omega
      have hkI : ¬ (k : Int) < (k : Int) := by omega
      have HE : playsP m0 xs = mk := by
        have h1 := HMK.out
        rw [List.drop_of_length_le (by rw [HN.out]; exact Nat.le_refl _)] at h1
        exact h1
      have HF : Hid (PO (.returned (.pointer (some ⟨p, 0, none⟩))) wr) := Lib.hid (by
        rw [HPO.out, HE]
        exact .inr ⟨hM12, hN80, HRB.out, p, rfl, HRF.out, HMO.out, HMS.out.mono hN80, HLN.out⟩)
      clear HE
      go_wp2_with fail
      go_ret
      exact ⟨HF.out, HB.out⟩
end Go.Proofs.YtpojhplnhppcpaaGreatDoor
