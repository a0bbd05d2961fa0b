/-
  What alumref05's behind does.
-/
import Derived.Test.YtpojhplnhppcpaaGreatDoorQY1Fates
import Derived.Test.YtpojhplnhppcpaaGreatDoorQY3Fates
import Derived.Test.YtpojhplnhppcpaaGreatDoorQY4Fates
namespace Go.Proofs.YtpojhplnhppcpaaGreatDoor
open Go.RowKit Go.Maps
set_option maxRecDepth 100000 in
set_option maxHeartbeats 8000000 in
set_option linter.unusedSimpArgs false in
theorem rBehind_any (img : List (List Int × Int)) (l : List (List Int)) (v lv : Value) (w : World) (h8 : ∀ x ∈ img, x.1.length = 8) (hn : img.length ≤ 5000) (hs : Rd w v img.length (iv (flatI img))) (hr : rightB img = true)
    (hl : EvI l) (hll : l.length ≤ 400) (hlv : Rd w lv l.length (iv l.flatten)) :
    Calls Tryz.prog 50 #[v, lv] w fun e w' => ∃ r, e = .returned (.tuple #[.pointer (some ⟨r, 0, none⟩), .int .i64 ((fitsP (fromP img) l : Nat) : Int)]) ∧ Ref w' r (runP (fromP img) (l.take (fitsP (fromP img) l))) (New w w') ∧ Below w.heap.size w w' := by
  have HFR := Lib.hid (rFrom_any img v w h8 hn hs hr)
  obtain ⟨fok, fsm, _⟩ := fromP_ok h8 hr
  obtain ⟨m0, hm0⟩ : ∃ m0, fromP img = m0 := ⟨_, rfl⟩
  rw [hm0] at HFR fok fsm ⊢
  obtain ⟨FT, hFT⟩ : ∃ FT, fitsP m0 l = FT := ⟨_, rfl⟩
  have HFT := Lib.hid hFT
  have HFL : Hid (FT ≤ l.length) := Lib.hid (by rw [← hFT]; exact fits_le m0 l)
  rw [hFT]
  have HL := Lib.hid hl
  have HFO := Lib.hid fok
  have HFS := Lib.hid fsm
  obtain ⟨N, hN⟩ : ∃ N, l.length = N := ⟨_, rfl⟩
  have HN := Lib.hid hN
  obtain ⟨A, cap, rfl, hcap, hcm, hrr⟩ := hlv
  have HRR := Lib.hid hrr
  rw [hN] at hcap hll HFL ⊢
  have hu68 := Tryz.underlying68
  clear hrr hl hs hr h8 hn hN hm0 hFT fok fsm
  go_enter Tryz.func50, Tryz.ntmps50
  go_wp2_with fail
  refine HFR.out.mono ?_
  rintro e w1 ⟨p, rfl, hp1, hb1⟩
  have HP1 := Lib.hid hp1
  have HB1 := Lib.hid hb1
  have HS1 : Hid (m0.Small (2 * 0)) := Lib.hid HFS.out
  have HR1 : Hid (runP m0 (l.take 0) = m0) := Lib.hid rfl
  have HF1 : Hid (FT = 0 + fitsP m0 (l.drop 0)) := Lib.hid (by rw [Nat.zero_add, List.drop_zero]; exact HFT.out.symm)
  clear hp1 hb1 HFR HFS HFT
  go_wp2_with fail
  go_loopw [7] (fun i wr => ∃ (k : Nat) (mk : PM), i = .int .i64 (k : Int) ∧ k ≤ N ∧ Hid (runP m0 (l.take k) = mk) ∧ Hid (FT = k + fitsP mk (l.drop k)) ∧ Hid mk.Ok ∧ Hid (mk.Small (2 * k)) ∧ Hid (Ref wr p mk (New w wr)) ∧ Hid (Below w.heap.size w wr)) (fun i _ => N - (intOf i).toNat)
  case atStart => exact ⟨0, m0, rfl, by omega, HR1, HF1, HFO, HS1, HP1, HB1⟩
  case round =>
    clear HR1 HF1 HFO HS1 HP1 HB1
    obtain ⟨k, mk, rfl, hk, HMK, HFK, HMO, HMS, HRF, HB⟩ := hrel
    by_cases hlt : k < N
    · have hkc : k < l.length := by rw [HN.out]; exact hlt
      have hkI : (k : Int) < (N : Int) := by omega
      obtain ⟨bb, oo, rfl, hbl, hcells⟩ := HRR.out (by omega)
      obtain ⟨hx12, hxI⟩ := HL.out _ (List.getElem_mem hkc)
      have HCO := Lib.hid (rCopy_any p mk (New w wr) wr HMO.out (HMS.out.mono (by omega)) HRF.out)
      have HRE : Hid (∀ w2, Below wr.heap.size wr w2 → w2.rangeAt bb (oo + k * 12) (iv l[k])) := Lib.hid fun w2 hb2 => evLine (fun x hx => (HL.out x hx).1) (fun j u hj => ((bel_on HB.out hb2).cell (p := ⟨bb, oo + j, none⟩) hbl).trans (hcells j u hj)) hkc
      have HAP := Lib.hid fun w2 (hb2 : Below wr.heap.size wr w2) => rApply_any p l[k] mk (New w wr) w2 hx12 hxI HMO.out (HMS.out.mono (by omega)) (HRF.out.below hb2)
      have HON : Hid (appliesB mk l[k] = true → FT = (k + 1) + fitsP (applyP mk l[k]) (l.drop (k + 1))) := Lib.hid fun h => by
        have h1 := HFK.out
        rw [fits_on hkc h] at h1
        omega
      have HOF : Hid (appliesB mk l[k] = false → FT = k) := Lib.hid fun h => by
        have h1 := HFK.out
        rw [fits_off hkc h] at h1
        omega
      have HRN : Hid (runP m0 (l.take (k + 1)) = applyP mk l[k]) := Lib.hid (by rw [run_on m0 hkc, HMK.out])
      have HGD := Lib.hid (apply_good HMO.out HMS.out hx12 hxI)
      have hi12 : (Tryz.prog.info? 68).map (·.size) = some (iv l[k]).length := by rw [size79, iv_len, hx12]
      generalize l[k] = x at *
      obtain ⟨AB, hAB⟩ : ∃ AB, appliesB mk x = AB := ⟨_, rfl⟩
      rw [hAB] at HAP HON HOF
      clear hx12 hxI hcells hAB HFK
      go_wp2_with fail
      refine HCO.out.mono ?_
      rintro e w2 ⟨r, rfl, hr2, hb2⟩
      have HR2 := Lib.hid hr2
      have HB2 := Lib.hid hb2
      have rE := HRE.out w2 hb2
      have HA2 := Lib.hid (HAP.out w2 hb2)
      clear hr2 hb2 HCO HRE HAP
      go_wp2_with ((with_reducible refine arm_range 68 bb (oo + k * 12) (iv x) rE _ hu68 rfl hi12 rfl _ rfl ?_ ?_); focus rfl)
      refine HA2.out.mono ?_
      rintro e w3 ⟨rfl, hst⟩
      have HST := Lib.hid hst
      have hsz1 := HB.out.size
      have hsz2 := HB2.out.size
      have hsz3 := hst.2.size
      have HB3 : Hid (Below w.heap.size w w3) := Lib.hid ((bel_on HB.out HB2.out).trans (hst.2.below (fun q _ hq => hq.1) (Nat.le_trans hsz1 hsz2)))
      clear hst HA2 rE
      cases AB with
      | false =>
        obtain rfl := HOF.out rfl
        have HRR2 : Hid (Ref w3 r mk (New w w3)) := Lib.hid ((HR2.out.kept HST.out.2 fun q h1 h2 => by
          have e1 := h1.1
          have e2 := h2.2
          omega).wide (fun q h1 => ⟨Nat.le_trans hsz1 h1.1, Nat.lt_of_lt_of_le h1.2 hsz3⟩) fun q h1 => h1.2)
        go_wp2_with fail
        go_ret2
        exact ⟨r, rfl, by rw [HMK.out]; exact HRR2.out, HB3.out⟩
      | true =>
        have HN2 := Lib.hid (HON.out rfl)
        obtain ⟨g1, _, g3⟩ := HGD.out
        have G1 := Lib.hid g1
        have G3 : Hid ((applyP mk x).Small (2 * (k + 1))) := Lib.hid g3
        have HRR2 : Hid (Ref w3 p (applyP mk x) (New w w3)) := Lib.hid (HST.out.1.wide (fun q h1 => by
          rcases h1 with h2 | h2
          · exact ⟨h2.1, by have := h2.2; omega⟩
          · exact ⟨by have := h2.1; omega, h2.2⟩) fun q h1 => h1.2)
        clear g1 g3
        go_wp2_with fail
        go_roundw
        case rel => exact ⟨k + 1, _, by simp, by omega, HRN, HN2, G1, G3, HRR2, HB3⟩
        case measure => simp [intOf]; omega
    · obtain rfl : k = N := by omega
      have hkI : ¬ (k : Int) < (k : Int) := by omega
      have HE : Hid (FT = k) := Lib.hid (by
        have h1 := HFK.out
        rw [List.drop_of_length_le (by rw [HN.out]; exact Nat.le_refl _)] at h1
        exact h1)
      obtain rfl := HE.out
      have HRR2 := Lib.hid HRF.out
      go_wp2_with fail
      go_ret2
      exact ⟨p, rfl, by rw [HMK.out]; exact HRR2.out, HB.out⟩
end Go.Proofs.YtpojhplnhppcpaaGreatDoor
