/-
  What the reference's From does.
-/
import Derived.Test.YtpojhplnhppcpaaGreatDoorQY2Fates
import Derived.Test.YtpojhplnhppcpaaGreatDoorQN25rFates
namespace Go.Proofs.YtpojhplnhppcpaaGreatDoor
open Go.RowKit Go.Maps
theorem from_at (img : List (List Int × Int)) {k : Nat} (hk : k < img.length) : (fromP img).line k = ⟨img[k].1, img[k].2, [], 0⟩ := by
  have h : k < (fromP img).L.length := by show k < (img.map _).length; rw [List.length_map]; exact hk
  rw [PM.line_eq h]
  simp [fromP]
set_option maxRecDepth 100000 in
set_option maxHeartbeats 8000000 in
set_option linter.unusedSimpArgs false in
theorem rFrom_any (img : List (List Int × Int)) (v : Value) (w : World) (h8 : ∀ x ∈ img, x.1.length = 8) (hn : img.length ≤ 5000) (hs : Rd w v img.length (iv (flatI img))) (hr : rightB img = true) :
    Calls Tryz.prog 79 #[v] w fun e w' => ∃ r, e = .returned (.pointer (some ⟨r, 0, none⟩)) ∧ Ref w' r (fromP img) (New w w') ∧ Below w.heap.size w w' := by
  have hb := bel_new w (.cells #[.slice none 0 0, .int .i64 0, .slice none 0 0] 128)
  have hA := Arr.new w [.slice none 0 0, .int .i64 0, .slice none 0 0] 128
  obtain ⟨w1, hw1⟩ : ∃ w1, w.alloc (.cells #[.slice none 0 0, .int .i64 0, .slice none 0 0] 128) = w1 := ⟨_, rfl⟩
  rw [hw1] at hb
  have hA1 : Arr w1 w.heap.size 128 [.slice none 0 0, .int .i64 0, .slice none 0 0] := by rw [← hw1]; exact hA
  have HC0 : Hid (CpAt w w1 w.heap.size (fromP img) 0 (.slice none 0 0) (.slice none 0 0) []) := Lib.hid {
      mem := hA1
      lst := rfl
      lin := Sl.nil _ _ _
      evs := Sl.nil _ _ _
      pend := fun x hx => by cases hx
      ownR := Nat.le_refl _
      ownU := fun b hb => by cases hb
      ownE := fun b hb => by cases hb
      ownG := fun x hx => by cases hx
      below := hb }
  have hrc := right_any img v w1 h8 hn (hs.below hb)
  rw [hr] at hrc
  have HRC := Lib.hid hrc
  have HSW := Lib.hid hs
  have H8 := Lib.hid h8
  obtain ⟨fok, fsm, flen⟩ := fromP_ok h8 hr
  have HFO := Lib.hid fok
  have HFL := Lib.hid flen
  obtain ⟨N, hN⟩ : ∃ N, img.length = N := ⟨_, rfl⟩
  have HN := Lib.hid hN
  have hN2 : N ≤ 4096 := by rw [← hN, ← flen]; exact fok.few
  have HDN : Hid (∀ wr evv u X, CpAt w wr w.heap.size (fromP img) N evv u X → Ref wr w.heap.size (fromP img) (New w wr)) := Lib.hid fun wr evv u X h => (by rw [← hN, ← flen] at h; exact h.done fok)
  obtain ⟨A, cap, rfl, hcap, hcm, _⟩ := hs
  obtain ⟨l0, ls, lz0, lz1, lz2⟩ := info_parts infoRefLine
  have HLS := Lib.hid ls
  have HL0 := Lib.hid lz0
  have HL1 := Lib.hid lz1
  have HL2 := Lib.hid lz2
  have hu22 := Tryz.underlying66
  rw [hN] at HRC hcap ⊢
  clear hb hA hA1 hrc h8 fok fsm flen hN ls lz0 lz1 lz2 hr
  go_enter Tryz.func79, Tryz.ntmps79
  go_wp2_with fail
  refine HRC.out.mono ?_
  rintro e w2 ⟨rfl, hb2⟩
  have HC1 := Lib.hid ((HC0.out).stay hb2)
  clear hb2 HC0 HRC hw1
  go_wp2_with fail
  go_loopw [5] (fun i wr => ∃ (k : Nat) (evv u : Value) (Y : List (PL × Value)), i = .int .i64 (k : Int) ∧ k ≤ N ∧ Hid (CpAt w wr w.heap.size (fromP img) k evv u Y)) (fun i _ => N - (intOf i).toNat)
  case atStart => exact ⟨0, _, _, [], rfl, by omega, HC1⟩
  case round =>
    clear HC1
    obtain ⟨k, evv, u, Y, rfl, hk, HC⟩ := hrel
    by_cases hlt : k < N
    · have hkl : k < img.length := by rw [HN.out]; exact hlt
      have hkf : k < (fromP img).L.length := by rw [HFL.out]; exact hkl
      have hkI : (k : Int) < (N : Int) := by omega
      obtain ⟨A', cap', hv', _, _, hrr⟩ := HSW.out
      simp only [Value.slice.injEq] at hv'
      obtain ⟨rfl, _, rfl⟩ := hv'
      obtain ⟨bb, oo, rfl, hbl, hcells⟩ := hrr (by omega)
      obtain ⟨r1, r2⟩ := img_code H8.out (fun j u hj => (HC.out.below.cell (p := ⟨bb, oo + j, none⟩) hbl).trans (hcells j u hj)) hkl
      have hln := from_at img hkl
      obtain ⟨a0, a1, a2, a3, a4, a5, a6, a7, hws⟩ := line8 (H8.out _ (List.getElem_mem hkl))
      obtain ⟨c, hc⟩ : ∃ c, img[k].2 = c := ⟨_, rfl⟩
      have HRW : Hid (lnR ((fromP img).line k, .slice none 0 0) = [Value.int .i64 a0, Value.int .i64 a1, Value.int .i64 a2, Value.int .i64 a3, Value.int .i64 a4, Value.int .i64 a5, Value.int .i64 a6, Value.int .i64 a7, Value.int .i64 c, Value.slice none 0 0, Value.int .i64 0]) := Lib.hid (by
        rw [hln]
        unfold lnR
        show iv (img[k].1 ++ [img[k].2]) ++ [_, _] = _
        rw [hws, hc]
        rfl)
      have hpn : ((fromP img).line k).pend = [] := by rw [hln]
      rw [hws] at r1
      rw [hc] at r2
      have hi8 : (Tryz.prog.info? 66).map (·.size) = some [Value.int .i64 a0, Value.int .i64 a1, Value.int .i64 a2, Value.int .i64 a3, Value.int .i64 a4, Value.int .i64 a5, Value.int .i64 a6, Value.int .i64 a7].length := size22
      have r11 : wr.rangeAt bb (oo + k * 9) [Value.int .i64 a0, Value.int .i64 a1, Value.int .i64 a2, Value.int .i64 a3, Value.int .i64 a4, Value.int .i64 a5, Value.int .i64 a6, Value.int .i64 a7] := r1
      have r21 : wr.cell? ⟨bb, oo + k * 9 + 8, none⟩ = some (.int .i64 c) := r2
      obtain ⟨UA, ucap, rfl, _⟩ := HC.out.lin.shape
      refine name_world ?_
      intro W4 hW4
      have hc00 : W4.cell? ⟨w.heap.size, 0, none⟩ = some (.slice UA k ucap) := by rw [hW4]; exact HC.out.mem.cell (j := 0) rfl
      have HCW : Hid (CpAt w W4 w.heap.size (fromP img) k evv (.slice UA k ucap) Y) := by rw [hW4]; exact HC
      rw [← hW4] at r11 r21
      have k0 : W4.cell? ⟨bb, oo + k * 9, none⟩ = some (.int .i64 a0) := r11 0 _ rfl
      have k1 : W4.cell? ⟨bb, oo + k * 9 + 1, none⟩ = some (.int .i64 a1) := r11 1 _ rfl
      have k2 : W4.cell? ⟨bb, oo + k * 9 + 2, none⟩ = some (.int .i64 a2) := r11 2 _ rfl
      have k3 : W4.cell? ⟨bb, oo + k * 9 + 3, none⟩ = some (.int .i64 a3) := r11 3 _ rfl
      have k4 : W4.cell? ⟨bb, oo + k * 9 + 4, none⟩ = some (.int .i64 a4) := r11 4 _ rfl
      have k5 : W4.cell? ⟨bb, oo + k * 9 + 5, none⟩ = some (.int .i64 a5) := r11 5 _ rfl
      have k6 : W4.cell? ⟨bb, oo + k * 9 + 6, none⟩ = some (.int .i64 a6) := r11 6 _ rfl
      have k7 : W4.cell? ⟨bb, oo + k * 9 + 7, none⟩ = some (.int .i64 a7) := r11 7 _ rfl
      have hm0A := fun ob => cell_below (bel_new W4 ob) hc00
      have HL4 : Hid (Sl ((W4.alloc (.cells #[Value.int .i64 a0, Value.int .i64 a1, Value.int .i64 a2, Value.int .i64 a3, Value.int .i64 a4, Value.int .i64 a5, Value.int .i64 a6, Value.int .i64 a7, Value.int .i64 c, Value.slice none 0 0, Value.int .i64 0] 130)).drew) 130 11 (.slice UA k ucap) k (Y.map lnR).flatten) := Lib.hid (HCW.out.lin.keep fun q hq => (bel_new W4 _).block q (HCW.out.lin.lt hq))
      have HNW : Hid (∀ j u, [Value.int .i64 a0, Value.int .i64 a1, Value.int .i64 a2, Value.int .i64 a3, Value.int .i64 a4, Value.int .i64 a5, Value.int .i64 a6, Value.int .i64 a7, Value.int .i64 c, Value.slice none 0 0, Value.int .i64 0][j]? = some u → ((W4.alloc (.cells #[Value.int .i64 a0, Value.int .i64 a1, Value.int .i64 a2, Value.int .i64 a3, Value.int .i64 a4, Value.int .i64 a5, Value.int .i64 a6, Value.int .i64 a7, Value.int .i64 c, Value.slice none 0 0, Value.int .i64 0] 130)).drew).cell? ((⟨W4.heap.size, 0, none⟩ : Addr).add j) = some u) := Lib.hid (fun j u hu => by
        rw [Addr.add_lit, Nat.zero_add]
        exact (Arr.new W4 [Value.int .i64 a0, Value.int .i64 a1, Value.int .i64 a2, Value.int .i64 a3, Value.int .i64 a4, Value.int .i64 a5, Value.int .i64 a6, Value.int .i64 a7, Value.int .i64 c, Value.slice none 0 0, Value.int .i64 0] 130).cell hu)
      have HON2 : Hid (∀ v ∈ [Value.int .i64 a0, Value.int .i64 a1, Value.int .i64 a2, Value.int .i64 a3, Value.int .i64 a4, Value.int .i64 a5, Value.int .i64 a6, Value.int .i64 a7, Value.int .i64 c, Value.slice none 0 0, Value.int .i64 0], v.oneCell' = true) := Lib.hid (by
        intro v hv
        exact lnR_one (x := ((fromP img).line k, .slice none 0 0)) rfl v (by rw [HRW.out]; exact hv))
      have HCB : Hid (∀ (w5 : World) (u' : Value), Sl w5 130 11 u' (k + 1) ((Y.map lnR).flatten ++ [Value.int .i64 a0, Value.int .i64 a1, Value.int .i64 a2, Value.int .i64 a3, Value.int .i64 a4, Value.int .i64 a5, Value.int .i64 a6, Value.int .i64 a7, Value.int .i64 c, Value.slice none 0 0, Value.int .i64 0]) → ((W4.alloc (.cells #[Value.int .i64 a0, Value.int .i64 a1, Value.int .i64 a2, Value.int .i64 a3, Value.int .i64 a4, Value.int .i64 a5, Value.int .i64 a6, Value.int .i64 a7, Value.int .i64 c, Value.slice none 0 0, Value.int .i64 0] 130)).drew).grownBy w5 (Value.slice UA k ucap).ownBlock → (u'.ownBlock = (Value.slice UA k ucap).ownBlock ∨ u'.ownBlock = some ((W4.alloc (.cells #[Value.int .i64 a0, Value.int .i64 a1, Value.int .i64 a2, Value.int .i64 a3, Value.int .i64 a4, Value.int .i64 a5, Value.int .i64 a6, Value.int .i64 a7, Value.int .i64 c, Value.slice none 0 0, Value.int .i64 0] 130)).drew).heap.size) →
          (w5.cell? ⟨w.heap.size, 0, none⟩ = some (.slice UA k ucap) ∧ w5.frozen? ⟨w.heap.size, 0, none⟩ = false) ∧ CpAt w (w5.setCell ⟨w.heap.size, 0, none⟩ u') w.heap.size (fromP img) (k + 1) evv u' (Y ++ [((fromP img).line k, .slice none 0 0)])) := Lib.hid (fun w5 u' h5 h6 h7 =>
        HCW.out.push (w2 := ((W4.alloc (.cells #[Value.int .i64 a0, Value.int .i64 a1, Value.int .i64 a2, Value.int .i64 a3, Value.int .i64 a4, Value.int .i64 a5, Value.int .i64 a6, Value.int .i64 a7, Value.int .i64 c, Value.slice none 0 0, Value.int .i64 0] 130)).drew)) (w3 := w5) (bel_on (bel_new W4 _) (bel_drew _)) hkf (v' := .slice none 0 0) (by rw [hpn]; exact Sl.nil _ _ _) (fun b hb => by cases hb) (u' := u') (by rw [HRW.out]; exact h5) h6 h7)
      clear HC HCW r1 r2 hln hpn hws hc hcells hrr HRW hkf HFL
      clear hW4 r11 hi8
      go_wp2_with fail
      go_region_law ((refine wp_append_sl _ _ 126 rfl 130 l0 _ 11 104 Tryz.underlying126 HLS.out HL0.out HL1.out HL2.out rfl (by decide) (.slice UA k ucap) k (Y.map lnR).flatten rfl HL4.out ⟨W4.heap.size, 0, none⟩ 1 1 [Value.int .i64 a0, Value.int .i64 a1, Value.int .i64 a2, Value.int .i64 a3, Value.int .i64 a4, Value.int .i64 a5, Value.int .i64 a6, Value.int .i64 a7, Value.int .i64 c, Value.slice none 0 0, Value.int .i64 0] rfl rfl HNW.out HON2.out (by unfold maxLen; omega) (by omega) ?_; intro u' w5 h5 h6 h7; obtain ⟨⟨e1, e2⟩, e3⟩ := HCB.out w5 u' h5 h6 h7; have HC5 := Lib.hid e3; obtain ⟨WA, wcap, rfl, _⟩ := h5.shape; clear h5 h6 h7 e3))
      all_goals
        go_wp2_with fail
        go_roundw
        case rel => exact ⟨k + 1, _, _, _, by simp, by omega, HC5⟩
        case measure => simp [intOf]; omega
    · obtain rfl : k = N := by omega
      have hkI : ¬ (k : Int) < (k : Int) := by omega
      have HD := Lib.hid (HDN.out _ _ _ _ HC.out)
      have HB := Lib.hid HC.out.below
      clear HC HDN
      go_wp2_with fail
      go_ret
      exact ⟨w.heap.size, rfl, HD.out, HB.out⟩
end Go.Proofs.YtpojhplnhppcpaaGreatDoor
