/-
  What alumref05's Parse does.
-/
import Derived.Test.YtpojhplnhppcpaaGreatDoorQK9Parse
namespace Go.Proofs.YtpojhplnhppcpaaGreatDoor
open Go.RowKit Go.Maps
theorem part_len {c : UInt8} : ∀ (s acc x : List UInt8), x ∈ splitF c acc s → x.length ≤ acc.length + s.length
  | [], acc, x, h => by
    simp only [splitF, List.mem_singleton] at h
    rw [h]
    simp
  | b :: r, acc, x, h => by
    unfold splitF at h
    split at h
    · rcases List.mem_cons.1 h with rfl | h
      · omega
      · have := part_len r [] x h
        simp only [List.length_cons, List.length_nil] at this ⊢
        omega
    · have := part_len r (acc ++ [b]) x h
      simp only [List.length_append, List.length_cons, List.length_nil] at this ⊢
      omega
theorem line_mem {s x : List UInt8} (h : x ∈ (linesR s).1) : x.length ≤ s.length := by
  have h2 : x ∈ splitF 10 [] s := by
    unfold linesR at h
    simp only at h
    split at h
    · exact List.dropLast_subset _ h
    · exact h
  have := part_len s [] x h2
  simpa using this
theorem lines_num (s : List UInt8) : (linesR s).1.length ≤ s.length + 1 := by
  have := split_small (c := 10) s []
  unfold linesR
  simp only
  split
  · rw [List.length_dropLast]; omega
  · exact this
theorem ref_none {wh : Bool} {LS : List (List UInt8)} {k : Nat} (hk : k < LS.length) {acc : List (List Int)} (h : evR LS[k] = none) : refL wh (LS.drop k) acc = (acc, false) := by
  rw [List.drop_eq_getElem_cons hk]
  unfold refL
  rw [h]
theorem ref_some {wh : Bool} {LS : List (List UInt8)} {k : Nat} (hk : k < LS.length) {acc : List (List Int)} {v : List Int} (h : evR LS[k] = some v) :
    refL wh (LS.drop k) acc = if k + 1 = LS.length ∧ wh = false then (acc, false) else refL wh (LS.drop (k + 1)) (acc ++ [v]) := by
  rw [List.drop_eq_getElem_cons hk]
  show (match evR LS[k] with | none => (acc, false) | some v => if LS.drop (k + 1) = [] ∧ wh = false then (acc, false) else refL wh (LS.drop (k + 1)) (acc ++ [v])) = _
  rw [h]
  have e : (LS.drop (k + 1) = []) ↔ k + 1 = LS.length := by
    rw [List.drop_eq_nil_iff]
    omega
  simp only [e]
/-- What the specification's Parse answers. -/
def DParsePost (s : List UInt8) (w : World) (e : Ending) (w' : World) : Prop :=
  ((refP s).2 = false ∧ e = .returned (.tuple #[.slice none 0 0, .int .i64 ((refP s).1.length : Int), .int .i64 3])) ∨
  ((refP s).2 = true ∧ ∃ u, e = .returned (.tuple #[u, .int .i64 ((refP s).1.length : Int), .int .i64 0]) ∧ Sl w' 68 12 u (refP s).1.length (iv (refP s).1.flatten) ∧ ∀ q, u.ownBlock = some q → w.heap.size ≤ q)
set_option maxRecDepth 100000 in
set_option maxHeartbeats 8000000 in
set_option linter.unusedSimpArgs false in
theorem dparse_any (s : List UInt8) (w : World) (hs : s.length ≤ 100000) :
    Calls Tryz.prog 44 #[strV s] w fun e w' => DParsePost s w e w' ∧ Below w.heap.size w w' := by
  have HPO : Hid (∀ e w', DParsePost s w e w' = (((refP s).2 = false ∧ e = .returned (.tuple #[.slice none 0 0, .int .i64 ((refP s).1.length : Int), .int .i64 3])) ∨
    ((refP s).2 = true ∧ ∃ u, e = .returned (.tuple #[u, .int .i64 ((refP s).1.length : Int), .int .i64 0]) ∧ Sl w' 68 12 u (refP s).1.length (iv (refP s).1.flatten) ∧ ∀ q, u.ownBlock = some q → w.heap.size ≤ q))) := Lib.hid fun _ _ => rfl
  obtain ⟨PO, hPO⟩ : ∃ PO, DParsePost s w = PO := ⟨_, rfl⟩
  rw [hPO] at HPO ⊢
  have hR : refP s = refL (linesR s).2 (linesR s).1 [] := rfl
  obtain ⟨R, hRR⟩ : ∃ R, refP s = R := ⟨_, rfl⟩
  rw [hRR] at HPO hR
  have HLI := Lib.hid fun w1 => dlines_any s w1 (by omega)
  have HLM := Lib.hid fun x => line_mem (s := s) (x := x)
  have hln := lines_num s
  obtain ⟨⟨LS, wh⟩, hLS⟩ : ∃ p, linesR s = p := ⟨_, rfl⟩
  rw [hLS] at HLI HLM hln hR
  simp only at HLI HLM hln hR
  obtain ⟨N, hN⟩ : ∃ N, LS.length = N := ⟨_, rfl⟩
  rw [hN] at HLI hln
  have HN := Lib.hid hN
  have HR0 : Hid (R = refL wh (LS.drop 0) []) := Lib.hid (by rw [List.drop_zero]; exact hR)
  have HB0 : Hid (Below w.heap.size w w) := Lib.hid (Below.refl _ _)
  obtain ⟨i0, hi, hz0, hz1, hz2⟩ := info_parts infoEvent
  have HI0 := Lib.hid hi
  have HZ0 := Lib.hid hz0
  have HZ1 := Lib.hid hz1
  have HZ2 := Lib.hid hz2
  have H68 := Lib.hid Tryz.underlying68
  have HEV := Lib.hid fun (x : List UInt8) (hx : x ∈ LS) w1 => event_any x w1 (Nat.le_trans (HLM.out x hx) hs)
  clear hi hz0 hz1 hz2 hPO hR hRR hLS hN
  unfold strV at HLI HEV ⊢
  go_enter Tryz.func44, Tryz.ntmps44
  go_wp2_with fail
  refine (HLI.out _).mono ?_
  rintro e w1 ⟨⟨lv, rfl, hsl, hown⟩, hb⟩
  obtain ⟨LA, lcap, rfl, hcap, hcm, hrr⟩ := hsl.rdK
  have HRR := Lib.hid hrr
  have HB1 := Lib.hid hb
  have HSS : Hid (Sl w1 68 12 (.slice none 0 0) ([] : List (List Int)).length (iv ([] : List (List Int)).flatten)) := Lib.hid (Sl.nil _ _ _)
  have HOS : Hid (∀ q, (Value.slice none 0 0).ownBlock = some q → w.heap.size ≤ q ∧ w1.heap.size ≤ q) := Lib.hid fun q hq => by simp [Value.ownBlock] at hq
  have HBS : Hid (Below w1.heap.size w1 w1) := Lib.hid (Below.refl _ _)
  clear hrr hsl hown hb HLI HLM
  go_wp2_with fail
  go_loopw [7, 8] (fun o i wr => ∃ (k : Nat) (acc : List (List Int)), i = .int .i64 (k : Int) ∧ k ≤ N ∧ acc.length = k ∧ Hid (R = refL wh (LS.drop k) acc) ∧ Hid (Sl wr 68 12 o acc.length (iv acc.flatten)) ∧ Hid (∀ q, o.ownBlock = some q → w.heap.size ≤ q ∧ w1.heap.size ≤ q) ∧ Hid (Below w1.heap.size w1 wr)) (fun _ i _ => N - (intOf i).toNat)
  case atStart => exact ⟨0, [], rfl, by omega, rfl, HR0, HSS, HOS, HBS⟩
  case round =>
    clear HR0 HSS HOS HBS
    obtain ⟨k, acc, rfl, hk, hak, HR, HS, HOW, HB⟩ := hrel
    have HBX := Lib.hid (bel_on HB1.out HB.out)
    have HAK := Lib.hid hak
    have hal : acc.length ≤ 100001 := by omega
    clear hak
    by_cases hlt : k < N
    · have hkc : k < LS.length := by rw [HN.out]; exact hlt
      have hkI : (k : Int) < (N : Int) := by omega
      obtain ⟨lb, lo, rfl, hbl, hcells⟩ := HRR.out (by omega)
      have hcell : wr.cell? ⟨lb, lo + k, none⟩ = some (.string ⟨(LS[k]'hkc).toArray⟩) := by
        have h1 : w1.cell? ⟨lb, lo + k, none⟩ = some (.string ⟨(LS[k]'hkc).toArray⟩) := hcells k _ (by rw [List.getElem?_map, List.getElem?_eq_getElem hkc]; rfl)
        exact cell_below HB.out h1
      have HRN := Lib.hid fun h => HR.out.trans (ref_none (wh := wh) hkc (acc := acc) h)
      have HRS := Lib.hid fun v h => HR.out.trans (ref_some (wh := wh) hkc (acc := acc) (v := v) h)
      have HEX := Lib.hid fun w1 => HEV.out LS[k] (List.getElem_mem hkc) w1
      rw [HN.out] at HRS
      generalize LS[k] = x at *
      clear hcells HR hkc
      go_wp2_with fail
      refine (HEX.out _).mono ?_
      rintro e w3 ⟨⟨X, b, rfl, hev, hX12⟩, hb⟩
      have hbn := bel_new w3 (.cells (iv X).toArray 68)
      have HB3 := Lib.hid (bel_on (bel_on HB.out hb) hbn)
      have HS3 := Lib.hid ((HS.out.below hb).below hbn)
      have HA3 := Lib.hid (Arr.new w3 (iv X) 68)
      have HL12 := Lib.hid hX12
      have HOX := Lib.hid (iv_one X)
      have HIX : Hid ((Tryz.prog.info? 68).map (·.size) = some (iv X).length) := Lib.hid (by rw [size79, iv_len, hX12])
      obtain ⟨W4, hW4⟩ : ∃ W, w3.alloc (.cells (iv X).toArray 68) = W := ⟨_, rfl⟩
      rw [hW4] at HB3 HS3
      change Hid (Arr (w3.alloc (.cells (iv X).toArray 68)) w3.heap.size 68 (iv X)) at HA3
      rw [hW4] at HA3
      have HW4 := Lib.hid hW4
      have HEVX := Lib.hid hev
      have HBW := Lib.hid (bel_on HB1.out HB3.out)
      clear hb hbn hW4 hX12 hev HB HS HEX hcell HBX
      cases b with
      | false =>
        have HRF : Hid (R = (acc, false)) := Lib.hid (HRN.out (by rw [HEVX.out]; rfl))
        clear HEVX HRN HRS
        go_wp2_with ((with_reducible refine arm_new 68 (iv X) 12 ?_ size79 HOX.out _ rfl rfl _ _ rfl ?_ ?_ ?_); (focus (rw [iv_len, HL12.out])); (focus rfl); (focus rfl); rw [HW4.out])
        go_ret3
        exact ⟨by rw [HPO.out, HRF.out]; exact .inl ⟨rfl, by rw [← HAK.out]; rfl⟩, HBW.out⟩
      | true =>
        have hrs := HRS.out X (by rw [HEVX.out]; rfl)
        clear HEVX HRN HRS
        by_cases hend : k + 1 = N ∧ wh = false
        · obtain ⟨hk1, rfl⟩ := hend
          rw [if_pos ⟨hk1, rfl⟩] at hrs
          have HRF := Lib.hid hrs
          have hkq : (k : Int) = (N : Int) - 1 := by omega
          have hkb : ((k : Int) == (N : Int) - 1) = true := by rw [beq_iff_eq]; exact hkq
          clear hrs
          go_wp2_with ((with_reducible refine arm_new 68 (iv X) 12 ?_ size79 HOX.out _ rfl rfl _ _ rfl ?_ ?_ ?_); (focus (rw [iv_len, HL12.out])); (focus rfl); (focus rfl); rw [HW4.out])
          go_ret3
          exact ⟨by rw [HPO.out, HRF.out]; exact .inl ⟨rfl, by show Ending.returned (.tuple #[.slice none 0 0, .int .i64 ((N : Int) - 1), .int .i64 3]) = _; rw [show (N : Int) - 1 = (acc.length : Int) by have := HAK.out; omega]⟩, HBW.out⟩
        · rw [if_neg hend] at hrs
          have HRX := Lib.hid hrs
          have hcase : (¬ k + 1 = N) ∨ (k + 1 = N ∧ wh = true) := by
            by_cases h1 : k + 1 = N
            · right
              refine ⟨h1, ?_⟩
              cases wh with
              | true => rfl
              | false => exact absurd ⟨h1, rfl⟩ hend
            · exact .inl h1
          clear hrs hend
          obtain ⟨c0, c1, c2, c3, c4, c5, c6, c7, c8, c9, c10, c11, rfl⟩ := twelve HL12.out
          change Hid (Arr W4 w3.heap.size 68 [Value.int .i64 c0, Value.int .i64 c1, Value.int .i64 c2, Value.int .i64 c3, Value.int .i64 c4, Value.int .i64 c5, Value.int .i64 c6, Value.int .i64 c7, Value.int .i64 c8, Value.int .i64 c9, Value.int .i64 c10, Value.int .i64 c11]) at HA3
          have hbn := bel_new W4 (.cells #[.int .i64 c0, .int .i64 c1, .int .i64 c2, .int .i64 c3, .int .i64 c4, .int .i64 c5, .int .i64 c6, .int .i64 c7, .int .i64 c8, .int .i64 c9, .int .i64 c10, .int .i64 c11] 68)
          have HSN := Lib.hid (HS3.out.below hbn)
          have HBN := Lib.hid (bel_on HB3.out hbn)
          have HIL : Hid ((Tryz.prog.info? 68).map (·.size) = some [Value.int .i64 c0, Value.int .i64 c1, Value.int .i64 c2, Value.int .i64 c3, Value.int .i64 c4, Value.int .i64 c5, Value.int .i64 c6, Value.int .i64 c7, Value.int .i64 c8, Value.int .i64 c9, Value.int .i64 c10, Value.int .i64 c11].length) := Lib.hid size79
          have HNW : Hid (∀ i u, [Value.int .i64 c0, Value.int .i64 c1, Value.int .i64 c2, Value.int .i64 c3, Value.int .i64 c4, Value.int .i64 c5, Value.int .i64 c6, Value.int .i64 c7, Value.int .i64 c8, Value.int .i64 c9, Value.int .i64 c10, Value.int .i64 c11][i]? = some u → (W4.alloc (.cells #[.int .i64 c0, .int .i64 c1, .int .i64 c2, .int .i64 c3, .int .i64 c4, .int .i64 c5, .int .i64 c6, .int .i64 c7, .int .i64 c8, .int .i64 c9, .int .i64 c10, .int .i64 c11] 68)).cell? ((⟨W4.heap.size, 0, none⟩ : Addr).add i) = some u) := Lib.hid (by
            intro i u hi
            have h1 := (Arr.new W4 [Value.int .i64 c0, Value.int .i64 c1, Value.int .i64 c2, Value.int .i64 c3, Value.int .i64 c4, Value.int .i64 c5, Value.int .i64 c6, Value.int .i64 c7, Value.int .i64 c8, Value.int .i64 c9, Value.int .i64 c10, Value.int .i64 c11] 68).cell hi
            have e1 : (⟨W4.heap.size, 0, none⟩ : Addr).add i = ⟨W4.heap.size, i, none⟩ := by unfold Addr.add; split <;> simp_all
            rw [e1]
            exact h1)
          have HOL : Hid (∀ u ∈ [Value.int .i64 c0, Value.int .i64 c1, Value.int .i64 c2, Value.int .i64 c3, Value.int .i64 c4, Value.int .i64 c5, Value.int .i64 c6, Value.int .i64 c7, Value.int .i64 c8, Value.int .i64 c9, Value.int .i64 c10, Value.int .i64 c11], u.oneCell' = true) := HOX
          have HCB : Hid (∀ v' w', Sl w' 68 12 v' (acc.length + 1) (iv acc.flatten ++ [Value.int .i64 c0, Value.int .i64 c1, Value.int .i64 c2, Value.int .i64 c3, Value.int .i64 c4, Value.int .i64 c5, Value.int .i64 c6, Value.int .i64 c7, Value.int .i64 c8, Value.int .i64 c9, Value.int .i64 c10, Value.int .i64 c11]) → (W4.alloc (.cells #[.int .i64 c0, .int .i64 c1, .int .i64 c2, .int .i64 c3, .int .i64 c4, .int .i64 c5, .int .i64 c6, .int .i64 c7, .int .i64 c8, .int .i64 c9, .int .i64 c10, .int .i64 c11] 68)).grownBy w' u7.ownBlock → (v'.ownBlock = u7.ownBlock ∨ v'.ownBlock = some (W4.alloc (.cells #[.int .i64 c0, .int .i64 c1, .int .i64 c2, .int .i64 c3, .int .i64 c4, .int .i64 c5, .int .i64 c6, .int .i64 c7, .int .i64 c8, .int .i64 c9, .int .i64 c10, .int .i64 c11] 68)).heap.size) →
              Sl w' 68 12 v' (acc ++ [[c0, c1, c2, c3, c4, c5, c6, c7, c8, c9, c10, c11]]).length (iv (acc ++ [[c0, c1, c2, c3, c4, c5, c6, c7, c8, c9, c10, c11]]).flatten) ∧ (∀ q, v'.ownBlock = some q → w.heap.size ≤ q ∧ w1.heap.size ≤ q) ∧ Below w1.heap.size w1 w') := Lib.hid fun v' w' h1 h2 h3 => by
            refine ⟨?_, fun q hq => ?_, HBN.out.grown h2 HBN.out.size fun q hq => (HOW.out q hq).2⟩
            · rw [List.length_append, List.flatten_append, show iv (acc.flatten ++ [[c0, c1, c2, c3, c4, c5, c6, c7, c8, c9, c10, c11]].flatten) = iv acc.flatten ++ [Value.int .i64 c0, Value.int .i64 c1, Value.int .i64 c2, Value.int .i64 c3, Value.int .i64 c4, Value.int .i64 c5, Value.int .i64 c6, Value.int .i64 c7, Value.int .i64 c8, Value.int .i64 c9, Value.int .i64 c10, Value.int .i64 c11] by unfold iv; rw [List.map_append]; simp]
              exact h1
            · rcases h3 with h3 | h3
              · exact HOW.out q (h3 ▸ hq)
              · rw [h3] at hq
                cases hq
                exact ⟨(bel_on HB1.out HBN.out).size, HBN.out.size⟩
          obtain ⟨SA, sc, rfl, _⟩ := HS3.out.shape
          have hN100 : N ≤ 100001 := by omega
          clear hbn HS3 HB3
          rcases hcase with hk1 | ⟨hk1, rfl⟩
          · have hkb : ((k : Int) == (N : Int) - 1) = false := by rw [beq_eq_false_iff_ne]; omega
            have HKN := Lib.hid hk1
            clear hk1
            go_wp2_with (first
              | ((with_reducible refine arm_new 68 (iv [c0, c1, c2, c3, c4, c5, c6, c7, c8, c9, c10, c11]) 12 ?_ size79 HOX.out _ rfl rfl _ _ rfl ?_ ?_ ?_); (focus rfl); (focus rfl); (focus rfl); rw [HW4.out])
              | ((with_reducible refine arm_row 68 w3.heap.size 68 _ HA3.out _ H68.out rfl HIL.out rfl _ rfl ?_ ?_); focus rfl)
              | (at_builtin; (refine arm_append_sl _ _ 24 rfl rfl 68 i0 _ 12 96 Tryz.underlying24 HI0.out HZ0.out HZ1.out HZ2.out rfl (by decide) (.slice SA acc.length sc) acc.length (iv acc.flatten) rfl HSN.out ⟨W4.heap.size, 0, none⟩ 1 1 [Value.int .i64 c0, Value.int .i64 c1, Value.int .i64 c2, Value.int .i64 c3, Value.int .i64 c4, Value.int .i64 c5, Value.int .i64 c6, Value.int .i64 c7, Value.int .i64 c8, Value.int .i64 c9, Value.int .i64 c10, Value.int .i64 c11] rfl rfl HNW.out HOL.out (by unfold maxLen; omega) (by omega) ?_); intro v' w9 h1 h2 h3; have HX := Lib.hid (HCB.out v' w9 h1 h2 h3); obtain ⟨XA, xc, rfl, _⟩ := h1.shape; clear h1 h2 h3))
            go_roundw
            case rel => exact ⟨k + 1, _, by simp, by omega, by rw [List.length_append, HAK.out]; rfl, HRX, Lib.hid HX.out.1, Lib.hid HX.out.2.1, Lib.hid HX.out.2.2⟩
            case measure => simp [intOf]; omega
          · have HKN := Lib.hid hk1
            have hkb : ((k : Int) == (N : Int) - 1) = true := by rw [beq_iff_eq]; omega
            clear hk1
            go_wp2_with (first
              | ((with_reducible refine arm_new 68 (iv [c0, c1, c2, c3, c4, c5, c6, c7, c8, c9, c10, c11]) 12 ?_ size79 HOX.out _ rfl rfl _ _ rfl ?_ ?_ ?_); (focus rfl); (focus rfl); (focus rfl); rw [HW4.out])
              | ((with_reducible refine arm_row 68 w3.heap.size 68 _ HA3.out _ H68.out rfl HIL.out rfl _ rfl ?_ ?_); focus rfl)
              | (at_builtin; (refine arm_append_sl _ _ 24 rfl rfl 68 i0 _ 12 96 Tryz.underlying24 HI0.out HZ0.out HZ1.out HZ2.out rfl (by decide) (.slice SA acc.length sc) acc.length (iv acc.flatten) rfl HSN.out ⟨W4.heap.size, 0, none⟩ 1 1 [Value.int .i64 c0, Value.int .i64 c1, Value.int .i64 c2, Value.int .i64 c3, Value.int .i64 c4, Value.int .i64 c5, Value.int .i64 c6, Value.int .i64 c7, Value.int .i64 c8, Value.int .i64 c9, Value.int .i64 c10, Value.int .i64 c11] rfl rfl HNW.out HOL.out (by unfold maxLen; omega) (by omega) ?_); intro v' w9 h1 h2 h3; have HX := Lib.hid (HCB.out v' w9 h1 h2 h3); obtain ⟨XA, xc, rfl, _⟩ := h1.shape; clear h1 h2 h3))
            go_roundw
            case rel => exact ⟨k + 1, _, by simp, by omega, by rw [List.length_append, HAK.out]; rfl, HRX, Lib.hid HX.out.1, Lib.hid HX.out.2.1, Lib.hid HX.out.2.2⟩
            case measure => simp [intOf]; omega
    · obtain rfl : k = N := by omega
      have hkI : ¬ (k : Int) < (k : Int) := by omega
      have hfin : R = (acc, true) := by
        rw [HR.out, List.drop_of_length_le (by rw [HN.out]; exact Nat.le_refl _)]
        rfl
      have HFI := Lib.hid hfin
      obtain ⟨XA, xcap, rfl, _⟩ := HS.out.shape
      clear hfin HR
      go_wp2_with fail
      go_ret3
      exact ⟨by rw [HPO.out, HFI.out]; exact .inr ⟨rfl, _, by rw [← HAK.out]; rfl, HS.out, fun q hq => (HOW.out q hq).1⟩, HBX.out⟩
end Go.Proofs.YtpojhplnhppcpaaGreatDoor
