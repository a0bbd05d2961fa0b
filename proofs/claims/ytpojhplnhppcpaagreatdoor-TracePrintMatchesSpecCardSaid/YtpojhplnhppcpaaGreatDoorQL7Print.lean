/-
  TracePrintMatchesSpec: the walk.
-/
import Derived.Test.YtpojhplnhppcpaaGreatDoorQK10Print
namespace Go.Proofs.YtpojhplnhppcpaaGreatDoor
open Go.RowKit Go.Maps
theorem bare_take {l : List (List Int)} {k : Nat} (hk : k < l.length) : (l.take (k + 1)).map bareT = (l.take k).map bareT ++ [bareT l[k]] := by
  rw [List.take_succ_eq_append_getElem hk, List.map_append]
  rfl
set_option maxRecDepth 100000 in
set_option maxHeartbeats 8000000 in
set_option linter.unusedSimpArgs false in
theorem lawPrint (lv : Value) (l : List (List Int)) (w : World) (hl : EvI l) (hlv : Rd w lv l.length (iv l.flatten)) (hT : TabA w) :
    Calls Tryz.prog 9 #[lv] w fun e w' => e = .returned (.bool true) ∧ Below w.heap.size w w' := by
  have HS := Lib.hid (tsanity_any w hT)
  have HT := Lib.hid hT
  have HL := Lib.hid hlv
  have HEV := Lib.hid hl
  have HPP := Lib.hid (parse_print hl)
  have HPL := Lib.hid (print_len l hl)
  obtain ⟨A, cap, rfl, hcap, hcm, hrr⟩ := hlv
  have HRR := Lib.hid hrr
  obtain ⟨N, hN⟩ : ∃ N, l.length = N := ⟨_, rfl⟩
  have HN := Lib.hid hN
  obtain ⟨PT, hPT⟩ : ∃ PT, printT l = PT := ⟨_, rfl⟩
  have HPT := Lib.hid hPT
  rw [hPT] at HPP HPL
  rw [hN] at HL HPL hcap ⊢
  have H68 := Lib.hid Tryz.underlying68
  obtain ⟨i0, hi, hz0, hz1, hz2⟩ := info_parts infoEvent
  have HI0 := Lib.hid hi
  have HZ0 := Lib.hid hz0
  have HZ1 := Lib.hid hz1
  have HZ2 := Lib.hid hz2
  clear hi hz0 hz1 hz2 hl hT hN hrr hPT
  go_enter Tryz.func9, Tryz.ntmps9
  go_wp2_with fail
  refine HS.out.mono ?_
  rintro e w1 ⟨rfl, hb⟩
  have HB1 := Lib.hid hb
  clear hb HS
  by_cases hbig : (120 : Int) < (N : Int)
  case pos =>
    go_wp2_with fail
    go_ret
    exact ⟨rfl, HB1.out⟩
  case neg =>
    have HN120 : Hid (N ≤ 120) := Lib.hid (by omega)
    have HPR := Lib.hid (print_any l (.slice A N cap) w1 HEV.out (by rw [HN.out]; omega) (by rw [HN.out]; exact HL.out.below HB1.out) (HT.out.keep HB1.out).txt)
    rw [HPT.out] at HPR
    unfold strV at HPR
    go_wp2_with fail
    refine HPR.out.mono ?_
    rintro e w2 ⟨rfl, hb⟩
    have HB2 := Lib.hid (bel_on HB1.out hb)
    have HPA := Lib.hid (parse_any PT w2 (by have := HPL.out; omega) (HT.out.keep HB2.out).txt (HT.out.keep HB2.out).err)
    unfold strV at HPA
    clear hb HPR HB1
    go_wp2_with fail
    refine HPA.out.mono ?_
    rintro e w3 ⟨hp, hb⟩
    have HB3 := Lib.hid (bel_on HB2.out hb)
    have hp2 : ∃ u, e = .returned (.tuple #[u, .int .i64 (N : Int), .int .i64 0]) ∧ Sl w3 68 12 u N (iv (l.map bareT).flatten) ∧ EvI (l.map bareT) := by
      rcases hp with ⟨h0, _⟩ | ⟨_, u, h1, h2, h3, _⟩
      · rw [HPP.out] at h0
        exact absurd rfl h0
      · rw [HPP.out] at h1 h2 h3
        simp only [List.length_map, HN.out] at h1 h2
        exact ⟨u, h1, h2, h3⟩
    obtain ⟨u, rfl, hu, hue⟩ := hp2
    have HU := Lib.hid hu
    have HUE := Lib.hid hue
    obtain ⟨UA, ucap, rfl, _⟩ := hu.shape
    have HSS : Hid (Sl w3 68 12 (.slice none 0 0) 0 (iv ((l.take 0).map bareT).flatten)) := Lib.hid (Sl.nil _ _ _)
    have HOS : Hid (∀ q, (Value.slice none 0 0).ownBlock = some q → w3.heap.size ≤ q) := Lib.hid fun q hq => by simp [Value.ownBlock] at hq
    have HBS : Hid (Below w3.heap.size w3 w3) := Lib.hid (Below.refl _ _)
    clear hp hb hu hue HPA HB2
    go_wp2_with fail
    go_loopw [8, 9] (fun o i wr => ∃ (k : Nat), i = .int .i64 (k : Int) ∧ k ≤ N ∧ Hid (Sl wr 68 12 o k (iv ((l.take k).map bareT).flatten)) ∧ Hid (∀ q, o.ownBlock = some q → w3.heap.size ≤ q) ∧ Hid (Below w3.heap.size w3 wr)) (fun _ i _ => N - (intOf i).toNat)
    case atStart => exact ⟨0, rfl, by omega, HSS, HOS, HBS⟩
    case round =>
      clear HSS HOS HBS
      obtain ⟨k, rfl, hk, HSO, HOW, HB⟩ := hrel
      have HBX := Lib.hid (bel_on HB3.out HB.out)
      by_cases hlt : k < N
      · have hkc : k < l.length := by rw [HN.out]; exact hlt
        have hkI : (k : Int) < (N : Int) := by omega
        obtain ⟨bb, oo, rfl, hbl, hcells⟩ := HRR.out (by rw [HN.out]; omega)
        obtain ⟨hx12, hxI⟩ := HEV.out _ (List.getElem_mem hkc)
        have rE : wr.rangeAt bb (oo + k * 12) (iv l[k]) := evLine (fun x hx => (HEV.out x hx).1) (cells_at hcells HBX.out hbl) hkc
        have hi12 : (Tryz.prog.info? 68).map (·.size) = some (iv l[k]).length := by rw [size79, iv_len, hx12]
        have HBA := Lib.hid fun w1 => bare_any l[k] w1 hx12 hxI
        have HTK := Lib.hid (bare_take hkc)
        obtain ⟨XV, hXV⟩ : ∃ XV, iv l[k] = XV := ⟨_, rfl⟩
        rw [hXV] at rE hi12 HBA
        have hbl12 := bare_len l[k]
        generalize bareT l[k] = BX at *
        obtain ⟨c0, c1, c2, c3, c4, c5, c6, c7, c8, c9, c10, c11, rfl⟩ := twelve hbl12
        change Hid (∀ w1, Calls _ _ _ w1 fun e w' => e = .returned (.agg #[.int .i64 c0, .int .i64 c1, .int .i64 c2, .int .i64 c3, .int .i64 c4, .int .i64 c5, .int .i64 c6, .int .i64 c7, .int .i64 c8, .int .i64 c9, .int .i64 c10, .int .i64 c11]) ∧ Below w1.heap.size w1 w') at HBA
        have hu68 := H68.out
        have hk120 : k ≤ 120 := by omega
        clear hcells hXV hx12 hxI hbl12 hkc
        obtain ⟨SA, sc, rfl, _⟩ := HSO.out.shape
        go_wp2_with ((with_reducible refine arm_range 68 bb (oo + k * 12) XV rE _ hu68 rfl hi12 rfl _ rfl ?_ ?_); focus rfl)
        refine (HBA.out _).mono ?_
        rintro e w4 ⟨rfl, hb⟩
        have hbn := bel_new w4 (.cells #[.int .i64 c0, .int .i64 c1, .int .i64 c2, .int .i64 c3, .int .i64 c4, .int .i64 c5, .int .i64 c6, .int .i64 c7, .int .i64 c8, .int .i64 c9, .int .i64 c10, .int .i64 c11] 68)
        have HSN := Lib.hid ((HSO.out.below hb).below hbn)
        have HBN := Lib.hid (bel_on (bel_on HB.out hb) hbn)
        have HNW : Hid (∀ i u, [Value.int .i64 c0, Value.int .i64 c1, Value.int .i64 c2, Value.int .i64 c3, Value.int .i64 c4, Value.int .i64 c5, Value.int .i64 c6, Value.int .i64 c7, Value.int .i64 c8, Value.int .i64 c9, Value.int .i64 c10, Value.int .i64 c11][i]? = some u → (w4.alloc (.cells #[.int .i64 c0, .int .i64 c1, .int .i64 c2, .int .i64 c3, .int .i64 c4, .int .i64 c5, .int .i64 c6, .int .i64 c7, .int .i64 c8, .int .i64 c9, .int .i64 c10, .int .i64 c11] 68)).cell? ((⟨w4.heap.size, 0, none⟩ : Addr).add i) = some u) := Lib.hid (by
          intro i u hi
          have h1 := (Arr.new w4 [Value.int .i64 c0, Value.int .i64 c1, Value.int .i64 c2, Value.int .i64 c3, Value.int .i64 c4, Value.int .i64 c5, Value.int .i64 c6, Value.int .i64 c7, Value.int .i64 c8, Value.int .i64 c9, Value.int .i64 c10, Value.int .i64 c11] 68).cell hi
          have e1 : (⟨w4.heap.size, 0, none⟩ : Addr).add i = ⟨w4.heap.size, i, none⟩ := by unfold Addr.add; split <;> simp_all
          rw [e1]
          exact h1)
        have HOL : Hid (∀ u ∈ [Value.int .i64 c0, Value.int .i64 c1, Value.int .i64 c2, Value.int .i64 c3, Value.int .i64 c4, Value.int .i64 c5, Value.int .i64 c6, Value.int .i64 c7, Value.int .i64 c8, Value.int .i64 c9, Value.int .i64 c10, Value.int .i64 c11], u.oneCell' = true) := Lib.hid (iv_one [c0, c1, c2, c3, c4, c5, c6, c7, c8, c9, c10, c11])
        have HCB : Hid (∀ v' w', Sl w' 68 12 v' (k + 1) (iv ((l.take k).map bareT).flatten ++ [Value.int .i64 c0, Value.int .i64 c1, Value.int .i64 c2, Value.int .i64 c3, Value.int .i64 c4, Value.int .i64 c5, Value.int .i64 c6, Value.int .i64 c7, Value.int .i64 c8, Value.int .i64 c9, Value.int .i64 c10, Value.int .i64 c11]) → (w4.alloc (.cells #[.int .i64 c0, .int .i64 c1, .int .i64 c2, .int .i64 c3, .int .i64 c4, .int .i64 c5, .int .i64 c6, .int .i64 c7, .int .i64 c8, .int .i64 c9, .int .i64 c10, .int .i64 c11] 68)).grownBy w' (Value.slice SA k sc).ownBlock → (v'.ownBlock = (Value.slice SA k sc).ownBlock ∨ v'.ownBlock = some (w4.alloc (.cells #[.int .i64 c0, .int .i64 c1, .int .i64 c2, .int .i64 c3, .int .i64 c4, .int .i64 c5, .int .i64 c6, .int .i64 c7, .int .i64 c8, .int .i64 c9, .int .i64 c10, .int .i64 c11] 68)).heap.size) →
            Sl w' 68 12 v' (k + 1) (iv ((l.take (k + 1)).map bareT).flatten) ∧ (∀ q, v'.ownBlock = some q → w3.heap.size ≤ q) ∧ Below w3.heap.size w3 w') := Lib.hid fun v' w' h1 h2 h3 => by
          refine ⟨?_, fun q hq => ?_, HBN.out.grown h2 HBN.out.size fun q hq => HOW.out q hq⟩
          · rw [HTK.out, List.flatten_append, show iv (((l.take k).map bareT).flatten ++ [[c0, c1, c2, c3, c4, c5, c6, c7, c8, c9, c10, c11]].flatten) = iv ((l.take k).map bareT).flatten ++ [Value.int .i64 c0, Value.int .i64 c1, Value.int .i64 c2, Value.int .i64 c3, Value.int .i64 c4, Value.int .i64 c5, Value.int .i64 c6, Value.int .i64 c7, Value.int .i64 c8, Value.int .i64 c9, Value.int .i64 c10, Value.int .i64 c11] by unfold iv; rw [List.map_append]; simp]
            exact h1
          · rcases h3 with h3 | h3
            · exact HOW.out q (h3 ▸ hq)
            · rw [h3] at hq
              cases hq
              exact HBN.out.size
        obtain ⟨OL, hOL⟩ : ∃ OL, iv ((l.take k).map bareT).flatten = OL := ⟨_, rfl⟩
        rw [hOL] at HSN HCB
        clear hb hbn HSO HB HBX HBA HTK rE hOL
        go_wp2_with (at_builtin; (refine arm_append_sl _ _ 24 rfl rfl 68 i0 _ 12 96 Tryz.underlying24 HI0.out HZ0.out HZ1.out HZ2.out rfl (by decide) (.slice SA k sc) k OL rfl HSN.out ⟨w4.heap.size, 0, none⟩ 1 1 [Value.int .i64 c0, Value.int .i64 c1, Value.int .i64 c2, Value.int .i64 c3, Value.int .i64 c4, Value.int .i64 c5, Value.int .i64 c6, Value.int .i64 c7, Value.int .i64 c8, Value.int .i64 c9, Value.int .i64 c10, Value.int .i64 c11] rfl rfl HNW.out HOL.out (by unfold maxLen; omega) (by omega) ?_); intro v' w9 h1 h2 h3; have HX := Lib.hid (HCB.out v' w9 h1 h2 h3); obtain ⟨XA, xc, rfl, _⟩ := h1.shape; clear h1 h2 h3)
        go_roundw
        case rel => exact ⟨k + 1, by simp, by omega, Lib.hid HX.out.1, Lib.hid HX.out.2.1, Lib.hid HX.out.2.2⟩
        case measure => simp [intOf]; omega
      · obtain rfl : k = N := by omega
        have hkI : ¬ (k : Int) < (k : Int) := by omega
        have hso := HSO.out
        rw [List.take_of_length_le (by rw [HN.out]; exact Nat.le_refl _)] at hso
        have HSF := Lib.hid hso
        obtain ⟨SA, sc, rfl, _⟩ := hso.shape
        have HDP := Lib.hid (dprint_any l (.slice A k cap) wr HEV.out (by rw [HN.out]; have := HN120.out; omega) (by rw [HN.out]; exact HL.out.below HBX.out))
        rw [HPT.out] at HDP
        unfold strV at HDP
        have HUB := Lib.hid (HU.out.below HB.out)
        clear hso HSO HB HU
        go_wp2_with fail
        refine HDP.out.mono ?_
        rintro e w5 ⟨rfl, hb⟩
        have HB5 := Lib.hid (bel_on HBX.out hb)
        have hll : (l.map bareT).length = k := by rw [List.length_map, HN.out]
        have hse := sameEvents_any (l.map bareT) (.slice UA k ucap) (.slice SA k sc) w5 HUE.out (by have := HN120.out; omega) (by rw [hll]; exact (HUB.out.below hb).rdK) (by rw [hll]; exact (HSF.out.below hb).rdK)
        have HSE := Lib.hid hse
        clear hb hse hll HDP HBX
        go_wp2_with fail
        refine HSE.out.mono ?_
        rintro e w6 ⟨rfl, hb⟩
        have HB6 := Lib.hid (bel_on HB5.out hb)
        clear hb HSE
        go_wp2_with fail
        go_ret
        exact ⟨by first | rfl | simp, HB6.out⟩
end Go.Proofs.YtpojhplnhppcpaaGreatDoor
