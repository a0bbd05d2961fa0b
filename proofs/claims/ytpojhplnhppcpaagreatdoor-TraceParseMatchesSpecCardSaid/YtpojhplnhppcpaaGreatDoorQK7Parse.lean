/-
  What alumref05's Lines does.
-/
import Derived.Test.YtpojhplnhppcpaaGreatDoorQK6Parse
namespace Go.Proofs.YtpojhplnhppcpaaGreatDoor
open Go.RowKit Go.Maps
theorem lines_of {s : List UInt8} {V : List (List UInt8)} {j : Nat} (h : splitF 10 [] s = V ++ [s.drop j]) (hj : j ≤ s.length) : linesR s = if j = s.length then (V, true) else (V ++ [s.drop j], false) := by
  unfold linesR
  rw [h]
  have hl : (V ++ [s.drop j]).getLastD [] = s.drop j := by simp [List.getLastD_eq_getLast?]
  show (if (V ++ [s.drop j]).getLastD [] = [] then (V ++ [s.drop j]).dropLast else V ++ [s.drop j], decide ((V ++ [s.drop j]).getLastD [] = [])) = _
  rw [hl]
  by_cases he : j = s.length
  · rw [if_pos he, he, List.drop_length, if_pos rfl, List.dropLast_concat]
    rfl
  · have hne : s.drop j ≠ [] := fun h0 => by
      have := congrArg List.length h0
      rw [List.length_drop, List.length_nil] at this
      omega
    rw [if_neg he, if_neg hne, decide_eq_false hne]
set_option maxRecDepth 100000 in
set_option maxHeartbeats 8000000 in
set_option linter.unusedSimpArgs false in
theorem dlines_any (s : List UInt8) (w : World) (hs : s.length ≤ 1000000) :
    Calls Tryz.prog 89 #[strV s] w fun e w' => (∃ v, e = .returned (.tuple #[v, .bool (linesR s).2]) ∧ Sl w' 9 1 v (linesR s).1.length ((linesR s).1.map strV) ∧ ∀ q, v.ownBlock = some q → w.heap.size ≤ q) ∧ Below w.heap.size w w' := by
  have HLO := Lib.hid fun (V : List (List UInt8)) (j : Nat) h hj => lines_of (s := s) (V := V) (j := j) h hj
  obtain ⟨RL, hRL⟩ : ∃ RL, linesR s = RL := ⟨_, rfl⟩
  rw [hRL] at HLO ⊢
  obtain ⟨R, hR⟩ : ∃ R, splitF 10 [] s = R := ⟨_, rfl⟩
  rw [hR] at HLO
  have HR0 : Hid (R = [] ++ splitF 10 ((s.drop 0).take (0 - 0)) (s.drop 0)) := Lib.hid (by rw [← hR]; simp)
  obtain ⟨i0, hi, hz0, hz1, hz2⟩ := info_parts infoStr
  have HI0 := Lib.hid hi
  have HZ0 := Lib.hid hz0
  have HZ1 := Lib.hid hz1
  have HZ2 := Lib.hid hz2
  have HB0 : Hid (Below w.heap.size w w) := Lib.hid (Below.refl _ _)
  have HS0 : Hid (Sl w 9 1 (.slice none 0 0) ([] : List (List UInt8)).length (([] : List (List UInt8)).map strV)) := Lib.hid (Sl.nil _ _ _)
  have HO0 : Hid (∀ q, (Value.slice none 0 0).ownBlock = some q → w.heap.size ≤ q) := Lib.hid fun q hq => by simp [Value.ownBlock] at hq
  clear hR hi hz0 hz1 hz2 hRL
  unfold strV
  go_enter Tryz.func89, Tryz.ntmps89
  go_wp2_with fail
  go_loopw [4, 5, 6] (fun o a i wr => ∃ (k j : Nat) (V : List (List UInt8)), a = .int .i64 (j : Int) ∧ i = .int .i64 (k : Int) ∧ k ≤ s.length ∧ j ≤ k ∧ V.length ≤ k ∧ Hid (R = V ++ splitF 10 ((s.drop j).take (k - j)) (s.drop k)) ∧ Hid (Sl wr 9 1 o V.length (V.map strV)) ∧ Hid (∀ q, o.ownBlock = some q → w.heap.size ≤ q) ∧ Hid (Below w.heap.size w wr)) (fun _ _ i _ => s.length - (intOf i).toNat)
  case atStart => exact ⟨0, 0, [], rfl, rfl, by omega, by omega, by simp, HR0, HS0, HO0, HB0⟩
  case round =>
    clear HR0 HS0 HO0 HB0
    obtain ⟨k, j, V, rfl, rfl, hk, hjk, hV, HR, HS, HOW, HB⟩ := hrel
    by_cases hkl : k < s.length
    · have hkI : (k : Int) < (s.length : Int) := by omega
      have hrr := HR.out
      have hsl := slice_bytes s j k hjk (by omega)
      have hj0 : (0 : Int) ≤ (j : Int) := by omega
      have hjkI : (j : Int) ≤ (k : Int) := by omega
      have hix := byte_at s hkl
      have hk0 : (0 : Int) ≤ (k : Int) := by omega
      have hkle : (k : Int) ≤ (s.length : Int) := by omega
      by_cases hc : s[k] = 10
      · rw [split_yes hkl hc] at hrr
        obtain ⟨D, hD⟩ : ∃ D, (s.drop j).take (k - j) = D := ⟨_, rfl⟩
        rw [hD] at hrr hsl
        have HRR : Hid (R = (V ++ [D]) ++ splitF 10 ((s.drop (k + 1)).take (k + 1 - (k + 1))) (s.drop (k + 1))) := Lib.hid (by rw [hrr]; simp)
        have hc32 : ((s[k].toNat : Nat) : Int) = 10 := by rw [hc]; rfl
        rw [hc32] at hix
        have hbn := bel_new wr (.cells #[strV D] 9)
        have HSN := Lib.hid (HS.out.below hbn)
        have HBN := Lib.hid (bel_on HB.out hbn)
        have HNW := Lib.hid (cell_one_new wr (strV D) 9)
        have HON : Hid (∀ u ∈ [strV D], u.oneCell' = true) := Lib.hid fun u hu => by rw [List.mem_singleton.1 hu]; rfl
        clear hbn
        clear hrr hD HR hjk hc hc32
        change Hid (Sl (wr.alloc (.cells #[.string ⟨D.toArray⟩] 9)) _ _ _ _ (V.map strV)) at HSN
        go_wp2_with (at_builtin; (refine arm_append_sl _ _ 146 rfl rfl 9 i0 _ 1 16 Tryz.underlying146 HI0.out HZ0.out HZ1.out HZ2.out rfl (by decide) _ V.length (V.map strV) rfl HSN.out ⟨wr.heap.size, 0, none⟩ 1 1 [strV D] rfl rfl HNW.out HON.out (by unfold maxLen; omega) (by omega) ?_); intro v' w4 h1 h2 h3; refine Hid.out ?_)
        refine Lib.hid ?_
        have HS4 : Hid (Sl w4 9 1 v' (V ++ [D]).length ((V ++ [D]).map strV)) := Lib.hid (by
          rw [List.length_append, List.map_append]
          exact h1)
        have HO4 : Hid (∀ q, v'.ownBlock = some q → w.heap.size ≤ q) := Lib.hid fun q hq => by
          rcases h3 with h3 | h3
          · exact HOW.out q (h3 ▸ hq)
          · rw [h3] at hq
            simp only [Option.some.injEq] at hq
            exact Nat.le_trans HBN.out.size (Nat.le_of_eq hq)
        have HB4 : Hid (Below w.heap.size w w4) := Lib.hid (HBN.out.grown h2 HBN.out.size fun g hg => HOW.out g hg)
        obtain ⟨XA, xcap, rfl, _⟩ := h1.shape
        clear h1 h2 h3 HSN HNW HBN HS HOW HB
        go_wp2_with fail
        go_roundw
        case rel => exact ⟨k + 1, k + 1, V ++ [D], by simp, by simp, by omega, by omega, by rw [List.length_append]; simp only [List.length_cons, List.length_nil]; omega, HRR, HS4, HO4, HB4⟩
        case measure => simp [intOf]; omega
      · rw [split_go hkl hc, ← seg_more hjk hkl] at hrr
        have HRR := Lib.hid hrr
        have hcn : (((s[k].toNat : Nat) : Int) == 10) = false := by
          rw [beq_eq_false_iff_ne]
          intro h
          have h2 : s[k].toNat = (10 : UInt8).toNat := by
            have : (10 : UInt8).toNat = 10 := rfl
            omega
          exact hc (UInt8.toNat_inj.1 h2)
        generalize s[k].toNat = c at *
        clear hrr HR hc hsl
        go_wp2_with fail
        go_roundw
        case rel => exact ⟨k + 1, j, V, rfl, by simp, by omega, by omega, by omega, HRR, HS, HOW, HB⟩
        case measure => simp [intOf]; omega
    · obtain rfl : k = s.length := by omega
      have hkI : ¬ (s.length : Int) < (s.length : Int) := by omega
      have hr : R = V ++ [s.drop j] := by
        have := HR.out
        rw [List.drop_length, List.take_of_length_le (by rw [List.length_drop]; exact Nat.le_refl _)] at this
        exact this
      have hln := HLO.out V j hr hjk
      have hj0 : (0 : Int) ≤ (j : Int) := by omega
      have hjI2 : (j : Int) ≤ (s.length : Int) := by omega
      by_cases he : j = s.length
      · rw [if_pos he] at hln
        subst hln
        subst he
        have hjI : ¬ (s.length : Int) < (s.length : Int) := by omega
        have heq : ((s.length : Int) == (s.length : Int)) = true := by simp
        obtain ⟨XA, xcap, rfl, _⟩ := HS.out.shape
        clear hr HR HLO
        go_wp2_with fail
        go_ret2
        exact ⟨⟨_, by first | rfl | simp, HS.out, HOW.out⟩, HB.out⟩
      · rw [if_neg he] at hln
        subst hln
        have hjI : (j : Int) < (s.length : Int) := by omega
        have heq : ((j : Int) == (s.length : Int)) = false := by rw [beq_eq_false_iff_ne]; omega
        have hsl := slice_tail s j hjk
        obtain ⟨D, hD⟩ : ∃ D, s.drop j = D := ⟨_, rfl⟩
        rw [hD] at hsl
        have hbn := bel_new wr (.cells #[strV D] 9)
        have HSN := Lib.hid (HS.out.below hbn)
        have HBN := Lib.hid (bel_on HB.out hbn)
        have HNW := Lib.hid (cell_one_new wr (strV D) 9)
        have HON : Hid (∀ u ∈ [strV D], u.oneCell' = true) := Lib.hid fun u hu => by rw [List.mem_singleton.1 hu]; rfl
        clear hbn
        have HDD := Lib.hid hD
        clear hr HR HLO hD he
        change Hid (Sl (wr.alloc (.cells #[.string ⟨D.toArray⟩] 9)) _ _ _ _ (V.map strV)) at HSN
        go_wp2_with (at_builtin; (refine arm_append_sl _ _ 146 rfl rfl 9 i0 _ 1 16 Tryz.underlying146 HI0.out HZ0.out HZ1.out HZ2.out rfl (by decide) _ V.length (V.map strV) rfl HSN.out ⟨wr.heap.size, 0, none⟩ 1 1 [strV D] rfl rfl HNW.out HON.out (by unfold maxLen; omega) (by omega) ?_); intro v' w4 h1 h2 h3; refine Hid.out ?_)
        refine Lib.hid ?_
        have HS4 : Hid (Sl w4 9 1 v' (V ++ [D]).length ((V ++ [D]).map strV)) := Lib.hid (by
          rw [List.length_append, List.map_append]
          exact h1)
        have HO4 : Hid (∀ q, v'.ownBlock = some q → w.heap.size ≤ q) := Lib.hid fun q hq => by
          rcases h3 with h3 | h3
          · exact HOW.out q (h3 ▸ hq)
          · rw [h3] at hq
            simp only [Option.some.injEq] at hq
            exact Nat.le_trans HBN.out.size (Nat.le_of_eq hq)
        have HB4 : Hid (Below w.heap.size w w4) := Lib.hid (HBN.out.grown h2 HBN.out.size fun g hg => HOW.out g hg)
        obtain ⟨XA, xcap, rfl, _⟩ := h1.shape
        clear h1 h2 h3 HSN HNW HBN HS HOW HB
        go_wp2_with fail
        go_ret2
        exact ⟨⟨_, by first | rfl | simp, by rw [HDD.out]; have h9 := HS4.out; rw [List.length_append, List.map_append] at h9; exact h9, HO4.out⟩, HB4.out⟩
end Go.Proofs.YtpojhplnhppcpaaGreatDoor
