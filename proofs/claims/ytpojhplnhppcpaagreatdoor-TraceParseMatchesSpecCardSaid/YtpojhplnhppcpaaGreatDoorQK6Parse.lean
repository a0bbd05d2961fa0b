/-
  What alumref05's Parts and Lines do.
-/
import Derived.Test.YtpojhplnhppcpaaGreatDoorQK5Parse
import Derived.Test.YtpojhplnhppcpaaGreatDoorQS2
import Derived.Lib.Strings
namespace Go.Proofs.YtpojhplnhppcpaaGreatDoor
open Go.RowKit Go.Maps
theorem infoStr : (Tryz.prog.info? 9).map (fun i => (i.zero, i.size, i.bytes)) = some (some (.string ⟨#[]⟩), 1, 16) := by kernel_rfl
theorem ext_bytes (s : List UInt8) (a b : Nat) : ByteArray.extract ⟨s.toArray⟩ a b = ⟨((s.drop a).take (b - a)).toArray⟩ := by
  apply ByteArray.ext
  apply Array.toList_inj.1
  rw [Lib.extract_data]
theorem slice_bytes (s : List UInt8) (a b : Nat) (h1 : a ≤ b) (h2 : b ≤ s.length) (w : World) :
    (Instr.slice 9 (.string ⟨s.toArray⟩) (some (.int .i64 (a : Int))) (some (.int .i64 (b : Int))) none).run Tryz.prog w = .ok (.string ⟨((s.drop a).take (b - a)).toArray⟩) w := by
  rw [run_slice_string w 9 ⟨s.toArray⟩ .i64 .i64 (a : Int) (b : Int) Tryz.underlying9 (by omega) (by omega) (by show (b : Int) ≤ (s.toArray.size : Int); simp; omega), Int.toNat_natCast, Int.toNat_natCast, ext_bytes]
theorem slice_tail (s : List UInt8) (a : Nat) (h1 : a ≤ s.length) (w : World) :
    (Instr.slice 9 (.string ⟨s.toArray⟩) (some (.int .i64 (a : Int))) none none).run Tryz.prog w = .ok (.string ⟨(s.drop a).toArray⟩) w := by
  rw [run_slice_string_from_if w 9 ⟨s.toArray⟩ .i64 (a : Int) Tryz.underlying9, if_pos ⟨by omega, by show (a : Int) ≤ (s.toArray.size : Int); simp; omega⟩, Int.toNat_natCast]
  have e : (ByteArray.mk s.toArray).size = s.length := by show s.toArray.size = _; simp
  rw [e, ext_bytes, List.take_of_length_le (by rw [List.length_drop]; exact Nat.le_refl _)]
theorem byte_at (s : List UInt8) {k : Nat} (h : k < s.length) (w : World) : (Instr.index 9 (.string ⟨s.toArray⟩) (.int .i64 (k : Int))).run Tryz.prog w = .ok (.int .u8 ((s[k].toNat : Nat) : Int)) w := by
  rw [run_index_string w 9 ⟨s.toArray⟩ .i64 (k : Int) Tryz.underlying9, dif_pos ⟨by omega, by show (k : Int) < (s.toArray.size : Int); simp; omega⟩]
  rfl
theorem seg_more {s : List UInt8} {a k : Nat} (h1 : a ≤ k) (hk : k < s.length) : (s.drop a).take (k + 1 - a) = (s.drop a).take (k - a) ++ [s[k]] := by
  rw [show k + 1 - a = (k - a) + 1 by omega, List.take_succ_eq_append_getElem (by rw [List.length_drop]; omega), List.getElem_drop]
  congr 3
  omega
theorem split_yes {c : UInt8} {s : List UInt8} {k : Nat} (hk : k < s.length) (h : s[k] = c) (acc : List UInt8) : splitF c acc (s.drop k) = acc :: splitF c [] (s.drop (k + 1)) := by
  rw [List.drop_eq_getElem_cons hk]
  show (if s[k] = c then _ else _) = _
  rw [if_pos h]
theorem split_go {c : UInt8} {s : List UInt8} {k : Nat} (hk : k < s.length) (h : ¬ s[k] = c) (acc : List UInt8) : splitF c acc (s.drop k) = splitF c (acc ++ [s[k]]) (s.drop (k + 1)) := by
  rw [List.drop_eq_getElem_cons hk]
  show (if s[k] = c then _ else _) = _
  rw [if_neg h]
set_option maxRecDepth 100000 in
set_option maxHeartbeats 8000000 in
set_option linter.unusedSimpArgs false in
theorem dparts_any (s : List UInt8) (w : World) (hs : s.length ≤ 1000000) :
    Calls Tryz.prog 120 #[strV s] w fun e w' => (∃ v, e = .returned v ∧ Sl w' 9 1 v (splitF 32 [] s).length ((splitF 32 [] s).map strV) ∧ ∀ q, v.ownBlock = some q → w.heap.size ≤ q) ∧ Below w.heap.size w w' := by
  obtain ⟨R, hR⟩ : ∃ R, splitF 32 [] s = R := ⟨_, rfl⟩
  rw [hR]
  have HR0 : Hid (R = [] ++ splitF 32 ((s.drop 0).take (0 - 0)) (s.drop 0)) := Lib.hid (by rw [← hR]; simp)
  obtain ⟨i0, hi, hz0, hz1, hz2⟩ := info_parts infoStr
  have HI0 := Lib.hid hi
  have HZ0 := Lib.hid hz0
  have HZ1 := Lib.hid hz1
  have HZ2 := Lib.hid hz2
  have HB0 := Lib.hid (bel_new w (.cells #[] 9))
  have HS0 : Hid (Sl (w.alloc (.cells #[] 9)) 9 1 (.slice (some ⟨w.heap.size, 0, none⟩) 0 0) ([] : List (List UInt8)).length (([] : List (List UInt8)).map strV)) := Lib.hid ((Arr.new w [] 9).sl rfl (by decide))
  have HO0 : Hid (∀ q, (Value.slice (some ⟨w.heap.size, 0, none⟩) 0 0).ownBlock = some q → w.heap.size ≤ q) := Lib.hid fun q hq => by
    simp only [Value.ownBlock, Option.some.injEq] at hq
    omega
  clear hR hi hz0 hz1 hz2
  unfold strV
  go_enter Tryz.func120, Tryz.ntmps120
  go_wp2_with fail
  go_loopw [3, 4, 5] (fun o a i wr => ∃ (k j : Nat) (V : List (List UInt8)), a = .int .i64 (j : Int) ∧ i = .int .i64 (k : Int) ∧ k ≤ s.length + 1 ∧ V.length ≤ k ∧ Hid ((k ≤ s.length ∧ j ≤ k ∧ R = V ++ splitF 32 ((s.drop j).take (k - j)) (s.drop k)) ∨ (k = s.length + 1 ∧ R = V)) ∧ Hid (Sl wr 9 1 o V.length (V.map strV)) ∧ Hid (∀ q, o.ownBlock = some q → w.heap.size ≤ q) ∧ Hid (Below w.heap.size w wr)) (fun _ _ i _ => s.length + 1 - (intOf i).toNat)
  case atStart => exact ⟨0, 0, [], rfl, rfl, by omega, by simp, Lib.hid (.inl ⟨by omega, by omega, HR0.out⟩), HS0, HO0, HB0⟩
  case round =>
    clear HR0 HS0 HO0 HB0
    obtain ⟨k, j, V, rfl, rfl, hk, hV, HR, HS, HOW, HB⟩ := hrel
    by_cases hlt : k ≤ s.length
    · have hkI : (k : Int) ≤ (s.length : Int) := by omega
      have hr : j ≤ k ∧ R = V ++ splitF 32 ((s.drop j).take (k - j)) (s.drop k) := by
        rcases HR.out with h | h
        · exact h.2
        · exact absurd h.1 (by omega)
      obtain ⟨hjk, hrr⟩ := hr
      have hsl := slice_bytes s j k hjk hlt
      have hj0 : (0 : Int) ≤ (j : Int) := by omega
      have hjkI : (j : Int) ≤ (k : Int) := by omega
      by_cases hend : k = s.length
      · subst hend
        rw [List.drop_length] at hrr
        change R = V ++ [(s.drop j).take (s.length - j)] at hrr
        obtain ⟨D, hD⟩ : ∃ D, (s.drop j).take (s.length - j) = D := ⟨_, rfl⟩
        rw [hD] at hrr hsl
        have HRR := Lib.hid hrr
        have heq : ((s.length : Int) == (s.length : Int)) = true := by simp
        have hbn := bel_new wr (.cells #[strV D] 9)
        have HSN := Lib.hid (HS.out.below hbn)
        have HBN := Lib.hid (bel_on HB.out hbn)
        have HNW := Lib.hid (cell_one_new wr (strV D) 9)
        have HON : Hid (∀ u ∈ [strV D], u.oneCell' = true) := Lib.hid fun u hu => by rw [List.mem_singleton.1 hu]; rfl
        clear hbn
        clear hrr hD HR hjk
        unfold strV at HSN HBN
        change Hid (Sl (wr.alloc (.cells #[.string ⟨D.toArray⟩] 9)) _ _ _ _ (V.map strV)) at HSN
        go_wp2_with (at_builtin; (refine arm_append_sl _ _ 146 rfl rfl 9 i0 _ 1 16 Tryz.underlying146 HI0.out HZ0.out HZ1.out HZ2.out rfl (by decide) _ V.length (V.map strV) rfl HSN.out ⟨wr.heap.size, 0, none⟩ 1 1 [strV D] rfl rfl HNW.out HON.out (by unfold maxLen; omega) (by omega) ?_); intro v' w4 h1 h2 h3; refine Hid.out ?_)
        refine Lib.hid ?_
        have HS4 : Hid (Sl w4 9 1 v' (V ++ [D]).length ((V ++ [D]).map strV)) := Lib.hid (by
          rw [List.length_append, List.map_append]
          exact h1)
        have HO4 : Hid (∀ q, v'.ownBlock = some q → w.heap.size ≤ q) := Lib.hid fun q hq => by
          rcases h3 with h3 | h3
          · exact HOW.out q (h3 ▸ hq)
          · rw [h3] at hq
            simp only [Option.some.injEq] at hq
            exact Nat.le_trans HBN.out.size (Nat.le_of_eq hq)
        have HB4 : Hid (Below w.heap.size w w4) := Lib.hid (HBN.out.grown h2 HBN.out.size fun g hg => HOW.out g hg)
        obtain ⟨XA, xcap, rfl, _⟩ := h1.shape
        clear h1 h2 h3 HSN HNW HBN HS HOW HB
        go_wp2_with fail
        go_roundw
        case rel => exact ⟨s.length + 1, s.length + 1, V ++ [D], by simp, by simp, by omega, by rw [List.length_append]; simp only [List.length_cons, List.length_nil]; omega, Lib.hid (.inr ⟨rfl, HRR.out⟩), HS4, HO4, HB4⟩
        case measure => (try simp [intOf]) <;> omega
      · have hkl : k < s.length := by omega
        have hix := byte_at s hkl
        have hneq : ((k : Int) == (s.length : Int)) = false := by rw [beq_eq_false_iff_ne]; omega
        have hk0 : (0 : Int) ≤ (k : Int) := by omega
        have hk1 : (k : Int) < (s.length : Int) := by omega
        by_cases hc : s[k] = 32
        · rw [split_yes hkl hc] at hrr
          obtain ⟨D, hD⟩ : ∃ D, (s.drop j).take (k - j) = D := ⟨_, rfl⟩
          rw [hD] at hrr hsl
          have HRR : Hid (R = (V ++ [D]) ++ splitF 32 ((s.drop (k + 1)).take (k + 1 - (k + 1))) (s.drop (k + 1))) := Lib.hid (by rw [hrr]; simp)
          have hc32 : ((s[k].toNat : Nat) : Int) = 32 := by rw [hc]; rfl
          rw [hc32] at hix
          have hbn := bel_new wr (.cells #[strV D] 9)
          have HSN := Lib.hid (HS.out.below hbn)
          have HBN := Lib.hid (bel_on HB.out hbn)
          have HNW := Lib.hid (cell_one_new wr (strV D) 9)
          have HON : Hid (∀ u ∈ [strV D], u.oneCell' = true) := Lib.hid fun u hu => by rw [List.mem_singleton.1 hu]; rfl
          clear hbn
          clear hrr hD HR hjk hc hc32 hend
          change Hid (Sl (wr.alloc (.cells #[.string ⟨D.toArray⟩] 9)) _ _ _ _ (V.map strV)) at HSN
          go_wp2_with (at_builtin; (refine arm_append_sl _ _ 146 rfl rfl 9 i0 _ 1 16 Tryz.underlying146 HI0.out HZ0.out HZ1.out HZ2.out rfl (by decide) _ V.length (V.map strV) rfl HSN.out ⟨wr.heap.size, 0, none⟩ 1 1 [strV D] rfl rfl HNW.out HON.out (by unfold maxLen; omega) (by omega) ?_); intro v' w4 h1 h2 h3; refine Hid.out ?_)
          refine Lib.hid ?_
          have HS4 : Hid (Sl w4 9 1 v' (V ++ [D]).length ((V ++ [D]).map strV)) := Lib.hid (by
            rw [List.length_append, List.map_append]
            exact h1)
          have HO4 : Hid (∀ q, v'.ownBlock = some q → w.heap.size ≤ q) := Lib.hid fun q hq => by
            rcases h3 with h3 | h3
            · exact HOW.out q (h3 ▸ hq)
            · rw [h3] at hq
              simp only [Option.some.injEq] at hq
              exact Nat.le_trans HBN.out.size (Nat.le_of_eq hq)
          have HB4 : Hid (Below w.heap.size w w4) := Lib.hid (HBN.out.grown h2 HBN.out.size fun g hg => HOW.out g hg)
          obtain ⟨XA, xcap, rfl, _⟩ := h1.shape
          clear h1 h2 h3 HSN HNW HBN HS HOW HB
          go_wp2_with fail
          go_roundw
          case rel => exact ⟨k + 1, k + 1, V ++ [D], by simp, by simp, by omega, by simp; omega, Lib.hid (.inl ⟨by omega, by omega, HRR.out⟩), HS4, HO4, HB4⟩
          case measure => simp [intOf]; omega
        · rw [split_go hkl hc, ← seg_more hjk hkl] at hrr
          have HRR := Lib.hid hrr
          have hcn : (((s[k].toNat : Nat) : Int) == 32) = false := by
            rw [beq_eq_false_iff_ne]
            intro h
            have h2 : s[k].toNat = (32 : UInt8).toNat := by
              have : (32 : UInt8).toNat = 32 := rfl
              omega
            exact hc (UInt8.toNat_inj.1 h2)
          generalize s[k].toNat = c at *
          clear hrr HR hc hsl hend
          go_wp2_with fail
          go_roundw
          case rel => exact ⟨k + 1, j, V, rfl, by simp, by omega, by omega, Lib.hid (.inl ⟨by omega, by omega, HRR.out⟩), HS, HOW, HB⟩
          case measure => simp [intOf]; omega
    · have hkI : ¬ (k : Int) ≤ (s.length : Int) := by omega
      have hr : R = V := by
        rcases HR.out with h | h
        · exact absurd h.1 hlt
        · exact h.2
      subst hr
      obtain ⟨XA, xcap, rfl, _⟩ := HS.out.shape
      go_wp2_with fail
      go_ret
      exact ⟨⟨_, rfl, HS.out, HOW.out⟩, HB.out⟩
end Go.Proofs.YtpojhplnhppcpaaGreatDoor
