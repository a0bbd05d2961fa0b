/- HashCrcBursts answers true. -/
import Derived.Test.YtkineafacekklaaDoorSan
import Derived.Test.YtkineafacekklaaDoorLH
import Derived.Test.YtkineafacekklaaDoorCrc2
import Derived.Test.YtkineafacekklaaDoorRef3
import Derived.StillTailTactics
namespace Go.Proofs.YtkineafacekklaaDoor
open Go.RowKit
theorem own_empty (w : World) (B : Nat) (hB : B ≤ w.heap.size) : Own (w.alloc (.cells #[] 5)) B (.slice (some ⟨w.heap.size, 0, none⟩) 0 0) [] :=
  ⟨rfl, .inr ⟨w.heap.size, 0, #[], rfl, hB, heap_alloc_last w _, Nat.le_refl _, Nat.zero_le _, rfl, rfl⟩⟩
theorem own_arr {w : World} {B : Nat} {v : Value} {l : List UInt8} (h : Own w B v l) (hl : l ≠ []) : ∃ g cap R, v = .slice (some ⟨g, 0, none⟩) l.length cap ∧ B ≤ g ∧ l.length ≤ cap ∧ cap ≤ maxLen ∧ Arr w g 5 (bv l ++ R) := by
  rcases h.2 with ⟨rfl, h0⟩ | ⟨g, cap, cur, rfl, hb, hg, hc, hm, hs, ht⟩
  · exact absurd (List.eq_nil_of_length_eq_zero h0) hl
  · refine ⟨g, cap, cur.toList.drop l.length, rfl, hb, hc, hm, ?_⟩
    rw [Nat.mul_one] at ht
    have e : bv l ++ cur.toList.drop l.length = cur.toList := by rw [← ht, List.take_append_drop]
    rw [e]
    unfold Arr
    simpa using hg
theorem arr_rv {w : World} {g : Nat} {l : List UInt8} {R : List Value} (h : Arr w g 5 (bv l ++ R)) : RV w (some ⟨g, 0, none⟩) (bv l) := fun _ =>
  ⟨g, 0, rfl, fun j u hu => by
    rw [Nat.zero_add]
    have hj := (List.getElem?_eq_some_iff.1 hu).1
    exact h.cell (by rw [List.getElem?_append_left hj]; exact hu)⟩
theorem flip_val (x : UInt8) (a : Nat) : bits .xor .u8 (x.toNat : Int) (IntKind.u8.wrap (2 ^ (7 - (a : Int) % 8).toNat)) = ((x ^^^ bitB (a % 8)).toNat : Int) := by
  have hj : (7 - (a : Int) % 8).toNat = 7 - a % 8 := by omega
  rw [hj]
  have h8 : a % 8 < 8 := Nat.mod_lt _ (by decide)
  generalize a % 8 = j at *
  have hw : IntKind.u8.wrap (2 ^ (7 - j)) = ((bitB j).toNat : Int) := by
    have hc : j = 0 ∨ j = 1 ∨ j = 2 ∨ j = 3 ∨ j = 4 ∨ j = 5 ∨ j = 6 ∨ j = 7 := by omega
    rcases hc with rfl | rfl | rfl | rfl | rfl | rfl | rfl | rfl <;> rfl
  rw [hw]
  exact u8_xor_arg x (bitB j)
set_option maxRecDepth 100000 in
set_option maxHeartbeats 1000000 in
theorem lawB_in (A : Option Addr) (n cap : Nat) (l : List UInt8) (q pat : Nat) (w : World) (hn : l.length = n) (hr : RV w A (bv l)) (hT : Tab w 1) (h0 : 0 < n) (h4 : n ≤ 400) (hq : q < 65536) (hp : pat < 18446744073709551616) :
    Calls Tryd.prog 10 #[.slice A n cap, .int .u16 (q : Int), .int .u64 (pat : Int)] w fun e w' => e = .returned (.bool true) ∧ Below w.heap.size w w' := by
  have HT := Lib.hid hT
  have HN := Lib.hid hn
  have HR := Lib.hid hr
  clear hT hn hr
  have hcutlt : q % (8 * n) < 8 * n := Nat.mod_lt _ (by omega)
  have hmul : IntKind.i64.wrap (8 * (n : Int)) = 8 * (n : Int) := by rw [i64_wraps]; omega
  have hmod : (q : Int) % (8 * (n : Int)) = ((q % (8 * n) : Nat) : Int) := by norm_cast
  generalize q % (8 * n) = f at *
  have hi1 : (n : Int) ≤ 400 := by omega
  have hi0 : ¬ ((n : Int) = 0) := by omega
  have hb0 : ((n : Int) == 0) = false := by rw [beq_eq_false_iff_ne]; omega
  clear hi0
  go_enter Tryd.func10, Tryd.ntmps10
  go_wp2_with fail
  refine (san_any _ HT.out).mono ?_
  rintro e w1 ⟨rfl, hb1⟩
  have HB1 := Lib.hid hb1
  have HG := Lib.hid hb1.size
  clear hb1
  go_wp2_with (at_builtin; go_loud (refine arm_bytes (w := w1.alloc (.cells #[] 5)) (by rfl) _ _ (by rfl) w.heap.size (.slice (some ⟨w1.heap.size, 0, none⟩) 0 0) [] (by rfl) (own_empty w1 _ HG.out) A cap l (by rw [HN.out]; rfl) (HR.out.below (bel_on HB1.out (bel_new _ _))) (by rw [HN.out]; simp; omega) (Nat.le_trans HG.out (by simp)) ?_); intro v1 w2 ho1 hb2)
  rw [hmod]
  rw [List.nil_append] at ho1
  obtain ⟨g, cap2, R, rfl, hg, hc1, hc2, hA⟩ := own_arr ho1 (fun h => by have := HN.out; rw [h] at this; simp at this; omega)
  rw [HN.out] at hc1 ⊢
  have HA := Lib.hid hA
  have HB2 := Lib.hid (HB1.out.trans (((Below.refl w.heap.size w1).alloc HG.out _).trans hb2))
  clear ho1 hA hb2 HB1
  go_loopw [10, 11] (fun sm i wr => ∃ (k : Nat), i = .int .i64 k ∧ sm = .bool (somes pat k) ∧ k ≤ 40 ∧ f + k ≤ 8 * n ∧ Hid (Arr wr g 5 (bv (flips pat f l k) ++ R)) ∧ Hid (Below w.heap.size w wr)) (fun _ i _ => 40 - (intOf i).toNat)
  case atStart => exact ⟨0, rfl, rfl, by omega, by omega, HA, HB2⟩
  case round =>
    clear HA HB2
    obtain ⟨k, rfl, rfl, hk, hfk, HA, HB⟩ := hrel
    obtain ⟨at_, hat⟩ : ∃ at_, f + k = at_ := ⟨_, rfl⟩
    have hadd : IntKind.i64.wrap ((f : Int) + (k : Int)) = (at_ : Int) := by rw [i64_wraps]; omega
    by_cases hlt : k < 40 ∧ f + k < 8 * n
    · obtain ⟨hk40, hf8⟩ := hlt
      have hi40 : (k : Int) < 40 := by omega
      have hi8 : (at_ : Int) < 8 * (n : Int) := by omega
      have hshr : bits .and .u64 ((pat : Int) / 2 ^ k) 1 = ((pat / 2 ^ k % 2 : Nat) : Int) := by
        have e : (pat : Int) / 2 ^ k = ((pat / 2 ^ k : Nat) : Int) := by norm_cast
        rw [e]
        exact and1_64 _ (Nat.lt_of_le_of_lt (Nat.div_le_self _ _) hp)
      by_cases hbit : pat / 2 ^ k % 2 = 1
      · have hbt : (bits .and .u64 ((pat : Int) / 2 ^ k) 1 == 1) = true := by rw [hshr, hbit]; rfl
        have HFL : Hid (flips pat f l (k + 1) = flip (flips pat f l k) (f + k)) := Lib.hid (by rw [flips, if_pos hbit])
        have HSM : Hid (somes pat (k + 1) = true) := Lib.hid (by rw [somes, if_pos hbit])
        clear hshr hbit
        have hml : (flips pat f l k).length = n := by rw [flips_length, HN.out]
        generalize flips pat f l k = m at *
        rw [hat] at HFL
        have hdm : at_ / 8 < m.length := by omega
        have hdl : at_ / 8 < n := by omega
        have hd0 : 0 ≤ (at_ : Int) / 8 := by omega
        have hd2 : (at_ : Int) / 8 < (n : Int) := by omega
        have hcell : wr.cell? ⟨g, at_ / 8, none⟩ = some (.int .u8 ((m.getD (at_ / 8) 0).toNat : Int)) := HA.out.cell (by rw [List.getElem?_append_left (by rw [bv_len]; exact hdm), bv_at hdm]; simp [List.getD_eq_getElem?_getD, hdm])
        have hquo : IntKind.i64.wrap ((at_ : Int) / 8) = (at_ : Int) / 8 := by rw [i64_wraps]; omega
        have htn : ((at_ : Int) / 8).toNat = at_ / 8 := by omega
        have htm : (at_ : Int).tmod 8 = (at_ : Int) % 8 := Int.tmod_eq_emod_of_nonneg (by omega)
        have hs0 : 0 ≤ (at_ : Int) % 8 := by omega
        have hs1 : (at_ : Int) % 8 ≤ 7 := by omega
        have hsub : IntKind.i64.wrap (7 - (at_ : Int) % 8) = 7 - (at_ : Int) % 8 := by rw [i64_wraps]; omega
        clear hmul hmod hcutlt
        go_wp2_with fail
        go_still_tail 14, (by kernel_rfl)
        change wpList _ _ _ _ _ wr.drew
        have HA4 := Lib.hid (HA.out.keep (bel_drew wr))
        have HB4 := Lib.hid (bel_on HB.out (bel_drew wr))
        have hxv := flip_val m[at_ / 8] at_
        rw [hxv]
        have hc4 : wr.drew.cell? ⟨g, at_ / 8, none⟩ = some (.int .u8 ((m.getD (at_ / 8) 0).toNat : Int)) := HA4.out.cell (by rw [List.getElem?_append_left (by rw [bv_len]; exact hdm), bv_at hdm]; simp [List.getD_eq_getElem?_getD, hdm])
        have hf4 := HA4.out.free (at_ / 8)
        have HFE : Hid ((bv m ++ R).set (at_ / 8) (.int .u8 ((m[at_ / 8] ^^^ bitB (at_ % 8)).toNat : Int)) = bv (flip m at_) ++ R) := Lib.hid (by
          rw [List.set_append_left _ _ (by rw [bv_len]; exact hdm), bv_set]
          unfold flip
          rw [show m.getD (at_ / 8) 0 = m[at_ / 8] by simp [List.getD, hdm]])
        generalize wr.drew = w4 at *
        generalize m[at_ / 8] ^^^ bitB (at_ % 8) = y at *
        clear hxv HA HB hcell
        go_wp2_with fail
        go_roundw
        case rel => exact ⟨k + 1, by go_num, by rw [HSM.out], by omega, by omega, Lib.hid (by rw [HFL.out, ← HFE.out]; exact HA4.out.set _ _), Lib.hid (HB4.out.setCell hg _)⟩
        case measure => simp [intOf]; omega
      · have hbt : (bits .and .u64 ((pat : Int) / 2 ^ k) 1 == 1) = false := by rw [hshr, beq_eq_false_iff_ne]; omega
        have HFL : Hid (flips pat f l (k + 1) = flips pat f l k) := Lib.hid (by rw [flips, if_neg hbit])
        have HSM : Hid (somes pat (k + 1) = somes pat k) := Lib.hid (by rw [somes, if_neg hbit])
        clear hshr hbit
        go_wp2_with fail
        go_roundw
        case rel => exact ⟨k + 1, by go_num, by rw [HSM.out], by omega, by omega, Lib.hid (by rw [HFL.out]; exact HA.out), HB⟩
        case measure => simp [intOf]; omega
    · have hstop : 40 ≤ k ∨ 8 * n ≤ f + k := by omega
      have HCR := Lib.hid (crc_flips pat f l k hk (by rw [HN.out]; omega))
      have hml : (flips pat f l k).length = n := by rw [flips_length, HN.out]
      have HCL := Lib.hid fun w' (h : RV w' A (bv l)) => crc40_any A n cap l w' HN.out h (by omega)
      have HCM := Lib.hid fun w' (h : RV w' (some ⟨g, 0, none⟩) (bv (flips pat f l k))) => crc40_any (some ⟨g, 0, none⟩) n cap2 (flips pat f l k) w' hml h (by omega)
      have hall : ∃ b : Bool, somes pat k = b := ⟨_, rfl⟩
      generalize flips pat f l k = m at *
      generalize crc l = c1 at *
      generalize crc m = c2 at *
      generalize somes pat k = sm at *
      clear hml hall hmul hmod
      have HFIN : Hid (((c1 : Int) == (c2 : Int)) = !sm) := Lib.hid (by
        rw [Bool.eq_iff_iff, beq_iff_eq]
        have := HCR.out
        constructor
        · intro h
          rw [this.1 (by omega)]
          rfl
        · intro h
          have h2 : sm = false := by simpa using h
          have := this.2 h2
          omega)
      clear HCR
      by_cases hs : 40 ≤ k
      · have hi40 : ¬ ((k : Int) < 40) := by omega
        have hi41 : (40 : Int) ≤ (k : Int) := by omega
        go_wp2_with fail
        refine (HCL.out _ (HR.out.below HB.out)).mono ?_
        rintro e w5 ⟨rfl, hb5⟩
        have HA5 := Lib.hid (HA.out.keep hb5)
        have HB5 := Lib.hid (bel_on HB.out hb5)
        go_wp2_with fail
        refine (HCM.out _ (arr_rv HA5.out)).mono ?_
        rintro e w6 ⟨rfl, hb6⟩
        have hfin := HFIN.out
        go_wp2_with fail
        go_ret
        exact ⟨rfl, bel_on HB5.out hb6⟩
      · have hi40 : (k : Int) < 40 := by omega
        have hi8 : ¬ ((at_ : Int) < 8 * (n : Int)) := by omega
        have hi81 : 8 * (n : Int) ≤ (at_ : Int) := by omega
        have hmul : IntKind.i64.wrap (8 * (n : Int)) = 8 * (n : Int) := by rw [i64_wraps]; omega
        go_wp2_with fail
        refine (HCL.out _ (HR.out.below HB.out)).mono ?_
        rintro e w5 ⟨rfl, hb5⟩
        have HA5 := Lib.hid (HA.out.keep hb5)
        have HB5 := Lib.hid (bel_on HB.out hb5)
        go_wp2_with fail
        refine (HCM.out _ (arr_rv HA5.out)).mono ?_
        rintro e w6 ⟨rfl, hb6⟩
        have hfin := HFIN.out
        go_wp2_with fail
        go_ret
        exact ⟨rfl, bel_on HB5.out hb6⟩
set_option maxRecDepth 100000 in
set_option maxHeartbeats 1000000 in
theorem lawB_out (A : Option Addr) (n cap : Nat) (q pat : Int) (w : World) (hT : Tab w 1) (h : n = 0 ∨ 400 < n) :
    Calls Tryd.prog 10 #[.slice A n cap, .int .u16 q, .int .u64 pat] w fun e w' => e = .returned (.bool true) ∧ Below w.heap.size w w' := by
  have HT := Lib.hid hT
  clear hT
  go_enter Tryd.func10, Tryd.ntmps10
  go_wp2_with fail
  refine (san_any _ HT.out).mono ?_
  rintro e w1 ⟨rfl, hb1⟩
  have HB1 := Lib.hid hb1
  clear hb1
  by_cases h0 : n = 0
  · subst h0
    clear h
    go_wp2_with fail
    go_ret
    exact ⟨rfl, HB1.out⟩
  · have hi : (400 : Int) < (n : Int) := by omega
    have hb0 : ((n : Int) == 0) = false := by rw [beq_eq_false_iff_ne]; omega
    clear h
    go_wp2_with fail
    go_ret
    exact ⟨rfl, HB1.out⟩
theorem wf_u16 {z : Int} (h : (Lit.int .u16 z).wf = true) : 0 ≤ z ∧ z < 65536 := by
  simp only [Lit.wf, IntKind.min, IntKind.max, IntKind.bits, IntKind.signed] at h
  simp at h
  omega
theorem wf_u64 {z : Int} (h : (Lit.int .u64 z).wf = true) : 0 ≤ z ∧ z < 18446744073709551616 := by
  simp only [Lit.wf, IntKind.min, IntKind.max, IntKind.bits, IntKind.signed] at h
  simp at h
  omega
theorem lawB (A : Option Addr) (n cap : Nat) (l : List UInt8) (q pat : Int) (w : World) (hn : l.length = n) (hr : RV w A (bv l)) (hq : 0 ≤ q ∧ q < 65536) (hp : 0 ≤ pat ∧ pat < 18446744073709551616) (hT : Tab w 1) :
    Calls Tryd.prog 10 #[.slice A n cap, .int .u16 q, .int .u64 pat] w fun e w' => e = .returned (.bool true) ∧ Below w.heap.size w w' := by
  obtain ⟨q', rfl⟩ : ∃ p : Nat, q = (p : Int) := ⟨q.toNat, by omega⟩
  obtain ⟨p', rfl⟩ : ∃ p : Nat, pat = (p : Int) := ⟨pat.toNat, by omega⟩
  by_cases h : 0 < n ∧ n ≤ 400
  · exact lawB_in A n cap l q' p' w hn hr hT h.1 h.2 (by omega) (by omega)
  · exact lawB_out A n cap q' p' w hT (by omega)
end Go.Proofs.YtkineafacekklaaDoor
