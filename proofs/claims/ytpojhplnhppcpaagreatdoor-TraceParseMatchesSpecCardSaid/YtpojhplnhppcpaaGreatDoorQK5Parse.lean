/-
  What alumref05's kind and Number do.
-/
import Derived.Test.YtpojhplnhppcpaaGreatDoorQK4Parse
namespace Go.Proofs.YtpojhplnhppcpaaGreatDoor
open Go.RowKit Go.Maps
set_option maxRecDepth 100000 in
set_option maxHeartbeats 4000000 in
set_option linter.unusedSimpArgs false in
theorem dkind_any (s : List UInt8) (w : World) :
    Calls Tryz.prog 121 #[strV s] w fun e w' => e = .returned (.tuple #[.int .i64 (kindN s).1, .int .i64 (kindN s).2]) ∧ w' = w := by
  unfold strV
  by_cases h0 : s = [115, 116, 111, 114, 101]
  · subst h0
    rw [show kindN [115, 116, 111, 114, 101] = (1, 3) from rfl]
    go_enter Tryz.func121, Tryz.ntmps121
    go_wp2_with fail
    go_ret2
    exact ⟨rfl, rfl⟩
  by_cases h1 : s = [112, 117, 98, 108, 105, 115, 104]
  · subst h1
    rw [show kindN [112, 117, 98, 108, 105, 115, 104] = (2, 3) from rfl]
    go_enter Tryz.func121, Tryz.ntmps121
    go_wp2_with fail
    go_ret2
    exact ⟨rfl, rfl⟩
  by_cases h2 : s = [102, 108, 117, 115, 104]
  · subst h2
    rw [show kindN [102, 108, 117, 115, 104] = (3, 1) from rfl]
    go_enter Tryz.func121, Tryz.ntmps121
    go_wp2_with fail
    go_ret2
    exact ⟨rfl, rfl⟩
  by_cases h3 : s = [102, 101, 110, 99, 101]
  · subst h3
    rw [show kindN [102, 101, 110, 99, 101] = (4, 0) from rfl]
    go_enter Tryz.func121, Tryz.ntmps121
    go_wp2_with fail
    go_ret2
    exact ⟨rfl, rfl⟩
  by_cases h4 : s = [101, 118, 105, 99, 116]
  · subst h4
    rw [show kindN [101, 118, 105, 99, 116] = (5, 2) from rfl]
    go_enter Tryz.func121, Tryz.ntmps121
    go_wp2_with fail
    go_ret2
    exact ⟨rfl, rfl⟩
  by_cases h5 : s = [104, 101, 97, 108]
  · subst h5
    rw [show kindN [104, 101, 97, 108] = (6, 9) from rfl]
    go_enter Tryz.func121, Tryz.ntmps121
    go_wp2_with fail
    go_ret2
    exact ⟨rfl, rfl⟩
  by_cases h6 : s = [114, 111, 116]
  · subst h6
    rw [show kindN [114, 111, 116] = (7, 10) from rfl]
    go_enter Tryz.func121, Tryz.ntmps121
    go_wp2_with fail
    go_ret2
    exact ⟨rfl, rfl⟩
  by_cases h7 : s = [101, 118, 101, 110, 116]
  · subst h7
    rw [show kindN [101, 118, 101, 110, 116] = (0, 1) from rfl]
    go_enter Tryz.func121, Tryz.ntmps121
    go_wp2_with fail
    go_ret2
    exact ⟨rfl, rfl⟩
  have hk : kindN s = (0, -1) := by
    unfold kindN eventB
    rw [if_neg h0, if_neg h1, if_neg h2, if_neg h3, if_neg h4, if_neg h5, if_neg h6, if_neg h7]
  rw [hk]
  have g0 : (s == ([115, 116, 111, 114, 101] : List UInt8)) = false := by rw [beq_eq_false_iff_ne]; exact h0
  have g1 : (s == ([112, 117, 98, 108, 105, 115, 104] : List UInt8)) = false := by rw [beq_eq_false_iff_ne]; exact h1
  have g2 : (s == ([102, 108, 117, 115, 104] : List UInt8)) = false := by rw [beq_eq_false_iff_ne]; exact h2
  have g3 : (s == ([102, 101, 110, 99, 101] : List UInt8)) = false := by rw [beq_eq_false_iff_ne]; exact h3
  have g4 : (s == ([101, 118, 105, 99, 116] : List UInt8)) = false := by rw [beq_eq_false_iff_ne]; exact h4
  have g5 : (s == ([104, 101, 97, 108] : List UInt8)) = false := by rw [beq_eq_false_iff_ne]; exact h5
  have g6 : (s == ([114, 111, 116] : List UInt8)) = false := by rw [beq_eq_false_iff_ne]; exact h6
  have g7 : (s == ([101, 118, 101, 110, 116] : List UInt8)) = false := by rw [beq_eq_false_iff_ne]; exact h7
  clear hk h0 h1 h2 h3 h4 h5 h6 h7
  go_enter Tryz.func121, Tryz.ntmps121
  go_wp2_with fail
  go_ret2
  exact ⟨rfl, rfl⟩
theorem numR_not {s : List UInt8} (h : (Lib.itoa (numZ s) == s) = false) : numR s = none := by
  unfold numR
  rw [if_neg fun e => by
    rw [beq_eq_false_iff_ne] at h
    exact h e.2]
theorem numR_yes {s : List UInt8} (hl : s.length ≤ 20) (h : (Lib.itoa (numZ s) == s) = true) : numR s = some (numZ s) := by
  unfold numR
  rw [if_pos ⟨hl, by simpa using h⟩]
theorem numR_long {s : List UInt8} (hl : 20 < s.length) : numR s = none := by
  unfold numR
  rw [if_neg fun e => by have := e.1; omega]
set_option maxRecDepth 100000 in
set_option maxHeartbeats 4000000 in
set_option linter.unusedSimpArgs false in
theorem dnumber_any (s : List UInt8) (w : World) :
    Calls Tryz.prog 122 #[strV s] w fun e w' => (∃ z b, e = .returned (.tuple #[.int .i64 z, .bool b]) ∧ numR s = (if b = true then some z else none)) ∧ Below w.heap.size w w' := by
  unfold strV
  obtain ⟨NR, hNR⟩ : ∃ NR, numR s = NR := ⟨_, rfl⟩
  rw [hNR]
  have HNR := Lib.hid hNR
  clear hNR
  by_cases h20 : 20 < s.length
  · have hI : (20 : Int) < (s.length : Int) := by omega
    have HF := Lib.hid (HNR.out.symm.trans (numR_long h20))
    clear h20 HNR
    go_enter Tryz.func122, Tryz.ntmps122
    go_wp2_with fail
    go_ret2
    exact ⟨⟨0, false, rfl, HF.out⟩, .refl _ _⟩
  have hI : ¬ (20 : Int) < (s.length : Int) := by omega
  have hL20 : s.length ≤ 20 := by omega
  have HB0 : Hid (Below w.heap.size w w) := Lib.hid (Below.refl _ _)
  clear h20
  go_enter Tryz.func122, Tryz.ntmps122
  go_wp2_with fail
  go_loopw [4, 5] (fun n i wr => ∃ k : Nat, n = .int .u64 ((valN (s.take k) : Nat) : Int) ∧ i = .int .i64 (k : Int) ∧ k ≤ s.length ∧ Hid (Below w.heap.size w wr)) (fun _ i _ => s.length - (intOf i).toNat)
  case atStart => exact ⟨0, rfl, rfl, by omega, HB0⟩
  case round =>
    clear HB0
    obtain ⟨k, rfl, rfl, hk, HB⟩ := hrel
    by_cases hlt : k < s.length
    · have hkI : (k : Int) < (s.length : Int) := by omega
      have hk0 : ¬ (k : Int) < 0 := by omega
      have hk1 : (0 : Int) ≤ (k : Int) := by omega
      have hvs := valN_snoc (s.take k) s[k]
      rw [← List.take_succ_eq_append_getElem hlt] at hvs
      have hvl := valN_lt (s.take k)
      have hix : ∀ w, (Instr.index 9 (.string ⟨s.toArray⟩) (.int .i64 (k : Int))).run Tryz.prog w = .ok (.int .u8 ((s[k].toNat : Nat) : Int)) w := fun w => by
        rw [run_index_string w 9 ⟨s.toArray⟩ .i64 (k : Int) Tryz.underlying9, dif_pos ⟨hk1, by show (k : Int) < (s.toArray.size : Int); simpa using hkI⟩]
        rfl
      have hc8 : s[k].toNat < 256 := s[k].toNat_lt
      generalize s[k].toNat = c at *
      have HVS := Lib.hid hvs
      clear hvs
      by_cases hd : 48 ≤ c ∧ c ≤ 57
      · have hd1 : (48 : Int) ≤ (c : Int) := by omega
        have hd2 : (c : Int) ≤ 57 := by omega
        have hu : IntKind.u64.wrap (IntKind.u64.wrap (((valN (s.take k) : Nat) : Int) * 10) + ((c : Int) - 48)) = (((valN (s.take k) * 10 + (c - 48)) % 18446744073709551616 : Nat) : Int) := by
          rw [IntKind.wrap_u64, IntKind.wrap_u64]
          omega
        have HU := Lib.hid hu
        have HD := Lib.hid hd
        clear hu hd
        go_wp2_with fail
        go_roundw
        case rel => exact ⟨k + 1, by rw [HVS.out, if_pos HD.out, ← HU.out], by simp, by omega, HB⟩
        case measure => simp [intOf]; omega
      · have HD := Lib.hid hd
        have hcase : ¬ (48 : Int) ≤ (c : Int) ∨ ((48 : Int) ≤ (c : Int) ∧ ¬ (c : Int) ≤ 57) := by omega
        clear hd
        rcases hcase with hd1 | ⟨hd1, hd2⟩
        all_goals
          go_wp2_with fail
          go_roundw
          case rel => exact ⟨k + 1, by rw [HVS.out, if_neg HD.out], by simp, by omega, HB⟩
          case measure => simp [intOf]; omega
    · obtain rfl : k = s.length := by omega
      have hkI : ¬ (s.length : Int) < (s.length : Int) := by omega
      rw [List.take_length]
      obtain ⟨hz1, hz2⟩ := numZ_I s
      have HDC := Lib.hid fun w => dec_any (numZ s) w ⟨hz1, hz2⟩
      have hvl := valN_lt s
      have HF : Hid (NR = if (Lib.itoa (numZ s) == s) = true then some (numZ s) else none) := Lib.hid (by
        rw [← HNR.out]
        cases hb : (Lib.itoa (numZ s) == s) with
        | true => rw [if_pos rfl]; exact numR_yes hL20 hb
        | false => rw [if_neg (by decide)]; exact numR_not hb)
      have hnz : numZ s = if s.head? = some 45 then i64of ((18446744073709551616 - valN s) % 18446744073709551616) else i64of (valN s) := rfl
      have hw1 : wrap64 ((valN s : Nat) : Int) = i64of (valN s) := by
        unfold i64of wrap64
        split <;> omega
      have hw2 : wrap64 (IntKind.u64.wrap (-((valN s : Nat) : Int))) = i64of ((18446744073709551616 - valN s) % 18446744073709551616) := by
        rw [IntKind.wrap_u64]
        unfold i64of wrap64
        split <;> omega
      clear hkI hz1 hz2 HNR
      cases s with
      | nil =>
        rw [if_neg (by simp)] at hnz
        rw [← hnz] at hw1
        generalize numZ [] = Z at *
        generalize valN [] = V at *
        generalize Lib.itoa Z = D at *
        clear hw2 hnz hvl hL20
        unfold strV at HDC
        go_wp2_with fail
        refine (HDC.out _).mono ?_
        rintro e w1 ⟨rfl, hb⟩
        have HB1 := Lib.hid (bel_on HB.out hb)
        clear hb HDC
        go_wp2_with fail
        go_ret2
        exact ⟨⟨_, _, rfl, by rw [HF.out]; cases D <;> rfl⟩, HB1.out⟩
      | cons c r =>
        have hix : ∀ w, (Instr.index 9 (.string ⟨(c :: r).toArray⟩) (.int .i64 0)).run Tryz.prog w = .ok (.int .u8 ((c.toNat : Nat) : Int)) w := fun w => by
          rw [run_index_string w 9 ⟨(c :: r).toArray⟩ .i64 0 Tryz.underlying9, dif_pos ⟨by omega, by show (0 : Int) < ((c :: r).toArray.size : Int); simp⟩]
          rfl
        have hpos : (0 : Int) < ((c :: r).length : Int) := by rw [List.length_cons]; omega
        by_cases hc : c = 45
        · have hc1 : ((c.toNat : Nat) : Int) = 45 := by rw [hc]; rfl
          rw [if_pos (by rw [hc]; rfl)] at hnz
          rw [← hnz] at hw2
          have hix2 : ∀ w, (Instr.index 9 (.string ⟨(c :: r).toArray⟩) (.int .i64 0)).run Tryz.prog w = .ok (.int .u8 45) w := fun w => by rw [hix w, hc1]
          clear hix hc1 hw1 hnz hc
          generalize c :: r = s at *
          generalize numZ s = Z at *
          generalize valN s = V at *
          generalize Lib.itoa Z = D at *
          clear hvl hL20
          unfold strV at HDC
          go_wp2_with fail
          refine (HDC.out _).mono ?_
          rintro e w1 ⟨rfl, hb⟩
          have HB1 := Lib.hid (bel_on HB.out hb)
          clear hb HDC
          go_wp2_with fail
          go_ret2
          exact ⟨⟨_, _, rfl, HF.out⟩, HB1.out⟩
        · have hc1 : (((c.toNat : Nat) : Int) == 45) = false := by
            rw [beq_eq_false_iff_ne]
            intro h
            have h2 : c.toNat = (45 : UInt8).toNat := by
              have : (45 : UInt8).toNat = 45 := rfl
              omega
            exact hc (UInt8.toNat_inj.1 h2)
          rw [if_neg (by simp [hc])] at hnz
          rw [← hnz] at hw1
          clear hw2 hnz hc
          generalize c.toNat = cn at *
          generalize c :: r = s at *
          generalize numZ s = Z at *
          generalize valN s = V at *
          generalize Lib.itoa Z = D at *
          clear hvl hL20
          unfold strV at HDC
          go_wp2_with fail
          refine (HDC.out _).mono ?_
          rintro e w1 ⟨rfl, hb⟩
          have HB1 := Lib.hid (bel_on HB.out hb)
          clear hb HDC
          go_wp2_with fail
          go_ret2
          exact ⟨⟨_, _, rfl, HF.out⟩, HB1.out⟩
end Go.Proofs.YtpojhplnhppcpaaGreatDoor
