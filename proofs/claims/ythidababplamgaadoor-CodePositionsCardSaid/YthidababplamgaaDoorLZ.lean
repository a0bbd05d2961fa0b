/- CodePositions answers true. -/
import Derived.Test.YthidababplamgaaDoorSan
namespace Go.Proofs.YthidababplamgaaDoor
open Go.RowKit
theorem posZ_nat {k b : Nat} (h : okBit k b = true) : posZ (k : Int) (b : Int) = ((psn k b : Nat) : Int) := by
  unfold okBit at h
  simp at h
  by_cases hk : k < 8
  · have hb : b < 40 := by omega
    rw [posZ_data (by unfold dataB; simp; omega)]
    unfold psn
    rw [if_pos hk]
    congr 2
  · have hk8 : k = 8 := by omega
    subst hk8
    have hd : dataB ((8 : Nat) : Int) (b : Int) = false := by unfold dataB; simp
    have hc : codeB ((8 : Nat) : Int) (b : Int) = true := by unfold codeB; simp; omega
    by_cases h9 : b < 9
    · rw [posZ_code hd hc (by omega)]
      unfold psn
      rw [if_neg (by decide), if_pos h9, Int.toNat_natCast]
    · rw [posZ_last hd (by omega)]
      unfold psn
      rw [if_neg (by decide), if_neg h9]
      rfl
theorem psn_le {k b : Nat} (h : okBit k b = true) : psn k b ≤ 329 ∧ (psn k b = 0 ↔ k = 8 ∧ b = 9) ∧ (k < 8 → psn k b &&& (psn k b - 1) ≠ 0) := by
  have all : ∀ k : Fin 9, ∀ b : Fin 40, okBit k b = true → psn k b ≤ 329 ∧ (psn k b = 0 ↔ k.val = 8 ∧ b.val = 9) ∧ (k.val < 8 → psn k b &&& (psn k b - 1) ≠ 0) := by decide +kernel
  exact all ⟨k, okBit_k h⟩ ⟨b, okBit_b h⟩ h
theorem posn_next (i : Nat) (h : i < 319) : posn i < posn (i + 1) := by
  have all : ∀ i : Fin 319, posn i < posn (i.val + 1) := by decide +kernel
  exact all ⟨i, h⟩
theorem posn_lt' (i d : Nat) (h : i + d + 1 < 320) : posn i < posn (i + d + 1) := by
  induction d with
  | zero => exact posn_next i (by omega)
  | succ d ih =>
    have h1 := ih (by omega)
    have h2 := posn_next (i + d + 1) (by omega)
    have e : i + (d + 1) + 1 = i + d + 1 + 1 := by omega
    rw [e]
    omega
theorem psn_mono {k b k' b' : Nat} (hk : k < 8) (hb : b < 40) (hk' : k' < 8) (hb' : b' < 40) : 40 * k + b < 40 * k' + b' ↔ psn k b < psn k' b' := by
  unfold psn
  rw [if_pos hk, if_pos hk']
  generalize hi : 40 * k + b = i
  generalize hj : 40 * k' + b' = j
  have hi2 : i < 320 := by omega
  have hj2 : j < 320 := by omega
  constructor
  · intro h
    obtain ⟨d, rfl⟩ : ∃ d, j = i + d + 1 := ⟨j - i - 1, by omega⟩
    exact posn_lt' i d (by omega)
  · intro h
    rcases Nat.lt_or_ge i j with h1 | h1
    · exact h1
    · exfalso
      rcases Nat.eq_or_lt_of_le h1 with h2 | h2
      · subst h2; omega
      · obtain ⟨d, rfl⟩ : ∃ d, i = j + d + 1 := ⟨i - j - 1, by omega⟩
        have := posn_lt' j d (by omega)
        omega
set_option maxRecDepth 100000 in
set_option maxHeartbeats 4000000 in
theorem lawZ (z1 z2 : Int) (w : World) (hz1 : 0 ≤ z1 ∧ z1 < 65536) (hz2 : 0 ≤ z2 ∧ z2 < 65536) (hT : Tab w) :
    Calls Tryd.prog 9 #[.int .u16 z1, .int .u16 z2] w fun e w' => e = .returned (.bool true) ∧ Below w.heap.size w w' := by
  obtain ⟨n1, rfl⟩ : ∃ n : Nat, z1 = n := ⟨z1.toNat, by omega⟩
  obtain ⟨n2, rfl⟩ : ∃ n : Nat, z2 = n := ⟨z2.toNat, by omega⟩
  have HT := Lib.hid hT
  have HSAN := Lib.hid fun w hT => san_any w hT
  have HB1 := Lib.hid fun w => bit_any (n1 : Int) n1 w rfl (by omega)
  have HB2 := Lib.hid fun w => bit_any (n2 : Int) n2 w rfl (by omega)
  have ok1 := bitF_ok n1
  have ok2 := bitF_ok n2
  clear hz1 hz2 hT
  generalize bitF n1 = r1 at *
  generalize bitF n2 = r2 at *
  obtain ⟨I, J⟩ := r1
  obtain ⟨M, N⟩ := r2
  simp only at HB1 HB2 ok1 ok2
  have HP1 := Lib.hid fun w => Position_any (I : Int) (J : Int) w
  have HP2 := Lib.hid fun w => Position_any (M : Int) (N : Int) w
  rw [posZ_nat ok1] at HP1
  rw [posZ_nat ok2] at HP2
  have bi := okBit_k ok1
  have bj := okBit_b ok1
  have bm := okBit_k ok2
  have bn := okBit_b ok2
  obtain ⟨q1, q2, q3⟩ := psn_le ok1
  have h1 := q1
  have h2 := q2
  have h3 : Hid (I < 8 → ∃ x : Nat, bits .and .i64 ((psn I J : Nat) : Int) (((psn I J : Nat) : Int) - 1) = (x : Int) ∧ 0 < (x : Int)) := Lib.hid fun hI => by
    have hz := q3 hI
    refine ⟨psn I J &&& (psn I J - 1), ?_, by omega⟩
    have e : ((psn I J : Nat) : Int) - 1 = ((psn I J - 1 : Nat) : Int) := by omega
    rw [e]
    exact i64_and_nat _ _ (by omega) (by omega)
  have h4 : Hid (I < 8 → M < 8 → (40 * I + J < 40 * M + N ↔ psn I J < psn M N)) := Lib.hid fun hI hM => psn_mono hI bj hM bn
  have h5 : Hid (psn I J = psn M N ↔ I = M ∧ J = N) := Lib.hid ⟨fun h => psn_inj ok1 ok2 h, fun h => by rw [h.1, h.2]⟩
  generalize psn I J = P at *
  generalize psn M N = Q at *
  have g1 : (I : Int) ≤ 8 := by omega
  have g2 : (J : Int) < 40 := by omega
  have g3 : (M : Int) ≤ 8 := by omega
  have g4 : (N : Int) < 40 := by omega
  have h2' := Lib.hid h2
  clear ok1 ok2 q1 q2 q3 h2
  go_enter Tryd.func9, Tryd.ntmps9
  go_wp2_with fail
  refine (HB1.out _).mono ?_
  rintro e w1 ⟨rfl, rfl⟩
  go_wp2_with fail
  refine (HB2.out _).mono ?_
  rintro e w2 ⟨rfl, rfl⟩
  go_wp2_with fail
  refine (HP1.out _).mono ?_
  rintro e w3 ⟨rfl, rfl⟩
  go_wp2_with fail
  refine (HP2.out _).mono ?_
  rintro e w4 ⟨rfl, rfl⟩
  have h2 := h2'.out
  have hp1 : (P : Int) ≤ 329 := by omega
  by_cases hA : (I : Int) < 8
  · skip
    have hP : 0 < (P : Int) := by omega
    have hland := h3.out (by omega)
    obtain ⟨x, hx1, hx2⟩ := hland
    by_cases hM : (M : Int) < 8
    · skip
      have hlt := h4.out (by omega) (by omega)
      by_cases hl : 40 * (I : Int) + J < 40 * (M : Int) + N
      · skip
        by_cases he : (I : Int) = M
        · skip
          have g5 := h5.out
          have b_a : decide ((I : Int) < 8) = true := by simp; try omega
          have b_m : decide ((M : Int) < 8) = true := by simp; try omega
          have b_e8 : ((I : Int) == 8) = false := by simp; try omega
          have b_p0 : ((P : Int) == 0) = false := by simp; try omega
          have b_x0 : ((x : Int) == 0) = false := by simp; try omega
          have b_l1 : decide (40 * (I : Int) + (J : Int) < 40 * (M : Int) + (N : Int)) = true := by simp; try omega
          have b_l2 : decide ((P : Int) < (Q : Int)) = true := by simp; try omega
          have b_pq : ((P : Int) == (Q : Int)) = false := by simp; try omega
          have b_im : ((I : Int) == (M : Int)) = true := by simp; try omega
          have b_jn : ((J : Int) == (N : Int)) = false := by simp; try omega
          have b_n0 : decide ((P : Int) < 0) = false := by simp; try omega
          have b_n9 : decide (329 < (P : Int)) = false := by simp; try omega
          have b_l1n : decide (40 * I + J < 40 * M + N) = true := by simp; try omega
          have b_l2n : decide (P < Q) = true := by simp; try omega
          have b_pqn : (P == Q) = false := by simp; try omega
          have b_imn : (I == M) = true := by simp; try omega
          have b_jnn : (J == N) = false := by simp; try omega
          clear g5 h2 hp1 hA hP hx2 hM hlt hl he
          go_wp2_with fail
          refine (HSAN.out _ HT.out).mono ?_
          rintro e w5 ⟨rfl, hb⟩
          have HB := Lib.hid hb
          clear hb
          go_wp2_with fail
          go_ret
          exact ⟨rfl, HB.out⟩
        · skip
          have g5 := h5.out
          have b_a : decide ((I : Int) < 8) = true := by simp; try omega
          have b_m : decide ((M : Int) < 8) = true := by simp; try omega
          have b_e8 : ((I : Int) == 8) = false := by simp; try omega
          have b_p0 : ((P : Int) == 0) = false := by simp; try omega
          have b_x0 : ((x : Int) == 0) = false := by simp; try omega
          have b_l1 : decide (40 * (I : Int) + (J : Int) < 40 * (M : Int) + (N : Int)) = true := by simp; try omega
          have b_l2 : decide ((P : Int) < (Q : Int)) = true := by simp; try omega
          have b_pq : ((P : Int) == (Q : Int)) = false := by simp; try omega
          have b_im : ((I : Int) == (M : Int)) = false := by simp; try omega
          have b_n0 : decide ((P : Int) < 0) = false := by simp; try omega
          have b_n9 : decide (329 < (P : Int)) = false := by simp; try omega
          have b_l1n : decide (40 * I + J < 40 * M + N) = true := by simp; try omega
          have b_l2n : decide (P < Q) = true := by simp; try omega
          have b_pqn : (P == Q) = false := by simp; try omega
          have b_imn : (I == M) = false := by simp; try omega
          clear g5 h2 hp1 hA hP hx2 hM hlt hl he
          go_wp2_with fail
          refine (HSAN.out _ HT.out).mono ?_
          rintro e w5 ⟨rfl, hb⟩
          have HB := Lib.hid hb
          clear hb
          go_wp2_with fail
          go_ret
          exact ⟨rfl, HB.out⟩
      · skip
        by_cases he : (I : Int) = M
        · skip
          by_cases hj : (J : Int) = N
          · skip
            have g5 := h5.out
            have b_a : decide ((I : Int) < 8) = true := by simp; try omega
            have b_m : decide ((M : Int) < 8) = true := by simp; try omega
            have b_e8 : ((I : Int) == 8) = false := by simp; try omega
            have b_p0 : ((P : Int) == 0) = false := by simp; try omega
            have b_x0 : ((x : Int) == 0) = false := by simp; try omega
            have b_l1 : decide (40 * (I : Int) + (J : Int) < 40 * (M : Int) + (N : Int)) = false := by simp; try omega
            have b_l2 : decide ((P : Int) < (Q : Int)) = false := by simp; try omega
            have b_pq : ((P : Int) == (Q : Int)) = true := by simp; try omega
            have b_im : ((I : Int) == (M : Int)) = true := by simp; try omega
            have b_jn : ((J : Int) == (N : Int)) = true := by simp; try omega
            have b_n0 : decide ((P : Int) < 0) = false := by simp; try omega
            have b_n9 : decide (329 < (P : Int)) = false := by simp; try omega
            have b_l1n : decide (40 * I + J < 40 * M + N) = false := by simp; try omega
            have b_l2n : decide (P < Q) = false := by simp; try omega
            have b_pqn : (P == Q) = true := by simp; try omega
            have b_imn : (I == M) = true := by simp; try omega
            have b_jnn : (J == N) = true := by simp; try omega
            clear g5 h2 hp1 hA hP hx2 hM hlt hl he hj
            go_wp2_with fail
            refine (HSAN.out _ HT.out).mono ?_
            rintro e w5 ⟨rfl, hb⟩
            have HB := Lib.hid hb
            clear hb
            go_wp2_with fail
            go_ret
            exact ⟨rfl, HB.out⟩
          · skip
            have g5 := h5.out
            have b_a : decide ((I : Int) < 8) = true := by simp; try omega
            have b_m : decide ((M : Int) < 8) = true := by simp; try omega
            have b_e8 : ((I : Int) == 8) = false := by simp; try omega
            have b_p0 : ((P : Int) == 0) = false := by simp; try omega
            have b_x0 : ((x : Int) == 0) = false := by simp; try omega
            have b_l1 : decide (40 * (I : Int) + (J : Int) < 40 * (M : Int) + (N : Int)) = false := by simp; try omega
            have b_l2 : decide ((P : Int) < (Q : Int)) = false := by simp; try omega
            have b_pq : ((P : Int) == (Q : Int)) = false := by simp; try omega
            have b_im : ((I : Int) == (M : Int)) = true := by simp; try omega
            have b_jn : ((J : Int) == (N : Int)) = false := by simp; try omega
            have b_n0 : decide ((P : Int) < 0) = false := by simp; try omega
            have b_n9 : decide (329 < (P : Int)) = false := by simp; try omega
            have b_l1n : decide (40 * I + J < 40 * M + N) = false := by simp; try omega
            have b_l2n : decide (P < Q) = false := by simp; try omega
            have b_pqn : (P == Q) = false := by simp; try omega
            have b_imn : (I == M) = true := by simp; try omega
            have b_jnn : (J == N) = false := by simp; try omega
            clear g5 h2 hp1 hA hP hx2 hM hlt hl he hj
            go_wp2_with fail
            refine (HSAN.out _ HT.out).mono ?_
            rintro e w5 ⟨rfl, hb⟩
            have HB := Lib.hid hb
            clear hb
            go_wp2_with fail
            go_ret
            exact ⟨rfl, HB.out⟩
        · skip
          have g5 := h5.out
          have b_a : decide ((I : Int) < 8) = true := by simp; try omega
          have b_m : decide ((M : Int) < 8) = true := by simp; try omega
          have b_e8 : ((I : Int) == 8) = false := by simp; try omega
          have b_p0 : ((P : Int) == 0) = false := by simp; try omega
          have b_x0 : ((x : Int) == 0) = false := by simp; try omega
          have b_l1 : decide (40 * (I : Int) + (J : Int) < 40 * (M : Int) + (N : Int)) = false := by simp; try omega
          have b_l2 : decide ((P : Int) < (Q : Int)) = false := by simp; try omega
          have b_pq : ((P : Int) == (Q : Int)) = false := by simp; try omega
          have b_im : ((I : Int) == (M : Int)) = false := by simp; try omega
          have b_n0 : decide ((P : Int) < 0) = false := by simp; try omega
          have b_n9 : decide (329 < (P : Int)) = false := by simp; try omega
          have b_l1n : decide (40 * I + J < 40 * M + N) = false := by simp; try omega
          have b_l2n : decide (P < Q) = false := by simp; try omega
          have b_pqn : (P == Q) = false := by simp; try omega
          have b_imn : (I == M) = false := by simp; try omega
          clear g5 h2 hp1 hA hP hx2 hM hlt hl he
          go_wp2_with fail
          refine (HSAN.out _ HT.out).mono ?_
          rintro e w5 ⟨rfl, hb⟩
          have HB := Lib.hid hb
          clear hb
          go_wp2_with fail
          go_ret
          exact ⟨rfl, HB.out⟩
    · skip
      have g5 := h5.out
      have b_a : decide ((I : Int) < 8) = true := by simp; try omega
      have b_m : decide ((M : Int) < 8) = false := by simp; try omega
      have b_e8 : ((I : Int) == 8) = false := by simp; try omega
      have b_p0 : ((P : Int) == 0) = false := by simp; try omega
      have b_x0 : ((x : Int) == 0) = false := by simp; try omega
      have b_pq : ((P : Int) == (Q : Int)) = false := by simp; try omega
      have b_im : ((I : Int) == (M : Int)) = false := by simp; try omega
      have b_n0 : decide ((P : Int) < 0) = false := by simp; try omega
      have b_n9 : decide (329 < (P : Int)) = false := by simp; try omega
      have b_pqn : (P == Q) = false := by simp; try omega
      have b_imn : (I == M) = false := by simp; try omega
      clear g5 h2 hp1 hA hP hx2 hM
      go_wp2_with fail
      refine (HSAN.out _ HT.out).mono ?_
      rintro e w5 ⟨rfl, hb⟩
      have HB := Lib.hid hb
      clear hb
      go_wp2_with fail
      go_ret
      exact ⟨rfl, HB.out⟩
  · skip
    have hI : (I : Int) = 8 := by omega
    by_cases hJ : (J : Int) = 9
    · skip
      by_cases he : (8 : Int) = M
      · skip
        by_cases hn : (9 : Int) = N
        · skip
          have g5 := h5.out
          have b_a : decide ((I : Int) < 8) = false := by simp; try omega
          have b_e8 : ((I : Int) == 8) = true := by simp; try omega
          have b_e9 : ((J : Int) == 9) = true := by simp; try omega
          have b_p0 : ((P : Int) == 0) = true := by simp; try omega
          have b_pq : ((P : Int) == (Q : Int)) = true := by simp; try omega
          have b_im : ((I : Int) == (M : Int)) = true := by simp; try omega
          have b_jn : ((J : Int) == (N : Int)) = true := by simp; try omega
          have b_n0 : decide ((P : Int) < 0) = false := by simp; try omega
          have b_n9 : decide (329 < (P : Int)) = false := by simp; try omega
          have b_pqn : (P == Q) = true := by simp; try omega
          have b_imn : (I == M) = true := by simp; try omega
          have b_jnn : (J == N) = true := by simp; try omega
          clear g5 h2 hp1 hA hI hJ he hn
          go_wp2_with fail
          refine (HSAN.out _ HT.out).mono ?_
          rintro e w5 ⟨rfl, hb⟩
          have HB := Lib.hid hb
          clear hb
          go_wp2_with fail
          go_ret
          exact ⟨rfl, HB.out⟩
        · skip
          have g5 := h5.out
          have b_a : decide ((I : Int) < 8) = false := by simp; try omega
          have b_e8 : ((I : Int) == 8) = true := by simp; try omega
          have b_e9 : ((J : Int) == 9) = true := by simp; try omega
          have b_p0 : ((P : Int) == 0) = true := by simp; try omega
          have b_pq : ((P : Int) == (Q : Int)) = false := by simp; try omega
          have b_im : ((I : Int) == (M : Int)) = true := by simp; try omega
          have b_jn : ((J : Int) == (N : Int)) = false := by simp; try omega
          have b_n0 : decide ((P : Int) < 0) = false := by simp; try omega
          have b_n9 : decide (329 < (P : Int)) = false := by simp; try omega
          have b_pqn : (P == Q) = false := by simp; try omega
          have b_imn : (I == M) = true := by simp; try omega
          have b_jnn : (J == N) = false := by simp; try omega
          clear g5 h2 hp1 hA hI hJ he hn
          go_wp2_with fail
          refine (HSAN.out _ HT.out).mono ?_
          rintro e w5 ⟨rfl, hb⟩
          have HB := Lib.hid hb
          clear hb
          go_wp2_with fail
          go_ret
          exact ⟨rfl, HB.out⟩
      · skip
        have g5 := h5.out
        have b_a : decide ((I : Int) < 8) = false := by simp; try omega
        have b_e8 : ((I : Int) == 8) = true := by simp; try omega
        have b_e9 : ((J : Int) == 9) = true := by simp; try omega
        have b_p0 : ((P : Int) == 0) = true := by simp; try omega
        have b_pq : ((P : Int) == (Q : Int)) = false := by simp; try omega
        have b_im : ((I : Int) == (M : Int)) = false := by simp; try omega
        have b_n0 : decide ((P : Int) < 0) = false := by simp; try omega
        have b_n9 : decide (329 < (P : Int)) = false := by simp; try omega
        have b_pqn : (P == Q) = false := by simp; try omega
        have b_imn : (I == M) = false := by simp; try omega
        clear g5 h2 hp1 hA hI hJ he
        go_wp2_with fail
        refine (HSAN.out _ HT.out).mono ?_
        rintro e w5 ⟨rfl, hb⟩
        have HB := Lib.hid hb
        clear hb
        go_wp2_with fail
        go_ret
        exact ⟨rfl, HB.out⟩
    · skip
      by_cases he : (8 : Int) = M
      · skip
        by_cases hn : (J : Int) = N
        · skip
          have g5 := h5.out
          have b_a : decide ((I : Int) < 8) = false := by simp; try omega
          have b_e8 : ((I : Int) == 8) = true := by simp; try omega
          have b_e9 : ((J : Int) == 9) = false := by simp; try omega
          have b_p0 : ((P : Int) == 0) = false := by simp; try omega
          have b_pq : ((P : Int) == (Q : Int)) = true := by simp; try omega
          have b_im : ((I : Int) == (M : Int)) = true := by simp; try omega
          have b_jn : ((J : Int) == (N : Int)) = true := by simp; try omega
          have b_n0 : decide ((P : Int) < 0) = false := by simp; try omega
          have b_n9 : decide (329 < (P : Int)) = false := by simp; try omega
          have b_pqn : (P == Q) = true := by simp; try omega
          have b_imn : (I == M) = true := by simp; try omega
          have b_jnn : (J == N) = true := by simp; try omega
          clear g5 h2 hp1 hA hI hJ he hn
          go_wp2_with fail
          refine (HSAN.out _ HT.out).mono ?_
          rintro e w5 ⟨rfl, hb⟩
          have HB := Lib.hid hb
          clear hb
          go_wp2_with fail
          go_ret
          exact ⟨rfl, HB.out⟩
        · skip
          have g5 := h5.out
          have b_a : decide ((I : Int) < 8) = false := by simp; try omega
          have b_e8 : ((I : Int) == 8) = true := by simp; try omega
          have b_e9 : ((J : Int) == 9) = false := by simp; try omega
          have b_p0 : ((P : Int) == 0) = false := by simp; try omega
          have b_pq : ((P : Int) == (Q : Int)) = false := by simp; try omega
          have b_im : ((I : Int) == (M : Int)) = true := by simp; try omega
          have b_jn : ((J : Int) == (N : Int)) = false := by simp; try omega
          have b_n0 : decide ((P : Int) < 0) = false := by simp; try omega
          have b_n9 : decide (329 < (P : Int)) = false := by simp; try omega
          have b_pqn : (P == Q) = false := by simp; try omega
          have b_imn : (I == M) = true := by simp; try omega
          have b_jnn : (J == N) = false := by simp; try omega
          clear g5 h2 hp1 hA hI hJ he hn
          go_wp2_with fail
          refine (HSAN.out _ HT.out).mono ?_
          rintro e w5 ⟨rfl, hb⟩
          have HB := Lib.hid hb
          clear hb
          go_wp2_with fail
          go_ret
          exact ⟨rfl, HB.out⟩
      · skip
        have g5 := h5.out
        have b_a : decide ((I : Int) < 8) = false := by simp; try omega
        have b_e8 : ((I : Int) == 8) = true := by simp; try omega
        have b_e9 : ((J : Int) == 9) = false := by simp; try omega
        have b_p0 : ((P : Int) == 0) = false := by simp; try omega
        have b_pq : ((P : Int) == (Q : Int)) = false := by simp; try omega
        have b_im : ((I : Int) == (M : Int)) = false := by simp; try omega
        have b_n0 : decide ((P : Int) < 0) = false := by simp; try omega
        have b_n9 : decide (329 < (P : Int)) = false := by simp; try omega
        have b_pqn : (P == Q) = false := by simp; try omega
        have b_imn : (I == M) = false := by simp; try omega
        clear g5 h2 hp1 hA hI hJ he
        go_wp2_with fail
        refine (HSAN.out _ HT.out).mono ?_
        rintro e w5 ⟨rfl, hb⟩
        have HB := Lib.hid hb
        clear hb
        go_wp2_with fail
        go_ret
        exact ⟨rfl, HB.out⟩
end Go.Proofs.YthidababplamgaaDoor
