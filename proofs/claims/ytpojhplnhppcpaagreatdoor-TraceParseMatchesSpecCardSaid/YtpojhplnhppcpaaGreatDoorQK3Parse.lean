/-
  What alumref05's Decimal does.
-/
import Derived.Test.YtpojhplnhppcpaaGreatDoorQK2Parse
import Derived.Laws.Concat
namespace Go.Proofs.YtpojhplnhppcpaaGreatDoor
open Go.RowKit Go.Maps
theorem cat_run (A B : List UInt8) (w : World) (h : A.length + B.length ≤ 9223372036854775807) : (Op.stringOp .add ⟨A.toArray⟩ ⟨B.toArray⟩).run Tryz.prog w = .ok (.string ⟨(A ++ B).toArray⟩) w := by
  have e : (⟨A.toArray⟩ ++ ⟨B.toArray⟩ : ByteArray) = ⟨(A ++ B).toArray⟩ := by
    apply ByteArray.ext
    simp
  rw [run_string_add_sum w _ _ (by show A.toArray.size + B.toArray.size ≤ _; simpa using h), e]
set_option maxRecDepth 100000 in
set_option maxHeartbeats 4000000 in
set_option linter.unusedSimpArgs false in
theorem decimal_digit (d : Nat) (w : World) (hd : d < 10) :
    Calls Tryz.prog 123 #[.int .i64 (d : Int)] w fun e w' => e = .returned (strV (Lib.itoa (d : Int))) ∧ Below w.heap.size w w' := by
  have hi : Lib.itoa (d : Int) = [UInt8.ofNat (48 + d)] := by rw [itoa_pos (by omega), Int.toNat_natCast, dec_small hd]
  rw [hi]
  have hw : IntKind.i64.wrap (48 + (d : Int)) = ((48 + d : Nat) : Int) := by rw [i64_wraps]; omega
  have hw2 : IntKind.u8.wrap ((48 + d : Nat) : Int) = ((48 + d : Nat) : Int) := by rw [IntKind.wrap_u8]; omega
  have hw3 : (48 : Int) + (d : Int) = ((48 + d : Nat) : Int) := by omega
  have hm : ((48 + d : Nat) : Int) % 256 = ((48 + d : Nat) : Int) := by omega
  have hc : (w.alloc (.cells #[.int .u8 ((48 + d : Nat) : Int)] 5)).cell? ⟨w.heap.size, 0, none⟩ = some (.int .u8 ((48 + d : Nat) : Int)) := (Arr.new w [.int .u8 ((48 + d : Nat) : Int)] 5).cell (j := 0) rfl
  have hcv := run_convert_bytes_back (P := Tryz.prog) (w.alloc (.cells #[.int .u8 ((48 + d : Nat) : Int)] 5)) 31 9 5 ⟨w.heap.size, 0, none⟩ 1 [UInt8.ofNat (48 + d)] Tryz.underlying31 Tryz.underlying5 Tryz.underlying9 (fun j hj => by
    obtain rfl : j = 0 := by simpa using hj
    rw [add_zero_at, hc]
    show _ = some (Value.int .u8 ((UInt8.ofNat (48 + d)).toNat : Int))
    rw [digit_nat hd])
  have hb := bel_new w (.cells #[.int .u8 ((48 + d : Nat) : Int)] 5)
  have h0 : (0 : Int) ≤ (d : Int) := by omega
  have h1 : (d : Int) < 10 := by omega
  obtain ⟨R, hR⟩ : ∃ R, [UInt8.ofNat (48 + d)] = R := ⟨_, rfl⟩
  rw [hR] at hcv ⊢
  have hlen : R.length = 1 := by rw [← hR]; rfl
  rw [hlen] at hcv
  obtain ⟨D, hD⟩ : ∃ D, 48 + d = D := ⟨_, rfl⟩
  rw [hD] at hw hw2 hw3 hm hcv hb
  have HB := Lib.hid hb
  clear hi hc hb hd hD hR hlen
  unfold strV
  go_enter Tryz.func123, Tryz.ntmps123
  go_wp2_with fail
  go_ret
  exact ⟨rfl, HB.out⟩
set_option maxRecDepth 100000 in
set_option maxHeartbeats 4000000 in
set_option linter.unusedSimpArgs false in
theorem decimal_any (k : Nat) : ∀ (z : Int) (w : World), z.natAbs ≤ k → I64 z →
    Calls Tryz.prog 123 #[.int .i64 z] w fun e w' => e = .returned (strV (Lib.itoa z)) ∧ Below w.heap.size w w' := by
  induction k with
  | zero =>
    intro z w hk _
    obtain rfl : z = ((0 : Nat) : Int) := by omega
    exact decimal_digit 0 w (by omega)
  | succ k ih =>
    intro z w hk hz
    by_cases h1 : 0 ≤ z ∧ z < 10
    · obtain ⟨d, rfl⟩ : ∃ d : Nat, z = (d : Int) := ⟨z.toNat, by omega⟩
      exact decimal_digit d w (by omega)
    have HI := Lib.hid ih
    by_cases h2 : -10 < z ∧ z < 0
    · obtain ⟨d, hd⟩ : ∃ d : Nat, -z = (d : Int) := ⟨(-z).toNat, by omega⟩
      have HD := Lib.hid fun w => decimal_digit d w (by omega)
      have hr : Lib.itoa z = [45] ++ Lib.itoa (d : Int) := by
        rw [itoa_minus (by omega), itoa_pos (by omega)]
        have : z.natAbs = (d : Int).toNat := by omega
        rw [this]
        rfl
      rw [hr]
      have hl := itoa_len20 (z := (d : Int)) (by omega) (by omega)
      obtain ⟨D, hD⟩ : ∃ D, Lib.itoa (d : Int) = D := ⟨_, rfl⟩
      rw [hD] at HD hl ⊢
      have hcat := fun w => cat_run [45] D w (by simp only [List.length_cons, List.length_nil]; omega)
      have hw1 : IntKind.i64.wrap (-z) = (d : Int) := by rw [hd, i64_wraps]; omega
      have g1 : ¬ (0 : Int) ≤ z := by omega
      have g2 : z < 0 := h2.2
      have g3 : -10 < z := h2.1
      clear ih h1 h2 hk hz hr hD HI
      unfold strV at HD ⊢
      generalize ([45] ++ D) = R at *
      go_enter Tryz.func123, Tryz.ntmps123
      go_wp2_with fail
      refine (HD.out _).mono ?_
      rintro e w1 ⟨rfl, hb⟩
      have HB := Lib.hid hb
      clear hb HD
      go_wp2_with fail
      go_ret
      exact ⟨rfl, HB.out⟩
    · obtain ⟨Q, hQ⟩ : ∃ Q, Int.tdiv z 10 = Q := ⟨_, rfl⟩
      obtain ⟨M, hM⟩ : ∃ M, Int.tmod z 10 = M := ⟨_, rfl⟩
      unfold I64 at hz
      have hnum : Q.natAbs ≤ k ∧ I64 Q ∧ I64 M ∧ M.natAbs < 10 ∧ Lib.itoa z = Lib.itoa Q ++ Lib.itoa (M.natAbs : Int) := by
        by_cases hp : 0 ≤ z
        · obtain ⟨u, rfl⟩ : ∃ u : Nat, z = (u : Int) := ⟨z.toNat, by omega⟩
          have e1 : Q = ((u / 10 : Nat) : Int) := by rw [← hQ, Int.tdiv_eq_ediv_of_nonneg (by omega)]; exact (Int.natCast_ediv u 10).symm
          have e2 : M = ((u % 10 : Nat) : Int) := by rw [← hM, Int.tmod_eq_emod_of_nonneg (by omega)]; exact (Int.natCast_emod u 10).symm
          rw [e1, e2]
          unfold I64
          refine ⟨by omega, by omega, by omega, by omega, ?_⟩
          rw [itoa_pos (by omega), itoa_pos (by omega), itoa_pos (by omega), Int.toNat_natCast, Int.toNat_natCast, dec_big (by omega)]
          congr 1
          rw [show (((((u % 10 : Nat) : Int)).natAbs : Nat) : Int).toNat = u % 10 by omega, dec_small (Nat.mod_lt u (by omega))]
        · obtain ⟨u, rfl⟩ : ∃ u : Nat, z = -(u : Int) := ⟨(-z).toNat, by omega⟩
          have e1 : Q = -((u / 10 : Nat) : Int) := by rw [← hQ, Int.neg_tdiv, Int.tdiv_eq_ediv_of_nonneg (by omega)]; rw [show (10 : Int) = ((10 : Nat) : Int) from rfl, Int.natCast_ediv]
          have e2 : M = -((u % 10 : Nat) : Int) := by rw [← hM, Int.neg_tmod, Int.tmod_eq_emod_of_nonneg (by omega)]; rw [show (10 : Int) = ((10 : Nat) : Int) from rfl, Int.natCast_emod]
          rw [e1, e2]
          unfold I64
          refine ⟨by omega, by omega, by omega, by omega, ?_⟩
          rw [itoa_minus (by omega), itoa_minus (by omega), itoa_pos (by omega)]
          rw [show (-(u : Int)).natAbs = u by omega, show (-((u / 10 : Nat) : Int)).natAbs = u / 10 by omega, show (((-((u % 10 : Nat) : Int)).natAbs : Nat) : Int).toNat = u % 10 by omega, dec_big (by omega), dec_small (u := u % 10) (Nat.mod_lt u (by omega))]
          rfl
      obtain ⟨n1, n2, n3, n4, n5⟩ := hnum
      rw [n5]
      have HQ := Lib.hid fun w => HI.out Q w n1 n2
      have HM := Lib.hid fun w => decimal_digit M.natAbs w n4
      unfold I64 at n2 n3
      have l1 := itoa_len20 n2.1 n2.2
      have l2 := itoa_len20 (z := (M.natAbs : Int)) (by omega) (by omega)
      have hq1 : IntKind.i64.wrap Q = Q := by rw [i64_wraps]; omega
      have hm1 : IntKind.i64.wrap M = M := by rw [i64_wraps]; omega
      have hq2 : IntKind.i64.wrap (Int.tdiv z 10) = Q := by rw [hQ]; exact hq1
      have hm2 : IntKind.i64.wrap (Int.tmod z 10) = M := by rw [hM]; exact hm1
      have hq3 : wrap64 Q = Q := by unfold wrap64; omega
      have hm3 : wrap64 M = M := by unfold wrap64; omega
      obtain ⟨D, hD⟩ : ∃ D, Lib.itoa Q = D := ⟨_, rfl⟩
      obtain ⟨C, hC⟩ : ∃ C, Lib.itoa (M.natAbs : Int) = C := ⟨_, rfl⟩
      rw [hD] at HQ l1 ⊢
      rw [hC] at HM l2 ⊢
      have hcat := fun w => cat_run D C w (by omega)
      obtain ⟨R, hR⟩ : ∃ R, D ++ C = R := ⟨_, rfl⟩
      rw [hR] at hcat ⊢
      obtain ⟨a, ha⟩ : ∃ a : Nat, M.natAbs = a := ⟨_, rfl⟩
      rw [ha] at HM n4
      have hcase : (M < 0 ∧ -M = (a : Int) ∧ IntKind.i64.wrap (-M) = (a : Int)) ∨ (¬ M < 0 ∧ M = (a : Int)) := by
        by_cases hm : M < 0
        · exact .inl ⟨hm, by omega, by rw [i64_wraps]; omega⟩
        · exact .inr ⟨hm, by omega⟩
      have hway : (¬ (0 : Int) ≤ z ∧ ¬ -10 < z) ∨ ((0 : Int) ≤ z ∧ ¬ z < 10 ∧ ¬ z < 0) := by omega
      clear ih h1 h2 hk hz hD hC hR n1 n2 n3 n5 HI ha
      unfold strV at HQ HM ⊢
      rcases hcase with ⟨c1, c2, c3⟩ | ⟨c1, rfl⟩
      all_goals
        rcases hway with ⟨g1, g2⟩ | ⟨g1, g2, g3⟩
        all_goals
          go_enter Tryz.func123, Tryz.ntmps123
          go_wp2_with fail
          refine (HQ.out _).mono ?_
          rintro e w1 ⟨rfl, hb⟩
          have HB := Lib.hid hb
          clear hb HQ
          go_wp2_with fail
          refine (HM.out _).mono ?_
          rintro e w2 ⟨rfl, hb⟩
          have HB2 := Lib.hid (bel_on HB.out hb)
          clear hb HM
          go_wp2_with fail
          go_ret
          exact ⟨rfl, HB2.out⟩
theorem dec_any (z : Int) (w : World) (hz : I64 z) :
    Calls Tryz.prog 123 #[.int .i64 z] w fun e w' => e = .returned (strV (Lib.itoa z)) ∧ Below w.heap.size w w' := decimal_any z.natAbs z w (Nat.le_refl _) hz
end Go.Proofs.YtpojhplnhppcpaaGreatDoor
