/- The reference's padding. -/
import Derived.Test.YtkineafacekklaaDoorSumF
import Derived.Test.YtkineafacekklaaDoorInp
namespace Go.Proofs.YtkineafacekklaaDoor
open Go.RowKit
def slen : Value → Nat
  | .slice _ n _ => n
  | _ => 0
theorem own_empty' (w : World) (B : Nat) (hB : B ≤ w.heap.size) : Own (w.alloc (.cells #[] 5)) B (.slice (some ⟨w.heap.size, 0, none⟩) 0 0) [] :=
  ⟨rfl, .inr ⟨w.heap.size, 0, #[], rfl, hB, heap_alloc_last w _, Nat.le_refl _, Nat.zero_le _, rfl, rfl⟩⟩
theorem pad_arg (n i : Nat) : (8 * (n : Int) / 2 ^ (56 - 8 * i)) % 256 = ((UInt8.ofNat (8 * n / 2 ^ (56 - 8 * i))).toNat : Int) := by
  rw [← lens_arg n i, Int.mul_comm]
theorem lens_take (n k : Nat) (h : k < 8) : (lens n).take (k + 1) = (lens n).take k ++ [UInt8.ofNat (8 * n / 2 ^ (56 - 8 * k))] := by
  rw [List.take_succ_eq_append_getElem (by rw [lens_len]; exact h), lens_get n k h]
set_option maxRecDepth 100000 in
set_option maxHeartbeats 1000000 in
theorem rpad_any (A : Option Addr) (n cap : Nat) (l : List UInt8) (w : World) (hn : l.length = n) (hr : RV w A (bv l)) (hl : n ≤ 100000) :
    Calls Tryd.prog 44 #[.slice A n cap] w (Ext w.heap.size w (pad l)) := by
  have HN := Lib.hid hn
  have HR := Lib.hid hr
  clear hn hr
  obtain ⟨K, hK⟩ : ∃ K, (119 - n % 64) % 64 = K := ⟨_, rfl⟩
  have hKK : K < 64 := by omega
  have hKm : (n + 1 + K) % 64 = 56 := by omega
  have hKl : ∀ k, k < K → (n + 1 + k) % 64 ≠ 56 := by intro k hk; omega
  have HKL := Lib.hid hKl
  have HP : Hid (pad l = (l ++ 128 :: List.replicate K 0) ++ lens n) := Lib.hid (by
    unfold pad padOf
    rw [HN.out, hK, List.append_assoc]
    rfl)
  have HK := Lib.hid hK
  clear hKl hK
  go_enter Tryd.func44, Tryd.ntmps44
  go_wp2_with (first
    | (at_builtin; go_loud (refine arm_bytes (w := w.alloc (.cells #[] 5)) (by rfl) _ _ (by rfl) w.heap.size (.slice (some ⟨w.heap.size, 0, none⟩) 0 0) [] (by rfl) (own_empty' w _ (Nat.le_refl _)) A cap l (by rw [HN.out]; rfl) (HR.out.below (bel_new _ _)) (by rw [HN.out]; simp; omega) (by simp) ?_); intro v1 w2 ho1 hb2; have HO1 := Lib.hid ho1; have HB2 := Lib.hid hb2; clear ho1 hb2)
    | (at_builtin; go_loud (refine arm_one (w := w2) 128 (by rfl) (by rfl) _ _ (by rfl) w.heap.size v1 l (by rfl) (by have := HO1.out; rwa [List.nil_append] at this) (by rfl) (by rw [HN.out]; omega) (by have := HB2.out.size; simp at this; omega) ?_); intro v2 w3 ho2 hb3))
  have HB3 := Lib.hid ((((Below.refl w.heap.size w).alloc (Nat.le_refl _) (.cells #[] 5)).trans HB2.out).trans hb3)
  have HO2 := Lib.hid ho2
  clear ho2 hb3 HO1 HB2
  go_loopw [3] (fun v wr => ∃ k : Nat, k ≤ K ∧ Own wr w.heap.size v (l ++ 128 :: List.replicate k 0) ∧ Below w.heap.size w wr) (fun v _ => n + 1 + K - slen v)
  case atStart => exact ⟨0, by omega, HO2.out, HB3.out⟩
  case round =>
    clear HO2 HB3
    obtain ⟨k, hk, ho, hb⟩ := hrel
    obtain ⟨A1, c1, rfl, hc1, hm1, R1⟩ := ho.form
    have hhs := hb.size
    have hM : (l ++ 128 :: List.replicate k 0).length = n + 1 + k := by
      rw [List.length_append, List.length_cons, List.length_replicate, HN.out]; omega
    have HS : Hid ((l ++ 128 :: List.replicate k 0) ++ [0] = l ++ 128 :: List.replicate (k + 1) 0) := Lib.hid (by
      rw [List.append_assoc, List.cons_append, List.replicate_succ'])
    have HS2 : Hid (k = K → (l ++ 128 :: List.replicate k 0) ++ lens n = pad l) := Lib.hid (fun h => by rw [HP.out, h])
    generalize hMM : l ++ 128 :: List.replicate k 0 = M at *
    clear hMM R1
    have HML := Lib.hid hM
    have hq : ∃ q, n + 1 + k = q := ⟨_, rfl⟩
    obtain ⟨q, hq⟩ := hq
    rw [hM, hq] at ho ⊢
    rw [hM, hq] at hc1
    clear hM
    have HO := Lib.hid ho
    clear ho
    have htm : (q : Int).tmod 64 = (q : Int) % 64 := Int.tmod_eq_emod_of_nonneg (by omega)
    by_cases hlt : k < K
    · have h56 : ((q : Int) % 64 != 56) = true := by
        have := HKL.out k hlt
        rw [bne_iff_ne]
        omega
      go_wp2_with (at_builtin; go_loud (refine arm_one (w := wr) 0 (by rfl) (by rfl) _ _ (by rfl) w.heap.size _ M (by rfl) HO.out (by rfl) (by rw [HML.out]; omega) (by omega) ?_); intro v' w1 ho1 hb1)
      go_roundw
      case rel => exact ⟨k + 1, by omega, by rw [← HS.out]; exact ho1, hb.trans hb1⟩
      case measure =>
        obtain ⟨A2, c2, rfl, _, _, _⟩ := ho1.form
        simp only [slen, List.length_append, List.length_singleton, HML.out]
        omega
    · obtain rfl : k = K := by omega
      have h56 : ((q : Int) % 64 != 56) = false := by
        have := hKm
        rw [bne_eq_false_iff_eq]
        omega
      have HE := Lib.hid (HS2.out rfl)
      clear HS HS2 HKL htm
      have hn64 : IntKind.u64.wrap (n : Int) = (n : Int) := by rw [IntKind.wrap_u64]; omega
      have h8 : IntKind.u64.wrap (8 * (n : Int)) = 8 * (n : Int) := by rw [IntKind.wrap_u64]; omega
      go_wp2_with fail
      obtain ⟨wo, hwo⟩ : ∃ wo : World, wo = wr := ⟨_, rfl⟩
      have HB := Lib.hid hb
      rw [← hwo] at HO HB
      clear hb hhs
      go_loopw [3, 5] (fun v i wr => ∃ j : Nat, i = .int .i64 j ∧ j ≤ 8 ∧ Own wr w.heap.size v (M ++ (lens n).take j) ∧ Below w.heap.size w wr) (fun _ i _ => 8 - (intOf i).toNat)
      case atStart => exact ⟨0, rfl, by omega, by rw [← hwo]; simpa using HO.out, by rw [← hwo]; exact HB.out⟩
      case round =>
        clear HO HB hwo h56
        obtain ⟨j, rfl, hj, ho, hb⟩ := hrel
        have hhs := hb.size
        by_cases hlt : j < 8
        · have hln : (M ++ (lens n).take j).length ≤ 100200 := by
            rw [List.length_append, List.length_take, lens_len, HML.out]; omega
          have HT : Hid ((M ++ (lens n).take j) ++ [UInt8.ofNat (8 * n / 2 ^ (56 - 8 * j))] = M ++ (lens n).take (j + 1)) := Lib.hid (by
            rw [lens_take n j hlt, List.append_assoc])
          generalize M ++ (lens n).take j = Mj at *
          have hpa := pad_arg n j
          generalize UInt8.ofNat (8 * n / 2 ^ (56 - 8 * j)) = bt at *
          have hj0 : 8 * (j : Int) ≤ 56 := by omega
          have hs0 : IntKind.i64.wrap (56 - 8 * (j : Int)) = 56 - 8 * (j : Int) := by rw [i64_wraps]; omega
          have hs1 : (56 - 8 * (j : Int)).toNat = 56 - 8 * j := by omega
          go_wp2_with (at_builtin; go_loud (refine arm_one (w := wr) bt (by rfl) (by rfl) _ _ (by rfl) w.heap.size _ Mj (by rfl) ho (by rfl) (by omega) (by omega) ?_); intro v' w1 ho1 hb1)
          go_roundw
          case rel => exact ⟨j + 1, by go_num, by omega, by rw [← HT.out]; exact ho1, hb.trans hb1⟩
          case measure => simp [intOf]; omega
        · obtain rfl : j = 8 := by omega
          rw [List.take_of_length_le (by rw [lens_len]; exact Nat.le_refl _), HE.out] at ho
          rw [show ((8 : Nat) : Int) = 8 from rfl]
          go_wp2_with fail
          go_ret
          exact ⟨_, rfl, ho, hb⟩
end Go.Proofs.YtkineafacekklaaDoor
