/- What the reference's Syndrome does. -/
import Derived.Test.YthidababplamgaaDoorR2
import Derived.Test.YthidababplamgaaDoorAlg2
namespace Go.Proofs.YthidababplamgaaDoor
open Go.RowKit
theorem high_off {x b m : Nat} (hx : x / 2 ^ b = 0) (k : Nat) (hm : b ≤ m) : synW k x m = synW k x b ∧ popW x m = popW x b := by
  have hlt : x < 2 ^ b := by
    rcases Nat.lt_or_ge x (2 ^ b) with h | h
    · exact h
    · have := Nat.div_pos h (Nat.two_pow_pos b)
      omega
  obtain ⟨d, rfl⟩ : ∃ d, m = b + d := ⟨m - b, by omega⟩
  clear hm hx
  induction d with
  | zero => exact ⟨rfl, rfl⟩
  | succ d ih =>
    have ht : x.testBit (b + d) = false := Nat.testBit_lt_two_pow (Nat.lt_of_lt_of_le hlt (Nat.pow_le_pow_right (by decide) (by omega)))
    show synW k x (b + d) ^^^ (if x.testBit (b + d) then _ else 0) = _ ∧ popW x (b + d) + (if x.testBit (b + d) then 1 else 0) = _
    rw [ht, ih.1, ih.2]
    simp
theorem syn_step (k x b : Nat) : synW k x (b + 1) = synW k x b ^^^ (if x.testBit b then psn k b else 0) := rfl
theorem pop_step (x b : Nat) : popW x (b + 1) = popW x b + (if x.testBit b then 1 else 0) := rfl
theorem shr_nat (x b : Nat) : (x : Int) / 2 ^ b = ((x / 2 ^ b : Nat) : Int) := by
  rw [show ((2 : Int) ^ b) = ((2 ^ b : Nat) : Int) by simp]
  rfl
theorem nine_get (ws : List Nat) (c k : Nat) (h : k < ws.length) : (ws ++ [c]).getD k 0 = ws.getD k 0 := by
  rw [List.getD_eq_getElem?_getD, List.getD_eq_getElem?_getD, List.getElem?_append_left h]
theorem nine_get8' (ws : List Nat) (c : Nat) (h8 : ws.length = 8) : (ws ++ [c]).getD 8 0 = c := by
  rw [List.getD_eq_getElem?_getD, List.getElem?_append_right (by omega), h8]
  rfl
theorem ret_pair {a b c d : Int} (h1 : a = c) (h2 : b = d) : Ending.returned (.tuple #[.int .i64 a, .int .i64 b]) = .returned (.tuple #[.int .i64 c, .int .i64 d]) := by rw [h1, h2]
set_option maxRecDepth 100000 in
set_option maxHeartbeats 4000000 in
theorem rsyn_any (ws : List Nat) (c : Nat) (w : World) (h8 : ws.length = 8) (hs : ∀ x ∈ ws, x < 1099511627776) (hc : c < 1024) :
    Calls Tryd.prog 35 #[.agg (iv (ci ws)).toArray, .int .i64 (c : Int)] w fun e w' => e = .returned (.tuple #[.int .i64 (synT ws c : Nat), .int .i64 (popT ws c % 2 : Nat)]) ∧ Below w.heap.size w w' := by
  have HS := Lib.hid hs
  have H22 := Lib.hid Tryd.underlying22
  have HI := Lib.hid (size22' (l := ci ws) (by rw [ci_len, h8]))
  have HA := Lib.hid (Arr.new w (iv (ci ws)) 22)
  have HB := Lib.hid (bel_new w (.cells (iv (ci ws)).toArray 22))
  obtain ⟨S, hS⟩ : ∃ S, synT ws c = S := ⟨_, rfl⟩
  obtain ⟨P, hP⟩ : ∃ P, popT ws c = P := ⟨_, rfl⟩
  rw [hS, hP]
  have HSE : Hid (S = synL 0 ws ^^^ synW 8 c 40) := Lib.hid (by
    rw [← hS]
    unfold synT
    rw [synL_append, h8]
    show _ ^^^ (synW 8 c 40 ^^^ 0) = _
    rw [Nat.xor_zero])
  have HPE : Hid (P = popL ws + popW c 40) := Lib.hid (by rw [← hP, popT_eq])
  have HC10 : Hid (synW 8 c 40 = synW 8 c 10 ∧ popW c 40 = popW c 10) := Lib.hid (high_off (by show c / 1024 = 0; omega) 8 (by decide))
  have HONE := Lib.hid fun k b w hk hb => one_any ws c k b w h8 hk hb
  have HPL := Lib.hid fun k => pop_small (ws.take k)
  have H8 := Lib.hid h8
  clear hs hS hP hc
  go_enter Tryd.func35, Tryd.ntmps35
  go_wp2_with fail
  refine name_world ?_
  intro W hW
  have HA2 : Hid (Arr W w.heap.size 22 (iv (ci ws))) := Lib.hid (by rw [hW]; exact HA.out)
  have HB2 : Hid (Below w.heap.size w W) := Lib.hid (by rw [hW]; exact HB.out)
  clear hW HA HB
  go_loopw [6, 7, 8] (fun sv nv kv wr => ∃ s n k : Nat, sv = .int .i64 (s : Int) ∧ nv = .int .i64 (n : Int) ∧ kv = .int .i64 (k : Int) ∧ k ≤ 8 ∧ s < 512 ∧ Hid (s = synL 0 (ws.take k)) ∧ Hid (n = popL (ws.take k)) ∧ Hid (Arr wr w.heap.size 22 (iv (ci ws))) ∧ Hid (Below w.heap.size w wr)) (fun _ _ kv _ => 8 - (intOf kv).toNat)
  case atStart => exact ⟨0, 0, 0, rfl, rfl, rfl, by omega, by omega, Lib.hid rfl, Lib.hid rfl, HA2, HB2⟩
  case round =>
    clear HA2 HB2
    obtain ⟨s0, n0, k, rfl, rfl, rfl, hk, hs0, HS0, HN0, HA, HB⟩ := hrel
    by_cases hlt : k < 8
    · have hks : k < ws.length := by have := H8.out; omega
      have hx := get_lt HS.out k
      have HX40 : Hid (ws.getD k 0 / 2 ^ 40 = 0) := Lib.hid (Nat.div_eq_of_lt hx)
      have HTK := Lib.hid (take_step ws k hks)
      have HG := Lib.hid (nine_get ws c k hks)
      have hkk : (k : Int) < 8 := by omega
      clear hx
      obtain ⟨x, hxe⟩ : ∃ x, ws.getD k 0 = x := ⟨_, rfl⟩
      rw [hxe] at HX40 HTK HG
      have HXE := Lib.hid hxe
      clear hxe
      go_wp2_with fail
      obtain ⟨wo, rfl⟩ : ∃ wo : World, wo = wr := ⟨_, rfl⟩
      go_loopw [6, 7, 9] (fun sv nv bv wr => ∃ s n b : Nat, sv = .int .i64 (s : Int) ∧ nv = .int .i64 (n : Int) ∧ bv = .int .i64 (b : Int) ∧ b ≤ 40 ∧ s < 512 ∧ Hid (s = synL 0 (ws.take k) ^^^ synW k x b) ∧ Hid (n = popL (ws.take k) + popW x b) ∧ Hid (Arr wr w.heap.size 22 (iv (ci ws))) ∧ Hid (Below w.heap.size w wr)) (fun _ _ bv _ => 40 - (intOf bv).toNat)
      case atStart => exact ⟨s0, n0, 0, rfl, rfl, rfl, by omega, hs0, Lib.hid (by rw [HS0.out]; show _ = _ ^^^ 0; rw [Nat.xor_zero]), Lib.hid (by rw [HN0.out]; rfl), HA, HB⟩
      case round =>
        clear HA HB
        obtain ⟨s, n, b, rfl, rfl, rfl, hb, hs5, HSS, HNN, HA, HB⟩ := hrel
        have hcell := HA.out.cell (iv_at (l := ci ws) (k := k) (by rw [ci_len]; omega))
        rw [ci_get, HXE.out] at hcell
        have hsh := shr_nat x b
        have hn400 : n ≤ 400 := by
          have h1 := HPL.out k
          have h2 := popW_le x b
          have h3 := HNN.out
          rw [List.length_take] at h1
          omega
        by_cases hz : x / 2 ^ b = 0
        · have hho := high_off hz k hb
          have htk := HTK.out
          rw [hho.1, hho.2] at htk
          have HS2 : Hid (s = synL 0 (ws.take (k + 1))) := Lib.hid (by rw [htk.1]; exact HSS.out)
          have HN2 : Hid (n = popL (ws.take (k + 1))) := Lib.hid (by rw [htk.2]; exact HNN.out)
          clear hho htk
          rw [hz] at hsh
          have hcond : decide (0 < (x : Int) / 2 ^ b) = false := by rw [hsh]; rfl
          clear hz hsh
          go_wp2_with fail
          go_roundw
          case rel => exact ⟨s, n, k + 1, rfl, rfl, by simp, by omega, hs5, HS2, HN2, HA, HB⟩
          case measure => simp [intOf]; omega
        · have hb39 : b < 40 := by
            rcases Nat.lt_or_ge b 40 with h | h
            · exact h
            · obtain rfl : b = 40 := by omega
              exact absurd HX40.out hz
          have hpos : 0 < (x / 2 ^ b) := Nat.pos_of_ne_zero hz
          have HST := Lib.hid (syn_step k x b)
          have HPT := Lib.hid (pop_step x b)
          have HO := Lib.hid fun w => HONE.out k b w (by omega) hb39
          rw [HG.out] at HO
          obtain ⟨hpn, hp5⟩ := psn_posn hlt hb39
          have HPLACE := Lib.hid fun z w hz => place_any z (40 * k + b) w hz (by omega)
          rw [← hpn] at HPLACE
          have hxor := i64_xor_nat s (psn k b) (by omega) (by omega)
          have hx5 : s ^^^ psn k b < 512 := Nat.xor_lt_two_pow (n := 9) hs5 hp5
          have hkb : (b : Int) < 40 := by omega
          have hcond : decide (0 < (x : Int) / 2 ^ b) = true := by rw [hsh]; simp; omega
          clear hsh hpos hz
          cases ht : x.testBit b with
          | true =>
            rw [ht] at HO HST HPT
            have HS2 : Hid (s ^^^ psn k b = synL 0 (ws.take k) ^^^ synW k x (b + 1)) := Lib.hid (by rw [HST.out, if_pos rfl, HSS.out, Nat.xor_assoc])
            have HN2 : Hid (n + 1 = popL (ws.take k) + popW x (b + 1)) := Lib.hid (by rw [HPT.out, if_pos rfl, HNN.out, Nat.add_assoc])
            clear ht HST HPT hpn
            generalize s ^^^ psn k b = s2 at *
            generalize psn k b = pp at *
            have hnI : (n : Int) ≤ 400 := by omega
            go_wp2_with ((with_reducible refine arm_row 22 w.heap.size 22 _ HA.out _ H22.out rfl HI.out rfl _ rfl ?_ ?_); focus rfl)
            refine (HO.out _).mono ?_
            rintro e w3 ⟨rfl, hbl⟩
            have HA3 := Lib.hid (HA.out.keep hbl)
            have HB3 := Lib.hid (bel_on HB.out hbl)
            clear hbl HA HB hcell
            go_wp2_with fail
            refine (HPLACE.out _ _ (by omega)).mono ?_
            rintro e w4 ⟨rfl, rfl⟩
            go_wp2_with fail
            go_roundw
            case rel => exact ⟨s2, n + 1, b + 1, rfl, by simp, by simp, by omega, hx5, HS2, HN2, HA3, HB3⟩
            case measure => simp [intOf]; omega
          | false =>
            rw [ht] at HO HST HPT
            have HS2 : Hid (s = synL 0 (ws.take k) ^^^ synW k x (b + 1)) := Lib.hid (by rw [HST.out, if_neg (by decide), Nat.xor_zero]; exact HSS.out)
            have HN2 : Hid (n = popL (ws.take k) + popW x (b + 1)) := Lib.hid (by rw [HPT.out, if_neg (by decide), Nat.add_zero]; exact HNN.out)
            clear ht HST HPT hpn hxor hx5
            go_wp2_with ((with_reducible refine arm_row 22 w.heap.size 22 _ HA.out _ H22.out rfl HI.out rfl _ rfl ?_ ?_); focus rfl)
            refine (HO.out _).mono ?_
            rintro e w3 ⟨rfl, hbl⟩
            have HA3 := Lib.hid (HA.out.keep hbl)
            have HB3 := Lib.hid (bel_on HB.out hbl)
            clear hbl HA HB hcell
            go_wp2_with fail
            go_roundw
            case rel => exact ⟨s, n, b + 1, rfl, rfl, by simp, by omega, hs5, HS2, HN2, HA3, HB3⟩
            case measure => simp [intOf]; omega
    · have htk8 : ws.take k = ws := List.take_of_length_le (by have := H8.out; omega)
      rw [htk8] at HS0 HN0
      have hkI : ¬ (k : Int) < 8 := by omega
      go_wp2_with fail
      obtain ⟨wo, rfl⟩ : ∃ wo : World, wo = wr := ⟨_, rfl⟩
      go_loopw [6, 7, 11] (fun sv nv bv wr => ∃ s n b : Nat, sv = .int .i64 (s : Int) ∧ nv = .int .i64 (n : Int) ∧ bv = .int .i64 (b : Int) ∧ b ≤ 10 ∧ s < 512 ∧ Hid (s = synL 0 ws ^^^ synW 8 c b) ∧ Hid (n = popL ws + popW c b) ∧ Hid (Arr wr w.heap.size 22 (iv (ci ws))) ∧ Hid (Below w.heap.size w wr)) (fun _ _ bv _ => 10 - (intOf bv).toNat)
      case atStart => exact ⟨s0, n0, 0, rfl, rfl, rfl, by omega, hs0, Lib.hid (by rw [HS0.out]; show _ = _ ^^^ 0; rw [Nat.xor_zero]), Lib.hid (by rw [HN0.out]; rfl), HA, HB⟩
      case round =>
        clear HA HB
        obtain ⟨s, n, b, rfl, rfl, rfl, hb, hs5, HSS, HNN, HA, HB⟩ := hrel
        have hn400 : n ≤ 400 := by
          have h1 := HPL.out k
          rw [htk8, H8.out] at h1
          have h2 := popW_le c b
          have h3 := HNN.out
          omega
        have hnI : (n : Int) ≤ 400 := by omega
        by_cases hlt : b < 10
        · have HO := Lib.hid fun w => HONE.out 8 b w (by omega) (by omega)
          rw [nine_get8' ws c H8.out] at HO
          have HO2 : Hid (∀ w, Calls Tryd.prog 37 #[.agg (iv (ci ws)).toArray, .int .i64 (c : Int), .int .i64 8, .int .i64 (b : Int)] w fun e w' => e = .returned (.bool (c.testBit b)) ∧ Below w.heap.size w w') := Lib.hid HO.out
          have HST := Lib.hid (syn_step 8 c b)
          have HPT := Lib.hid (pop_step c b)
          have hbI : (b : Int) < 10 := by omega
          cases ht : c.testBit b with
          | true =>
            rw [ht] at HO2 HST HPT
            have HN2 : Hid (n + 1 = popL ws + popW c (b + 1)) := Lib.hid (by rw [HPT.out, if_pos rfl, HNN.out, Nat.add_assoc])
            by_cases h9 : b < 9
            · have hps : psn 8 b = 2 ^ b := by unfold psn; rw [if_neg (by decide), if_pos h9]
              have hw := pow_n b (by omega)
              have hp5 : 2 ^ b < 512 := Nat.pow_lt_pow_right (by decide) h9
              have hxor := i64_xor_nat s (2 ^ b) (by omega) (by omega)
              have hx5 : s ^^^ 2 ^ b < 512 := Nat.xor_lt_two_pow (n := 9) hs5 hp5
              have HS2 : Hid (s ^^^ 2 ^ b = synL 0 ws ^^^ synW 8 c (b + 1)) := Lib.hid (by rw [HST.out, if_pos rfl, HSS.out, Nat.xor_assoc, hps])
              clear ht HST HPT hps
              generalize s ^^^ 2 ^ b = s2 at *
              generalize 2 ^ b = pp at *
              have h9I : (b : Int) < 9 := by omega
              go_wp2_with ((with_reducible refine arm_row 22 w.heap.size 22 _ HA.out _ H22.out rfl HI.out rfl _ rfl ?_ ?_); focus rfl)
              refine (HO2.out _).mono ?_
              rintro e w3 ⟨rfl, hbl⟩
              have HA3 := Lib.hid (HA.out.keep hbl)
              have HB3 := Lib.hid (bel_on HB.out hbl)
              clear hbl HA HB
              go_wp2_with fail
              go_roundw
              case rel => exact ⟨s2, n + 1, b + 1, rfl, by simp, by simp, by omega, hx5, HS2, HN2, HA3, HB3⟩
              case measure => simp [intOf]; omega
            · have hps : psn 8 b = 0 := by unfold psn; rw [if_neg (by decide), if_neg h9]
              have HS2 : Hid (s = synL 0 ws ^^^ synW 8 c (b + 1)) := Lib.hid (by rw [HST.out, if_pos rfl, hps, Nat.xor_zero]; exact HSS.out)
              clear ht HST HPT hps
              have h9I : ¬ (b : Int) < 9 := by omega
              go_wp2_with ((with_reducible refine arm_row 22 w.heap.size 22 _ HA.out _ H22.out rfl HI.out rfl _ rfl ?_ ?_); focus rfl)
              refine (HO2.out _).mono ?_
              rintro e w3 ⟨rfl, hbl⟩
              have HA3 := Lib.hid (HA.out.keep hbl)
              have HB3 := Lib.hid (bel_on HB.out hbl)
              clear hbl HA HB
              go_wp2_with fail
              go_roundw
              case rel => exact ⟨s, n + 1, b + 1, rfl, by simp, by simp, by omega, hs5, HS2, HN2, HA3, HB3⟩
              case measure => simp [intOf]; omega
          | false =>
            rw [ht] at HO2 HST HPT
            have HS2 : Hid (s = synL 0 ws ^^^ synW 8 c (b + 1)) := Lib.hid (by rw [HST.out, if_neg (by decide), Nat.xor_zero]; exact HSS.out)
            have HN2 : Hid (n = popL ws + popW c (b + 1)) := Lib.hid (by rw [HPT.out, if_neg (by decide), Nat.add_zero]; exact HNN.out)
            clear ht HST HPT
            go_wp2_with ((with_reducible refine arm_row 22 w.heap.size 22 _ HA.out _ H22.out rfl HI.out rfl _ rfl ?_ ?_); focus rfl)
            refine (HO2.out _).mono ?_
            rintro e w3 ⟨rfl, hbl⟩
            have HA3 := Lib.hid (HA.out.keep hbl)
            have HB3 := Lib.hid (bel_on HB.out hbl)
            clear hbl HA HB
            go_wp2_with fail
            go_roundw
            case rel => exact ⟨s, n, b + 1, rfl, rfl, by simp, by omega, hs5, HS2, HN2, HA3, HB3⟩
            case measure => simp [intOf]; omega
        · obtain rfl : b = 10 := by omega
          have e1 : Hid (s = S) := Lib.hid (by rw [HSE.out, HC10.out.1]; exact HSS.out)
          have e2 : Hid (((n : Int) % 2) = ((P % 2 : Nat) : Int)) := Lib.hid (by
            have h1 := HPE.out
            have h2 := HC10.out.2
            have h3 := HNN.out
            omega)
          go_wp2_with fail
          go_ret2
          exact ⟨ret_pair (by rw [e1.out]) e2.out, HB.out⟩
end Go.Proofs.YthidababplamgaaDoor
