/-
  A memory on which a script was performed. What the reference's Exists, place and Position do. What the reference's Position and one do. What the reference's Syndrome does. What the reference's Encode does. What the reference's Checked does. Which bits exist, by the reference.
-/
import Derived.Test.YtpojhplnhppcpaaGreatDoorQN17
import Derived.Test.YtpojhplnhppcpaaGreatDoorQC8
import Derived.Test.YtpojhplnhppcpaaGreatDoorQB2
namespace Go.Proofs.YtpojhplnhppcpaaGreatDoor
open Go.RowKit Go.Maps
/-- A script in the heap. -/
def Script (w : World) (v : Value) (xs : List POp) : Prop :=
  ∃ cvs : List Value, cvs.length = xs.length ∧ Rd w v xs.length (List.zipWith opV xs cvs).flatten ∧ (∀ x ∈ xs, x.Ok) ∧
    ∀ (j : Nat) (x : POp) (c : Value), xs[j]? = some x → cvs[j]? = some c → Rd w c x.cs.length (iv (flatS x.cs))
theorem zip_len (xs : List POp) (cvs : List Value) (hx : ∀ x ∈ xs, x.Ok) : ∀ y ∈ List.zipWith opV xs cvs, y.length = 12 := fun y hy => by
  obtain ⟨i, hi, rfl⟩ := List.mem_iff_getElem.1 hy
  rw [List.getElem_zipWith]
  exact opV_len (hx _ (List.getElem_mem _)) _
theorem flat_get {l : List (List Value)} {n : Nat} (h : ∀ x ∈ l, x.length = n) {k j : Nat} (hk : k < l.length) (hj : j < n) : l.flatten[k * n + j]? = l[k][j]? := by
  induction l generalizing k with
  | nil => simp at hk
  | cons x r ih =>
    have hx := h x (by simp)
    cases k with
    | zero =>
      rw [List.flatten_cons, Nat.zero_mul, Nat.zero_add, List.getElem?_append_left (by omega)]
      rfl
    | succ k =>
      rw [List.flatten_cons, show (k + 1) * n + j = n + (k * n + j) by rw [Nat.add_mul]; omega, List.getElem?_append_right (by omega), hx, Nat.add_sub_cancel_left, ih (fun y hy => h y (by simp [hy])) (by simpa using hk)]
      rfl
theorem Script.keep {w w' : World} {v : Value} {xs : List POp} (h : Script w v xs) (hb : Below w.heap.size w w') : Script w' v xs := by
  obtain ⟨cvs, h1, h2, h3, h4⟩ := h
  exact ⟨cvs, h1, h2.below hb, h3, fun j x c hx hc => (h4 j x c hx hc).below hb⟩
/-- One call of a script. -/
theorem Script.at {w : World} {A : Option Addr} {cap : Nat} {xs : List POp} (h : Script w (.slice A xs.length cap) xs) {j : Nat} (hj : j < xs.length) :
    ∃ d o c, A = some ⟨d, o, none⟩ ∧ w.rangeAt d (o + j * 12) (opV xs[j] c) ∧ Rd w c xs[j].cs.length (iv (flatS xs[j].cs)) := by
  obtain ⟨cvs, h1, h2, h3, h4⟩ := h
  obtain ⟨_, _, hv9, _, _, h2⟩ := h2
  simp only [Value.slice.injEq, true_and] at hv9
  obtain ⟨rfl, rfl⟩ := hv9
  obtain ⟨d, o, rfl, _, h2⟩ := h2 (by omega)
  have hj2 : j < cvs.length := by omega
  have hz : j < (List.zipWith opV xs cvs).length := by rw [List.length_zipWith]; omega
  refine ⟨d, o, cvs[j], rfl, fun i v hv => ?_, h4 j _ _ (List.getElem?_eq_getElem hj) (List.getElem?_eq_getElem hj2)⟩
  have hi : i < 12 := by
    have := (List.getElem?_eq_some_iff.1 hv).1
    rw [opV_len (h3 _ (List.getElem_mem hj))] at this
    exact this
  have := flat_get (zip_len xs cvs h3) hz hi
  rw [List.getElem_zipWith, hv] at this
  have hc := h2 _ _ this
  rw [← Nat.add_assoc] at hc
  exact hc
theorem i64_and7 (z : Int) : ∃ k : Nat, k ≤ 7 ∧ bits .and .i64 z 7 = (k : Int) := by
  refine ⟨(BitVec.ofInt 64 z &&& BitVec.ofInt 64 7).toNat, ?_, ?_⟩
  · rw [BitVec.toNat_and]
    exact Nat.and_le_right
  · have h : (BitVec.ofInt 64 z &&& BitVec.ofInt 64 7).toNat ≤ 7 := by
      rw [BitVec.toNat_and]
      exact Nat.and_le_right
    show IntKind.i64.wrap ((BitVec.ofInt 64 z &&& BitVec.ofInt 64 7).toNat : Nat) = _
    rw [wrapEq, w64 _ (by omega) (by omega)]
end Go.Proofs.YtpojhplnhppcpaaGreatDoor
namespace Go.Proofs.YtpojhplnhppcpaaGreatDoor
open Go.RowKit
def plJ (i : Nat) : Nat := bitLen (i + 1 + bitLen (i + 1))
theorem pl_steps (i : Nat) (h : i < 320) : 2 ≤ plJ i ∧ plJ i ≤ 10 ∧ i + 1 + plJ i < 2 ^ plJ i ∧ ∀ j, 2 ≤ j → j < plJ i → 2 ^ j ≤ i + 1 + j := by
  have all : ∀ i : Fin 320, 2 ≤ plJ i ∧ plJ i ≤ 10 ∧ i.val + 1 + plJ i < 2 ^ plJ i ∧ ∀ j : Fin 11, 2 ≤ j.val → j.val < plJ i → 2 ^ j.val ≤ i.val + 1 + j.val := by decide +kernel
  obtain ⟨a, b, c, d⟩ := all ⟨i, h⟩
  exact ⟨a, b, c, fun j h1 h2 => d ⟨j, by have : plJ i ≤ 10 := b; omega⟩ h1 h2⟩
set_option maxRecDepth 100000 in
set_option maxHeartbeats 400000 in
theorem place_any (z : Int) (i : Nat) (w : World) (hz : z = i) (hi : i < 320) :
    Calls Tryz.prog 183 #[.int .i64 z] w fun e w' => e = .returned (.int .i64 (posn i : Nat)) ∧ w' = w := by
  obtain ⟨p1, p2, p3, p4⟩ := pl_steps i hi
  have hp : posn i = i + 1 + plJ i := rfl
  rw [hp]
  generalize plJ i = J at *
  have HP3 := Lib.hid p3
  have HP4 := Lib.hid p4
  subst hz
  clear p3 p4 hp
  have hi2 : (i : Int) < 320 := by omega
  go_enter Tryz.func183, Tryz.ntmps183
  go_wp2_with fail
  go_loopw [3] (fun v wr => ∃ j : Nat, v = .int .i64 (j : Int) ∧ 2 ≤ j ∧ j ≤ J ∧ wr = w) (fun v _ => J - (intOf v).toNat)
  case atStart => exact ⟨2, rfl, by omega, p1, rfl⟩
  case round =>
    obtain ⟨j, rfl, hj2, hjJ, rfl⟩ := hrel
    have hw := pow_n j (by omega)
    by_cases hlt : j < J
    · have hc := HP4.out j hj2 hlt
      generalize 2 ^ j = q at *
      have hcond : decide ((q : Int) ≤ (i : Int) + 1 + (j : Int)) = true := by simp; omega
      have hj10 : (j : Int) < 10 := by omega
      clear hc
      go_wp2_with fail
      go_roundw
      case rel => exact ⟨j + 1, by simp, by omega, by omega, by first | rfl | trivial⟩
      case measure => simp [intOf]; omega
    · obtain rfl : j = J := by omega
      have hc := HP3.out
      generalize 2 ^ j = q at *
      have hcond : decide ((q : Int) ≤ (i : Int) + 1 + (j : Int)) = false := by simp; omega
      have hj10 : (j : Int) ≤ 10 := by omega
      clear hc
      go_wp2_with fail
      go_ret
      exact ⟨ret_i64 (by omega), rfl⟩
end Go.Proofs.YtpojhplnhppcpaaGreatDoor
namespace Go.Proofs.YtpojhplnhppcpaaGreatDoor
open Go.RowKit
theorem bit_one (x b : Nat) : (((x / 2 ^ b % 2 : Nat) : Int) == 1) = x.testBit b := by
  rw [Nat.testBit_eq_decide_div_mod_eq]
  generalize x / 2 ^ b % 2 = q
  by_cases h : q = 1
  · subst h; rfl
  · have : ¬ (q : Int) = 1 := by omega
    simp [h, this]
theorem shr_one (x b : Nat) : bits .and .i64 ((x : Int) / 2 ^ b) 1 = ((x / 2 ^ b % 2 : Nat) : Int) := by
  rw [i64_and1]
  have e : (x : Int) / 2 ^ b = ((x / 2 ^ b : Nat) : Int) := by
    rw [show ((2 : Int) ^ b) = ((2 ^ b : Nat) : Int) by simp]
    rfl
  rw [e]
  omega
set_option maxRecDepth 100000 in
set_option maxHeartbeats 400000 in
theorem one_any (ws : List Nat) (c k b : Nat) (w : World) (h8 : ws.length = 8) (hk : k ≤ 8) (hb : b < 40) :
    Calls Tryz.prog 182 #[.agg (iv (ci ws)).toArray, .int .i64 (c : Int), .int .i64 (k : Int), .int .i64 (b : Int)] w fun e w' => e = .returned (.bool (((ws ++ [c]).getD k 0).testBit b)) ∧ Below w.heap.size w w' := by
  have HA := Lib.hid (Arr.new w (iv (ci ws)) 66)
  have HB := Lib.hid (bel_new w (.cells (iv (ci ws)).toArray 66))
  obtain ⟨R, hR⟩ : ∃ R, ((ws ++ [c]).getD k 0).testBit b = R := ⟨_, rfl⟩
  rw [hR]
  have hb40 : (b : Int) < 40 := by omega
  rcases Nat.lt_or_ge k 8 with hlt | hge
  · have e1 : (ws ++ [c]).getD k 0 = ws.getD k 0 := by
      rw [List.getD_eq_getElem?_getD, List.getD_eq_getElem?_getD, List.getElem?_append_left (by omega)]
    rw [e1] at hR
    have hcell := HA.out.cell (iv_at (l := ci ws) (k := k) (by rw [ci_len]; omega))
    rw [ci_get] at hcell
    generalize ws.getD k 0 = x at *
    have h1 := shr_one x b
    have h2 := bit_one x b
    rw [hR] at h2
    generalize x / 2 ^ b % 2 = q at *
    have HR := Lib.hid h2
    have hk8 : ((k : Int) == 8) = false := by simp; omega
    have hk2 : (k : Int) < 8 := by omega
    clear hR h2
    go_enter Tryz.func182, Tryz.ntmps182
    go_wp2_with fail
    go_ret
    exact ⟨ret_bool HR.out, HB.out⟩
  · obtain rfl : k = 8 := by omega
    rw [show (ws ++ [c]).getD 8 0 = c by rw [List.getD_eq_getElem?_getD, List.getElem?_append_right (by omega), h8]; rfl] at hR
    have h1 := shr_one c b
    have h2 := bit_one c b
    rw [hR] at h2
    generalize c / 2 ^ b % 2 = q at *
    have HR := Lib.hid h2
    clear hR h2
    go_enter Tryz.func182, Tryz.ntmps182
    go_wp2_with fail
    go_ret
    exact ⟨ret_bool HR.out, HB.out⟩
end Go.Proofs.YtpojhplnhppcpaaGreatDoor
namespace Go.Proofs.YtpojhplnhppcpaaGreatDoor
open Go.RowKit
theorem high_off {x b m : Nat} (hx : x / 2 ^ b = 0) (k : Nat) (hm : b ≤ m) : synW k x m = synW k x b ∧ popW x m = popW x b := by
  have hlt : x < 2 ^ b := by
    rcases Nat.lt_or_ge x (2 ^ b) with h | h
    · exact h
    · have := Nat.div_pos h (Nat.two_pow_pos b)
      omega
  obtain ⟨d, rfl⟩ : ∃ d, m = b + d := ⟨m - b, by omega⟩
  clear hm hx
  induction d with
  | zero => exact ⟨rfl, rfl⟩
  | succ d ih =>
    have ht : x.testBit (b + d) = false := Nat.testBit_lt_two_pow (Nat.lt_of_lt_of_le hlt (Nat.pow_le_pow_right (by decide) (by omega)))
    show synW k x (b + d) ^^^ (if x.testBit (b + d) then _ else 0) = _ ∧ popW x (b + d) + (if x.testBit (b + d) then 1 else 0) = _
    rw [ht, ih.1, ih.2]
    simp
theorem syn_step (k x b : Nat) : synW k x (b + 1) = synW k x b ^^^ (if x.testBit b then psn k b else 0) := rfl
theorem pop_step (x b : Nat) : popW x (b + 1) = popW x b + (if x.testBit b then 1 else 0) := rfl
theorem shr_nat (x b : Nat) : (x : Int) / 2 ^ b = ((x / 2 ^ b : Nat) : Int) := by
  rw [show ((2 : Int) ^ b) = ((2 ^ b : Nat) : Int) by simp]
  rfl
theorem nine_get (ws : List Nat) (c k : Nat) (h : k < ws.length) : (ws ++ [c]).getD k 0 = ws.getD k 0 := by
  rw [List.getD_eq_getElem?_getD, List.getD_eq_getElem?_getD, List.getElem?_append_left h]
theorem nine_get8' (ws : List Nat) (c : Nat) (h8 : ws.length = 8) : (ws ++ [c]).getD 8 0 = c := by
  rw [List.getD_eq_getElem?_getD, List.getElem?_append_right (by omega), h8]
  rfl
theorem ret_pair {a b c d : Int} (h1 : a = c) (h2 : b = d) : Ending.returned (.tuple #[.int .i64 a, .int .i64 b]) = .returned (.tuple #[.int .i64 c, .int .i64 d]) := by rw [h1, h2]
set_option maxRecDepth 100000 in
set_option maxHeartbeats 4000000 in
theorem rsyn_any (ws : List Nat) (c : Nat) (w : World) (h8 : ws.length = 8) (hs : ∀ x ∈ ws, x < 1099511627776) (hc : c < 1024) :
    Calls Tryz.prog 153 #[.agg (iv (ci ws)).toArray, .int .i64 (c : Int)] w fun e w' => e = .returned (.tuple #[.int .i64 (synT ws c : Nat), .int .i64 (popT ws c % 2 : Nat)]) ∧ Below w.heap.size w w' := by
  have HS := Lib.hid hs
  have H22 := Lib.hid Tryz.underlying66
  have HI := Lib.hid (size22' (l := ci ws) (by rw [ci_len, h8]))
  have HA := Lib.hid (Arr.new w (iv (ci ws)) 66)
  have HB := Lib.hid (bel_new w (.cells (iv (ci ws)).toArray 66))
  obtain ⟨S, hS⟩ : ∃ S, synT ws c = S := ⟨_, rfl⟩
  obtain ⟨P, hP⟩ : ∃ P, popT ws c = P := ⟨_, rfl⟩
  rw [hS, hP]
  have HSE : Hid (S = synL 0 ws ^^^ synW 8 c 40) := Lib.hid (by
    rw [← hS]
    unfold synT
    rw [synL_append, h8]
    show _ ^^^ (synW 8 c 40 ^^^ 0) = _
    rw [Nat.xor_zero])
  have HPE : Hid (P = popL ws + popW c 40) := Lib.hid (by rw [← hP, popT_eq])
  have HC10 : Hid (synW 8 c 40 = synW 8 c 10 ∧ popW c 40 = popW c 10) := Lib.hid (high_off (by show c / 1024 = 0; omega) 8 (by decide))
  have HONE := Lib.hid fun k b w hk hb => one_any ws c k b w h8 hk hb
  have HPL := Lib.hid fun k => pop_small (ws.take k)
  have H8 := Lib.hid h8
  clear hs hS hP hc
  go_enter Tryz.func153, Tryz.ntmps153
  go_wp2_with fail
  refine name_world ?_
  intro W hW
  have HA2 : Hid (Arr W w.heap.size 66 (iv (ci ws))) := Lib.hid (by rw [hW]; exact HA.out)
  have HB2 : Hid (Below w.heap.size w W) := Lib.hid (by rw [hW]; exact HB.out)
  clear hW HA HB
  go_loopw [6, 7, 8] (fun sv nv kv wr => ∃ s n k : Nat, sv = .int .i64 (s : Int) ∧ nv = .int .i64 (n : Int) ∧ kv = .int .i64 (k : Int) ∧ k ≤ 8 ∧ s < 512 ∧ Hid (s = synL 0 (ws.take k)) ∧ Hid (n = popL (ws.take k)) ∧ Hid (Arr wr w.heap.size 66 (iv (ci ws))) ∧ Hid (Below w.heap.size w wr)) (fun _ _ kv _ => 8 - (intOf kv).toNat)
  case atStart => exact ⟨0, 0, 0, rfl, rfl, rfl, by omega, by omega, Lib.hid rfl, Lib.hid rfl, HA2, HB2⟩
  case round =>
    clear HA2 HB2
    obtain ⟨s0, n0, k, rfl, rfl, rfl, hk, hs0, HS0, HN0, HA, HB⟩ := hrel
    by_cases hlt : k < 8
    · have hks : k < ws.length := by have := H8.out; omega
      have hx := get_lt HS.out k
      have HX40 : Hid (ws.getD k 0 / 2 ^ 40 = 0) := Lib.hid (Nat.div_eq_of_lt hx)
      have HTK := Lib.hid (take_step ws k hks)
      have HG := Lib.hid (nine_get ws c k hks)
      have hkk : (k : Int) < 8 := by omega
      clear hx
      obtain ⟨x, hxe⟩ : ∃ x, ws.getD k 0 = x := ⟨_, rfl⟩
      rw [hxe] at HX40 HTK HG
      have HXE := Lib.hid hxe
      clear hxe
      go_wp2_with fail
      obtain ⟨wo, rfl⟩ : ∃ wo : World, wo = wr := ⟨_, rfl⟩
      go_loopw [6, 7, 9] (fun sv nv bv wr => ∃ s n b : Nat, sv = .int .i64 (s : Int) ∧ nv = .int .i64 (n : Int) ∧ bv = .int .i64 (b : Int) ∧ b ≤ 40 ∧ s < 512 ∧ Hid (s = synL 0 (ws.take k) ^^^ synW k x b) ∧ Hid (n = popL (ws.take k) + popW x b) ∧ Hid (Arr wr w.heap.size 66 (iv (ci ws))) ∧ Hid (Below w.heap.size w wr)) (fun _ _ bv _ => 40 - (intOf bv).toNat)
      case atStart => exact ⟨s0, n0, 0, rfl, rfl, rfl, by omega, hs0, Lib.hid (by rw [HS0.out]; show _ = _ ^^^ 0; rw [Nat.xor_zero]), Lib.hid (by rw [HN0.out]; rfl), HA, HB⟩
      case round =>
        clear HA HB
        obtain ⟨s, n, b, rfl, rfl, rfl, hb, hs5, HSS, HNN, HA, HB⟩ := hrel
        have hcell := HA.out.cell (iv_at (l := ci ws) (k := k) (by rw [ci_len]; omega))
        rw [ci_get, HXE.out] at hcell
        have hsh := shr_nat x b
        have hn400 : n ≤ 400 := by
          have h1 := HPL.out k
          have h2 := popW_le x b
          have h3 := HNN.out
          rw [List.length_take] at h1
          omega
        by_cases hz : x / 2 ^ b = 0
        · have hho := high_off hz k hb
          have htk := HTK.out
          rw [hho.1, hho.2] at htk
          have HS2 : Hid (s = synL 0 (ws.take (k + 1))) := Lib.hid (by rw [htk.1]; exact HSS.out)
          have HN2 : Hid (n = popL (ws.take (k + 1))) := Lib.hid (by rw [htk.2]; exact HNN.out)
          clear hho htk
          rw [hz] at hsh
          have hcond : decide (0 < (x : Int) / 2 ^ b) = false := by rw [hsh]; rfl
          clear hz hsh
          go_wp2_with fail
          go_roundw
          case rel => exact ⟨s, n, k + 1, rfl, rfl, by simp, by omega, hs5, HS2, HN2, HA, HB⟩
          case measure => simp [intOf]; omega
        · have hb39 : b < 40 := by
            rcases Nat.lt_or_ge b 40 with h | h
            · exact h
            · obtain rfl : b = 40 := by omega
              exact absurd HX40.out hz
          have hpos : 0 < (x / 2 ^ b) := Nat.pos_of_ne_zero hz
          have HST := Lib.hid (syn_step k x b)
          have HPT := Lib.hid (pop_step x b)
          have HO := Lib.hid fun w => HONE.out k b w (by omega) hb39
          rw [HG.out] at HO
          obtain ⟨hpn, hp5⟩ := psn_posn hlt hb39
          have HPLACE := Lib.hid fun z w hz => place_any z (40 * k + b) w hz (by omega)
          rw [← hpn] at HPLACE
          have hxor := i64_xor_nat s (psn k b) (by omega) (by omega)
          have hx5 : s ^^^ psn k b < 512 := Nat.xor_lt_two_pow (n := 9) hs5 hp5
          have hkb : (b : Int) < 40 := by omega
          have hcond : decide (0 < (x : Int) / 2 ^ b) = true := by rw [hsh]; simp; omega
          clear hsh hpos hz
          cases ht : x.testBit b with
          | true =>
            rw [ht] at HO HST HPT
            have HS2 : Hid (s ^^^ psn k b = synL 0 (ws.take k) ^^^ synW k x (b + 1)) := Lib.hid (by rw [HST.out, if_pos rfl, HSS.out, Nat.xor_assoc])
            have HN2 : Hid (n + 1 = popL (ws.take k) + popW x (b + 1)) := Lib.hid (by rw [HPT.out, if_pos rfl, HNN.out, Nat.add_assoc])
            clear ht HST HPT hpn
            generalize s ^^^ psn k b = s2 at *
            generalize psn k b = pp at *
            have hnI : (n : Int) ≤ 400 := by omega
            go_wp2_with ((with_reducible refine arm_row 66 w.heap.size 66 _ HA.out _ H22.out rfl HI.out rfl _ rfl ?_ ?_); focus rfl)
            refine (HO.out _).mono ?_
            rintro e w3 ⟨rfl, hbl⟩
            have HA3 := Lib.hid (HA.out.keep hbl)
            have HB3 := Lib.hid (bel_on HB.out hbl)
            clear hbl HA HB hcell
            go_wp2_with fail
            refine (HPLACE.out _ _ (by omega)).mono ?_
            rintro e w4 ⟨rfl, rfl⟩
            go_wp2_with fail
            go_roundw
            case rel => exact ⟨s2, n + 1, b + 1, rfl, by simp, by simp, by omega, hx5, HS2, HN2, HA3, HB3⟩
            case measure => simp [intOf]; omega
          | false =>
            rw [ht] at HO HST HPT
            have HS2 : Hid (s = synL 0 (ws.take k) ^^^ synW k x (b + 1)) := Lib.hid (by rw [HST.out, if_neg (by decide), Nat.xor_zero]; exact HSS.out)
            have HN2 : Hid (n = popL (ws.take k) + popW x (b + 1)) := Lib.hid (by rw [HPT.out, if_neg (by decide), Nat.add_zero]; exact HNN.out)
            clear ht HST HPT hpn hxor hx5
            go_wp2_with ((with_reducible refine arm_row 66 w.heap.size 66 _ HA.out _ H22.out rfl HI.out rfl _ rfl ?_ ?_); focus rfl)
            refine (HO.out _).mono ?_
            rintro e w3 ⟨rfl, hbl⟩
            have HA3 := Lib.hid (HA.out.keep hbl)
            have HB3 := Lib.hid (bel_on HB.out hbl)
            clear hbl HA HB hcell
            go_wp2_with fail
            go_roundw
            case rel => exact ⟨s, n, b + 1, rfl, rfl, by simp, by omega, hs5, HS2, HN2, HA3, HB3⟩
            case measure => simp [intOf]; omega
    · have htk8 : ws.take k = ws := List.take_of_length_le (by have := H8.out; omega)
      rw [htk8] at HS0 HN0
      have hkI : ¬ (k : Int) < 8 := by omega
      go_wp2_with fail
      obtain ⟨wo, rfl⟩ : ∃ wo : World, wo = wr := ⟨_, rfl⟩
      go_loopw [6, 7, 11] (fun sv nv bv wr => ∃ s n b : Nat, sv = .int .i64 (s : Int) ∧ nv = .int .i64 (n : Int) ∧ bv = .int .i64 (b : Int) ∧ b ≤ 10 ∧ s < 512 ∧ Hid (s = synL 0 ws ^^^ synW 8 c b) ∧ Hid (n = popL ws + popW c b) ∧ Hid (Arr wr w.heap.size 66 (iv (ci ws))) ∧ Hid (Below w.heap.size w wr)) (fun _ _ bv _ => 10 - (intOf bv).toNat)
      case atStart => exact ⟨s0, n0, 0, rfl, rfl, rfl, by omega, hs0, Lib.hid (by rw [HS0.out]; show _ = _ ^^^ 0; rw [Nat.xor_zero]), Lib.hid (by rw [HN0.out]; rfl), HA, HB⟩
      case round =>
        clear HA HB
        obtain ⟨s, n, b, rfl, rfl, rfl, hb, hs5, HSS, HNN, HA, HB⟩ := hrel
        have hn400 : n ≤ 400 := by
          have h1 := HPL.out k
          rw [htk8, H8.out] at h1
          have h2 := popW_le c b
          have h3 := HNN.out
          omega
        have hnI : (n : Int) ≤ 400 := by omega
        by_cases hlt : b < 10
        · have HO := Lib.hid fun w => HONE.out 8 b w (by omega) (by omega)
          rw [nine_get8' ws c H8.out] at HO
          have HO2 : Hid (∀ w, Calls Tryz.prog 182 #[.agg (iv (ci ws)).toArray, .int .i64 (c : Int), .int .i64 8, .int .i64 (b : Int)] w fun e w' => e = .returned (.bool (c.testBit b)) ∧ Below w.heap.size w w') := Lib.hid HO.out
          have HST := Lib.hid (syn_step 8 c b)
          have HPT := Lib.hid (pop_step c b)
          have hbI : (b : Int) < 10 := by omega
          cases ht : c.testBit b with
          | true =>
            rw [ht] at HO2 HST HPT
            have HN2 : Hid (n + 1 = popL ws + popW c (b + 1)) := Lib.hid (by rw [HPT.out, if_pos rfl, HNN.out, Nat.add_assoc])
            by_cases h9 : b < 9
            · have hps : psn 8 b = 2 ^ b := by unfold psn; rw [if_neg (by decide), if_pos h9]
              have hw := pow_n b (by omega)
              have hp5 : 2 ^ b < 512 := Nat.pow_lt_pow_right (by decide) h9
              have hxor := i64_xor_nat s (2 ^ b) (by omega) (by omega)
              have hx5 : s ^^^ 2 ^ b < 512 := Nat.xor_lt_two_pow (n := 9) hs5 hp5
              have HS2 : Hid (s ^^^ 2 ^ b = synL 0 ws ^^^ synW 8 c (b + 1)) := Lib.hid (by rw [HST.out, if_pos rfl, HSS.out, Nat.xor_assoc, hps])
              clear ht HST HPT hps
              generalize s ^^^ 2 ^ b = s2 at *
              generalize 2 ^ b = pp at *
              have h9I : (b : Int) < 9 := by omega
              go_wp2_with ((with_reducible refine arm_row 66 w.heap.size 66 _ HA.out _ H22.out rfl HI.out rfl _ rfl ?_ ?_); focus rfl)
              refine (HO2.out _).mono ?_
              rintro e w3 ⟨rfl, hbl⟩
              have HA3 := Lib.hid (HA.out.keep hbl)
              have HB3 := Lib.hid (bel_on HB.out hbl)
              clear hbl HA HB
              go_wp2_with fail
              go_roundw
              case rel => exact ⟨s2, n + 1, b + 1, rfl, by simp, by simp, by omega, hx5, HS2, HN2, HA3, HB3⟩
              case measure => simp [intOf]; omega
            · have hps : psn 8 b = 0 := by unfold psn; rw [if_neg (by decide), if_neg h9]
              have HS2 : Hid (s = synL 0 ws ^^^ synW 8 c (b + 1)) := Lib.hid (by rw [HST.out, if_pos rfl, hps, Nat.xor_zero]; exact HSS.out)
              clear ht HST HPT hps
              have h9I : ¬ (b : Int) < 9 := by omega
              go_wp2_with ((with_reducible refine arm_row 66 w.heap.size 66 _ HA.out _ H22.out rfl HI.out rfl _ rfl ?_ ?_); focus rfl)
              refine (HO2.out _).mono ?_
              rintro e w3 ⟨rfl, hbl⟩
              have HA3 := Lib.hid (HA.out.keep hbl)
              have HB3 := Lib.hid (bel_on HB.out hbl)
              clear hbl HA HB
              go_wp2_with fail
              go_roundw
              case rel => exact ⟨s, n + 1, b + 1, rfl, by simp, by simp, by omega, hs5, HS2, HN2, HA3, HB3⟩
              case measure => simp [intOf]; omega
          | false =>
            rw [ht] at HO2 HST HPT
            have HS2 : Hid (s = synL 0 ws ^^^ synW 8 c (b + 1)) := Lib.hid (by rw [HST.out, if_neg (by decide), Nat.xor_zero]; exact HSS.out)
            have HN2 : Hid (n = popL ws + popW c (b + 1)) := Lib.hid (by rw [HPT.out, if_neg (by decide), Nat.add_zero]; exact HNN.out)
            clear ht HST HPT
            go_wp2_with ((with_reducible refine arm_row 66 w.heap.size 66 _ HA.out _ H22.out rfl HI.out rfl _ rfl ?_ ?_); focus rfl)
            refine (HO2.out _).mono ?_
            rintro e w3 ⟨rfl, hbl⟩
            have HA3 := Lib.hid (HA.out.keep hbl)
            have HB3 := Lib.hid (bel_on HB.out hbl)
            clear hbl HA HB
            go_wp2_with fail
            go_roundw
            case rel => exact ⟨s, n, b + 1, rfl, rfl, by simp, by omega, hs5, HS2, HN2, HA3, HB3⟩
            case measure => simp [intOf]; omega
        · obtain rfl : b = 10 := by omega
          have e1 : Hid (s = S) := Lib.hid (by rw [HSE.out, HC10.out.1]; exact HSS.out)
          have e2 : Hid (((n : Int) % 2) = ((P % 2 : Nat) : Int)) := Lib.hid (by
            have h1 := HPE.out
            have h2 := HC10.out.2
            have h3 := HNN.out
            omega)
          go_wp2_with fail
          go_ret2
          exact ⟨ret_pair (by rw [e1.out]) e2.out, HB.out⟩
end Go.Proofs.YtpojhplnhppcpaaGreatDoor
namespace Go.Proofs.YtpojhplnhppcpaaGreatDoor
open Go.RowKit
set_option maxRecDepth 100000 in
set_option maxHeartbeats 1000000 in
theorem rEncode_any (L : List Int) (w : World) (h8 : L.length = 8) :
    Calls Tryz.prog 133 #[.agg (iv L).toArray] w fun e w' => e = .returned (.int .i64 (encZ L)) ∧ Below w.heap.size w w' := by
  have HI := Lib.hid (size22' (l := L) h8)
  have H22 := Lib.hid Tryz.underlying66
  have HA := Lib.hid (Arr.new w (iv L) 66)
  have HB := Lib.hid (bel_new w (.cells (iv L).toArray 66))
  have HV := Lib.hid fun w => rvalid_any L 0 w h8
  rw [valid0] at HV
  cases hv : L.all okW with
  | false =>
    rw [hv] at HV
    unfold encZ
    rw [hv, if_neg (by decide)]
    go_enter Tryz.func133, Tryz.ntmps133
    go_wp2_with ((with_reducible refine arm_row 66 w.heap.size 66 _ HA.out _ H22.out rfl HI.out rfl _ rfl ?_ ?_); focus rfl)
    refine (HV.out _).mono ?_
    rintro e w1 ⟨rfl, hb⟩
    have HB2 := Lib.hid (bel_on HB.out hb)
    clear hb
    go_wp2_with fail
    go_ret
    exact ⟨rfl, HB2.out⟩
  | true =>
    rw [hv] at HV
    unfold encZ
    rw [hv, if_pos rfl]
    obtain ⟨hL, hs⟩ := of_all hv
    have hlen : (nw L).length = 8 := by rw [nw_len, h8]
    generalize nw L = ws at *
    subst hL
    have HS1 := Lib.hid fun w => rsyn_any ws 0 w hlen hs (by decide)
    have hlt : synT ws 0 < 512 := synT_lt hlen hs (by decide)
    have HS2 := Lib.hid fun w => rsyn_any ws (synT ws 0) w hlen hs (by omega)
    have hq : popT ws (synT ws 0) % 2 < 2 := by omega
    unfold encN
    generalize popT ws (synT ws 0) % 2 = q at *
    generalize synT ws (synT ws 0) = s2 at *
    generalize synT ws 0 = s at *
    generalize popT ws 0 % 2 = q0 at *
    have hsI : (s : Int) < 512 := by omega
    have hqI : (q : Int) < 2 := by omega
    have HE : Hid ((s : Int) + 512 * (q : Int) = ((s + 512 * q : Nat) : Int)) := Lib.hid (by omega)
    clear hs hv hq hlt
    go_enter Tryz.func133, Tryz.ntmps133
    go_wp2_with ((with_reducible refine arm_row 66 w.heap.size 66 _ HA.out _ H22.out rfl HI.out rfl _ rfl ?_ ?_); focus rfl)
    refine (HV.out _).mono ?_
    rintro e w1 ⟨rfl, hb⟩
    have HB2 := Lib.hid (bel_on HB.out hb)
    have HA2 := Lib.hid (HA.out.keep hb)
    clear hb HA HB
    go_wp2_with ((with_reducible refine arm_row 66 w.heap.size 66 _ HA2.out _ H22.out rfl HI.out rfl _ rfl ?_ ?_); focus rfl)
    refine (HS1.out _).mono ?_
    rintro e w2 ⟨rfl, hb⟩
    have HB3 := Lib.hid (bel_on HB2.out hb)
    have HA3 := Lib.hid (HA2.out.keep hb)
    clear hb HA2 HB2
    go_wp2_with ((with_reducible refine arm_row 66 w.heap.size 66 _ HA3.out _ H22.out rfl HI.out rfl _ rfl ?_ ?_); focus rfl)
    refine (HS2.out _).mono ?_
    rintro e w3 ⟨rfl, hb⟩
    have HB4 := Lib.hid (bel_on HB3.out hb)
    clear hb HA3 HB3
    go_wp2_with fail
    go_ret
    exact ⟨ret_i64 HE.out, HB4.out⟩
end Go.Proofs.YtpojhplnhppcpaaGreatDoor
namespace Go.Proofs.YtpojhplnhppcpaaGreatDoor
open Go.RowKit
theorem size29 : (Tryz.prog.info? 196).map (·.size) = some 3 := by kernel_rfl
/-- A state as three numbers. -/
def stI (r : Nat × Nat × Nat) : List Int := [(r.1 : Int), (r.2.1 : Int), (r.2.2 : Int)]
def stV (r : Nat × Nat × Nat) : Value := .agg (iv (stI r)).toArray
def Z3 : List Int := [0, 0, 0]
theorem size29' (r : Nat × Nat × Nat) : (Tryz.prog.info? 196).map (·.size) = some (iv (stI r)).length := size29
theorem find_pow {s j : Nat} (hj : j < 9) (h : s = 2 ^ j) : findF s = (8, j, true) := by
  have h1 := find_psn (k := 8) (b := j) (by simp [okBit]; omega)
  have h2 : psn 8 j = 2 ^ j := by unfold psn; rw [if_neg (by decide), if_pos hj]
  rw [h2, ← h] at h1
  exact h1
theorem find_posn {s j : Nat} (hj : j < 320) (h : posn j = s) : findF s = (j / 40, j % 40, true) := by
  have h1 := find_psn (k := j / 40) (b := j % 40) (by simp [okBit]; omega)
  have h2 : psn (j / 40) (j % 40) = s := by
    unfold psn
    rw [if_pos (by omega), show 40 * (j / 40) + j % 40 = j by omega, h]
  rw [h2] at h1
  exact h1
theorem find_none {s : Nat} (hs : s < 512) (h0 : s ≠ 0) (hp : ∀ j, j < 9 → s ≠ 2 ^ j) (hd : ∀ j, j < 320 → posn j ≠ s) : (findF s).2.2 = false := by
  cases hf : (findF s).2.2 with
  | false => rfl
  | true =>
    exfalso
    obtain ⟨ok, hpsn⟩ := psn_find hs hf
    generalize (findF s).1 = k at *
    generalize (findF s).2.1 = b at *
    unfold okBit at ok
    simp at ok
    unfold psn at hpsn
    by_cases hk : k < 8
    · rw [if_pos hk] at hpsn
      exact hd (40 * k + b) (by omega) hpsn
    · rw [if_neg hk] at hpsn
      by_cases hb : b < 9
      · rw [if_pos hb] at hpsn
        exact hp b hb hpsn.symm
      · rw [if_neg hb] at hpsn
        exact h0 hpsn.symm
set_option maxRecDepth 100000 in
set_option maxHeartbeats 4000000 in
theorem rChecked_any (L : List Int) (c : Int) (w : World) (h8 : L.length = 8) :
    Calls Tryz.prog 154 #[.agg (iv L).toArray, .int .i64 c] w fun e w' => e = .returned (stV (chkZ L c)) ∧ Below w.heap.size w w' := by
  have HI := Lib.hid (size22' (l := L) h8)
  have H22 := Lib.hid Tryz.underlying66
  have H29 := Lib.hid Tryz.underlying196
  have HV := Lib.hid fun w => rvalid_any L c w h8
  obtain ⟨R, hR⟩ : ∃ R, chkZ L c = R := ⟨_, rfl⟩
  rw [hR]
  cases hv : validB L c with
  | false =>
    have HE : Hid (R = (2, 0, 0)) := Lib.hid (by rw [← hR]; unfold chkZ; rw [hv, if_neg (by decide)])
    have HIR := Lib.hid (size29' (2, 0, 0))
    have HOR := Lib.hid (iv_one (stI (2, 0, 0)))
    have HLR := Lib.hid (show (iv Z3).length = (iv (stI (2, 0, 0))).length from rfl)
    rw [hv] at HV
    clear hR hv
    go_enter Tryz.func154, Tryz.ntmps154
    go_wp2_with ((with_reducible refine arm_row 66 w.heap.size 66 _ (Arr2_0 w (iv L) 66 _) _ H22.out rfl HI.out rfl _ rfl ?_ ?_); focus rfl)
    refine (HV.out _).mono ?_
    rintro e w1 ⟨rfl, hb⟩
    have HZ : Hid (Arr w1 (w.heap.size + 1) 196 (iv Z3)) := Lib.hid (Arr.keep (a2_1 _ _ _) hb)
    have HB : Hid (Below w.heap.size w w1) := Lib.hid (bel_on (bel2 _ _ _) hb)
    clear hb
    go_wp2_with ((with_reducible refine arm_put 196 (w.heap.size + 1) 196 _ _ HZ.out HIR.out HLR.out HOR.out rfl _ _ rfl ?_ ?_ ?_); (focus rfl); (focus rfl))
    refine bodyPost_ret (v := stV (2, 0, 0)) (ret_row Tryz.results154 _ _ (w.heap.size + 1) 196 (iv (stI (2, 0, 0))) (HZ.out.row _) rfl _ H29.out rfl HIR.out) rfl ?_
    exact ⟨by rw [HE.out], bel_row HB.out (by omega) _⟩
  | true =>
    rw [hv] at HV
    have hR2 : chkF (synT (nw L) c.toNat) (popT (nw L) c.toNat % 2) = R := by rw [← hR]; unfold chkZ; rw [hv, if_pos rfl]
    have hv2 := hv
    unfold validB at hv2
    simp only [Bool.and_eq_true, decide_eq_true_eq] at hv2
    obtain ⟨ha, hc0, hc1⟩ := hv2
    obtain ⟨hL, hs⟩ := of_all ha
    have hlen : (nw L).length = 8 := by rw [nw_len, h8]
    generalize nw L = ws at *
    subst hL
    obtain ⟨m, rfl⟩ : ∃ m : Nat, c = m := ⟨c.toNat, by omega⟩
    rw [Int.toNat_natCast] at hR2
    have hm : m < 1024 := by omega
    have HS := Lib.hid fun w => rsyn_any ws m w hlen hs hm
    have hlt : synT ws m < 512 := synT_lt hlen hs hm
    have hq : popT ws m % 2 < 2 := by omega
    generalize popT ws m % 2 = q at *
    generalize synT ws m = s at *
    have HR2 := Lib.hid hR2
    clear hs hv ha hc0 hc1 hm hR hR2
    obtain ⟨rs, hrs⟩ : ∃ rs, stI R = rs := ⟨_, rfl⟩
    go_enter Tryz.func154, Tryz.ntmps154
    go_wp2_with ((with_reducible refine arm_row 66 w.heap.size 66 _ (Arr2_0 w (iv (ci ws)) 66 _) _ H22.out rfl HI.out rfl _ rfl ?_ ?_); focus rfl)
    refine (HV.out _).mono ?_
    rintro e w1 ⟨rfl, hb⟩
    have HA1 : Hid (Arr w1 w.heap.size 66 (iv (ci ws))) := Lib.hid (Arr.keep (a2_0 _ _ _) hb)
    have HZ1 : Hid (Arr w1 (w.heap.size + 1) 196 (iv Z3)) := Lib.hid (Arr.keep (a2_1 _ _ _) hb)
    have HB1 : Hid (Below w.heap.size w w1) := Lib.hid (bel_on (bel2 _ _ _) hb)
    clear hb
    go_wp2_with ((with_reducible refine arm_row 66 w.heap.size 66 _ HA1.out _ H22.out rfl HI.out rfl _ rfl ?_ ?_); focus rfl)
    refine (HS.out _).mono ?_
    rintro e w2 ⟨rfl, hb⟩
    have HZ2 := Lib.hid (HZ1.out.keep hb)
    have HB2 := Lib.hid (bel_on HB1.out hb)
    clear hb HA1 HZ1 HB1 hrs rs
    by_cases hq0 : q = 0
    · subst hq0
      by_cases hs0 : s = 0
      · subst hs0
        have HE : Hid (R = (0, 0, 0)) := Lib.hid (by rw [← HR2.out]; rfl)
        have HIR := Lib.hid (size29' (0, 0, 0))
        have HOR := Lib.hid (iv_one (stI (0, 0, 0)))
        have HLR := Lib.hid (show (iv Z3).length = (iv (stI (0, 0, 0))).length from rfl)
        go_wp2_with ((with_reducible refine arm_put 196 (w.heap.size + 1) 196 _ _ HZ2.out HIR.out HLR.out HOR.out rfl _ _ rfl ?_ ?_ ?_); (focus rfl); (focus rfl))
        refine bodyPost_ret (v := stV (0, 0, 0)) (ret_row Tryz.results154 _ _ (w.heap.size + 1) 196 (iv (stI (0, 0, 0))) (HZ2.out.row _) rfl _ H29.out rfl HIR.out) rfl ?_
        exact ⟨by rw [HE.out], bel_row HB2.out (by omega) _⟩
      · have HE : Hid (R = (2, 0, 0)) := Lib.hid (by rw [← HR2.out]; unfold chkF; rw [if_neg (by omega), if_pos rfl])
        have HIR := Lib.hid (size29' (2, 0, 0))
        have HOR := Lib.hid (iv_one (stI (2, 0, 0)))
        have HLR := Lib.hid (show (iv Z3).length = (iv (stI (2, 0, 0))).length from rfl)
        have hsp : 0 < (s : Int) := by omega
        have hsb : ((s : Int) == 0) = false := by simp; omega
        go_wp2_with ((with_reducible refine arm_put 196 (w.heap.size + 1) 196 _ _ HZ2.out HIR.out HLR.out HOR.out rfl _ _ rfl ?_ ?_ ?_); (focus rfl); (focus rfl))
        refine bodyPost_ret (v := stV (2, 0, 0)) (ret_row Tryz.results154 _ _ (w.heap.size + 1) 196 (iv (stI (2, 0, 0))) (HZ2.out.row _) rfl _ H29.out rfl HIR.out) rfl ?_
        exact ⟨by rw [HE.out], bel_row HB2.out (by omega) _⟩
    · have hq1 : q = 1 := by omega
      have HE1 := Lib.hid (HR2.out.symm.trans (chk_find hq1))
      subst hq1
      by_cases hs0 : s = 0
      · subst hs0
        have HE : Hid (R = (1, 8, 9)) := Lib.hid (by rw [← HR2.out]; rfl)
        have HIR := Lib.hid (size29' (1, 8, 9))
        have HOR := Lib.hid (iv_one (stI (1, 8, 9)))
        have HLR := Lib.hid (show (iv Z3).length = (iv (stI (1, 8, 9))).length from rfl)
        clear HE1
        go_wp2_with ((with_reducible refine arm_put 196 (w.heap.size + 1) 196 _ _ HZ2.out HIR.out HLR.out HOR.out rfl _ _ rfl ?_ ?_ ?_); (focus rfl); (focus rfl))
        refine bodyPost_ret (v := stV (1, 8, 9)) (ret_row Tryz.results154 _ _ (w.heap.size + 1) 196 (iv (stI (1, 8, 9))) (HZ2.out.row _) rfl _ H29.out rfl HIR.out) rfl ?_
        exact ⟨by rw [HE.out], bel_row HB2.out (by omega) _⟩
      · have hsb : ((s : Int) == 0) = false := by simp; omega
        have hsp : 0 < (s : Int) := by omega
        go_wp2_with fail
        go_loopw [8] (fun bv wr => ∃ b : Nat, bv = .int .i64 (b : Int) ∧ b ≤ 9 ∧ Hid (∀ j, j < b → s ≠ 2 ^ j) ∧ wr = w2) (fun bv _ => 9 - (intOf bv).toNat)
        case atStart => exact ⟨0, rfl, by omega, Lib.hid (fun j hj => by omega), rfl⟩
        case round =>
          obtain ⟨b, rfl, hb, HNP, rfl⟩ := hrel
          by_cases hlt9 : b < 9
          · have hw := pow_n b (by omega)
            have hbI : (b : Int) < 9 := by omega
            by_cases hsb2 : s = 2 ^ b
            · have HE : Hid (R = (1, 8, b)) := Lib.hid (by rw [HE1.out, find_pow hlt9 hsb2]; rfl)
              have HIR := Lib.hid (size29' (1, 8, b))
              have HOR := Lib.hid (iv_one (stI (1, 8, b)))
              have HLR := Lib.hid (show (iv Z3).length = (iv (stI (1, 8, b))).length from rfl)
              rw [← hsb2] at hw
              clear hsb2 HE1
              go_wp2_with ((with_reducible refine arm_put 196 (w.heap.size + 1) 196 _ _ HZ2.out HIR.out HLR.out HOR.out rfl _ _ rfl ?_ ?_ ?_); (focus rfl); (focus rfl))
              refine bodyPost_ret (v := stV (1, 8, b)) (ret_row Tryz.results154 _ _ (w.heap.size + 1) 196 (iv (stI (1, 8, b))) (HZ2.out.row _) rfl _ H29.out rfl HIR.out) rfl ?_
              exact ⟨by rw [HE.out], bel_row HB2.out (by omega) _⟩
            · have HNP2 : Hid (∀ j, j < b + 1 → s ≠ 2 ^ j) := Lib.hid (fun j hj => by
                rcases Nat.lt_succ_iff_lt_or_eq.1 hj with h1 | h1
                · exact HNP.out j h1
                · subst h1; exact hsb2)
              generalize 2 ^ b = pp at *
              have hne : ((s : Int) == (pp : Int)) = false := by simp; omega
              have hne2 : (s == pp) = false := by simp; omega
              clear hsb2
              go_wp2_with fail
              go_roundw
              case rel => exact ⟨b + 1, by simp, by omega, HNP2, by first | rfl | trivial⟩
              case measure => simp [intOf]; omega
          · have hbI : ¬ (b : Int) < 9 := by omega
            have HNP9 : Hid (∀ j, j < 9 → s ≠ 2 ^ j) := Lib.hid (fun j hj => HNP.out j (by omega))
            clear HNP
            go_wp2_with fail
            obtain ⟨wo, rfl⟩ : ∃ wo : World, wo = wr := ⟨_, rfl⟩
            go_loopw [9] (fun bv wr => ∃ i : Nat, bv = .int .i64 (i : Int) ∧ i ≤ 320 ∧ Hid (∀ j, j < i → posn j ≠ s) ∧ wr = wo) (fun bv _ => 320 - (intOf bv).toNat)
            case atStart => exact ⟨0, rfl, by omega, Lib.hid (fun j hj => by omega), rfl⟩
            case round =>
              obtain ⟨i, rfl, hi, HND, rfl⟩ := hrel
              by_cases hlti : i < 320
              · have HPL := Lib.hid fun z w hz => place_any z i w hz hlti
                have hiI : (i : Int) < 320 := by omega
                by_cases hpi : posn i = s
                · have HE : Hid (R = (1, i / 40, i % 40)) := Lib.hid (by rw [HE1.out, find_posn hlti hpi]; rfl)
                  have HIR := Lib.hid (size29' (1, i / 40, i % 40))
                  have HOR := Lib.hid (iv_one (stI (1, i / 40, i % 40)))
                  have HLR := Lib.hid (show (iv Z3).length = (iv (stI (1, i / 40, i % 40))).length from rfl)
                  rw [hpi] at HPL
                  clear hpi HE1
                  go_wp2_with fail
                  refine (HPL.out _ _ rfl).mono ?_
                  rintro e w5 ⟨rfl, rfl⟩
                  go_wp2_with ((with_reducible refine arm_put 196 (w.heap.size + 1) 196 _ _ HZ2.out HIR.out HLR.out HOR.out rfl _ _ rfl ?_ ?_ ?_); (focus rfl); (focus rfl))
                  refine bodyPost_ret (v := stV (1, i / 40, i % 40)) (ret_row Tryz.results154 _ _ (w.heap.size + 1) 196 (iv (stI (1, i / 40, i % 40))) (HZ2.out.row _) rfl _ H29.out rfl HIR.out) rfl ?_
                  exact ⟨by rw [HE.out], bel_row HB2.out (by omega) _⟩
                · have HND2 : Hid (∀ j, j < i + 1 → posn j ≠ s) := Lib.hid (fun j hj => by
                    rcases Nat.lt_succ_iff_lt_or_eq.1 hj with h1 | h1
                    · exact HND.out j h1
                    · subst h1; exact hpi)
                  generalize posn i = pp at *
                  have hne : ((pp : Int) == (s : Int)) = false := by simp; omega
                  have hne2 : (pp == s) = false := by simp; omega
                  clear hpi
                  go_wp2_with fail
                  refine (HPL.out _ _ rfl).mono ?_
                  rintro e w5 ⟨rfl, rfl⟩
                  go_wp2_with fail
                  go_roundw
                  case rel => exact ⟨i + 1, by simp, by omega, HND2, by first | rfl | trivial⟩
                  case measure => simp [intOf]; omega
              · have hiI : ¬ (i : Int) < 320 := by omega
                have HE : Hid (R = (2, 0, 0)) := Lib.hid (by
                  rw [HE1.out, find_none hlt hs0 HNP9.out (fun j hj => HND.out j (by omega))]
                  rfl)
                have HIR := Lib.hid (size29' (2, 0, 0))
                have HOR := Lib.hid (iv_one (stI (2, 0, 0)))
                have HLR := Lib.hid (show (iv Z3).length = (iv (stI (2, 0, 0))).length from rfl)
                clear HE1
                go_wp2_with ((with_reducible refine arm_put 196 (w.heap.size + 1) 196 _ _ HZ2.out HIR.out HLR.out HOR.out rfl _ _ rfl ?_ ?_ ?_); (focus rfl); (focus rfl))
                refine bodyPost_ret (v := stV (2, 0, 0)) (ret_row Tryz.results154 _ _ (w.heap.size + 1) 196 (iv (stI (2, 0, 0))) (HZ2.out.row _) rfl _ H29.out rfl HIR.out) rfl ?_
                exact ⟨by rw [HE.out], bel_row HB2.out (by omega) _⟩
end Go.Proofs.YtpojhplnhppcpaaGreatDoor
namespace Go.Proofs.YtpojhplnhppcpaaGreatDoor
open Go.RowKit
set_option maxRecDepth 100000 in
set_option maxHeartbeats 400000 in
theorem exists_any (k b : Int) (w : World) :
    Calls Tryz.prog 184 #[.int .i64 k, .int .i64 b] w fun e w' => e = .returned (.bool (dataB k b || codeB k b)) ∧ w' = w := by
  obtain ⟨R, hR⟩ : ∃ R, (dataB k b || codeB k b) = R := ⟨_, rfl⟩
  rw [hR]
  unfold dataB codeB at hR
  have HR := Lib.hid hR
  clear hR
  by_cases h8 : k = 8
  · subst h8
    by_cases h3 : 0 ≤ b
    · by_cases h4 : b ≤ 9
      · go_enter Tryz.func184, Tryz.ntmps184
        go_wp2_with fail
        go_ret
        exact ⟨ret_bool (by rw [← HR.out]; simp; try omega), rfl⟩
      · go_enter Tryz.func184, Tryz.ntmps184
        go_wp2_with fail
        go_ret
        exact ⟨ret_bool (by rw [← HR.out]; simp; try omega), rfl⟩
    · go_enter Tryz.func184, Tryz.ntmps184
      go_wp2_with fail
      go_ret
      exact ⟨ret_bool (by rw [← HR.out]; simp; try omega), rfl⟩
  · have h8' : (k == 8) = false := by simp; omega
    by_cases h1 : 0 ≤ k
    · by_cases h2 : k < 8
      · by_cases h3 : 0 ≤ b
        · by_cases h4 : b < 40
          · go_enter Tryz.func184, Tryz.ntmps184
            go_wp2_with fail
            go_ret
            exact ⟨ret_bool (by rw [← HR.out]; simp; try omega), rfl⟩
          · go_enter Tryz.func184, Tryz.ntmps184
            go_wp2_with fail
            go_ret
            exact ⟨ret_bool (by rw [← HR.out]; simp; try omega), rfl⟩
        · go_enter Tryz.func184, Tryz.ntmps184
          go_wp2_with fail
          go_ret
          exact ⟨ret_bool (by rw [← HR.out]; simp; try omega), rfl⟩
      · go_enter Tryz.func184, Tryz.ntmps184
        go_wp2_with fail
        go_ret
        exact ⟨ret_bool (by rw [← HR.out]; simp; try omega), rfl⟩
    · go_enter Tryz.func184, Tryz.ntmps184
      go_wp2_with fail
      go_ret
      exact ⟨ret_bool (by rw [← HR.out]; simp; try omega), rfl⟩
end Go.Proofs.YtpojhplnhppcpaaGreatDoor
