/- CodeFixIsNearest answers true. -/
import Derived.Test.YthidababplamgaaDoorAlg2
import Derived.Test.YthidababplamgaaDoorLC
namespace Go.Proofs.YthidababplamgaaDoor
open Go.RowKit
theorem dist_self {ws : List Nat} {c : Nat} (hs : ∀ x ∈ ws, x < 1099511627776) (hc : c < 1024) : distZ (ci ws) (c : Int) (ci ws) (c : Int) = 0 := by
  rw [distZ_ci hs hs hc hc rfl, (xorL_self _).1]
  rfl
theorem chkF_one (s p : Nat) (h : (chkF s p).1 = 1) (hp : p < 2) : p = 1 ∧ (findF s).2.2 = true ∧ chkF s p = (1, (findF s).1, (findF s).2.1) := by
  have hp1 : p = 1 := by
    rcases Nat.lt_or_ge p 1 with h1 | h1
    · have : p = 0 := by omega
      subst this
      unfold chkF at h
      split at h
      · simp at h
      · simp at h
    · omega
  subst hp1
  rw [chk_find rfl] at h ⊢
  cases hf : (findF s).2.2 with
  | true => exact ⟨rfl, rfl, by simp⟩
  | false => rw [hf] at h; simp at h
/-- What Fix hands back without an error is clean and near. -/
theorem near_ok {ws : List Nat} {m : Nat} (h8 : ws.length = 8) (hs : ∀ x ∈ ws, x < 1099511627776) (hm : m < 1024) (h2 : (chkZ (ci ws) (m : Int)).1 ≠ 2) :
    ∃ (vs : List Nat) (d f : Nat), vs.length = 8 ∧ fixZ (ci ws) (m : Int) = (ci vs, (d : Int), 0) ∧ chkZ (ci vs) (d : Int) = (0, 0, 0) ∧ distZ (ci ws) (m : Int) (ci vs) (d : Int) = (f : Int) ∧ f ≤ 1 := by
  rcases chkZ_state (ci ws) (m : Int) with h | h | h
  · have he := (chkZ_clean h8 hs hm).1 h
    subst he
    exact ⟨ws, encN ws, 0, h8, fixZ_enc h8 hs, chkZ_enc h8 hs, dist_self hs hm, by omega⟩
  · have h' := h
    rw [chkZ_ci hs hm] at h'
    obtain ⟨hp, hf, hc⟩ := chkF_one _ _ h' (by omega)
    have hs9 := synT_lt h8 hs hm
    obtain ⟨ok, hpsn⟩ := psn_find hs9 hf
    have hchk : chkZ (ci ws) (m : Int) = (1, (findF (synT ws m)).1, (findF (synT ws m)).2.1) := by rw [chkZ_ci hs hm, hc]
    generalize (findF (synT ws m)).1 = k at *
    generalize (findF (synT ws m)).2.1 = b at *
    obtain ⟨hl, hs', hc'⟩ := flip_nine h8 hs hm ok
    refine ⟨(flipR ws m k b).1, (flipR ws m k b).2, 1, hl, ?_, ?_, dist_flip h8 hs hm ok, by omega⟩
    · unfold fixZ
      rw [valid_ci hs, decide_eq_true hm, if_pos rfl, hchk, if_neg (by simp), if_pos rfl, nw_ci, Int.toNat_natCast]
    · rw [chkZ_ci hs' hc', synT_flip h8 ok, popT_flip h8 ok, hpsn, Nat.xor_self]
      have e : (popT ws m + 1) % 2 = 0 := by omega
      rw [e]
      rfl
  · exact absurd h h2
/-- Where a line is rotten no flip makes it clean. -/
theorem near_rot {ws : List Nat} {m : Nat} (h8 : ws.length = 8) (hs : ∀ x ∈ ws, x < 1099511627776) (hm : m < 1024) (h2 : (chkZ (ci ws) (m : Int)).1 = 2) :
    encN ws ≠ m ∧ ∀ k b, okBit k b = true → encN (flipR ws m k b).1 ≠ (flipR ws m k b).2 := by
  constructor
  · intro he
    have := (chkZ_clean h8 hs hm).2 he.symm
    omega
  · intro k b ok he
    obtain ⟨hl, hs', hc'⟩ := flip_nine h8 hs hm ok
    have hc := (clean_iff hl hs' hc').2 he.symm
    rw [synT_flip h8 ok, xor_zero_iff, popT_flip h8 ok] at hc
    obtain ⟨e1, e2⟩ := hc
    have e3 : popT ws m % 2 = 1 := by omega
    rw [chkZ_ci hs hm, e1, e3, chkF_psn ok] at h2
    simp at h2
set_option maxRecDepth 100000 in
set_option maxHeartbeats 4000000 in
theorem lawN (L : List Int) (z : Int) (w : World) (hL : L.length = 8) (hz : 0 ≤ z ∧ z < 65536) (hT : Tab w) :
    Calls Tryd.prog 8 #[.agg (iv L).toArray, .int .u16 z] w fun e w' => e = .returned (.bool true) ∧ Below w.heap.size w w' := by
  have HT := Lib.hid hT
  have HSAN := Lib.hid fun w hT => san_any w hT
  have HIL := Lib.hid (size22' hL)
  have H22 := Lib.hid Tryd.underlying22
  have H22s := Lib.hid size22
  have HMADE := Lib.hid fun w => made_any L w hL
  have h8 : (made L).length = 8 := by rw [made_len, hL]
  have hs := made_lt L
  generalize made L = ws at *
  have hl : (ci ws).length = 8 := by rw [ci_len, h8]
  have HI := Lib.hid (size22' hl)
  have HO := Lib.hid (iv_one (ci ws))
  have HIV : Hid ((iv (ci ws)).length = 8) := Lib.hid (by rw [iv_len, hl])
  obtain ⟨n, rfl⟩ : ∃ n : Nat, z = n := ⟨z.toNat, by omega⟩
  have hw : IntKind.i64.wrap (n : Int) = n := by rw [i64_wraps]; omega
  have hmod : (n : Int) % 1024 = ((n % 1024 : Nat) : Int) := by omega
  have hm : n % 1024 < 1024 := by omega
  by_cases h2 : (chkZ (ci ws) ((n % 1024 : Nat) : Int)).1 = 2
  · obtain ⟨hne, hall⟩ := near_rot h8 hs hm h2
    have HFIX := Lib.hid fun y w hT (hy : y = ((n % 1024 : Nat) : Int)) => (show Calls Tryd.prog 10 #[.agg (iv (ci ws)).toArray, .int .i64 y] w fun e w' => e = .returned (fr (Z8, 0, 9)) ∧ Below w.heap.size w w' from by
      have h := fix_any (ci ws) ((n % 1024 : Nat) : Int) w hl hT
      rw [fix_rot hs hm h2] at h
      rw [hy]
      exact h)
    have HENC := Lib.hid fun w hT => encode_any (ci ws) w hl hT
    rw [encZ_ci hs] at HENC
    have HFLIP := Lib.hid fun k b y w (hy : y = ((n % 1024 : Nat) : Int)) => (show Calls Tryd.prog 22 #[.agg (iv (ci ws)).toArray, .int .i64 y, .int .i64 k, .int .i64 b] w fun e w' => e = .returned (pr (flipR ws (n % 1024) k b)) ∧ Below w.heap.size w w' from by rw [hy]; exact flip_any ws (n % 1024) k b w h8 hs hm)
    have HNINE := Lib.hid fun k b (ok : okBit k b = true) => flip_nine h8 hs hm ok
    have HALL := Lib.hid hall
    have HZ1 := Lib.hid (iv_one Z8)
    have HZ2 : Hid ((iv Z8).length = 8) := Lib.hid rfl
    have hn : (n : Int) < 65536 := by omega
    have hce : ((((encN ws : Nat) : Int)) == ((n % 1024 : Nat) : Int)) = false := by simp; omega
    have hce2 : (encN ws == n % 1024) = false := by simp; omega
    clear hne hall h2 hT hs h8 hz
    generalize encN ws = c at *
    generalize n % 1024 = m at *
    go_enter Tryd.func8, Tryd.ntmps8
    go_wp2_with ((with_reducible refine arm_row 22 w.heap.size 22 _ (Arr1_0 w (iv L) 22) _ H22.out rfl HIL.out rfl _ rfl ?_ ?_); focus rfl)
    refine (HMADE.out _).mono ?_
    rintro e w1 ⟨rfl, hb⟩
    have HB1 := Lib.hid (bel_on (bel_new _ _) hb)
    clear hb
    go_wp2_with (first
      | ((with_reducible refine arm_new 22 (iv (ci ws)) 8 HIV.out H22s.out HO.out _ ?_ rfl _ _ rfl ?_ ?_ ?_); (focus rfl); (focus rfl); (focus rfl); (refine nm_l ?_; intro w2 hw2; have HA2 : Hid (Arr w2 w1.heap.size 22 (iv (ci ws))) := Lib.hid (by rw [hw2]; exact Arr.new _ _ _); have HB2 : Hid (Below w.heap.size w w2) := Lib.hid (by rw [hw2]; exact bel_on HB1.out (bel_new _ _)); clear hw2 HB1; generalize w1.heap.size = b1 at *))
      | ((with_reducible refine arm_row 22 b1 22 _ HA2.out _ H22.out rfl HI.out rfl _ rfl ?_ ?_); focus rfl))
    refine (HFIX.out _ _ (HT.out.keep HB2.out) (by omega)).mono ?_
    rintro e w3 ⟨rfl, hb⟩
    have HA3 := Lib.hid (HA2.out.keep hb)
    have HB3 := Lib.hid (bel_on HB2.out hb)
    clear hb HA2 HB2
    unfold fr
    clear hn
    go_wp2_with (first
      | ((with_reducible refine arm_new 22 (iv Z8) 8 HZ2.out H22s.out HZ1.out _ ?_ rfl _ _ rfl ?_ ?_ ?_); (focus rfl); (focus rfl); (focus rfl); (refine nm_l ?_; intro w4 hw4; have HA4 : Hid (Arr w4 b1 22 (iv (ci ws))) := Lib.hid (by rw [hw4]; exact HA3.out.keep (bel_new _ _)); have HB4 : Hid (Below w.heap.size w w4) := Lib.hid (by rw [hw4]; exact bel_on HB3.out (bel_new _ _)); clear hw4 HB3 HA3))
      | ((with_reducible refine arm_rowg 22 b1 22 _ HA4.out _ H22.out rfl HI.out ?_ _ rfl ?_ ?_); (focus rfl); (focus rfl)))
    refine (HENC.out _ (HT.out.keep HB4.out)).mono ?_
    rintro e w5 ⟨rfl, hb⟩
    have HA5 := Lib.hid (HA4.out.keep hb)
    have HB5 := Lib.hid (bel_on HB4.out hb)
    clear hb HA4 HB4
    go_wp2_with fail
    go_loopw [11] (fun i wr => ∃ k : Nat, i = .int .i64 (k : Int) ∧ k ≤ 330 ∧ Hid (Arr wr b1 22 (iv (ci ws))) ∧ Hid (Below w.heap.size w wr)) (fun i _ => 330 - (intOf i).toNat)
    case atStart => exact ⟨0, rfl, by omega, HA5, HB5⟩
    case round =>
      clear HA5 HB5
      obtain ⟨k, rfl, hk, HA, HB⟩ := hrel
      by_cases hlt : k < 330
      · have HBIT := Lib.hid fun y w hy => bit_any y k w hy (by omega)
        have ok := bitF_ok k
        generalize bitF k = r at *
        obtain ⟨i, j⟩ := r
        simp only at HBIT ok
        obtain ⟨hl1, hs1, hc1⟩ := HNINE.out i j ok
        have hne := HALL.out i j ok
        have HFL := Lib.hid fun y w hy => HFLIP.out (i : Int) (j : Int) y w hy
        generalize flipR ws m i j = f at *
        obtain ⟨vs, d⟩ := f
        simp only at hl1 hs1 hc1 hne
        have hlv : (ci vs).length = 8 := by rw [ci_len, hl1]
        have HENCV := Lib.hid fun w hT => encode_any (ci vs) w hlv hT
        rw [encZ_ci hs1] at HENCV
        have HI2 := Lib.hid (size22' hlv)
        have HO2 := Lib.hid (iv_one (ci vs))
        have HIV2 : Hid ((iv (ci vs)).length = 8) := Lib.hid (by rw [iv_len, hlv])
        have e1 : (((encN vs : Nat) : Int) == (d : Int)) = false := by simp; omega
        have e2 : (encN vs == d) = false := by simp; omega
        generalize encN vs = cv at *
        clear hne hs1 hc1 hl1 hlv ok hce hce2
        go_wp2_with fail
        refine (HBIT.out _ _ (by omega)).mono ?_
        rintro e w6 ⟨rfl, rfl⟩
        go_wp2_with ((with_reducible refine arm_row 22 b1 22 _ HA.out _ H22.out rfl HI.out rfl _ rfl ?_ ?_); focus rfl)
        refine (HFL.out _ _ (by omega)).mono ?_
        rintro e w7 ⟨rfl, hb⟩
        have HA7 := Lib.hid (HA.out.keep hb)
        have HB7 := Lib.hid (bel_on HB.out hb)
        clear hb HA HB
        unfold pr
        go_wp2_with (first
          | ((with_reducible refine arm_new 22 (iv (ci vs)) 8 HIV2.out H22s.out HO2.out _ ?_ rfl _ _ rfl ?_ ?_ ?_); (focus rfl); (focus rfl); (focus rfl); (refine nm_l ?_; intro w8 hw8; have HA8 : Hid (Arr w8 b1 22 (iv (ci ws))) := Lib.hid (by rw [hw8]; exact HA7.out.keep (bel_new _ _)); have HC8 : Hid (Arr w8 w7.heap.size 22 (iv (ci vs))) := Lib.hid (by rw [hw8]; exact Arr.new _ _ _); have HB8 : Hid (Below w.heap.size w w8) := Lib.hid (by rw [hw8]; exact bel_on HB7.out (bel_new _ _)); clear hw8 HB7 HA7; generalize w7.heap.size = b2 at *))
          | ((with_reducible refine arm_row 22 b2 22 _ HC8.out _ H22.out rfl HI2.out rfl _ rfl ?_ ?_); focus rfl))
        refine (HENCV.out _ (HT.out.keep HB8.out)).mono ?_
        rintro e w9 ⟨rfl, hb⟩
        have HA9 := Lib.hid (HA8.out.keep hb)
        have HB9 := Lib.hid (bel_on HB8.out hb)
        clear hb HA8 HB8 HC8
        go_wp2_with fail
        go_roundw
        case rel => exact ⟨k + 1, by simp, by omega, HA9, HB9⟩
        case measure => simp [intOf]; omega
      · obtain rfl : k = 330 := by omega
        clear hce hce2
        go_wp2_with fail
        refine (HSAN.out _ (HT.out.keep HB.out)).mono ?_
        rintro e w6 ⟨rfl, hb⟩
        have HB6 := Lib.hid (bel_on HB.out hb)
        clear hb HB
        go_wp2_with fail
        go_ret
        exact ⟨rfl, HB6.out⟩
  · obtain ⟨vs, d, f, hlv0, hfix, hchk, hdist, hf1⟩ := near_ok h8 hs hm h2
    have hlv : (ci vs).length = 8 := by rw [ci_len, hlv0]
    have HFIX := Lib.hid fun y w hT (hy : y = ((n % 1024 : Nat) : Int)) => (show Calls Tryd.prog 10 #[.agg (iv (ci ws)).toArray, .int .i64 y] w fun e w' => e = .returned (fr (ci vs, (d : Int), 0)) ∧ Below w.heap.size w w' from by
      have h := fix_any (ci ws) ((n % 1024 : Nat) : Int) w hl hT
      rw [hfix] at h
      rw [hy]
      exact h)
    have HDIST := Lib.hid fun y w (hy : y = ((n % 1024 : Nat) : Int)) => (show Calls Tryd.prog 18 #[.agg (iv (ci ws)).toArray, .int .i64 y, .agg (iv (ci vs)).toArray, .int .i64 (d : Int)] w fun e w' => e = .returned (.int .i64 (f : Int)) ∧ Below w.heap.size w w' from by
      have h := dist_any (ci ws) ((n % 1024 : Nat) : Int) (ci vs) (d : Int) w hl hlv
      rw [hdist] at h
      rw [hy]
      exact h)
    have HCHK := Lib.hid fun w hT => checked_lit (ci vs) (d : Int) 0 0 0 w hlv hT hchk
    have HI2 := Lib.hid (size22' hlv)
    have HO2 := Lib.hid (iv_one (ci vs))
    have HIV2 : Hid ((iv (ci vs)).length = 8) := Lib.hid (by rw [iv_len, hlv])
    have hf : (f : Int) ≤ 1 := by omega
    clear h2 hT hs h8 hz hfix hchk hdist hf1 hlv
    generalize n % 1024 = m at *
    go_enter Tryd.func8, Tryd.ntmps8
    go_wp2_with ((with_reducible refine arm_row 22 w.heap.size 22 _ (Arr1_0 w (iv L) 22) _ H22.out rfl HIL.out rfl _ rfl ?_ ?_); focus rfl)
    refine (HMADE.out _).mono ?_
    rintro e w1 ⟨rfl, hb⟩
    have HB1 := Lib.hid (bel_on (bel_new _ _) hb)
    clear hb
    go_wp2_with (first
      | ((with_reducible refine arm_new 22 (iv (ci ws)) 8 HIV.out H22s.out HO.out _ ?_ rfl _ _ rfl ?_ ?_ ?_); (focus rfl); (focus rfl); (focus rfl); (refine nm_l ?_; intro w2 hw2; have HA2 : Hid (Arr w2 w1.heap.size 22 (iv (ci ws))) := Lib.hid (by rw [hw2]; exact Arr.new _ _ _); have HB2 : Hid (Below w.heap.size w w2) := Lib.hid (by rw [hw2]; exact bel_on HB1.out (bel_new _ _)); clear hw2 HB1; generalize w1.heap.size = b1 at *))
      | ((with_reducible refine arm_row 22 b1 22 _ HA2.out _ H22.out rfl HI.out rfl _ rfl ?_ ?_); focus rfl))
    refine (HFIX.out _ _ (HT.out.keep HB2.out) (by omega)).mono ?_
    rintro e w3 ⟨rfl, hb⟩
    have HA3 := Lib.hid (HA2.out.keep hb)
    have HB3 := Lib.hid (bel_on HB2.out hb)
    clear hb HA2 HB2
    unfold fr
    go_wp2_with (first
      | ((with_reducible refine arm_new 22 (iv (ci vs)) 8 HIV2.out H22s.out HO2.out _ ?_ rfl _ _ rfl ?_ ?_ ?_); (focus rfl); (focus rfl); (focus rfl); (refine nm_l ?_; intro w4 hw4; have HA4 : Hid (Arr w4 b1 22 (iv (ci ws))) := Lib.hid (by rw [hw4]; exact HA3.out.keep (bel_new _ _)); have HC4 : Hid (Arr w4 w3.heap.size 22 (iv (ci vs))) := Lib.hid (by rw [hw4]; exact Arr.new _ _ _); have HB4 : Hid (Below w.heap.size w w4) := Lib.hid (by rw [hw4]; exact bel_on HB3.out (bel_new _ _)); clear hw4 HB3 HA3; generalize w3.heap.size = b2 at *))
      | ((with_reducible refine arm_row 22 b1 22 _ HA4.out _ H22.out rfl HI.out rfl _ rfl ?_ ?_); focus rfl)
      | ((with_reducible refine arm_row 22 b2 22 _ HC4.out _ H22.out rfl HI2.out rfl _ rfl ?_ ?_); focus rfl))
    refine (HDIST.out _ _ (by omega)).mono ?_
    rintro e w5 ⟨rfl, hb⟩
    have HC5 := Lib.hid (HC4.out.keep hb)
    have HB5 := Lib.hid (bel_on HB4.out hb)
    clear hb HA4 HB4 HC4
    go_wp2_with fail
    refine (HSAN.out _ (HT.out.keep HB5.out)).mono ?_
    rintro e w6 ⟨rfl, hb⟩
    have HC6 := Lib.hid (HC5.out.keep hb)
    have HB6 := Lib.hid (bel_on HB5.out hb)
    clear hb HB5 HC5
    go_wp2_with ((with_reducible refine arm_rowg 22 b2 22 _ HC6.out _ H22.out rfl HI2.out ?_ _ rfl ?_ ?_); (focus rfl); (focus rfl))
    refine (HCHK.out _ (HT.out.keep HB6.out)).mono ?_
    rintro e w7 ⟨rfl, hb⟩
    have HB7 := Lib.hid (bel_on HB6.out hb)
    clear hb HB6 HC6
    go_wp2_with fail
    go_ret
    exact ⟨rfl, HB7.out⟩
end Go.Proofs.YthidababplamgaaDoor
