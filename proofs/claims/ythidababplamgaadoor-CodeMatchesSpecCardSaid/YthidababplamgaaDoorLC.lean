/- CodeIsClean answers true. -/
import Derived.Test.YthidababplamgaaDoorAlg
import Derived.Test.YthidababplamgaaDoorSan
namespace Go.Proofs.YthidababplamgaaDoor
open Go.RowKit
theorem eq_same (l : List Int) (hl : l.length = 8) (hz : ∀ z ∈ l, I64 z) (w : World) : (Op.equalIn 10000 22 (.agg (iv l).toArray) (.agg (iv l).toArray)).run Tryd.prog w = .ok true w := by
  rw [eq_line l l hl hl hz hz, decide_eq_true rfl]
theorem checked_lit (L : List Int) (c : Int) (a b d : Nat) (w : World) (h8 : L.length = 8) (hT : Tab w) (hr : chkZ L c = (a, b, d)) :
    Calls Tryd.prog 16 #[.agg (iv L).toArray, .int .i64 c] w fun e w' => e = .returned (.agg #[.int .i64 (a : Int), .int .i64 (b : Int), .int .i64 (d : Int)]) ∧ Below w.heap.size w w' := by
  have h := checked_any L c w h8 hT
  rw [hr] at h
  exact h
theorem Arr1_0 (w : World) (cs : List Value) (t : TypeId) : Arr (w.alloc (.cells cs.toArray t)) w.heap.size t cs := Arr.new w cs t
set_option maxRecDepth 100000 in
set_option maxHeartbeats 4000000 in
theorem lawC (L : List Int) (z : Int) (w : World) (hL : L.length = 8) (hz : 0 ≤ z ∧ z < 65536) (hT : Tab w) :
    Calls Tryd.prog 4 #[.agg (iv L).toArray, .int .u16 z] w fun e w' => e = .returned (.bool true) ∧ Below w.heap.size w w' := by
  have HT := Lib.hid hT
  have HSAN := Lib.hid fun w hT => san_any w hT
  have HIL := Lib.hid (size22' hL)
  have H22 := Lib.hid Tryd.underlying22
  have H22s := Lib.hid size22
  have HMADE := Lib.hid fun w => made_any L w hL
  have h8 : (made L).length = 8 := by rw [made_len, hL]
  have hs := made_lt L
  generalize made L = ws at *
  have hl : (ci ws).length = 8 := by rw [ci_len, h8]
  have HENC := Lib.hid fun w hT => encode_any (ci ws) w hl hT
  rw [encZ_ci hs] at HENC
  have HFIX := Lib.hid fun w hT => fix_any (ci ws) ((encN ws : Nat) : Int) w hl hT
  rw [fixZ_enc h8 hs] at HFIX
  have HCHK := Lib.hid fun w hT => checked_lit (ci ws) ((encN ws : Nat) : Int) 0 0 0 w hl hT (chkZ_enc h8 hs)
  obtain ⟨n, rfl⟩ : ∃ n : Nat, z = n := ⟨z.toNat, by omega⟩
  have HCB := Lib.hid fun y w hy hT => (show y = ((n % 1024 : Nat) : Int) → Calls Tryd.prog 25 #[.agg (iv (ci ws)).toArray, .int .i64 y] w fun e w' => e = .returned (t3 (chkZ (ci ws) ((n % 1024 : Nat) : Int))) ∧ Below w.heap.size w w' from fun hy => by rw [hy]; exact check_any (ci ws) _ w hl hT) hy
  have HIFF := Lib.hid (chkZ_clean h8 hs (show n % 1024 < 1024 by omega))
  have hcl := encN_lt h8 hs
  have HEQ := Lib.hid fun w => eq_same (ci ws) hl (ci_i64 hs) w
  have HI := Lib.hid (size22' hl)
  have HO := Lib.hid (iv_one (ci ws))
  have HIV : Hid ((iv (ci ws)).length = 8) := Lib.hid (by rw [iv_len, hl])
  have hw : IntKind.i64.wrap (n : Int) = n := by rw [i64_wraps]; omega
  have hn : (n : Int) < 65536 := by omega
  have hcl2 : ((encN ws : Nat) : Int) ≤ 1023 := by omega
  generalize encN ws = c at *
  generalize chkZ (ci ws) ((n % 1024 : Nat) : Int) = r at *
  obtain ⟨st, kk, bb⟩ := r
  simp only at HIFF
  clear hs hT hz hcl
  go_enter Tryd.func4, Tryd.ntmps4
  go_wp2_with ((with_reducible refine arm_row 22 w.heap.size 22 _ (Arr1_0 w (iv L) 22) _ H22.out rfl HIL.out rfl _ rfl ?_ ?_); focus rfl)
  refine (HMADE.out _).mono ?_
  rintro e w1 ⟨rfl, hb⟩
  have HB1 := Lib.hid (bel_on (bel_new _ _) hb)
  clear hb
  go_wp2_with (first
    | ((with_reducible refine arm_new 22 (iv (ci ws)) 8 HIV.out H22s.out HO.out _ ?_ rfl _ _ rfl ?_ ?_ ?_); (focus rfl); (focus rfl); (focus rfl); (refine nm_l ?_; intro w2 hw2; have HA2 : Hid (Arr w2 w1.heap.size 22 (iv (ci ws))) := Lib.hid (by rw [hw2]; exact Arr.new _ _ _); have HB2 : Hid (Below w.heap.size w w2) := Lib.hid (by rw [hw2]; exact bel_on HB1.out (bel_new _ _)); clear hw2 HB1; generalize w1.heap.size = b1 at *))
    | ((with_reducible refine arm_row 22 b1 22 _ HA2.out _ H22.out rfl HI.out rfl _ rfl ?_ ?_); focus rfl))
  refine (HENC.out _ (HT.out.keep HB2.out)).mono ?_
  rintro e w3 ⟨rfl, hb⟩
  have HA3 := Lib.hid (HA2.out.keep hb)
  have HB3 := Lib.hid (bel_on HB2.out hb)
  clear hb HA2 HB2
  go_wp2_with ((with_reducible refine arm_row 22 b1 22 _ HA3.out _ H22.out rfl HI.out rfl _ rfl ?_ ?_); focus rfl)
  refine (HFIX.out _ (HT.out.keep HB3.out)).mono ?_
  rintro e w4 ⟨rfl, hb⟩
  have HA4 := Lib.hid (HA3.out.keep hb)
  have HB4 := Lib.hid (bel_on HB3.out hb)
  clear hb HA3 HB3
  unfold fr
  go_wp2_with (first
    | ((with_reducible refine arm_new 22 (iv (ci ws)) 8 HIV.out H22s.out HO.out _ ?_ rfl _ _ rfl ?_ ?_ ?_); (focus rfl); (focus rfl); (focus rfl); (refine nm_l ?_; intro w5 hw5; have HA5 : Hid (Arr w5 b1 22 (iv (ci ws))) := Lib.hid (by rw [hw5]; exact HA4.out.keep (bel_new _ _)); have HC5 : Hid (Arr w5 w4.heap.size 22 (iv (ci ws))) := Lib.hid (by rw [hw5]; exact Arr.new _ _ _); have HB5 : Hid (Below w.heap.size w w5) := Lib.hid (by rw [hw5]; exact bel_on HB4.out (bel_new _ _)); clear hw5 HB4 HA4; generalize w4.heap.size = b2 at *))
    | ((with_reducible refine arm_row 22 b1 22 _ HA5.out _ H22.out rfl HI.out rfl _ rfl ?_ ?_); focus rfl))
  refine (HCB.out _ _ (by omega) (HT.out.keep HB5.out)).mono ?_
  rintro e w6 ⟨rfl, hb⟩
  have HA6 := Lib.hid (HA5.out.keep hb)
  have HC6 := Lib.hid (HC5.out.keep hb)
  have HB6 := Lib.hid (bel_on HB5.out hb)
  clear hb HA5 HB5 HC5
  unfold t3
  go_wp2_with fail
  refine (HSAN.out _ (HT.out.keep HB6.out)).mono ?_
  rintro e w7 ⟨rfl, hb⟩
  have HA7 := Lib.hid (HA6.out.keep hb)
  have HC7 := Lib.hid (HC6.out.keep hb)
  have HB7 := Lib.hid (bel_on HB6.out hb)
  clear hb HA6 HB6 HC6
  go_wp2_with ((with_reducible refine arm_rowg 22 b1 22 _ HA7.out _ H22.out rfl HI.out ?_ _ rfl ?_ ?_); (focus rfl); (focus rfl))
  refine (HCHK.out _ (HT.out.keep HB7.out)).mono ?_
  rintro e w8 ⟨rfl, hb⟩
  have HA8 := Lib.hid (HA7.out.keep hb)
  have HC8 := Lib.hid (HC7.out.keep hb)
  have HB8 := Lib.hid (bel_on HB7.out hb)
  clear hb HA7 HB7 HC7
  have heq := HEQ.out w8
  by_cases hst : st = 0
  · have hbc := HIFF.out.1 hst
    have e1 : ((st : Int) == 0) = true := by simp; omega
    have e2 : (((n : Int) % 1024) == (c : Int)) = true := by simp; omega
    clear hst hbc hcl2 hn hw
    go_wp2_with (first
      | ((with_reducible refine arm_rowg 22 b1 22 _ HA8.out _ H22.out rfl HI.out ?_ _ rfl ?_ ?_); (focus rfl); (focus rfl))
      | ((with_reducible refine arm_rowg 22 b2 22 _ HC8.out _ H22.out rfl HI.out ?_ _ rfl ?_ ?_); (focus rfl); (focus rfl)))
    go_ret
    exact ⟨rfl, HB8.out⟩
  · have hbc : ¬ n % 1024 = c := fun h => hst (HIFF.out.2 h)
    have e1 : ((st : Int) == 0) = false := by simp; omega
    have e2 : (((n : Int) % 1024) == (c : Int)) = false := by simp; omega
    clear hst hbc hcl2 hn hw
    go_wp2_with (first
      | ((with_reducible refine arm_rowg 22 b1 22 _ HA8.out _ H22.out rfl HI.out ?_ _ rfl ?_ ?_); (focus rfl); (focus rfl))
      | ((with_reducible refine arm_rowg 22 b2 22 _ HC8.out _ H22.out rfl HI.out ?_ _ rfl ?_ ?_); (focus rfl); (focus rfl)))
    go_ret
    exact ⟨rfl, HB8.out⟩
end Go.Proofs.YthidababplamgaaDoor
