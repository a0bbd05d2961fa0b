/- WireDecodeMatchesSpec answers true: its walk. -/
import Derived.Test.YtgnhkhcfelmnhaaSane
import Derived.Test.YtgnhkhcfelmnhaaArgs
import Derived.Test.YtgnhkhcfelmnhaaLst5
import Derived.Test.YtgnhkhcfelmnhaaLst6
import Derived.Test.YtgnhkhcfelmnhaaLst7
import Derived.Test.YtgnhkhcfelmnhaaMath4
namespace Go.Proofs.Ytgnhkhcfelmnhaa
open Go.RowKit

set_option maxRecDepth 100000 in
set_option maxHeartbeats 4000000 in
theorem lawD_big (A : Option Addr) (n cap : Nat) (w : World) (hb : 2000 < n) (hn : n ≤ 9223372036854775807) :
    Calls Try.prog 4 #[.slice A n cap] w fun e w' => e = .returned (.bool true) ∧ Below w.heap.size w w' := by
  go_enter Try.func4, Try.ntmps4
  go_wp2_with (go_at_call 12; refine (sanity_any w).mono ?_; rintro e w1 ⟨rfl, hb1⟩)
  go_ret
  exact ⟨rfl, hb1⟩
set_option maxRecDepth 100000 in
set_option maxHeartbeats 4000000 in
theorem lawD_small (A : Option Addr) (cap : Nat) (l : List UInt8) (w : World) (hcap : l.length ≤ cap) (hr : RV w A (bv l)) (hs : l.length ≤ 2000) :
    Calls Try.prog 4 #[.slice A l.length cap] w fun e w' => e = .returned (.bool true) ∧ Below w.heap.size w w' := by
  have c24 := getInt_any A cap l w hr (by omega)
  have c25 := rgetInt_any A cap l w hr (by omega)
  have c26 := getBytes_any A cap l w hcap hr (by omega)
  have c27 := rgetBytes_any A cap l w hcap hr (by omega)
  have c28 := fun (w' : World) (hb : Below w.heap.size w w') => getInts_any A cap l w' hcap (hr.below hb) (by omega)
  have c29 := fun (w' : World) (hb : Below w.heap.size w w') => rgetInts_any A cap l w' hcap (hr.below hb) (by omega)
  have c31 := fun (w' : World) (hb : Below w.heap.size w w') => getStrings_any A cap l w' hcap (hr.below hb) (by omega)
  have c32 := fun (w' : World) (hb : Below w.heap.size w w') => rgetStrings_any A cap l w' hcap (hr.below hb) (by omega)
  have c34 := fun (w' : World) (hb : Below w.heap.size w w') => getDigests_any A cap l w' hcap (hr.below hb) (by omega)
  have c35 := fun (w' : World) (hb : Below w.heap.size w w') => rgetDigests_any A cap l w' hcap (hr.below hb) (by omega)
  have hsz1 := getS_len getI 1 (by omega) l
  have hsz2 := getS_len getB 1 (by omega) l
  have hsz3 := getS_len getD16 16 (by omega) l
  have hd16 := getS_d16 l
  generalize getS getI 1 l = r3 at *
  generalize getS getB 1 l = r4 at *
  generalize getS getD16 16 l = r5 at *
  generalize getI l = r1 at *
  generalize getB l = r2 at *
  obtain ⟨z, u1, f1⟩ := r1
  obtain ⟨s, u2, f2⟩ := r2
  obtain ⟨xs, u3, f3⟩ := r3
  obtain ⟨ts, u4, f4⟩ := r4
  obtain ⟨ds, u5, f5⟩ := r5
  simp only at hsz1 hsz2 hsz3 hd16
  have h1 : xs.length ≤ 2000 := by omega
  have h2 : ts.length ≤ 2000 := by omega
  have h3 : ds.length ≤ 2000 := by omega
  clear hsz1 hsz2 hsz3
  have C24 : Hid (Calls Try.prog 24 #[.slice A l.length cap] w fun e w' => e = .returned (.tuple #[.int .i64 z, .int .i64 (u1 : Int), .int .i64 (f1 : Int)]) ∧ w = w') := c24
  have C25 : Hid (Calls Try.prog 25 #[.slice A l.length cap] w fun e w' => e = .returned (.tuple #[.int .i64 z, .int .i64 (u1 : Int), .int .i64 (f1 : Int)]) ∧ w = w') := c25
  have C26 : Hid (Calls Try.prog 26 #[.slice A l.length cap] w fun e w' => e = .returned (.tuple #[.string ⟨s.toArray⟩, .int .i64 (u2 : Int), .int .i64 (f2 : Int)]) ∧ w = w') := c26
  have C27 : Hid (Calls Try.prog 27 #[.slice A l.length cap] w fun e w' => e = .returned (.tuple #[.string ⟨s.toArray⟩, .int .i64 (u2 : Int), .int .i64 (f2 : Int)]) ∧ w = w') := c27
  have C28 := Lib.hid c28
  have C29 := Lib.hid c29
  have C31 := Lib.hid c31
  have C32 := Lib.hid c32
  have C34 := Lib.hid c34
  have C35 := Lib.hid c35
  have HD := Lib.hid hd16
  clear c24 c25 c26 c27 c28 c29 c31 c32 c34 c35 hr hd16
  go_enter Try.func4, Try.ntmps4
  go_wp2_with fail
  refine C24.out.mono ?_
  rintro e w0 ⟨rfl, rfl⟩
  go_wp2_with fail
  refine C25.out.mono ?_
  rintro e w0 ⟨rfl, rfl⟩
  go_wp2_with fail
  refine C26.out.mono ?_
  rintro e w0 ⟨rfl, rfl⟩
  go_wp2_with fail
  refine C27.out.mono ?_
  rintro e w0 ⟨rfl, rfl⟩
  go_wp2_with fail
  refine (C28.out w (Below.refl _ _)).mono ?_
  rintro e w1 ⟨v1, rfl, ho1, hb1⟩
  obtain ⟨A1, k1, rfl, _, _, hR1⟩ := row_form ho1
  go_wp2_with fail
  refine (C29.out w1 hb1).mono ?_
  rintro e w2 ⟨v2, rfl, ho2, hb2⟩
  obtain ⟨A2, k2, rfl, _, _, hR2⟩ := row_form ho2
  go_wp2_with fail
  refine (sameInts_any _ _ _ _ _ _ xs xs w2 rfl rfl (hR1.below hb2) hR2 (by omega) (by omega)).mono ?_
  rintro e w3 ⟨rfl, hb3⟩
  rw [decide_eq_true (rfl : xs = xs)]
  have k3 := bel_on (bel_on hb1 hb2) hb3
  go_wp2_with fail
  refine (C31.out w3 k3).mono ?_
  rintro e w4 ⟨v4, rfl, ho4, hb4⟩
  obtain ⟨A4, k4, rfl, _, _, hR4⟩ := row_form ho4
  have k4' := bel_on k3 hb4
  go_wp2_with fail
  refine (C32.out w4 k4').mono ?_
  rintro e w5 ⟨v5, rfl, ho5, hb5⟩
  obtain ⟨A5, k5, rfl, _, _, hR5⟩ := row_form ho5
  go_wp2_with fail
  refine (sameTexts_any _ _ _ _ _ _ ts ts w5 rfl rfl (hR4.below hb5) hR5 (by omega) (by omega)).mono ?_
  rintro e w6 ⟨rfl, hb6⟩
  rw [decide_eq_true (rfl : ts = ts)]
  have k6 := bel_on (bel_on k4' hb5) hb6
  go_wp2_with fail
  refine (C34.out w6 k6).mono ?_
  rintro e w7 ⟨v7, rfl, ho7, hb7⟩
  obtain ⟨A7, k7, rfl, _, _, hR7⟩ := row_form ho7
  have k7' := bel_on k6 hb7
  go_wp2_with fail
  refine (C35.out w7 k7').mono ?_
  rintro e w8 ⟨v8, rfl, ho8, hb8⟩
  obtain ⟨A8, k8, rfl, _, _, hR8⟩ := row_form ho8
  have k8' := bel_on k7' hb8
  go_wp2_with fail
  refine (sanity_any w8).mono ?_
  rintro e w9 ⟨rfl, hb9⟩
  go_wp2_with fail
  refine (sameDigests_any _ _ _ _ _ _ ds ds w9 rfl rfl ((hR7.below hb8).below hb9) (hR8.below hb9) HD.out HD.out (by omega) (by omega)).mono ?_
  rintro e w10 ⟨rfl, hb10⟩
  rw [decide_eq_true (rfl : ds = ds)]
  go_wp2
  go_ret
  exact ⟨rfl, bel_on (bel_on k8' hb9) hb10⟩
end Go.Proofs.Ytgnhkhcfelmnhaa
