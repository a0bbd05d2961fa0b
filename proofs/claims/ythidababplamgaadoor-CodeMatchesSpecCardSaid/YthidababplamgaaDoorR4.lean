/- What the reference's Encode does. -/
import Derived.Test.YthidababplamgaaDoorR3
import Derived.Test.YthidababplamgaaDoorC2
namespace Go.Proofs.YthidababplamgaaDoor
open Go.RowKit
set_option maxRecDepth 100000 in
set_option maxHeartbeats 1000000 in
theorem rEncode_any (L : List Int) (w : World) (h8 : L.length = 8) :
    Calls Tryd.prog 15 #[.agg (iv L).toArray] w fun e w' => e = .returned (.int .i64 (encZ L)) ∧ Below w.heap.size w w' := by
  have HI := Lib.hid (size22' (l := L) h8)
  have H22 := Lib.hid Tryd.underlying22
  have HA := Lib.hid (Arr.new w (iv L) 22)
  have HB := Lib.hid (bel_new w (.cells (iv L).toArray 22))
  have HV := Lib.hid fun w => rvalid_any L 0 w h8
  rw [valid0] at HV
  cases hv : L.all okW with
  | false =>
    rw [hv] at HV
    unfold encZ
    rw [hv, if_neg (by decide)]
    go_enter Tryd.func15, Tryd.ntmps15
    go_wp2_with ((with_reducible refine arm_row 22 w.heap.size 22 _ HA.out _ H22.out rfl HI.out rfl _ rfl ?_ ?_); focus rfl)
    refine (HV.out _).mono ?_
    rintro e w1 ⟨rfl, hb⟩
    have HB2 := Lib.hid (bel_on HB.out hb)
    clear hb
    go_wp2_with fail
    go_ret
    exact ⟨rfl, HB2.out⟩
  | true =>
    rw [hv] at HV
    unfold encZ
    rw [hv, if_pos rfl]
    obtain ⟨hL, hs⟩ := of_all hv
    have hlen : (nw L).length = 8 := by rw [nw_len, h8]
    generalize nw L = ws at *
    subst hL
    have HS1 := Lib.hid fun w => rsyn_any ws 0 w hlen hs (by decide)
    have hlt : synT ws 0 < 512 := synT_lt hlen hs (by decide)
    have HS2 := Lib.hid fun w => rsyn_any ws (synT ws 0) w hlen hs (by omega)
    have hq : popT ws (synT ws 0) % 2 < 2 := by omega
    unfold encN
    generalize popT ws (synT ws 0) % 2 = q at *
    generalize synT ws (synT ws 0) = s2 at *
    generalize synT ws 0 = s at *
    generalize popT ws 0 % 2 = q0 at *
    have hsI : (s : Int) < 512 := by omega
    have hqI : (q : Int) < 2 := by omega
    have HE : Hid ((s : Int) + 512 * (q : Int) = ((s + 512 * q : Nat) : Int)) := Lib.hid (by omega)
    clear hs hv hq hlt
    go_enter Tryd.func15, Tryd.ntmps15
    go_wp2_with ((with_reducible refine arm_row 22 w.heap.size 22 _ HA.out _ H22.out rfl HI.out rfl _ rfl ?_ ?_); focus rfl)
    refine (HV.out _).mono ?_
    rintro e w1 ⟨rfl, hb⟩
    have HB2 := Lib.hid (bel_on HB.out hb)
    have HA2 := Lib.hid (HA.out.keep hb)
    clear hb HA HB
    go_wp2_with ((with_reducible refine arm_row 22 w.heap.size 22 _ HA2.out _ H22.out rfl HI.out rfl _ rfl ?_ ?_); focus rfl)
    refine (HS1.out _).mono ?_
    rintro e w2 ⟨rfl, hb⟩
    have HB3 := Lib.hid (bel_on HB2.out hb)
    have HA3 := Lib.hid (HA2.out.keep hb)
    clear hb HA2 HB2
    go_wp2_with ((with_reducible refine arm_row 22 w.heap.size 22 _ HA3.out _ H22.out rfl HI.out rfl _ rfl ?_ ?_); focus rfl)
    refine (HS2.out _).mono ?_
    rintro e w3 ⟨rfl, hb⟩
    have HB4 := Lib.hid (bel_on HB3.out hb)
    clear hb HA3 HB3
    go_wp2_with fail
    go_ret
    exact ⟨ret_i64 HE.out, HB4.out⟩
end Go.Proofs.YthidababplamgaaDoor
