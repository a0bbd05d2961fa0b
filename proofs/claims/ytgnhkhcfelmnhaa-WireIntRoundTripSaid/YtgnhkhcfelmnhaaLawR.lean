/- WireIntRoundTrip answers true: its walk. -/
import Derived.Test.YtgnhkhcfelmnhaaSane
import Derived.Test.YtgnhkhcfelmnhaaArgs
import Derived.Test.YtgnhkhcfelmnhaaFull
import Derived.Test.YtgnhkhcfelmnhaaMath5
namespace Go.Proofs.Ytgnhkhcfelmnhaa
open Go.RowKit
set_option maxRecDepth 100000 in
set_option maxHeartbeats 4000000 in
theorem lawR_big (z : Int) (A : Option Addr) (n cap : Nat) (w : World) (hb : 2000 < n) (hn : n ≤ 9223372036854775807) :
    Calls Try.prog 6 #[.int .i64 z, .slice A n cap] w fun e w' => e = .returned (.bool true) ∧ Below w.heap.size w w' := by
  go_enter Try.func6, Try.ntmps6
  go_wp2_with (go_at_call 12; refine (sanity_any w).mono ?_; rintro e w1 ⟨rfl, hb1⟩)
  go_ret
  exact ⟨rfl, hb1⟩
set_option maxRecDepth 100000 in
set_option maxHeartbeats 4000000 in
theorem lawR_small (z : Int) (hz : I64 z) (A : Option Addr) (cap : Nat) (t : List UInt8) (w : World) (hr : RV w A (bv t)) (hs : t.length ≤ 2000) :
    Calls Try.prog 6 #[.int .i64 z, .slice A t.length cap] w fun e w' => e = .returned (.bool true) ∧ Below w.heap.size w w' := by
  obtain ⟨hp1, hp2, _⟩ := enc_shape hz
  have HG := Lib.hid (getI_enc hz t)
  go_enter Try.func6, Try.ntmps6
  go_wp2_with fail
  refine (int_any z w hz).mono ?_
  rintro e w1 ⟨v1, rfl, ho1, hb1⟩
  obtain ⟨A1, c1, rfl, hc1, _, hR1⟩ := ho1.form
  obtain ⟨b1, o1, rfl, _⟩ := hR1 (by intro h; have h1 := congrArg List.length h; rw [bv_len] at h1; simp only [List.length_nil] at h1; omega)
  have hr1 := hr.below hb1
  go_wp2_with (at_builtin; go_loud (refine arm_full (by rfl) _ _ (by rfl) (some ⟨b1, o1, none⟩) (enc z).length (enc z) rfl (by rfl) hR1 A t.length cap t rfl (by rfl) hr1 (by omega) ?_); intro A2 c2 w2 hc2 hR2 hb2)
  refine (getInt_at A2 _ c2 (enc z ++ t) w2 (by simp) hR2 (by omega)).mono ?_
  rintro e w2' ⟨rfl, rfl⟩
  rw [HG.out]
  unfold tri
  go_wp2_with fail
  refine (sanity_any w2).mono ?_
  rintro e w3 ⟨rfl, hb3⟩
  go_wp2
  go_ret
  exact ⟨ret_bool (decide_eq_true (by omega)), bel_on (bel_on hb1 hb2) hb3⟩
end Go.Proofs.Ytgnhkhcfelmnhaa
