/- What the decoders of lists of wire do. -/
import Derived.Test.YtgnhkhcfelmnhaaLst2
import Derived.Test.YtgnhkhcfelmnhaaLst4
namespace Go.Proofs.Ytgnhkhcfelmnhaa
open Go.RowKit
set_option maxHeartbeats 400000 in
theorem getInts_any (A : Option Addr) (cap : Nat) (l : List UInt8) (w : World) (hcap : l.length ≤ cap) (hr : RV w A (bv l)) (hl : l.length ≤ 1073741824) :
    Calls Try.prog 28 #[.slice A l.length cap] w (IRes w (getS getI 1 l)) := by
  go_enter Try.func28, Try.ntmps28
  go_wp2_with (go_at_call 45; refine (getListI_any A cap l _ hcap hr hl).mono ?_; rintro e w' ⟨v', rfl, ho, hb⟩)
  go_ret3
  exact ⟨v', rfl, ho, hb⟩
set_option maxHeartbeats 400000 in
theorem getStrings_any (A : Option Addr) (cap : Nat) (l : List UInt8) (w : World) (hcap : l.length ≤ cap) (hr : RV w A (bv l)) (hl : l.length ≤ 1073741824) :
    Calls Try.prog 31 #[.slice A l.length cap] w (SRes w (getS getB 1 l)) := by
  go_enter Try.func31, Try.ntmps31
  go_wp2_with (go_at_call 47; refine (getListS_any A cap l _ hcap hr hl).mono ?_; rintro e w' ⟨v', rfl, ho, hb⟩)
  go_ret3
  exact ⟨v', rfl, ho, hb⟩
set_option maxHeartbeats 400000 in
theorem getDigests_any (A : Option Addr) (cap : Nat) (l : List UInt8) (w : World) (hcap : l.length ≤ cap) (hr : RV w A (bv l)) (hl : l.length ≤ 1073741824) :
    Calls Try.prog 34 #[.slice A l.length cap] w (DRes w (getS getD16 16 l)) := by
  go_enter Try.func34, Try.ntmps34
  go_wp2_with (go_at_call 48; refine (getListD_any A cap l _ hcap hr hl).mono ?_; rintro e w' ⟨v', rfl, ho, hb⟩)
  go_ret3
  exact ⟨v', rfl, ho, hb⟩
end Go.Proofs.Ytgnhkhcfelmnhaa
