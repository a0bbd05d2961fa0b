/- WireLengths answers true: what its walk rests on. -/
import Derived.Test.YtgnhkhcfelmnhaaEnc4
import Derived.Test.YtgnhkhcfelmnhaaDec4
import Derived.Test.YtgnhkhcfelmnhaaSane
import Derived.Test.YtgnhkhcfelmnhaaLens
import Derived.Test.YtgnhkhcfelmnhaaSame
import Derived.Test.YtgnhkhcfelmnhaaCuts
import Derived.Deep.RegionHeld3
import Derived.Laws.Strings
namespace Go.Proofs.Ytgnhkhcfelmnhaa
open Go.RowKit
theorem wrap_not {m : Int} (hm : I64 m) : IntKind.i64.wrap (-1 - m) = -1 - m := by unfold I64 at hm; simp [IntKind.wrap, IntKind.bits, IntKind.signed]; omega
theorem not_i64 {m : Int} (hm : I64 m) : I64 (-1 - m) := by unfold I64 at hm ⊢; omega
theorem len_ne0 {n : Nat} (h : n ≥ 1) : ((n : Int) == 0) = false := by simp; intro h0; rw [h0] at h; simp at h
theorem len_one {m K : Int} (h : mag m = K) : ((((enc m).length : Nat) : Int) == 1) = decide (K < 64) := by
  by_cases h1 : K < 64
  · have := (enc_one m).2 (by omega)
    simp [this, h1]
  · have h2 : ¬ (enc m).length = 1 := fun h3 => h1 (by have := (enc_one m).1 h3; omega)
    simp only [h1, decide_false, beq_eq_false_iff_ne, ne_eq]
    omega
theorem take_len {l : List UInt8} {q : Nat} (h : q ≤ l.length) : (l.take q).length = q := by rw [List.length_take]; omega
theorem conv_at {w : World} {A : Option Addr} {r : List UInt8} {q : Nat} (hr : RV w A (bv r)) (hq : r.length = q) (c : Nat) : (convert 28 9 (.slice A q c)).run Try.prog w = .ok (.string ⟨r.toArray⟩) w := by
  subst hq
  exact conv_str hr c
end Go.Proofs.Ytgnhkhcfelmnhaa
