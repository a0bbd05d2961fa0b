/-
  WireLengths answers true for every two integers, with no condition.
-/
import Derived.Test.YtgnhkhcfelmnhaaRows
import Derived.WalkKit
import Derived.ProofKit
import Derived.OpenShut
import Derived.ShutString
import Derived.ChangeOld
import Derived.Below
import Derived.Test.YtgnhkhcfelmnhaaLawL1
import Derived.Test.YtgnhkhcfelmnhaaLawL2
import Derived.Test.YtgnhkhcfelmnhaaLawL3
import Derived.Test.YtgnhkhcfelmnhaaLawL4
namespace Go.Proofs.Ytgnhkhcfelmnhaa.wireLengths
open Go.ChangeShapes Go.WideShapes Go.ChangeAt Go.RowKit
open Go.ChangeMaps (open_string shut_string)
set_option linter.unusedVariables false

theorem own : ownKnob Try.prog.godebug = none := by kernel_rfl
theorem laidOut : laidOutB Try.prog = true := by kernel_rfl

theorem walk (m n : Int) (w : World) (w0 : (Lit.int .i64 m).wf = true) (w1 : (Lit.int .i64 n).wf = true) :
    Calls Try.prog 5 #[.int .i64 m, .int .i64 n] w fun e w' => e = .returned (.bool true) ∧ Below w.heap.size w w' := by
  have hm := wf_i64 w0
  have hn := wf_i64 w1
  by_cases sm : m < -1 - m
  · by_cases e : m = n
    · subst e; exact lawL_same_n m hm w sm
    · by_cases sn : n < -1 - n
      · rcases Int.lt_trichotomy (-1 - m) (-1 - n) with h | h | h
        · exact lawL_lt_nn m n hm hn w sm sn h
        · exact absurd (by omega) e
        · rcases Nat.lt_or_ge (enc n).length (enc m).length with h2 | h2
          · exact lawL_gts_nn m n hm hn w sm sn h h2
          · exact lawL_gte_nn m n hm hn w sm sn h h2
      · rcases Int.lt_trichotomy (-1 - m) n with h | h | h
        · exact lawL_lt_np m n hm hn w sm (by omega) h
        · exact lawL_eq_np m n hm hn w sm (by omega) (by omega) (by omega) e
        · rcases Nat.lt_or_ge (enc n).length (enc m).length with h2 | h2
          · exact lawL_gts_np m n hm hn w sm (by omega) h h2
          · exact lawL_gte_np m n hm hn w sm (by omega) h h2
  · by_cases e : m = n
    · subst e; exact lawL_same_p m hm w (by omega)
    · by_cases sn : n < -1 - n
      · rcases Int.lt_trichotomy m (-1 - n) with h | h | h
        · exact lawL_lt_pn m n hm hn w (by omega) sn h
        · exact lawL_eq_pn m n hm hn w (by omega) sn (by omega) (by omega) e
        · rcases Nat.lt_or_ge (enc n).length (enc m).length with h2 | h2
          · exact lawL_gts_pn m n hm hn w (by omega) sn h h2
          · exact lawL_gte_pn m n hm hn w (by omega) sn h h2
      · rcases Int.lt_trichotomy m n with h | h | h
        · exact lawL_lt_pp m n hm hn w (by omega) (by omega) h
        · exact absurd (by omega) e
        · rcases Nat.lt_or_ge (enc n).length (enc m).length with h2 | h2
          · exact lawL_gts_pp m n hm hn w (by omega) (by omega) h h2
          · exact lawL_gte_pp m n hm hn w (by omega) (by omega) h h2

set_option maxRecDepth 100000 in
theorem lifted (os : Os) (started : os.Started) (H : Type) (enc : TypeId × Value → H) :
    ReturnsInHanded {} Try.checked os 5 .any (Rows.wireLengthsSpec.pre6 enc Try.prog Try.f5 Rows.wireLengthsRow.domain false) (Rows.wireLengthsSpec.post enc Try.prog Try.f5 false true false false) := by
  refine returnsInHanded_of_change (C := Try.checked) own started (by kernel_rfl) Try.func5
    (ChangeSpec.witness6 (enc := enc) (C := Try.checked) false ⟨#[], #[.int .i64 0, .int .i64 0], []⟩ 8 (by kernel_rfl) (by kernel_rfl) (by kernel_rfl) (by kernel_rfl)) ?_
  intro W base args ds gs before hval0 hW hcnd _
  have hval : ∀ (j : Nat) t v, Try.f5.params[j]? = some t → args[j]? = some v → Value.okWide Try.prog W .any base t v := hval0
  have hW' := hW
  obtain ⟨p, q, hA0, hV, rfl, hfz, hnd⟩ := hW
  have hA : DataW.TrodAll enc Try.prog W 0 (fun _ => true) true Try.f5.params.toList args.toList ds p := hA0
  rw [Try.params5] at hA hval
  obtain ⟨v0, vs0, d0, ds0, p0, q0, hargs, rfl, rfl, h0, r0⟩ := trodAll_cons hA
  obtain ⟨v1, vs1, d1, ds1, p1, q1, rfl, rfl, rfl, h1, r1⟩ := trodAll_cons r0
  obtain ⟨rfl, rfl, rfl⟩ := trodAll_nil r1
  obtain rfl : args = #[v0, v1] := by cases args; simp_all
  obtain ⟨rfl, rfl⟩ := trodVars_none hV
  obtain ⟨a0, rfl, rfl, rfl, w0⟩ := open_int Try.underlying3 (hval 0 3 v0 rfl rfl) h0
  obtain ⟨a1, rfl, rfl, rfl, w1⟩ := open_int Try.underlying3 (hval 1 3 v1 rfl rfl) h1
  clear hA0 hval0
  refine (walk a0 a1 W w0 w1).mono fun e W' ⟨he, bel⟩ => ?_
  subst he
  exact ⟨_, rfl, _, _, _, [], _, [], hW', trodAll_mk1 (shut_bool Try.underlying4 _), (trodAll_cons_mk (shut_int Try.underlying3 w0) (trodAll_cons_mk (shut_int Try.underlying3 w1) trodAll_mk0)), rfl, bel.frame _, fun h => by cases h⟩

theorem over : Rows.wireLengthsRow.holds Try.pinned (OpenSpec.ofChange Rows.wireLengthsSpec) :=
  OpenClaim.holds_of_wide 5 Try.f5 rfl rfl rfl rfl rfl rfl rfl ⟨rfl, rfl, rfl, rfl, rfl⟩ rfl rfl rfl rfl rfl (by kernel_rfl) Try.func5 (by kernel_rfl)
    (of_decide_eq_true (by kernel_rfl)) (by unfold Func.isWrapper; first | (rw [if_pos (by decide +kernel)]; kernel_rfl) | (rw [if_neg (by decide +kernel)]; exact ⟨rfl, rfl⟩))
    (fun os started H enc _ => lifted os started H enc)

end Go.Proofs.Ytgnhkhcfelmnhaa.wireLengths
namespace Go.Proofs.Ytgnhkhcfelmnhaa
theorem wireLengths_holds : Rows.WireLengthsSaid := wireLengths.over
#print axioms wireLengths_holds
end Go.Proofs.Ytgnhkhcfelmnhaa

