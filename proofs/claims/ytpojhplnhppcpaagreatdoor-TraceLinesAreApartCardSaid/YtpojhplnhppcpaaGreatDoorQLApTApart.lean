/-
  What a cut of one line, taken from another choice, makes of an image; evictions in place of cuts.
-/
import Derived.Test.YtpojhplnhppcpaaGreatDoorQV4
namespace Go.Proofs.YtpojhplnhppcpaaGreatDoor
open Go.RowKit
/-- The first choice, with the cut of one line from the second. -/
def mixC (one : Int) : List (Int × Int) → List (Int × Int) → List (Int × Int)
  | x :: a, y :: b => (if x.1 = one then y else x) :: mixC one a b
  | _, _ => []
/-- Cuts of the same lines. -/
def Twin : List (Int × Int) → List (Int × Int) → Prop
  | [], [] => True
  | x :: a, y :: b => x.1 = y.1 ∧ Twin a b
  | _, _ => False
theorem Twin.len : ∀ {a b : List (Int × Int)}, Twin a b → a.length = b.length
  | [], [], _ => rfl
  | x :: a, y :: b, h => by rw [List.length_cons, List.length_cons, Twin.len h.2]
  | [], _ :: _, h => h.elim
  | _ :: _, [], h => h.elim
theorem choP_twin : ∀ (L : List PL) (i d e : Nat), Twin (choP i d L) (choP i e L)
  | [], _, _, _ => trivial
  | x :: r, i, d, e => by
    unfold choP
    split
    · exact choP_twin r (i + 1) d e
    · exact ⟨rfl, choP_twin r (i + 1) _ _⟩
theorem mixC_len {one : Int} : ∀ {a b : List (Int × Int)}, Twin a b → (mixC one a b).length = a.length
  | [], [], _ => rfl
  | x :: a, y :: b, h => by
    show (mixC one a b).length + 1 = _
    rw [mixC_len h.2, List.length_cons]
  | [], _ :: _, h => h.elim
  | _ :: _, [], h => h.elim
theorem mix_ok {m : PM} {one : Int} : ∀ {a b : List (Int × Int)} {z : Int}, Twin a b → cutsOk m z a = true → cutsOk m z b = true → cutsOk m z (mixC one a b) = true
  | [], [], _, _, _, _ => rfl
  | x :: a, y :: b, z, h, h1, h2 => by
    unfold cutsOk at h1 h2
    rw [Bool.and_eq_true] at h1 h2
    have hxy := h.1
    show cutsOk m z ((if x.1 = one then y else x) :: mixC one a b) = true
    by_cases hx : x.1 = one
    · rw [if_pos hx]
      unfold cutsOk
      rw [Bool.and_eq_true]
      exact ⟨h2.1, mix_ok h.2 (by rw [← hxy]; exact h1.2) h2.2⟩
    · rw [if_neg hx]
      unfold cutsOk
      rw [Bool.and_eq_true]
      exact ⟨h1.1, mix_ok h.2 h1.2 (by rw [hxy]; exact h2.2)⟩
  | [], _ :: _, _, h, _, _ => h.elim
  | _ :: _, [], _, h, _, _ => h.elim
theorem mix_keep {one i : Int} : ∀ {a b : List (Int × Int)}, Twin a b → keepOf (mixC one a b) i = if i = one then keepOf b i else keepOf a i
  | [], [], _ => by
    show keepOf [] i = _
    split <;> rfl
  | x :: a, y :: b, h => by
    have hxy := h.1
    show keepOf ((if x.1 = one then y else x) :: mixC one a b) i = _
    rw [keep_cons, mix_keep h.2, keep_cons, keep_cons]
    by_cases hx : x.1 = one
    · rw [if_pos hx]
      by_cases hi : y.1 = i
      · have h1 : i = one := by omega
        rw [if_pos hi, if_pos h1, if_pos hi]
      · rw [if_neg hi, if_neg hi, if_neg (show ¬ x.1 = i by omega)]
    · rw [if_neg hx]
      by_cases hi : x.1 = i
      · have h1 : ¬ i = one := by omega
        rw [if_pos hi, if_neg h1, if_pos hi]
      · rw [if_neg hi, if_neg hi, if_neg (show ¬ y.1 = i by omega)]
  | [], _ :: _, h => h.elim
  | _ :: _, [], h => h.elim
theorem mix_mem {one : Int} : ∀ {a b : List (Int × Int)} {c : Int × Int}, c ∈ mixC one a b → c ∈ a ∨ c ∈ b
  | [], [], _, h => by cases h
  | [], _ :: _, _, h => by cases h
  | _ :: _, [], _, h => by cases h
  | x :: a, y :: b, c, h => by
    rcases List.mem_cons.1 (show c ∈ (if x.1 = one then y else x) :: mixC one a b from h) with h1 | h1
    · subst h1
      split
      · exact .inr (by simp)
      · exact .inl (by simp)
    · rcases mix_mem h1 with h2 | h2
      · exact .inl (by simp [h2])
      · exact .inr (by simp [h2])
theorem lost_zero : PL.zero.lost = PL.zero := rfl
theorem lost_line (m : PM) (j : Nat) : (m.lost).line j = (m.line j).lost := by
  unfold PM.lost PM.line
  simp only [List.getD_eq_getElem?_getD, List.getElem?_map]
  cases h : m.L[j]? with
  | none => simp [lost_zero]
  | some x => rfl
/-- What a failure leaves of a line. -/
theorem crash_line {m : PM} {cs : List (Int × Int)} (h : cutsOk m (-1) cs = true) (j : Nat) : (crashP m cs).2.line j = ((m.line j).settle (keepOf cs j)).lost := by
  have hb : ∀ {cs : List (Int × Int)} {a : Int}, cutsOk m a cs = true → ∀ c ∈ cs, c.1 < m.L.length := by
    intro cs
    induction cs with
    | nil => intro a _ c hc; cases hc
    | cons x r ih =>
      intro a h c hc
      unfold cutsOk at h
      simp only [Bool.and_eq_true, Bool.not_eq_true', Bool.or_eq_false_iff, Bool.not_eq_false'] at h
      rcases List.mem_cons.1 hc with rfl | hc
      · have := h.1.1.1.2
        unfold PM.has at this
        have := of_decide_eq_true this
        omega
      · exact ih h.2 c hc
  unfold crashP
  rw [if_neg (by rw [h]; simp)]
  show ((settles m cs).lost).line j = _
  rw [lost_line, settles_line cs m (-1) (Int.le_refl _) (cutsOk_asc h) (hb h) j]
theorem crash_zero {m : PM} {cs : List (Int × Int)} (h : cutsOk m (-1) cs = true) : (crashP m cs).1 = 0 := by
  unfold crashP
  rw [if_neg (by rw [h]; simp)]
theorem cho_ok (m : PM) (k : Int) : cutsOk m (-1) (chosenP m k) = true := choP_ok m.L 0 _ (-1) rfl (by omega)
/-- The mixed choice, line by line. -/
theorem mix_line {m : PM} {a b : List (Int × Int)} {one : Nat} (ht : Twin a b) (ha : cutsOk m (-1) a = true) (hb : cutsOk m (-1) b = true) (j : Nat) :
    (crashP m (mixC one a b)).2.line j = if j = one then (crashP m b).2.line j else (crashP m a).2.line j := by
  rw [crash_line (mix_ok ht ha hb), mix_keep ht]
  by_cases h : j = one
  · rw [if_pos h, if_pos (by omega), crash_line hb]
  · rw [if_neg h, if_neg (by omega), crash_line ha]
/-! ### evictions -/
end Go.Proofs.YtpojhplnhppcpaaGreatDoor
