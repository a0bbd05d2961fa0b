/-
  What a cut of one line, taken from another choice, makes of an image; evictions in place of cuts.
-/
import Derived.Test.YtpojhplnhppcpaaGreatDoorQV4
namespace Go.Proofs.YtpojhplnhppcpaaGreatDoor
open Go.RowKit
/-- Cuts of the same lines. -/
def Twin : List (Int × Int) → List (Int × Int) → Prop
  | [], [] => True
  | x :: a, y :: b => x.1 = y.1 ∧ Twin a b
  | _, _ => False
theorem Twin.len : ∀ {a b : List (Int × Int)}, Twin a b → a.length = b.length
  | [], [], _ => rfl
  | x :: a, y :: b, h => by rw [List.length_cons, List.length_cons, Twin.len h.2]
  | [], _ :: _, h => h.elim
  | _ :: _, [], h => h.elim
theorem crash_zero {m : PM} {cs : List (Int × Int)} (h : cutsOk m (-1) cs = true) : (crashP m cs).1 = 0 := by
  unfold crashP
  rw [if_neg (by rw [h]; simp)]
theorem cho_ok (m : PM) (k : Int) : cutsOk m (-1) (chosenP m k) = true := choP_ok m.L 0 _ (-1) rfl (by omega)
/-! ### evictions -/
def evsC (cs : List (Int × Int)) : List (List Int) := (cs.filter fun c => decide (0 < c.2)).map fun c => evt 5 c.1 c.2 0 Z8
theorem settlesC_L : ∀ (cs : List (Int × Int)) {m m' : PM}, m.L = m'.L → (settles m cs).L = (settles m' cs).L
  | [], _, _, h => h
  | c :: r, m, m', h => by
    show (settles (m.upd c.1.toNat (·.settle c.2.toNat)) r).L = (settles (m'.upd c.1.toNat (·.settle c.2.toNat)) r).L
    refine settlesC_L r ?_
    unfold PM.upd PM.line
    simp only [h]
theorem cutsOk_congr {m m' : PM} (hl : m.L.length = m'.L.length) : ∀ (cs : List (Int × Int)) (a : Int), (∀ i : Nat, a < i → (m.line i).pend.length = (m'.line i).pend.length) → -1 ≤ a → cutsOk m a cs = true → cutsOk m' a cs = true
  | [], _, _, _, _ => rfl
  | c :: r, a, hp, ha, h => by
    unfold cutsOk at h ⊢
    simp only [Bool.and_eq_true, Bool.not_eq_true', Bool.or_eq_false_iff, Bool.not_eq_false', decide_eq_false_iff_not] at h ⊢
    obtain ⟨⟨⟨⟨h1, h2⟩, h3⟩, h4⟩, h5⟩ := h
    have hh : m'.has c.1 = true := by
      unfold PM.has at h2 ⊢
      rw [← hl]
      exact h2
    refine ⟨⟨⟨⟨h1, hh⟩, h3⟩, ?_⟩, cutsOk_congr hl r c.1 (fun i hi => hp i (by omega)) (by omega) h5⟩
    rw [← hp c.1.toNat (by omega)]
    exact h4
theorem upd_self {m : PM} {i : Nat} (hi : i < m.L.length) : m.upd i (·.settle 0) = m := by
  show PM.mk (m.L.set i ((m.L.getD i PL.zero).settle 0)) m.span m.ev = m
  rw [PL.settle_zero, List.getD_eq_getElem?_getD, List.getElem?_eq_getElem hi]
  show PM.mk (m.L.set i m.L[i]) m.span m.ev = m
  rw [List.set_getElem_self]
theorem evs_run : ∀ (cs : List (Int × Int)) (m : PM) (a : Int), -1 ≤ a → cutsOk m a cs = true → fitsP m (evsC cs) = (evsC cs).length ∧ (runP m (evsC cs)).L = (settles m cs).L
  | [], m, _, _, _ => ⟨rfl, rfl⟩
  | c :: r, m, a, ha, h => by
    unfold cutsOk at h
    simp only [Bool.and_eq_true, Bool.not_eq_true', Bool.or_eq_false_iff, Bool.not_eq_false', decide_eq_false_iff_not] at h
    obtain ⟨⟨⟨⟨h1, h2⟩, h3⟩, h4⟩, h5⟩ := h
    have hhas : 0 ≤ c.1 ∧ c.1 < m.L.length := by unfold PM.has at h2; exact of_decide_eq_true h2
    have hi : c.1.toNat < m.L.length := by omega
    show fitsP m (evsC (c :: r)) = _ ∧ (runP m (evsC (c :: r))).L = (settles (m.upd c.1.toNat (·.settle c.2.toNat)) r).L
    by_cases hz : 0 < c.2
    · have he : evsC (c :: r) = evt 5 c.1 c.2 0 Z8 :: evsC r := by
        unfold evsC
        rw [List.filter_cons_of_pos (by simpa using hz)]
        rfl
      have hev : (evictP m c.1 c.2) = (0, m.upd c.1.toNat (·.settle c.2.toNat)) := by
        unfold evictP
        rw [if_neg (by rw [h2]; simp), if_neg (by omega)]
      have hap : applyP m (evt 5 c.1 c.2 0 Z8) = (m.upd c.1.toNat (·.settle c.2.toNat)).add (evt 5 c.1 c.2 0 Z8) := by
        show (rec_ (evictP m c.1 c.2) (evt 5 c.1 c.2 0 Z8)).2 = _
        rw [rec_done (by rw [hev]), hev]
      have hab : appliesB m (evt 5 c.1 c.2 0 Z8) = true := by
        unfold appliesB
        rw [hap]
        exact decide_eq_true rfl
      have hck : cutsOk ((m.upd c.1.toNat (·.settle c.2.toNat)).add (evt 5 c.1 c.2 0 Z8)) c.1 r = true := by
        refine cutsOk_congr ?_ r c.1 (fun i hi2 => ?_) (by omega) h5
        · exact (upd_len m c.1.toNat (·.settle c.2.toNat)).symm
        · show _ = ((m.upd c.1.toNat (·.settle c.2.toNat)).line i).pend.length
          rw [upd_line hi, if_neg (by omega)]
      obtain ⟨g1, g2⟩ := evs_run r _ c.1 (by omega) hck
      rw [he]
      constructor
      · show (if appliesB m _ = true then fitsP (applyP m _) (evsC r) + 1 else 0) = _
        rw [if_pos hab, hap, g1]
        rfl
      · show (runP (applyP m (evt 5 c.1 c.2 0 Z8)) (evsC r)).L = _
        rw [hap, g2]
        exact settlesC_L r rfl
    · have he : evsC (c :: r) = evsC r := by
        unfold evsC
        rw [List.filter_cons_of_neg (by simpa using hz)]
      have hz0 : c.2.toNat = 0 := by omega
      rw [he, hz0, upd_self hi]
      exact evs_run r m c.1 (by omega) h5
theorem fits_append : ∀ {l r : List (List Int)} {m : PM}, fitsP m l = l.length → fitsP (runP m l) r = r.length → fitsP m (l ++ r) = (l ++ r).length := by
  intro l r
  induction l with
  | nil => intro m _ h; exact h
  | cons x l ih =>
    intro m h hr
    cases hb : appliesB m x
    · have : fitsP m (x :: l) = 0 := by show (if _ then _ else _) = _; rw [if_neg (by rw [hb]; simp)]
      rw [this] at h
      simp at h
    · have h1 : fitsP m (x :: l) = fitsP (applyP m x) l + 1 := by show (if _ then _ else _) = _; rw [if_pos hb]
      rw [h1] at h
      show (if _ then _ else _) = _
      rw [if_pos hb]
      show fitsP (applyP m x) (l ++ r) + 1 = _
      rw [ih (by simpa using h) hr]
      rfl
theorem run_append (m : PM) (l r : List (List Int)) : runP m (l ++ r) = runP (runP m l) r := by
  unfold runP
  rw [List.foldl_append]
theorem evs_I {cs : List (Int × Int)} (h : ∀ c ∈ cs, I64 c.1 ∧ I64 c.2) : EvI (evsC cs) := fun x hx => by
  unfold evsC at hx
  obtain ⟨c, hc, rfl⟩ := List.mem_map.1 hx
  obtain ⟨h1, h2⟩ := h c (List.mem_filter.1 hc).1
  refine ⟨rfl, fun z hz => ?_⟩
  have hZ : I64 0 := by unfold I64; omega
  have h5 : I64 5 := by unfold I64; omega
  unfold evt Z8 at hz
  simp only [List.cons_append, List.nil_append, List.mem_cons, List.not_mem_nil, or_false] at hz
  rcases hz with rfl | rfl | rfl | rfl | rfl | rfl | rfl | rfl | rfl | rfl | rfl | rfl <;> assumption
theorem evs_len (cs : List (Int × Int)) : (evsC cs).length ≤ cs.length := by
  unfold evsC
  rw [List.length_map]
  exact List.length_filter_le _ _
end Go.Proofs.YtpojhplnhppcpaaGreatDoor
