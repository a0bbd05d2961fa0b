/-
  A memory that calls made is what a replay of its events makes, but for the span. The choices of a failure as plain data: digits of a mixed base; what a cut does to one line. What trace's Check, Replay and replayTo do. What trace's whole and Cuts do.
-/
import Derived.Test.YtpojhplnhppcpaaGreatDoorQN17
import Derived.Test.YtpojhplnhppcpaaGreatDoorQU1
namespace Go.Proofs.YtpojhplnhppcpaaGreatDoor
open Go.RowKit
theorem run_snoc (m : PM) (l : List (List Int)) (e : List Int) : runP m (l ++ [e]) = applyP (runP m l) e := by
  unfold runP
  rw [List.foldl_append]
  rfl
theorem fits_snoc (l : List (List Int)) (e : List Int) : ∀ {m : PM}, fitsP m l = l.length → appliesB (runP m l) e = true → fitsP m (l ++ [e]) = l.length + 1 := by
  induction l with
  | nil =>
    intro m _ h
    show (if appliesB m e = true then _ else _) = _
    rw [if_pos (show appliesB m e = true from h)]
    rfl
  | cons x r ih =>
    intro m h he
    have hx : appliesB m x = true := by
      cases hb : appliesB m x
      · have : fitsP m (x :: r) = 0 := by show (if _ then _ else _) = _; rw [if_neg (by rw [hb]; simp)]
        rw [this] at h
        simp at h
      · rfl
    have h1 : fitsP m (x :: r) = fitsP (applyP m x) r + 1 := by show (if _ then _ else _) = _; rw [if_pos hx]
    rw [h1] at h
    show (if _ then _ else _) = _
    rw [if_pos hx]
    show fitsP (applyP m x) (r ++ [e]) + 1 = _
    rw [ih (by simpa using h) he]
    rfl
/-- A prefix of what is recorded as it is, is. -/
theorem fits_take (l : List (List Int)) : ∀ {m : PM} (n : Nat), n ≤ fitsP m l → fitsP m (l.take n) = n := by
  induction l with
  | nil => intro m n h; have : n = 0 := by simpa [fitsP] using h
           subst this; rfl
  | cons x r ih =>
    intro m n h
    cases n with
    | zero => rfl
    | succ n =>
      cases hb : appliesB m x
      · have : fitsP m (x :: r) = 0 := by show (if _ then _ else _) = _; rw [if_neg (by rw [hb]; simp)]
        omega
      · have h1 : fitsP m (x :: r) = fitsP (applyP m x) r + 1 := by show (if _ then _ else _) = _; rw [if_pos hb]
        rw [h1] at h
        rw [List.take_succ_cons]
        show (if _ then _ else _) = _
        rw [if_pos hb, ih n (by omega)]
theorem fits_ev (l : List (List Int)) : ∀ {m : PM}, fitsP m l = l.length → (runP m l).ev = m.ev ++ l := by
  induction l with
  | nil => intro m _; simp [runP]
  | cons x r ih =>
    intro m h
    cases hb : appliesB m x
    · have : fitsP m (x :: r) = 0 := by show (if _ then _ else _) = _; rw [if_neg (by rw [hb]; simp)]
      rw [this] at h
      simp at h
    · have h1 : fitsP m (x :: r) = fitsP (applyP m x) r + 1 := by show (if _ then _ else _) = _; rw [if_pos hb]
      rw [h1] at h
      have h2 := ih (m := applyP m x) (by simpa using h)
      have h3 : (applyP m x).ev = m.ev ++ [x] := of_decide_eq_true hb
      show (runP (applyP m x) r).ev = _
      rw [h2, h3]
      simp
/-! ### calls, with another span -/
def PM.sp (m : PM) (s : Int) : PM := { m with span := s }
theorem PM.sp_sp (m : PM) (s t : Int) : (m.sp s).sp t = m.sp t := rfl
theorem PM.sp_self (m : PM) : m.sp m.span = m := rfl
theorem flush_sp (m : PM) (s a : Int) : flushP (m.sp s) a = ((flushP m a).1, (flushP m a).2.sp s) := by
  unfold flushP
  by_cases h : m.has a = false
  · rw [if_pos h, if_pos (show (m.sp s).has a = false from h)]
  · rw [if_neg h, if_neg (show ¬ (m.sp s).has a = false from h)]
    rfl
theorem evict_sp (m : PM) (s a v : Int) : evictP (m.sp s) a v = ((evictP m a v).1, (evictP m a v).2.sp s) := by
  unfold evictP
  by_cases h : m.has a = false
  · rw [if_pos h, if_pos (show (m.sp s).has a = false from h)]
  · rw [if_neg h, if_neg (show ¬ (m.sp s).has a = false from h)]
    by_cases h2 : v < 1 ∨ ((m.line a.toNat).pend.length : Int) < v
    · rw [if_pos h2, if_pos (show v < 1 ∨ (((m.sp s).line a.toNat).pend.length : Int) < v from h2)]
    · rw [if_neg h2, if_neg (show ¬ (v < 1 ∨ (((m.sp s).line a.toNat).pend.length : Int) < v) from h2)]
      rfl
theorem heal_sp (m : PM) (s a : Int) (ws : List Int) : healP (m.sp s) a ws = ((healP m a ws).1, (healP m a ws).2.sp s) := by
  unfold healP
  by_cases h : m.has a = false
  · rw [if_pos h, if_pos (show (m.sp s).has a = false from h)]
  · rw [if_neg h, if_neg (show ¬ (m.sp s).has a = false from h)]
    split <;> rfl
theorem rot_sp (m : PM) (s a : Int) (ws : List Int) (c : Int) : rotP (m.sp s) a ws c = ((rotP m a ws c).1, (rotP m a ws c).2.sp s) := by
  unfold rotP
  by_cases h : m.has a = false
  · rw [if_pos h, if_pos (show (m.sp s).has a = false from h)]
  · rw [if_neg h, if_neg (show ¬ (m.sp s).has a = false from h)]
    by_cases h1 : validB ws c = false
    · rw [if_pos h1, if_pos h1]
    · rw [if_neg h1, if_neg h1]
      by_cases h2 : (m.line a.toNat).pend ≠ []
      · rw [if_pos h2, if_pos (show ((m.sp s).line a.toNat).pend ≠ [] from h2)]
      · rw [if_neg h2, if_neg (show ¬ ((m.sp s).line a.toNat).pend ≠ [] from h2)]
        rfl
theorem rec_sp (r : Int × PM) (s : Int) (e : List Int) : rec_ (r.1, r.2.sp s) e = ((rec_ r e).1, (rec_ r e).2.sp s) := by
  unfold rec_
  by_cases h : r.1 = 0
  · rw [if_pos h, if_pos (show (r.1, r.2.sp s).1 = 0 from h)]
    rfl
  · rw [if_neg h, if_neg (show ¬ (r.1, r.2.sp s).1 = 0 from h)]
/-- What a call that fails leaves is as before. -/
theorem put_fail {m : PM} {a v : Int} (h : (putP m a v).1 ≠ 0) : (putP m a v).2 = m := by unfold putP at h ⊢; (repeat' split at h) <;> simp_all
theorem flush_fail {m : PM} {a : Int} (h : (flushP m a).1 ≠ 0) : (flushP m a).2 = m := by unfold flushP at h ⊢; (repeat' split at h) <;> simp_all
theorem evict_fail {m : PM} {a v : Int} (h : (evictP m a v).1 ≠ 0) : (evictP m a v).2 = m := by unfold evictP at h ⊢; (repeat' split at h) <;> simp_all
theorem heal_fail {m : PM} {a : Int} {ws : List Int} (h : (healP m a ws).1 ≠ 0) : (healP m a ws).2 = m := by unfold healP at h ⊢; (repeat' split at h) <;> simp_all
theorem rot_fail {m : PM} {a : Int} {ws : List Int} {c : Int} (h : (rotP m a ws c).1 ≠ 0) : (rotP m a ws c).2 = m := by unfold rotP at h ⊢; (repeat' split at h) <;> simp_all
theorem rec_fail {r : Int × PM} {e : List Int} (h : r.1 ≠ 0) : rec_ r e = r := by unfold rec_; rw [if_neg h]
theorem rec_done {r : Int × PM} {e : List Int} (h : r.1 = 0) : rec_ r e = (0, r.2.add e) := by unfold rec_; rw [if_pos h]
/-! ### a memory that its events make -/
structure Replays (img : List (List Int × Int)) (m : PM) : Prop where
  fits : fitsP (fromP img) m.ev = m.ev.length
  run : ∃ s, runP (fromP img) m.ev = m.sp s
theorem Replays.from_ (img : List (List Int × Int)) : Replays img (fromP img) := ⟨rfl, 0, rfl⟩
theorem Replays.same {img : List (List Int × Int)} {m m' : PM} (h : Replays img m) (hL : m'.L = m.L) (he : m'.ev = m.ev) : Replays img m' := by
  obtain ⟨s, hs⟩ := h.run
  refine ⟨by rw [he]; exact h.fits, s, ?_⟩
  rw [he, hs]
  show PM.mk m.L s m.ev = PM.mk m'.L s m'.ev
  rw [hL, he]
theorem Replays.snoc {img : List (List Int × Int)} {m m' : PM} {e : List Int} (h : Replays img m) (he : m'.ev = m.ev ++ [e]) (hs : ∀ s, ∃ s', applyP (m.sp s) e = m'.sp s') : Replays img m' := by
  obtain ⟨s, hr⟩ := h.run
  obtain ⟨s', hs'⟩ := hs s
  refine ⟨?_, s', ?_⟩
  · rw [he, fits_snoc m.ev e h.fits ?_]
    · simp
    · rw [hr]
      unfold appliesB
      rw [hs']
      exact decide_eq_true he
  · rw [he, run_snoc, hr, hs']
theorem Replays.rec_ {img : List (List Int × Int)} {m : PM} {r : Int × PM} {e : List Int} (h : Replays img m) (hf : r.1 ≠ 0 → r.2 = m) (hev : r.2.ev = m.ev) (hs : r.1 = 0 → ∀ s, ∃ s', applyP (m.sp s) e = (r.2.add e).sp s') : Replays img (Go.Proofs.YtpojhplnhppcpaaGreatDoor.rec_ r e).2 := by
  by_cases h0 : r.1 = 0
  · rw [rec_done h0]
    exact h.snoc (by show r.2.ev ++ [e] = _; rw [hev]) (hs h0)
  · rw [rec_fail h0, hf h0]
    exact h
/-- What is played: calls without failures, and without Forget. -/
def playP (m : PM) (x : POp) : PM := if 0 ≤ x.k ∧ x.k ≤ 7 then (doP m x).2 else m
def playsP (m : PM) (l : List POp) : PM := l.foldl playP m
theorem store_replays {img : List (List Int × Int)} {m : PM} (h : Replays img m) (h0 : 0 ≤ m.span) (k a v : Int) (hk : k = 1 ∨ k = 2) : Replays img (storeP m k a v).2 := by
  unfold storeP
  refine h.rec_ put_fail (put_ev m a v) fun hp s => ⟨m.span, ?_⟩
  have hspan : spanP (m.sp s) m.span = m := by
    show PM.mk m.L (max m.span 0) m.ev = m
    rw [Int.max_eq_left h0]
  have hst : ∀ k, (storeP m k a v).2 = ((putP m a v).2.add (evt k a v m.span Z8)) := fun k => by unfold storeP; rw [rec_done hp]
  have hsp : (putP m a v).2.span = m.span := by unfold putP; (repeat' split) <;> rfl
  rcases hk with rfl | rfl
  · show (storeP (spanP (m.sp s) m.span) 1 a v).2 = _
    rw [hspan, hst]
    show _ = PM.mk _ m.span _
    rw [← hsp]
    rfl
  · show (storeP (spanP (m.sp s) m.span) 2 a v).2 = _
    rw [hspan, hst]
    show _ = PM.mk _ m.span _
    rw [← hsp]
    rfl
theorem play_replays {img : List (List Int × Int)} {m : PM} (h : Replays img m) (hm : m.Ok) (x : POp) : Replays img (playP m x) := by
  unfold playP
  split
  · rename_i hk
    have hc : x.k = 0 ∨ x.k = 1 ∨ x.k = 2 ∨ x.k = 3 ∨ x.k = 4 ∨ x.k = 5 ∨ x.k = 6 ∨ x.k = 7 := by omega
    unfold doP
    rcases hc with hc | hc | hc | hc | hc | hc | hc | hc <;> rw [hc]
    · exact store_replays h hm.span0 1 x.a x.b (.inl rfl)
    · exact store_replays h hm.span0 2 x.a x.b (.inr rfl)
    · exact h.same rfl rfl
    · refine h.rec_ flush_fail (flush_ev m x.a) fun hp s => ⟨s, ?_⟩
      show (Go.Proofs.YtpojhplnhppcpaaGreatDoor.rec_ (flushP (m.sp s) x.a) (evt 3 x.a 0 0 Z8)).2 = _
      rw [flush_sp, rec_sp, rec_done hp]
    · exact h.snoc rfl fun s => ⟨s, rfl⟩
    · refine h.rec_ evict_fail (evict_ev m x.a x.b) fun hp s => ⟨s, ?_⟩
      show (Go.Proofs.YtpojhplnhppcpaaGreatDoor.rec_ (evictP (m.sp s) x.a x.b) (evt 5 x.a x.b 0 Z8)).2 = _
      rw [evict_sp, rec_sp, rec_done hp]
    · refine h.rec_ heal_fail (heal_ev m x.a x.ws) fun hp s => ⟨s, ?_⟩
      show (Go.Proofs.YtpojhplnhppcpaaGreatDoor.rec_ (healP (m.sp s) x.a x.ws) (evt 6 x.a 0 0 x.ws)).2 = _
      rw [heal_sp, rec_sp, rec_done hp]
    · refine h.rec_ rot_fail (rot_ev m x.a x.ws x.b) fun hp s => ⟨s, ?_⟩
      show (Go.Proofs.YtpojhplnhppcpaaGreatDoor.rec_ (rotP (m.sp s) x.a x.ws x.b) (evt 7 x.a x.b 0 x.ws)).2 = _
      rw [rot_sp, rec_sp, rec_done hp]
  · exact h
end Go.Proofs.YtpojhplnhppcpaaGreatDoor
namespace Go.Proofs.YtpojhplnhppcpaaGreatDoor
open Go.RowKit
/-- The product of one more than the numbers of pending stores, at most the greatest word. -/
def prodP : Nat → List PL → Nat
  | a, [] => a
  | a, x :: r => if 1099511627775 / (x.pend.length + 1) < a then 1099511627775 else prodP (a * (x.pend.length + 1)) r
def productP (m : PM) : Nat := prodP 1 m.L
/-- The choice by a number, from line i on. -/
def choP : Nat → Nat → List PL → List (Int × Int)
  | _, _, [] => []
  | i, d, x :: r => if x.pend.length = 0 then choP (i + 1) d r else ((i : Int), ((d % (x.pend.length + 1) : Nat) : Int)) :: choP (i + 1) (d / (x.pend.length + 1)) r
def restZ (k : Int) : Nat := if k < 0 then (-(k + 1)).toNat else k.toNat
def chosenP (m : PM) (k : Int) : List (Int × Int) := choP 0 (restZ k) m.L
def allP : List PL → Nat
  | [] => 1
  | x :: r => (x.pend.length + 1) * allP r
theorem allP_pos : ∀ L : List PL, 0 < allP L
  | [] => Nat.one_pos
  | _ :: r => Nat.mul_pos (Nat.succ_pos _) (allP_pos r)
theorem prodP_pos : ∀ (L : List PL) (a : Nat), 0 < a → 0 < prodP a L
  | [], a, h => h
  | x :: r, a, h => by
    unfold prodP
    split
    · omega
    · exact prodP_pos r _ (Nat.mul_pos h (Nat.succ_pos _))
theorem prodP_le : ∀ (L : List PL) (a : Nat), a ≤ 1099511627775 → prodP a L ≤ 1099511627775
  | [], a, h => h
  | x :: r, a, h => by
    unfold prodP
    split
    · omega
    · rename_i h1
      exact prodP_le r _ ((Nat.le_div_iff_mul_le (Nat.succ_pos _)).1 (Nat.le_of_not_lt h1))
theorem prodP_all : ∀ (L : List PL) (a : Nat), prodP a L ≠ 1099511627775 → prodP a L = a * allP L
  | [], a, _ => by simp [prodP, allP]
  | x :: r, a, h => by
    unfold prodP at h ⊢
    split
    · rename_i h1
      rw [if_pos h1] at h
      exact absurd rfl h
    · rename_i h1
      rw [if_neg h1] at h
      rw [prodP_all r _ h, Nat.mul_assoc]
      rfl
/-- Two choices are the same if their numbers leave the same remainder. -/
theorem choP_eq : ∀ (L : List PL) (i a b : Nat), choP i a L = choP i b L ↔ a % allP L = b % allP L
  | [], i, a, b => by simp [choP, allP, Nat.mod_one]
  | x :: r, i, a, b => by
    unfold choP allP
    by_cases h : x.pend.length = 0
    · rw [if_pos h, if_pos h, h, Nat.zero_add, Nat.one_mul]
      exact choP_eq r (i + 1) a b
    · rw [if_neg h, if_neg h, Nat.mod_mul, Nat.mod_mul]
      simp only [List.cons.injEq, Prod.mk.injEq, true_and, Int.ofNat_inj]
      rw [choP_eq r (i + 1)]
      generalize x.pend.length + 1 = n at *
      constructor
      · rintro ⟨h1, h2⟩
        rw [h1, h2]
      · intro h3
        have hn : 0 < n ∨ n = 0 := by omega
        rcases hn with hn | hn
        · have e1 := congrArg (· % n) h3
          have e2 := congrArg (· / n) h3
          simp only [Nat.add_mul_mod_self_left, Nat.mod_mod, Nat.add_mul_div_left _ _ hn, Nat.div_eq_of_lt (Nat.mod_lt _ hn), Nat.zero_add] at e1 e2
          exact ⟨e1, e2⟩
        · subst hn
          simp only [Nat.mod_zero, Nat.zero_mul, Nat.add_zero, Nat.div_zero] at h3 ⊢
          exact ⟨h3, trivial⟩
/-! ### cuts -/
/-- How much a line keeps. -/
def keepOf (cs : List (Int × Int)) (i : Int) : Nat := match cs.find? (fun c => c.1 == i) with | some c => c.2.toNat | none => 0
/-- Cuts of ascending lines. -/
def Asc : Int → List (Int × Int) → Prop
  | _, [] => True
  | last, c :: r => last < c.1 ∧ Asc c.1 r
theorem Asc.mono {a b : Int} (h : b ≤ a) : ∀ {cs : List (Int × Int)}, Asc a cs → Asc b cs
  | [], _ => trivial
  | _ :: _, h1 => ⟨Int.lt_of_le_of_lt h h1.1, h1.2⟩
theorem Asc.ne {i : Int} : ∀ {cs : List (Int × Int)} {a : Int}, Asc a cs → i ≤ a → keepOf cs i = 0
  | [], _, _, _ => rfl
  | c :: r, a, h, hi => by
    have h1 := h.1
    have h2 := Asc.ne (i := i) h.2 (by omega)
    unfold keepOf at h2 ⊢
    rw [List.find?_cons_of_neg (by simp; omega)]
    exact h2
theorem keep_cons {c : Int × Int} {r : List (Int × Int)} (i : Int) : keepOf (c :: r) i = if c.1 = i then c.2.toNat else keepOf r i := by
  by_cases hc : c.1 = i
  · unfold keepOf
    rw [if_pos hc, List.find?_cons_of_pos (by simpa using hc)]
  · rw [if_neg hc]
    unfold keepOf
    rw [List.find?_cons_of_neg (by simpa using hc)]
theorem cutsOk_asc {m : PM} : ∀ {cs : List (Int × Int)} {a : Int}, cutsOk m a cs = true → Asc a cs
  | [], _, _ => trivial
  | c :: r, a, h => by
    unfold cutsOk at h
    simp only [Bool.and_eq_true, Bool.not_eq_true', Bool.or_eq_false_iff, decide_eq_false_iff_not] at h
    exact ⟨by omega, cutsOk_asc h.2⟩
theorem PL.settle_zero (l : PL) : l.settle 0 = l := by unfold PL.settle; rw [if_pos rfl]
theorem upd_line {m : PM} {i : Nat} {f : PL → PL} (hi : i < m.L.length) (j : Nat) : (m.upd i f).line j = if j = i then f (m.line i) else m.line j := by
  unfold PM.line PM.upd
  simp only [List.getD_eq_getElem?_getD, List.getElem?_set]
  by_cases hj : i = j
  · subst hj
    rw [if_pos rfl, if_pos hi, if_pos rfl]
    rfl
  · rw [if_neg hj, if_neg (fun e => hj e.symm)]
theorem upd_len (m : PM) (i : Nat) (f : PL → PL) : (m.upd i f).L.length = m.L.length := by unfold PM.upd; simp
theorem settles_len : ∀ (cs : List (Int × Int)) (m : PM), (settles m cs).L.length = m.L.length
  | [], _ => rfl
  | c :: r, m => by
    show (settles (m.upd c.1.toNat (·.settle c.2.toNat)) r).L.length = _
    rw [settles_len r, upd_len]
/-- What cuts make of a line. -/
theorem settles_line : ∀ (cs : List (Int × Int)) (m : PM) (a : Int), -1 ≤ a → Asc a cs → (∀ c ∈ cs, c.1 < m.L.length) → ∀ i : Nat, (settles m cs).line i = (m.line i).settle (keepOf cs i)
  | [], m, _, _, _, _, i => by
    show m.line i = (m.line i).settle 0
    rw [PL.settle_zero]
  | c :: r, m, a, ha, h, hb, i => by
    have h1 := h.1
    have hc : c.1.toNat < m.L.length := by have := hb c (by simp); omega
    show (settles (m.upd c.1.toNat (·.settle c.2.toNat)) r).line i = _
    rw [settles_line r _ c.1 (by omega) h.2 (fun d hd => by rw [upd_len]; exact hb d (by simp [hd])) i, upd_line hc, keep_cons]
    by_cases hi : i = c.1.toNat
    · have hz : keepOf r (i : Int) = 0 := h.2.ne (by omega)
      rw [if_pos hi, hz, PL.settle_zero, if_pos (by omega), hi]
    · rw [if_neg hi, if_neg (by omega)]
/-- The choices are cuts that a failure takes. -/
theorem choP_ok {m : PM} : ∀ (L : List PL) (i d : Nat) (a : Int), m.L.drop i = L → a < i → cutsOk m a (choP i d L) = true
  | [], _, _, _, _, _ => rfl
  | x :: r, i, d, a, h, ha => by
    have hi : i < m.L.length := by
      apply Nat.lt_of_not_le
      intro hle
      rw [List.drop_eq_nil_of_le hle] at h
      cases h
    rw [List.drop_eq_getElem_cons hi] at h
    simp only [List.cons.injEq] at h
    unfold choP
    split
    · exact choP_ok r (i + 1) d a h.2 (by omega)
    · have hx : m.line i = x := by
        unfold PM.line
        rw [List.getD_eq_getElem?_getD, List.getElem?_eq_getElem hi, ← h.1]
        rfl
      have hm : d % (x.pend.length + 1) < x.pend.length + 1 := Nat.mod_lt d (Nat.succ_pos x.pend.length)
      show (!(decide ((i : Int) ≤ a) || !m.has (i : Int) || decide (((d % (x.pend.length + 1) : Nat) : Int) < 0) || decide (((m.line ((i : Int)).toNat).pend.length : Int) < ((d % (x.pend.length + 1) : Nat) : Int))) && cutsOk m (i : Int) (choP (i + 1) (d / (x.pend.length + 1)) r)) = true
      rw [choP_ok r (i + 1) _ (i : Int) h.2 (by omega)]
      have e1 : m.has (i : Int) = true := by unfold PM.has; exact decide_eq_true (by omega)
      rw [e1, Int.toNat_natCast, hx, decide_eq_false (by omega), decide_eq_false (by omega), decide_eq_false (by omega)]
      rfl
end Go.Proofs.YtpojhplnhppcpaaGreatDoor
namespace Go.Proofs.YtpojhplnhppcpaaGreatDoor
open Go.RowKit Go.Maps
/-- What the specification's Check answers. -/
def checkP (img : List (List Int × Int)) (l : List (List Int)) : Int × Int :=
  if rightB img = false then (0, 1) else if fitsP (fromP img) l < l.length then (((fitsP (fromP img) l : Nat) : Int), 3) else (((fitsP (fromP img) l : Nat) : Int), 0)
def atE (img : List (List Int × Int)) (l : List (List Int)) (n : Int) : Int :=
  if rightB img = false ∨ n < 0 ∨ (l.length : Int) < n then 1 else if fitsP (fromP img) (l.take n.toNat) < n.toNat then 3 else 0
theorem checkP_0 {img : List (List Int × Int)} {l : List (List Int)} (h : rightB img = false) : checkP img l = (0, 1) := by unfold checkP; rw [if_pos h]
theorem checkP_1 {img : List (List Int × Int)} {l : List (List Int)} (h : rightB img = true) (h2 : fitsP (fromP img) l < l.length) : checkP img l = (((fitsP (fromP img) l : Nat) : Int), 3) := by unfold checkP; rw [if_neg (by rw [h]; simp), if_pos h2]
theorem checkP_2 {img : List (List Int × Int)} {l : List (List Int)} (h : rightB img = true) (h2 : fitsP (fromP img) l = l.length) : checkP img l = ((l.length : Int), 0) := by unfold checkP; rw [if_neg (by rw [h]; simp), if_neg (by omega), h2]
set_option maxRecDepth 100000 in
set_option maxHeartbeats 8000000 in
set_option linter.unusedSimpArgs false in
theorem tcheck_any (img : List (List Int × Int)) (l : List (List Int)) (v lv : Value) (w : World) (h8 : ∀ x ∈ img, x.1.length = 8) (hn : img.length ≤ 5000) (hs : Rd w v img.length (iv (flatI img)))
    (hl : EvI l) (hll : l.length ≤ 400) (hlv : Rd w lv l.length (iv l.flatten)) (hT : Tab w) :
    Calls Tryz.prog 17 #[v, lv] w fun e w' => e = .returned (.tuple #[.int .i64 (checkP img l).1, .int .i64 (checkP img l).2]) ∧ Below w.heap.size w w' := by
  have HC := Lib.hid (replay_any img l v lv w h8 hn hs hl hll hlv hT)
  obtain ⟨A, cap, rfl, _⟩ := hs
  obtain ⟨A2, cap2, rfl, _⟩ := hlv
  obtain ⟨C, hC⟩ : ∃ C, checkP img l = C := ⟨_, rfl⟩
  rw [hC]
  have HCK := Lib.hid hC
  clear h8 hl hT hC
  go_enter Tryz.func17, Tryz.ntmps17
  go_wp2_with fail
  refine HC.out.mono ?_
  rintro e w1 ⟨hp, hb⟩
  have HB := Lib.hid hb
  clear hb HC
  rcases hp with ⟨h1, rfl⟩ | ⟨h1, h2, rfl⟩ | ⟨h1, h2, p, rfl, _⟩
  · obtain rfl := HCK.out.symm.trans (checkP_0 h1)
    go_wp2_with fail
    go_ret2
    exact ⟨rfl, HB.out⟩
  · obtain rfl := HCK.out.symm.trans (checkP_1 h1 h2)
    clear h2
    go_wp2_with fail
    go_ret2
    exact ⟨rfl, HB.out⟩
  · obtain rfl := HCK.out.symm.trans (checkP_2 h1 h2)
    clear h2
    go_wp2_with fail
    go_ret2
    exact ⟨rfl, HB.out⟩
/-- What Replay answers: the memory, if there is one. -/
def RepPost (img : List (List Int × Int)) (l : List (List Int)) (w : World) (e : Ending) (w' : World) : Prop :=
  ((checkP img l).2 ≠ 0 ∧ e = .returned (.tuple #[.pointer none, .int .i64 (checkP img l).2])) ∨
  ((checkP img l).2 = 0 ∧ rightB img = true ∧ fitsP (fromP img) l = l.length ∧ ∃ p, e = .returned (.tuple #[.pointer (some ⟨p, 0, none⟩), .int .i64 0]) ∧ Rep w' p (runP (fromP img) l) (New w w'))
set_option maxRecDepth 100000 in
set_option maxHeartbeats 8000000 in
set_option linter.unusedSimpArgs false in
theorem treplay_any (img : List (List Int × Int)) (l : List (List Int)) (v lv : Value) (w : World) (h8 : ∀ x ∈ img, x.1.length = 8) (hn : img.length ≤ 5000) (hs : Rd w v img.length (iv (flatI img)))
    (hl : EvI l) (hll : l.length ≤ 400) (hlv : Rd w lv l.length (iv l.flatten)) (hT : Tab w) :
    Calls Tryz.prog 21 #[v, lv] w fun e w' => RepPost img l w e w' ∧ Below w.heap.size w w' := by
  have HC := Lib.hid (replay_any img l v lv w h8 hn hs hl hll hlv hT)
  obtain ⟨A, cap, rfl, _⟩ := hs
  obtain ⟨A2, cap2, rfl, _⟩ := hlv
  have HPO : Hid (∀ e w', RepPost img l w e w' = (((checkP img l).2 ≠ 0 ∧ e = .returned (.tuple #[.pointer none, .int .i64 (checkP img l).2])) ∨
    ((checkP img l).2 = 0 ∧ rightB img = true ∧ fitsP (fromP img) l = l.length ∧ ∃ p, e = .returned (.tuple #[.pointer (some ⟨p, 0, none⟩), .int .i64 0]) ∧ Rep w' p (runP (fromP img) l) (New w w')))) := Lib.hid fun _ _ => rfl
  obtain ⟨PO, hPO⟩ : ∃ PO, RepPost img l w = PO := ⟨_, rfl⟩
  rw [hPO] at HPO ⊢
  clear h8 hl hT hPO
  go_enter Tryz.func21, Tryz.ntmps21
  go_wp2_with fail
  refine HC.out.mono ?_
  rintro e w1 ⟨hp, hb⟩
  have HB := Lib.hid hb
  clear hb HC
  rcases hp with ⟨h1, rfl⟩ | ⟨h1, h2, rfl⟩ | ⟨h1, h2, p, rfl, h3⟩
  · go_wp2_with fail
    go_ret2
    exact ⟨by rw [HPO.out, checkP_0 h1]; exact .inl ⟨by decide, rfl⟩, HB.out⟩
  · have H2 := Lib.hid h2
    clear h2
    go_wp2_with fail
    go_ret2
    exact ⟨by rw [HPO.out, checkP_1 h1 H2.out]; exact .inl ⟨show (3 : Int) ≠ 0 by decide, rfl⟩, HB.out⟩
  · have H2 := Lib.hid h2
    have H3 := Lib.hid h3
    clear h2 h3
    go_wp2_with fail
    go_ret2
    exact ⟨by rw [HPO.out, checkP_2 h1 H2.out]; exact .inr ⟨rfl, h1, H2.out, p, rfl, H3.out⟩, HB.out⟩
theorem iv_take12 {l : List (List Int)} {n j : Nat} {u : Value} (h : (iv (l.take n).flatten)[j]? = some u) : (iv l.flatten)[j]? = some u := by
  have h1 : l.flatten = (l.take n).flatten ++ (l.drop n).flatten := by rw [← List.flatten_append, List.take_append_drop]
  rw [h1]
  have hj := (List.getElem?_eq_some_iff.1 h).1
  unfold iv at h hj ⊢
  rw [List.map_append, List.getElem?_append_left (by simpa using hj)]
  exact h
theorem Rd.takeE {w : World} {A : Option Addr} {cap : Nat} {l : List (List Int)} (h : Rd w (.slice A l.length cap) l.length (iv l.flatten)) {n : Nat} (hn : n ≤ l.length) : Rd w (.slice A n cap) n (iv (l.take n).flatten) := by
  obtain ⟨A', cap', hv, h1, h2, h3⟩ := h
  simp only [Value.slice.injEq, true_and] at hv
  obtain ⟨rfl, rfl⟩ := hv
  refine ⟨A, cap, rfl, Nat.le_trans hn h1, h2, fun h0 => ?_⟩
  obtain ⟨b, o, e, hb, hc⟩ := h3 (by omega)
  exact ⟨b, o, e, hb, fun j u hj => hc j u (iv_take12 hj)⟩
theorem atE_ok {img : List (List Int × Int)} {l : List (List Int)} {n : Int} (h : atE img l n = 0) : rightB img = true ∧ 0 ≤ n ∧ n ≤ (l.length : Int) ∧ fitsP (fromP img) (l.take n.toNat) = n.toNat := by
  unfold atE at h
  split at h
  · omega
  · split at h
    · omega
    · rename_i h1 h2
      have hf := fits_le (fromP img) (l.take n.toNat)
      rw [List.length_take] at hf
      refine ⟨?_, ?_, ?_, ?_⟩
      · cases hr : rightB img
        · exact absurd (.inl hr) h1
        · rfl
      all_goals omega
def atP (img : List (List Int × Int)) (l : List (List Int)) (n : Int) : PM := runP (fromP img) (l.take n.toNat)
theorem run_good (l : List (List Int)) : ∀ {m : PM} {n : Nat}, m.Ok → m.Small n → EvI l → (runP m l).Ok ∧ (runP m l).L.length = m.L.length ∧ (runP m l).Small (n + 2 * l.length) := by
  induction l with
  | nil => exact fun hm hs _ => ⟨hm, rfl, hs⟩
  | cons x r ih =>
    intro m n hm hs hl
    obtain ⟨g1, g2, g3⟩ := apply_good hm hs (hl x (by simp)).1 (hl x (by simp)).2
    obtain ⟨h1, h2, h3⟩ := ih g1 g3 fun y hy => hl y (by simp [hy])
    exact ⟨h1, h2.trans g2, h3.mono (by simp only [List.length_cons]; omega)⟩
theorem at_good {img : List (List Int × Int)} (h8 : ∀ x ∈ img, x.1.length = 8) {l : List (List Int)} (hl : EvI l) (hll : l.length ≤ 400) {n : Int} (h : atE img l n = 0) : (atP img l n).Ok ∧ (atP img l n).L.length = img.length ∧ (atP img l n).Small 800 := by
  obtain ⟨hr, _, _, _⟩ := atE_ok h
  obtain ⟨f1, f2, f3⟩ := fromP_ok h8 hr
  obtain ⟨g1, g2, g3⟩ := run_good (l.take n.toNat) f1 f2 fun x hx => hl x (List.mem_of_mem_take hx)
  exact ⟨g1, g2.trans f3, g3.mono (by have := List.length_take_le n.toNat l; omega)⟩
def cutsE (img : List (List Int × Int)) (l : List (List Int)) (n : Int) : Int × Int := if atE img l n = 0 then (((productP (atP img l n) : Nat) : Int), 0) else (0, atE img l n)
/-- What replayTo answers. -/
def ToPost (img : List (List Int × Int)) (l : List (List Int)) (n : Int) (w : World) (e : Ending) (w' : World) : Prop :=
  (atE img l n ≠ 0 ∧ e = .returned (.tuple #[.pointer none, .int .i64 (atE img l n)])) ∨
  (atE img l n = 0 ∧ ∃ p, e = .returned (.tuple #[.pointer (some ⟨p, 0, none⟩), .int .i64 0]) ∧ Rep w' p (atP img l n) (New w w'))
theorem atE_in {img : List (List Int × Int)} {l : List (List Int)} {n : Int} (h0 : 0 ≤ n) (h1 : n ≤ (l.length : Int)) : atE img l n = (checkP img (l.take n.toNat)).2 := by
  have hl : (l.take n.toNat).length = n.toNat := by rw [List.length_take]; omega
  unfold atE checkP
  cases hr : rightB img
  · rw [if_pos (.inl rfl), if_pos rfl]
  · have hb : ¬ ((true = false) ∨ n < 0 ∨ (l.length : Int) < n) := by rintro (h | h | h) <;> first | cases h | omega
    rw [if_neg hb, if_neg (show ¬ (true = false) by simp), hl]
    by_cases hf : fitsP (fromP img) (l.take n.toNat) < n.toNat
    · rw [if_pos hf, if_pos hf]
    · rw [if_neg hf, if_neg hf]
set_option maxRecDepth 100000 in
set_option maxHeartbeats 8000000 in
set_option linter.unusedSimpArgs false in
theorem to_any (img : List (List Int × Int)) (l : List (List Int)) (n : Int) (v lv : Value) (w : World) (h8 : ∀ x ∈ img, x.1.length = 8) (hn : img.length ≤ 5000) (hs : Rd w v img.length (iv (flatI img)))
    (hl : EvI l) (hll : l.length ≤ 400) (hlv : Rd w lv l.length (iv l.flatten)) (hT : Tab w) :
    Calls Tryz.prog 68 #[v, lv, .int .i64 n] w fun e w' => ToPost img l n w e w' ∧ Below w.heap.size w w' := by
  have HPO : Hid (∀ e w', ToPost img l n w e w' = ((atE img l n ≠ 0 ∧ e = .returned (.tuple #[.pointer none, .int .i64 (atE img l n)])) ∨
    (atE img l n = 0 ∧ ∃ p, e = .returned (.tuple #[.pointer (some ⟨p, 0, none⟩), .int .i64 0]) ∧ Rep w' p (atP img l n) (New w w')))) := Lib.hid fun _ _ => rfl
  obtain ⟨PO, hPO⟩ : ∃ PO, ToPost img l n w = PO := ⟨_, rfl⟩
  rw [hPO] at HPO ⊢
  have hlv0 := hlv
  have hs0 := hs
  obtain ⟨A, cap, rfl, hcap, hcm, hrr⟩ := hlv
  obtain ⟨A2, cap2, rfl, _⟩ := hs
  obtain ⟨N, hN⟩ : ∃ N, l.length = N := ⟨_, rfl⟩
  by_cases hin : 0 ≤ n ∧ n ≤ (l.length : Int)
  · obtain ⟨h0, h1⟩ := hin
    have HAE : Hid (atE img l n = (checkP img (l.take n.toNat)).2) := Lib.hid (atE_in h0 h1)
    have HAP : Hid (runP (fromP img) (l.take n.toNat) = atP img l n) := Lib.hid rfl
    have hn0 : n.toNat ≤ l.length := by omega
    have hlt : (l.take n.toNat).length = n.toNat := by rw [List.length_take]; omega
    have hnn : ((n.toNat : Nat) : Int) = n := by omega
    have HC := Lib.hid (treplay_any img (l.take n.toNat) (.slice A2 img.length cap2) (.slice A n.toNat cap) w h8 hn hs0 (fun x hx => hl x (List.mem_of_mem_take hx)) (by rw [hlt]; omega) (by rw [hlt]; exact hlv0.takeE hn0) hT)
    rw [hN] at hcap h1 hn0 ⊢
    obtain ⟨k, rfl⟩ : ∃ k : Nat, n = (k : Int) := ⟨n.toNat, hnn.symm⟩
    rw [Int.toNat_natCast] at HC HAE HAP hn0
    have hI0 : ¬ (k : Int) < 0 := by omega
    have hI1 : ¬ (N : Int) < (k : Int) := by omega
    have hI2 : (k : Int) ≤ (N : Int) := by omega
    have hcap2 : N ≤ cap := hcap
    have hI3 : (k : Int) ≤ (cap : Int) := by omega
    have hI4 : k ≤ cap := by omega
    clear h8 hl hT hPO hlv0 hs0 hrr hlt hnn hN h0 hcap
    go_enter Tryz.func68, Tryz.ntmps68
    go_wp2_with fail
    refine HC.out.mono ?_
    rintro e w1 ⟨hp, hb⟩
    have HB := Lib.hid hb
    clear hb HC
    rcases hp with ⟨h1, rfl⟩ | ⟨h1, _, _, p, rfl, h3⟩
    · rw [← HAE.out] at h1 ⊢
      have HPF : Hid (PO (.returned (.tuple #[.pointer none, .int .i64 (atE img l (k : Int))])) w1) := Lib.hid (by rw [HPO.out]; exact .inl ⟨h1, rfl⟩)
      generalize atE img l (k : Int) = E at *
      clear h1
      go_wp2_with fail
      go_ret2
      exact ⟨HPF.out, HB.out⟩
    · rw [← HAE.out] at h1
      rw [HAP.out] at h3
      have HPF : Hid (PO (.returned (.tuple #[.pointer (some ⟨p, 0, none⟩), .int .i64 0])) w1) := Lib.hid (by rw [HPO.out]; exact .inr ⟨h1, p, rfl, h3⟩)
      clear h1 h3
      go_wp2_with fail
      go_ret2
      exact ⟨HPF.out, HB.out⟩
  · have hat : atE img l n = 1 := by unfold atE; rw [if_pos (by omega)]
    have HPF : Hid (PO (.returned (.tuple #[.pointer none, .int .i64 1])) w) := Lib.hid (by rw [HPO.out, hat]; exact .inl ⟨by decide, rfl⟩)
    rw [hN] at hin ⊢
    by_cases h0 : n < 0
    · clear h8 hl hT hPO hlv0 hs0 hrr hN hin hat
      go_enter Tryz.func68, Tryz.ntmps68
      go_wp2_with fail
      go_ret2
      exact ⟨HPF.out, Below.refl _ _⟩
    · have h1 : (N : Int) < n := by omega
      clear h8 hl hT hPO hlv0 hs0 hrr hN hin hat
      go_enter Tryz.func68, Tryz.ntmps68
      go_wp2_with fail
      go_ret2
      exact ⟨HPF.out, Below.refl _ _⟩
end Go.Proofs.YtpojhplnhppcpaaGreatDoor
namespace Go.Proofs.YtpojhplnhppcpaaGreatDoor
open Go.RowKit Go.Maps
section
variable {ops : Array Oper} {rest : List Oper} {o : Oper} {a : Act} {Q : Exit → Act → World → Prop} {w : World}
/-- append of what has just been laid, in a region that keeps its order. -/
theorem arm_append_sl (s x : Operand) (t : TypeId)
    (ho : o.op = .call { callee := .builtin .append, args := #[s, x], argTypes := #[t, t] }) (hgd : o.guard = none)
    (e : TypeId) (i : TypeInfo) (z : Value) (size bytes : Nat) (ht : Tryz.prog.underlying t = some (.slice e)) (hi : Tryz.prog.info? e = some i) (hz : i.zero = some z)
    (hsize : i.size = size) (hby : i.bytes = bytes) (hzs : z.cells.size = size) (hsz : 0 < size)
    (v : Value) (n : Nat) (xs : List Value) (hs : a.eval s = v) (hown : Sl w e size v n xs)
    (ad : Addr) (m c : Nat) (news : List Value) (hx : a.eval x = .slice (some ad) m c) (hl : news.length = m * size) (hnews : ∀ j u, news[j]? = some u → w.cell? (ad.add j) = some u) (h1 : ∀ u ∈ news, u.oneCell' = true)
    (h63 : n + m ≤ maxLen) (hbytes : (n + m) * bytes ≤ 140737488355328)
    (h : ∀ v' w', Sl w' e size v' (n + m) (xs ++ news) → w.grownBy w' v.ownBlock → (v'.ownBlock = v.ownBlock ∨ v'.ownBlock = some w.heap.size) → wpList Tryz.prog ops Q rest (a.put o.dst v') w') : wpList Tryz.prog ops Q (o :: rest) a w :=
  wpList_plain hgd fun _ hK => wp_append_sl s x t ho e i z size bytes ht hi hz hsize hby hzs hsz v n xs hs hown ad m c news hx hl hnews h1 h63 hbytes fun v' w' h2 h3 h5 => hK _ _ (h v' w' h2 h3 h5)
end
/-- What is pending on each line, as cuts that keep all of it. -/
def wholeP : Nat → List PL → List (Int × Int)
  | _, [] => []
  | i, x :: r => if x.pend.length = 0 then wholeP (i + 1) r else ((i : Int), (x.pend.length : Int)) :: wholeP (i + 1) r
theorem whole_on {m : PM} {k : Nat} (hk : k < m.L.length) : wholeP k (m.L.drop k) = (if (m.line k).pend.length = 0 then [] else [((k : Int), ((m.line k).pend.length : Int))]) ++ wholeP (k + 1) (m.L.drop (k + 1)) := by
  have hx : m.line k = m.L[k] := by unfold PM.line; rw [List.getD_eq_getElem?_getD, List.getElem?_eq_getElem hk]; rfl
  rw [List.drop_eq_getElem_cons hk, hx]
  show (if _ then _ else _) = _
  split <;> rfl
theorem whole_len : ∀ (L : List PL) (i : Nat), (wholeP i L).length ≤ L.length
  | [], _ => Nat.le_refl _
  | x :: r, i => by
    have := whole_len r (i + 1)
    unfold wholeP
    split <;> simp only [List.length_cons] <;> omega
theorem whole_pos : ∀ (L : List PL) (i : Nat), ∀ c ∈ wholeP i L, (i : Int) ≤ c.1 ∧ c.1 < (i : Int) + L.length ∧ ∃ x ∈ L, c.2 = (x.pend.length : Int) ∧ 0 < x.pend.length
  | [], _ => fun c hc => by simp [wholeP] at hc
  | x :: r, i => fun c hc => by
    unfold wholeP at hc
    split at hc
    · obtain ⟨h1, h2, y, h3, h4⟩ := whole_pos r (i + 1) c hc
      exact ⟨by omega, by simp only [List.length_cons]; omega, y, by simp [h3], h4⟩
    · rcases List.mem_cons.1 hc with rfl | hc
      · exact ⟨by simp, by simp only [List.length_cons]; omega, x, by simp, rfl, by omega⟩
      · obtain ⟨h1, h2, y, h3, h4⟩ := whole_pos r (i + 1) c hc
        exact ⟨by omega, by simp only [List.length_cons]; omega, y, by simp [h3], h4⟩
theorem infoCut : (Tryz.prog.info? 48).map (fun i => (i.zero, i.size, i.bytes)) = some (some (.agg #[.int .i64 0, .int .i64 0]), 2, 16) := by kernel_rfl
theorem flatS_snoc (l : List (Int × Int)) (s : Int × Int) : flatS (l ++ [s]) = flatS l ++ [s.1, s.2] := by simp [flatS]
set_option maxRecDepth 100000 in
set_option maxHeartbeats 8000000 in
set_option linter.unusedSimpArgs false in
theorem whole_any (p : Nat) (m : PM) (F : Nat → Prop) (w : World) (hm : m.Ok) (hs : m.Small 1000000) (h : Rep w p m F) :
    Calls Tryz.prog 69 #[.pointer (some ⟨p, 0, none⟩)] w (Cloned w 48 2 (wholeP 0 m.L).length (iv (flatS (wholeP 0 m.L)))) := by
  obtain ⟨i0, hi, hz0, hz1, hz2⟩ := info_parts infoCut
  have hf := hm.few
  have HM := Lib.hid hm
  have HS := Lib.hid hs
  have HR := Lib.hid h
  obtain ⟨W, hW⟩ : ∃ W, wholeP 0 m.L = W := ⟨_, rfl⟩
  rw [hW]
  have HW : Hid (W = [] ++ wholeP 0 (m.L.drop 0)) := Lib.hid hW.symm
  have HWL : Hid (W.length ≤ m.L.length) := Lib.hid (by rw [← hW]; exact whole_len _ _)
  have HLI := Lib.hid (lines_any p m F w h)
  obtain ⟨n, hn⟩ : ∃ n, m.L.length = n := ⟨_, rfl⟩
  have HN := Lib.hid hn
  rw [hn] at hf HLI HWL
  have HB0 : Hid (Below w.heap.size w w) := Lib.hid (Below.refl _ _)
  have HSL0 : Hid (Sl w 48 2 (.slice none 0 0) ([] : List (Int × Int)).length (iv (flatS []))) := Lib.hid (Sl.nil _ _ _)
  have HIS := Lib.hid hi
  have HZ0 := Lib.hid hz0
  have HZ1 := Lib.hid hz1
  have HZ2 := Lib.hid hz2
  clear hm hs h hW hn hi hz0 hz1 hz2
  go_enter Tryz.func69, Tryz.ntmps69
  go_wp2_with (go_at_call 78; refine HLI.out.mono ?_; rintro e w' ⟨rfl, hw'⟩; obtain rfl := hw'.symm)
  go_loopw [3, 8] (fun c i wr => ∃ (k : Nat) (V : List (Int × Int)), i = .int .i64 (k : Int) ∧ k ≤ n ∧ Hid (W = V ++ wholeP k (m.L.drop k)) ∧ Hid (Sl wr 48 2 c V.length (iv (flatS V))) ∧ Hid (∀ q, c.ownBlock = some q → w.heap.size ≤ q) ∧ Hid (Below w.heap.size w wr)) (fun _ i _ => n - (intOf i).toNat)
  case atStart => exact ⟨0, [], rfl, by omega, HW, HSL0, Lib.hid (fun q hq => by simp [Value.ownBlock] at hq), HB0⟩
  case round =>
    clear HW HSL0 HB0
    obtain ⟨k, V, rfl, hk, HW, HSL, HOW, HB⟩ := hrel
    by_cases hlt : k < n
    · have hkI : (k : Int) < (n : Int) := by omega
      have hkm : k < m.L.length := by rw [HN.out]; exact hlt
      have HWN := Lib.hid (whole_on (m := m) hkm)
      have hI : I64 (k : Int) := by unfold I64; omega
      have hpe : pendP m (k : Int) = (m.line k).pend := by unfold pendP PM.has; rw [if_pos (by simp; exact hkm), Int.toNat_natCast]
      have hpl := HS.out.pend _ (PM.line_mem hkm)
      have hrk := HR.out.below HB.out
      have HPE := Lib.hid (pending_any p (k : Int) m F wr hI (by rw [HN.out]; exact hf) (by rw [hpe]; exact hpl) hrk)
      rw [hpe] at HPE
      obtain ⟨pl, hpl2⟩ : ∃ pl, (m.line k).pend.length = pl := ⟨_, rfl⟩
      rw [hpl2] at HPE HWN hpl
      have hVW : V.length ≤ n := by
        have h1 := congrArg List.length HW.out
        rw [List.length_append] at h1
        have := HWL.out
        omega
      obtain ⟨CA, ccap, rfl, _⟩ := HSL.out.shape
      clear hI hpe hrk hpl2
      go_wp2_with fail
      refine HPE.out.mono ?_
      rintro e w2 ⟨pv, rfl, hps, _, hb2⟩
      obtain ⟨PA, pcap, rfl, _⟩ := hps.shape
      have HB2 := Lib.hid (bel_on HB.out hb2)
      have HSL2 : Hid (Sl w2 48 2 (.slice CA V.length ccap) V.length (iv (flatS V))) := Lib.hid (HSL.out.keep fun g hg => hb2.block g (HSL.out.lt hg))
      clear HPE hps hb2
      by_cases hp0 : pl = 0
      · have HW2 : Hid (W = V ++ wholeP (k + 1) (m.L.drop (k + 1))) := Lib.hid (by
          rw [HW.out, HWN.out, if_pos hp0]
          rfl)
        have hpI : ¬ (0 : Int) < (pl : Int) := by omega
        go_wp2_with fail
        go_roundw
        case rel => exact ⟨k + 1, V, by simp, by omega, HW2, HSL2, HOW, HB2⟩
        case measure => simp [intOf]; omega
      · have HW2 : Hid (W = (V ++ [((k : Int), (pl : Int))]) ++ wholeP (k + 1) (m.L.drop (k + 1))) := Lib.hid (by
          rw [HW.out, HWN.out, if_neg hp0]
          simp)
        have hpI : (0 : Int) < (pl : Int) := by omega
        obtain ⟨wn, hwn⟩ : ∃ wn, w2.alloc (.cells #[.int .i64 (k : Int), .int .i64 (pl : Int)] 48) = wn := ⟨_, rfl⟩
        have hbn : Below w2.heap.size w2 wn := by rw [← hwn]; exact bel_new _ _
        have HNW : Hid (∀ j u, [Value.int .i64 (k : Int), Value.int .i64 (pl : Int)][j]? = some u → wn.cell? ((⟨w2.heap.size, 0, none⟩ : Addr).add j) = some u) := Lib.hid (by
          intro j u hj
          rw [← hwn]
          have h1 := (Arr.new w2 [Value.int .i64 (k : Int), .int .i64 (pl : Int)] 48).cell hj
          have e1 : (⟨w2.heap.size, 0, none⟩ : Addr).add j = ⟨w2.heap.size, j, none⟩ := by unfold Addr.add; split <;> simp_all
          rw [e1]
          exact h1)
        have HSN : Hid (Sl wn 48 2 (.slice CA V.length ccap) V.length (iv (flatS V))) := Lib.hid (HSL2.out.keep fun g hg => hbn.block g (HSL2.out.lt hg))
        have HB3 := Lib.hid (bel_on HB2.out hbn)
        have HON : Hid (∀ u ∈ [Value.int .i64 (k : Int), Value.int .i64 (pl : Int)], u.oneCell' = true) := Lib.hid (by
          intro u hu
          rcases List.mem_cons.1 hu with rfl | hu
          · rfl
          · rcases List.mem_cons.1 hu with rfl | hu
            · rfl
            · cases hu)
        have HCB : Hid (∀ v' w', Sl w' 48 2 v' (V.length + 1) (iv (flatS V) ++ [Value.int .i64 (k : Int), Value.int .i64 (pl : Int)]) → wn.grownBy w' (Value.slice CA V.length ccap).ownBlock → (v'.ownBlock = (Value.slice CA V.length ccap).ownBlock ∨ v'.ownBlock = some wn.heap.size) →
            Sl w' 48 2 v' (V ++ [((k : Int), (pl : Int))]).length (iv (flatS (V ++ [((k : Int), (pl : Int))]))) ∧ (∀ q, v'.ownBlock = some q → w.heap.size ≤ q) ∧ Below w.heap.size w w') := Lib.hid fun v' w' h1 h2 h3 => by
          refine ⟨?_, fun q hq => ?_, ?_⟩
          · rw [flatS_snoc, List.length_append]
            unfold iv at h1 ⊢
            rw [List.map_append]
            exact h1
          · rcases h3 with h3 | h3
            · exact HOW.out q (h3 ▸ hq)
            · rw [h3] at hq
              cases hq
              exact HB3.out.size
          · exact HB3.out.grown h2 HB3.out.size (fun g hg => HOW.out g hg)
        have hw2n : w2.heap.size < wn.heap.size := by rw [← hwn]; simp
        have HWX := Lib.hid hwn
        clear hbn hwn
        go_wp2_with (at_builtin; (with_reducible refine arm_append_sl _ _ 46 rfl rfl 48 i0 _ 2 16 Tryz.underlying46 HIS.out HZ0.out HZ1.out HZ2.out rfl (by decide) (.slice CA V.length ccap) V.length (iv (flatS V)) rfl (by rw [HWX.out]; exact HSN.out) ⟨w2.heap.size, 0, none⟩ 1 1 [Value.int .i64 (k : Int), Value.int .i64 (pl : Int)] rfl rfl (by rw [HWX.out]; exact HNW.out) HON.out (by unfold maxLen; omega) (by omega) ?_); intro v' w3 h1 h2 h3; rw [HWX.out] at h2 h3; have HX := Lib.hid (HCB.out v' w3 h1 h2 h3); obtain ⟨XA, xcap, rfl, _⟩ := h1.shape; clear h1 h2 h3)
        go_roundw
        case rel => exact ⟨k + 1, V ++ [((k : Int), (pl : Int))], by simp, by omega, HW2, Lib.hid HX.out.1, Lib.hid HX.out.2.1, Lib.hid HX.out.2.2⟩
        case measure => simp [intOf]; omega
    · obtain rfl : k = n := by omega
      have hkI : ¬ (k : Int) < (k : Int) := by omega
      have HWV : Hid (W = V) := Lib.hid (by
        have h1 := HW.out
        rw [List.drop_of_length_le (by rw [HN.out]; exact Nat.le_refl _)] at h1
        simpa [wholeP] using h1)
      obtain ⟨CA, ccap, rfl, _⟩ := HSL.out.shape
      go_wp2_with fail
      go_ret
      rw [HWV.out]
      exact ⟨_, rfl, HSL.out, HOW.out, HB.out⟩
end Go.Proofs.YtpojhplnhppcpaaGreatDoor
