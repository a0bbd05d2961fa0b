/-
  The cuts that a law makes, as a list: of each line with something pending a number no
  greater than what there is. They are right; what they settle; what is there after a fence
  and a failure.
-/
import Derived.Test.YtmnncbgibngmiaaDoorQN28
namespace Go.Proofs.YtmnncbgibngmiaaDoor
set_option linter.unusedVariables false
def cutB (m : PM) (K i : Nat) : Bool := decide (0 < (m.line i).pend.length) && decide (i < K)
def cutsTo (m : PM) (K : Nat) (g : Nat → Int) : Nat → List (Int × Int)
  | 0 => []
  | i + 1 => cutsTo m K g i ++ (if cutB m K i then [((i : Int), g i)] else [])
def cutN (m : PM) (K : Nat) (g : Nat → Int) (i : Nat) : Nat := if cutB m K i then (g i).toNat else 0
theorem cutsTo_lt (m : PM) (K : Nat) (g : Nat → Int) : ∀ n, ∀ c ∈ cutsTo m K g n, c.1 < (n : Int)
  | 0, c, h => by cases h
  | n + 1, c, h => by
    rcases List.mem_append.1 h with h1 | h1
    · have := cutsTo_lt m K g n c h1
      omega
    · split at h1
      · rw [List.mem_singleton.1 h1]
        show (n : Int) < ((n + 1 : Nat) : Int)
        omega
      · cases h1
theorem cutsTo_has (m : PM) (K : Nat) (g : Nat → Int) : ∀ n, ∀ c ∈ cutsTo m K g n, ∃ i, i < n ∧ cutB m K i = true ∧ c = ((i : Int), g i)
  | 0, c, h => by cases h
  | n + 1, c, h => by
    rcases List.mem_append.1 h with h1 | h1
    · obtain ⟨i, a, b, e⟩ := cutsTo_has m K g n c h1
      exact ⟨i, by omega, b, e⟩
    · split at h1
      · rename_i hb
        exact ⟨n, by omega, hb, List.mem_singleton.1 h1⟩
      · cases h1
theorem cutsOk_one {m : PM} {c : Int × Int} (hh : m.has c.1 = true) (h0 : 0 ≤ c.2) (h1 : c.2 ≤ ((m.line c.1.toNat).pend.length : Int)) :
    ∀ (cs : List (Int × Int)) (last : Int), last < c.1 → (∀ d ∈ cs, d.1 < c.1) → cutsOk m last cs = true → cutsOk m last (cs ++ [c]) = true
  | [], last, hl, _, _ => by
    show (!(decide (c.1 ≤ last) || !m.has c.1 || decide (c.2 < 0) || decide (((m.line c.1.toNat).pend.length : Int) < c.2)) && true) = true
    rw [hh, decide_eq_false (by omega), decide_eq_false (by omega), decide_eq_false (by omega)]
    rfl
  | d :: r, last, hl, hd, hc => by
    have hc' : (!(decide (d.1 ≤ last) || !m.has d.1 || decide (d.2 < 0) || decide (((m.line d.1.toNat).pend.length : Int) < d.2)) && cutsOk m d.1 r) = true := hc
    obtain ⟨a, b⟩ := Bool.and_eq_true_iff.1 hc'
    show (!(decide (d.1 ≤ last) || !m.has d.1 || decide (d.2 < 0) || decide (((m.line d.1.toNat).pend.length : Int) < d.2)) && cutsOk m d.1 (r ++ [c])) = true
    rw [a, cutsOk_one hh h0 h1 r d.1 (hd d (.head _)) (fun x hx => hd x (.tail _ hx)) b]
    rfl
theorem cutsTo_ok {m : PM} {K : Nat} {g : Nat → Int} (hg : ∀ i, i < m.L.length → 0 ≤ g i ∧ g i ≤ ((m.line i).pend.length : Int)) : ∀ n, n ≤ m.L.length → cutsOk m (-1) (cutsTo m K g n) = true
  | 0, _ => rfl
  | n + 1, h => by
    unfold cutsTo
    have ih := cutsTo_ok (K := K) hg n (by omega)
    split
    · refine cutsOk_one (c := ((n : Int), g n)) (has_k (by omega)) (hg n (by omega)).1 ?_ _ _ ?_ (cutsTo_lt m K g n) ih
      · show g n ≤ ((m.line (n : Int).toNat).pend.length : Int)
        rw [Int.toNat_natCast]
        exact (hg n (by omega)).2
      · show (-1 : Int) < (n : Int)
        omega
    · rw [List.append_nil]
      exact ih
theorem settles_app (m : PM) (a b : List (Int × Int)) : settles m (a ++ b) = settles (settles m a) b := List.foldl_append
/-- What the cuts settle. -/
theorem settles_at (m : PM) (K : Nat) (g : Nat → Int) : ∀ n, n ≤ m.L.length → (settles m (cutsTo m K g n)).L.length = m.L.length ∧
    ∀ i, i < m.L.length → (settles m (cutsTo m K g n)).line i = if i < n then (m.line i).settle (cutN m K g i) else m.line i
  | 0, _ => ⟨rfl, fun i _ => rfl⟩
  | n + 1, h => by
    obtain ⟨ihl, ih⟩ := settles_at m K g n (by omega)
    unfold cutsTo
    rw [settles_app]
    by_cases hb : cutB m K n = true
    · rw [if_pos hb]
      have e : settles (settles m (cutsTo m K g n)) [((n : Int), g n)] = (settles m (cutsTo m K g n)).upd n (·.settle (g n).toNat) := by
        show (settles m (cutsTo m K g n)).upd (n : Int).toNat (·.settle (g n).toNat) = _
        rw [Int.toNat_natCast]
      rw [e]
      have hl : ((settles m (cutsTo m K g n)).upd n (·.settle (g n).toNat)).L.length = m.L.length := by
        unfold PM.upd
        rw [List.length_set, ihl]
      refine ⟨hl, fun i hi => ?_⟩
      rw [PM.line_eq (by rw [hl]; exact hi)]
      unfold PM.upd
      simp only
      rw [List.getElem_set]
      by_cases hn : n = i
      · subst hn
        rw [if_pos rfl, if_pos (by omega), ih n hi, if_neg (by omega)]
        unfold cutN
        rw [if_pos hb]
      · rw [if_neg hn, ← PM.line_eq (by rw [ihl]; exact hi), ih i hi]
        by_cases h2 : i < n
        · rw [if_pos h2, if_pos (by omega)]
        · rw [if_neg h2, if_neg (by omega)]
    · rw [if_neg hb]
      refine ⟨ihl, fun i hi => ?_⟩
      show (settles m (cutsTo m K g n)).line i = _
      rw [ih i hi]
      by_cases hn : i = n
      · subst hn
        rw [if_neg (by omega), if_pos (by omega)]
        unfold cutN
        rw [if_neg hb]
        exact (PL.settle_zero _).symm
      · by_cases h2 : i < n
        · rw [if_pos h2, if_pos (by omega)]
        · rw [if_neg h2, if_neg (by omega)]
/-- After the failure: each line as its cut settles it, and nothing pending. -/
theorem crash_at {m : PM} {K : Nat} {g : Nat → Int} (hg : ∀ i, i < m.L.length → 0 ≤ g i ∧ g i ≤ ((m.line i).pend.length : Int)) :
    (crashP m (cutsTo m K g m.L.length)).1 = 0 ∧ (crashP m (cutsTo m K g m.L.length)).2.L.length = m.L.length ∧ (crashP m (cutsTo m K g m.L.length)).2.ev = [] ∧
      ∀ i, i < m.L.length → (crashP m (cutsTo m K g m.L.length)).2.line i = ((m.line i).settle (cutN m K g i)).lost := by
  obtain ⟨hl, ha⟩ := settles_at m K g m.L.length (Nat.le_refl _)
  unfold crashP
  rw [cutsTo_ok hg _ (Nat.le_refl _), if_neg (by simp)]
  refine ⟨rfl, by show ((settles m _).L.map PL.lost).length = _; rw [List.length_map, hl], rfl, fun i hi => ?_⟩
  have h2 : (settles m (cutsTo m K g m.L.length)).lost.L.length = m.L.length := by show ((settles m _).L.map PL.lost).length = _; rw [List.length_map, hl]
  show (settles m (cutsTo m K g m.L.length)).lost.line i = _
  rw [PM.line_eq (by rw [h2]; exact hi)]
  have h3 := List.getElem_map PL.lost (l := (settles m (cutsTo m K g m.L.length)).L) (i := i) (h := by rw [List.length_map, hl]; exact hi)
  refine h3.trans ?_
  rw [← PM.line_eq (by rw [hl]; exact hi), ha i hi, if_pos hi]
/-- What a line shows after its cut: the prefix that the cut says, over what was durable. -/
theorem PL.Ok.cut_shows {l : PL} (h : l.Ok) (n : Nat) : (l.settle n).lost.shows = l.after n := by
  by_cases h0 : n = 0
  · subst h0
    rfl
  · unfold PL.settle
    rw [if_neg h0]
    obtain ⟨a1, a2⟩ := h.after n
    obtain ⟨_, _, e3, _⟩ := enc_facts a1 a2
    show (fixZ (l.after n) (encZ (l.after n))).1 = l.after n
    exact e3
/-- Flushed, fenced: nothing pends. -/
theorem flushed_fence_pend (l : PL) : (l.flushed.settle l.flushed.mark).pend = [] := by
  show (l.flushed.settle l.pend.length).pend = []
  unfold PL.settle
  split
  · rename_i h0
    exact List.eq_nil_of_length_eq_zero h0
  · show l.pend.drop l.pend.length = []
    exact List.drop_length
theorem fence_flush_line {m : PM} {k : Nat} (hk : k < m.L.length) : (fenceP (m.upd k (·.flushed))).line k = (m.line k).flushed.settle (m.line k).flushed.mark := by
  have hl : (fenceP (m.upd k (·.flushed))).L.length = m.L.length := by simp [fenceP, PM.upd]
  rw [PM.line_eq (by rw [hl]; exact hk)]
  unfold fenceP PM.upd
  simp only
  rw [List.getElem_map, List.getElem_set, if_pos rfl]
/-- What a line shows when it is flushed is there after a fence and the failure. -/
theorem fence_keeps {m : PM} (hm : m.Ok) {k : Nat} (hk : k < m.L.length) {K : Nat} {g : Nat → Int} {m2 : PM} (h2 : m2.L = (fenceP (m.upd k (·.flushed))).L)
    (hg : ∀ i, i < m2.L.length → 0 ≤ g i ∧ g i ≤ ((m2.line i).pend.length : Int)) :
    ((crashP m2 (cutsTo m2 K g m2.L.length)).2.line k).shows = (m.line k).shows ∧ ((crashP m2 (cutsTo m2 K g m2.L.length)).2.line k).pend = [] := by
  have hl : m2.L.length = m.L.length := by rw [h2]; simp [fenceP, PM.upd]
  obtain ⟨_, _, _, h⟩ := crash_at (K := K) hg
  have e : m2.line k = (m.line k).flushed.settle (m.line k).flushed.mark := by
    rw [← fence_flush_line hk]
    unfold PM.line
    rw [h2]
  rw [h k (by omega)]
  refine ⟨?_, rfl⟩
  have hp : (m2.line k).pend = [] := by rw [e]; exact flushed_fence_pend _
  have hc : cutN m2 K g k = 0 := by
    unfold cutN cutB
    rw [hp]
    rfl
  rw [hc, PL.settle_zero]
  have hs : (m2.line k).lost.shows = (m2.line k).shows := by
    show (m2.line k).fixW = applyS (m2.line k).fixW ((m2.line k).pend.take _)
    rw [hp]
    rfl
  rw [hs, e]
  exact (PL.Ok.flushed (hm.line hk)).settle_shows (Nat.le_refl _)
end Go.Proofs.YtmnncbgibngmiaaDoor
