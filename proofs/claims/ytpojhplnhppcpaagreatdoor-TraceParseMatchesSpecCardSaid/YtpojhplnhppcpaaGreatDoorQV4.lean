/-
  Fates as plain data: the program's reckoning and the specification's give the same. Fates: what the program reckons at each event, what the specification does, and that both end alike. What trace's Fates does: the places of stores in a map; what its closure marks.
-/
import Derived.Test.YtpojhplnhppcpaaGreatDoorQU5
namespace Go.Proofs.YtpojhplnhppcpaaGreatDoor
open Go.RowKit
def lastN {α : Type} (n : Nat) (l : List α) : List α := l.drop (l.length - n)
def markAll (fs : List Int) (f : Int) (ks : List Nat) : List Int := ks.foldl (fun fs k => fs.set k f) fs
theorem markAll_len (f : Int) : ∀ (ks : List Nat) (fs : List Int), (markAll fs f ks).length = fs.length
  | [], _ => rfl
  | k :: r, fs => by
    show (markAll (fs.set k f) f r).length = _
    rw [markAll_len f r, List.length_set]
theorem markAll_at (f : Int) : ∀ (ks : List Nat) (fs : List Int) (i : Nat), i < fs.length → (markAll fs f ks)[i]? = if i ∈ ks then some f else fs[i]?
  | [], fs, i, _ => by simp [markAll]
  | k :: r, fs, i, hi => by
    show (markAll (fs.set k f) f r)[i]? = _
    rw [markAll_at f r _ i (by rw [List.length_set]; exact hi), List.getElem?_set]
    by_cases h1 : i ∈ r
    · rw [if_pos h1, if_pos (by simp [h1])]
    · rw [if_neg h1]
      by_cases h2 : k = i
      · subst h2
        rw [if_pos rfl, if_pos hi, if_pos (by simp)]
      · rw [if_neg h2, if_neg (by simp; exact ⟨fun e => h2 e.symm, h1⟩)]
/-- The stores of a line among the events from k on, n of them. -/
def seg (l : List (List Int)) (line k n : Nat) : List Nat := (List.range' k n).filter fun q => stq (l.getD q []) && (lnq (l.getD q []) == line)
def plc (l : List (List Int)) (i line : Nat) : List Nat := seg l line 0 i
theorem seg_mem {l : List (List Int)} {line k n q : Nat} : q ∈ seg l line k n ↔ (k ≤ q ∧ q < k + n) ∧ stq (l.getD q []) = true ∧ lnq (l.getD q []) = line := by
  unfold seg
  rw [List.mem_filter, List.mem_range'_1]
  simp
theorem plc_mem {l : List (List Int)} {line i q : Nat} : q ∈ plc l i line ↔ q < i ∧ stq (l.getD q []) = true ∧ lnq (l.getD q []) = line := by
  unfold plc
  rw [seg_mem]
  simp
theorem plc_succ (l : List (List Int)) (i line : Nat) : plc l (i + 1) line = plc l i line ++ (if stq (l.getD i []) && (lnq (l.getD i []) == line) then [i] else []) := by
  unfold plc seg
  rw [List.range'_1_concat, List.filter_append, Nat.zero_add]
  congr 1
  simp only [List.filter_cons, List.filter_nil]
theorem plc_sorted (l : List (List Int)) (i line : Nat) : (plc l i line).Pairwise (· < ·) := (List.pairwise_lt_range' (s := 0) (n := i)).filter _
theorem lastN_snoc {α : Type} {l : List α} {x : α} {n : Nat} (h : n ≤ l.length) : lastN (n + 1) (l ++ [x]) = lastN n l ++ [x] := by
  unfold lastN
  rw [List.length_append, show l.length + [x].length - (n + 1) = l.length - n by simp only [List.length_cons, List.length_nil]; omega]
  rw [List.drop_append_of_le_length (by omega)]
theorem lastN_less {α : Type} {l : List α} {n g : Nat} (h : n ≤ l.length) (hg : g ≤ n) : lastN n l = (lastN n l).take g ++ lastN (n - g) l := by
  unfold lastN
  have h1 : l.drop (l.length - (n - g)) = (l.drop (l.length - n)).drop g := by
    rw [List.drop_drop]
    congr 1
    omega
  rw [h1]
  exact (List.take_append_drop g _).symm
/-- The first pending stores of a line are marked. -/
def markG (l : List (List Int)) (line : Nat) (f : Int) : Nat → Nat → Nat → List Int → List Int
  | 0, _, _, out => out
  | n + 1, k, g, out => if g = 0 then out else if stq (l.getD k []) && decide (out.getD k 0 = 1) && (lnq (l.getD k []) == line) then markG l line f n (k + 1) (g - 1) (out.set k f) else markG l line f n (k + 1) g out
theorem markAll_nil (out : List Int) (f : Int) : markAll out f [] = out := rfl
theorem markG_eq (l : List (List Int)) (line : Nat) (f : Int) : ∀ (n k g d : Nat) (out : List Int), k + n ≤ out.length → d ≤ (seg l line k n).length → g ≤ (seg l line k n).length - d →
    (∀ q ∈ seg l line k n, (out.getD q 0 = 1 ↔ q ∈ (seg l line k n).drop d)) → markG l line f n k g out = markAll out f (((seg l line k n).drop d).take g) := by
  intro n
  induction n with
  | zero =>
    intro k g d out _ _ _ _
    simp [markG, seg, markAll]
  | succ n ih =>
    intro k g d out hlen hd hg hall
    by_cases g0 : g = 0
    · subst g0
      unfold markG
      rw [if_pos rfl, List.take_zero]
      rfl
    unfold markG
    rw [if_neg g0]
    have hseg : seg l line k (n + 1) = (if stq (l.getD k []) && (lnq (l.getD k []) == line) then [k] else []) ++ seg l line (k + 1) n := by
      unfold seg
      rw [List.range'_succ, List.filter_cons]
      split <;> rfl
    by_cases hp : (stq (l.getD k []) && (lnq (l.getD k []) == line)) = true
    · rw [if_pos hp] at hseg
      have hs2 : seg l line k (n + 1) = k :: seg l line (k + 1) n := hseg
      rw [hs2] at hd hg hall ⊢
      simp only [Bool.and_eq_true] at hp
      have hnot : k ∉ seg l line (k + 1) n := fun h => by
        have := (seg_mem.1 h).1.1
        omega
      cases d with
      | zero =>
        have h1 : out.getD k 0 = 1 := (hall k (by simp)).2 (by simp)
        have hc : (stq (l.getD k []) && decide (out.getD k 0 = 1) && (lnq (l.getD k []) == line)) = true := by rw [hp.1, hp.2, decide_eq_true h1]; rfl
        rw [if_pos hc]
        rw [List.drop_zero]
        obtain ⟨g', rfl⟩ : ∃ g', g = g' + 1 := ⟨g - 1, by omega⟩
        rw [List.take_succ_cons]
        show markG l line f n (k + 1) g' (out.set k f) = markAll (out.set k f) f _
        rw [ih (k + 1) g' 0 (out.set k f) (by rw [List.length_set]; omega) (Nat.zero_le _) (by simp only [List.length_cons] at hg; omega)]
        · rw [List.drop_zero]
        · intro q hq
          have hne : k ≠ q := fun e => hnot (e ▸ hq)
          have h2 := hall q (by simp [hq])
          rw [List.getD_eq_getElem?_getD, List.getElem?_set, if_neg hne, ← List.getD_eq_getElem?_getD]
          rw [h2, List.drop_zero, List.drop_zero]
          simp [hq]
      | succ d =>
        have h1 : ¬ out.getD k 0 = 1 := fun h => by
          have := (hall k (by simp)).1 h
          rw [List.drop_succ_cons] at this
          exact hnot (List.mem_of_mem_drop this)
        have hc : (stq (l.getD k []) && decide (out.getD k 0 = 1) && (lnq (l.getD k []) == line)) = false := by rw [decide_eq_false h1]; simp
        rw [if_neg (by rw [hc]; simp), List.drop_succ_cons]
        refine ih (k + 1) g d out (by omega) (by simp only [List.length_cons] at hd; omega) (by simp only [List.length_cons] at hg; omega) fun q hq => ?_
        have := hall q (by simp [hq])
        rw [List.drop_succ_cons] at this
        exact this
    · rw [if_neg hp] at hseg
      have hs2 : seg l line k (n + 1) = seg l line (k + 1) n := hseg
      rw [hs2] at hd hg hall ⊢
      rw [if_neg (by
        intro h
        simp only [Bool.and_eq_true, decide_eq_true_eq] at h hp
        exact hp ⟨h.1.1, h.2⟩)]
      exact ih (k + 1) g d out (by omega) hd hg hall
end Go.Proofs.YtpojhplnhppcpaaGreatDoor
namespace Go.Proofs.YtpojhplnhppcpaaGreatDoor
open Go.RowKit
/-- The memory after the first i events. -/
def memT (m0 : PM) (l : List (List Int)) (i : Nat) : PM := runP m0 (l.take i)
theorem memT_succ (m0 : PM) {l : List (List Int)} {i : Nat} (h : i < l.length) : memT m0 l (i + 1) = applyP (memT m0 l i) (l.getD i []) := by
  have : l.getD i [] = l[i] := by rw [List.getD_eq_getElem?_getD, List.getElem?_eq_getElem h]; rfl
  rw [this]
  exact run_on m0 h
theorem fits_step {m0 : PM} {l : List (List Int)} (hf : fitsP m0 l = l.length) {i : Nat} (h : i < l.length) : appliesB (memT m0 l i) (l.getD i []) = true := by
  have hg : l.getD i [] = l[i] := by rw [List.getD_eq_getElem?_getD, List.getElem?_eq_getElem h]; rfl
  rw [hg]
  have h1 := fits_take l (m := m0) (i + 1) (by omega)
  have h0 := fits_take l (m := m0) i (by omega)
  have e1 := fits_ev (l.take (i + 1)) (m := m0) (by rw [h1, List.length_take]; omega)
  have e0 := fits_ev (l.take i) (m := m0) (by rw [h0, List.length_take]; omega)
  unfold appliesB
  rw [decide_eq_true_iff]
  show (applyP (runP m0 (l.take i)) l[i]).ev = (runP m0 (l.take i)).ev ++ [l[i]]
  rw [← run_on m0 h, e1]
  rw [e0, take_snoc' l i h, List.append_assoc]
theorem memT_len {m0 : PM} (l : List (List Int)) (i : Nat) (he : EvI l) {n : Nat} (hm : m0.Ok) (hs : m0.Small n) : (memT m0 l i).L.length = m0.L.length := (run_good (l.take i) hm hs fun x hx => he x (List.mem_of_mem_take hx)).2.1
/-- The program's fates after the first i events: what isn't lost is durable. -/
def fsT (m0 : PM) (l : List (List Int)) (n : Nat) : Nat → List Int
  | 0 => List.replicate n 0
  | i + 1 => let x := l.getD i []
    if stq x then (fsT m0 l n i).set i 2 else if x.getD 0 0 = 6 then markAll (fsT m0 l n i) 3 (lastN ((memT m0 l i).pl (atq x)) (plc l i (atq x))) else fsT m0 l n i
/-- At the end what is pending is marked. -/
def fsEnd (m0 : PM) (l : List (List Int)) (n : Nat) : Nat → List Int
  | 0 => fsT m0 l n n
  | j + 1 => markAll (fsEnd m0 l n j) 1 (lastN ((memT m0 l n).pl j) (plc l n j))
/-- The specification's lines of one event. -/
def outL (l : List (List Int)) (m m' : PM) (f : Int) (i : Nat) (out : List Int) : Nat → List Int
  | 0 => out
  | j + 1 => markG l j f i 0 (m.pl j - m'.pl j) (outL l m m' f i out j)
/-- The specification's fates after the first i events. -/
def outT (m0 : PM) (l : List (List Int)) (n : Nat) : Nat → List Int
  | 0 => List.replicate n 0
  | i + 1 => let x := l.getD i []
    if stq x then (outT m0 l n i).set i 1 else outL l (memT m0 l i) (memT m0 l (i + 1)) (if x.getD 0 0 = 6 then 3 else 2) i (outT m0 l n i) m0.L.length
structure FInv (m0 : PM) (l : List (List Int)) (n i : Nat) (fs out : List Int) : Prop where
  fl : fs.length = n
  ol : out.length = n
  le : ∀ j, (memT m0 l i).pl j ≤ (plc l i j).length
  line : ∀ k, k < i → stq (l.getD k []) = true → lnq (l.getD k []) < m0.L.length
  pend : ∀ j k, k ∈ lastN ((memT m0 l i).pl j) (plc l i j) → out[k]? = some 1 ∧ fs[k]? = some 2
  done : ∀ j k, k ∈ plc l i j → k ∉ lastN ((memT m0 l i).pl j) (plc l i j) → out[k]? = fs[k]? ∧ (out[k]? = some 2 ∨ out[k]? = some 3)
  none_ : ∀ k, k < n → (i ≤ k ∨ stq (l.getD k []) = false) → out[k]? = some 0 ∧ fs[k]? = some 0
theorem lastN_sub {α : Type} {n : Nat} {l : List α} {x : α} (h : x ∈ lastN n l) : x ∈ l := List.mem_of_mem_drop h
theorem plc_line {l : List (List Int)} {i j j' k : Nat} (h : k ∈ plc l i j) (h' : k ∈ plc l i j') : j = j' := (plc_mem.1 h).2.2.symm.trans (plc_mem.1 h').2.2
theorem plc_keep {l : List (List Int)} {i j : Nat} (h : (stq (l.getD i []) && (lnq (l.getD i []) == j)) = false) : plc l (i + 1) j = plc l i j := by
  rw [plc_succ, h]
  simp
theorem plc_more {l : List (List Int)} {i j : Nat} (h : (stq (l.getD i []) && (lnq (l.getD i []) == j)) = true) : plc l (i + 1) j = plc l i j ++ [i] := by
  rw [plc_succ, h]
  simp
theorem markG_len (l : List (List Int)) (line : Nat) (f : Int) : ∀ (n k g : Nat) (out : List Int), (markG l line f n k g out).length = out.length
  | 0, _, _, _ => rfl
  | n + 1, k, g, out => by
    unfold markG
    split
    · rfl
    · split
      · rw [markG_len l line f n, List.length_set]
      · rw [markG_len l line f n]
theorem outL_length (l : List (List Int)) (m m' : PM) (f : Int) (i : Nat) (out : List Int) : ∀ J, (outL l m m' f i out J).length = out.length
  | 0 => rfl
  | J + 1 => by
    show (markG l J f i 0 _ (outL l m m' f i out J)).length = _
    rw [markG_len, outL_length l m m' f i out J]
/-- The first g pending stores of line j. -/
def frontN (m0 : PM) (l : List (List Int)) (i j g : Nat) : List Nat := (lastN ((memT m0 l i).pl j) (plc l i j)).take g
theorem outL_at {m0 : PM} {l : List (List Int)} {n i : Nat} {fs out : List Int} (h : FInv m0 l n i fs out) (hin : i ≤ n) (m' : PM) (f : Int) (hf : f ≠ 1) : ∀ J k, k < n →
    (outL l (memT m0 l i) m' f i out J)[k]? = if ∃ j, j < J ∧ k ∈ frontN m0 l i j ((memT m0 l i).pl j - m'.pl j) then some f else out[k]?
  | 0, k, _ => by
    rw [if_neg (by rintro ⟨j, hj, _⟩; omega)]
    rfl
  | J + 1, k, hk => by
    have ih := outL_at h hin m' f hf J
    have hlen : (outL l (memT m0 l i) m' f i out J).length = n := by rw [outL_length, h.ol]
    have hd : lastN ((memT m0 l i).pl J) (plc l i J) = (seg l J 0 i).drop ((plc l i J).length - (memT m0 l i).pl J) := rfl
    have hJ := h.le J
    have hplc : (plc l i J).length = (seg l J 0 i).length := rfl
    have hm := markG_eq l J f i 0 ((memT m0 l i).pl J - m'.pl J) ((plc l i J).length - (memT m0 l i).pl J) (outL l (memT m0 l i) m' f i out J) (by rw [hlen]; omega) (by rw [← hplc]; omega) (by rw [← hplc]; omega) (fun q hq => by
      have hqi : q < i := by have := (seg_mem.1 hq).1.2; omega
      have hq2 : q ∈ plc l i J := hq
      have hno : ¬ ∃ j, j < J ∧ q ∈ frontN m0 l i j ((memT m0 l i).pl j - m'.pl j) := by
        rintro ⟨j, hj, hq3⟩
        have := plc_line (lastN_sub (List.mem_of_mem_take hq3)) hq2
        omega
      have he := ih q (by omega)
      rw [if_neg hno] at he
      rw [List.getD_eq_getElem?_getD, he, ← hd]
      constructor
      · intro h1
        apply Classical.byContradiction
        intro hn
        obtain ⟨_, h2⟩ := h.done J q hq2 hn
        rcases h2 with h2 | h2 <;> rw [h2] at h1 <;> simp at h1
      · intro h1
        rw [(h.pend J q h1).1]
        rfl)
    show (markG l J f i 0 ((memT m0 l i).pl J - m'.pl J) (outL l (memT m0 l i) m' f i out J))[k]? = _
    rw [hm, markAll_at _ _ _ _ (by rw [hlen]; exact hk), ih k hk, ← hd]
    show (if k ∈ frontN m0 l i J ((memT m0 l i).pl J - m'.pl J) then _ else _) = _
    by_cases h1 : k ∈ frontN m0 l i J ((memT m0 l i).pl J - m'.pl J)
    · rw [if_pos h1, if_pos ⟨J, by omega, h1⟩]
    · rw [if_neg h1]
      by_cases h2 : ∃ j, j < J ∧ k ∈ frontN m0 l i j ((memT m0 l i).pl j - m'.pl j)
      · obtain ⟨j, hj, h3⟩ := h2
        rw [if_pos ⟨j, hj, h3⟩, if_pos ⟨j, by omega, h3⟩]
      · rw [if_neg h2, if_neg]
        rintro ⟨j, hj, h3⟩
        by_cases hjJ : j = J
        · subst hjJ
          exact h1 h3
        · exact h2 ⟨j, by omega, h3⟩
theorem front_split {m0 : PM} {l : List (List Int)} {i j p' : Nat} (hle : (memT m0 l i).pl j ≤ (plc l i j).length) (hp : p' ≤ (memT m0 l i).pl j) :
    lastN ((memT m0 l i).pl j) (plc l i j) = frontN m0 l i j ((memT m0 l i).pl j - p') ++ lastN p' (plc l i j) ∧ ∀ k, k ∈ frontN m0 l i j ((memT m0 l i).pl j - p') → k ∉ lastN p' (plc l i j) := by
  have h1 := lastN_less (l := plc l i j) hle (show (memT m0 l i).pl j - p' ≤ (memT m0 l i).pl j by omega)
  rw [show (memT m0 l i).pl j - ((memT m0 l i).pl j - p') = p' by omega] at h1
  refine ⟨h1, fun k hk hk2 => ?_⟩
  have hs : (lastN ((memT m0 l i).pl j) (plc l i j)).Pairwise (· < ·) := (plc_sorted l i j).sublist (List.drop_sublist _ _)
  rw [h1, List.pairwise_append] at hs
  have := hs.2.2 k hk k hk2
  omega
theorem lastN_zero {α : Type} (l : List α) : lastN 0 l = [] := by unfold lastN; rw [Nat.sub_zero, List.drop_length]
theorem FInv.zero {m0 : PM} (l : List (List Int)) (n : Nat) (h0 : ∀ j, m0.pl j = 0) : FInv m0 l n 0 (List.replicate n 0) (List.replicate n 0) where
  fl := List.length_replicate
  ol := List.length_replicate
  le := fun j => by
    show m0.pl j ≤ _
    rw [h0 j]
    exact Nat.zero_le _
  line := fun k hk => absurd hk (Nat.not_lt_zero _)
  pend := fun j k hk => by
    have := (plc_mem.1 (lastN_sub hk)).1
    omega
  done := fun j k hk => by
    have := (plc_mem.1 hk).1
    omega
  none_ := fun k hk _ => by simp [hk]
theorem FInv.step {m0 : PM} {l : List (List Int)} {n i : Nat} (hn : l.length = n) (hf : fitsP m0 l = l.length) (hN : ∀ i, (memT m0 l i).L.length = m0.L.length) (h : FInv m0 l n i (fsT m0 l n i) (outT m0 l n i)) (hi : i < n) :
    FInv m0 l n (i + 1) (fsT m0 l n (i + 1)) (outT m0 l n (i + 1)) := by
  obtain ⟨a1, a2, a3⟩ := apply_pl (fits_step hf (by omega : i < l.length))
  have hms := memT_succ m0 (show i < l.length by omega)
  rw [← hms] at a1 a2 a3
  rw [hN i] at a1 a2
  obtain ⟨x, hx⟩ : ∃ x, l.getD i [] = x := ⟨_, rfl⟩
  rw [hx] at a1 a2 a3
  have hlt : ∀ {k j}, k ∈ plc l i j → k < i := fun hk => (plc_mem.1 hk).1
  cases hst : stq x with
  | true =>
    obtain ⟨b1, b2, b3⟩ := a1 hst
    have hfs : fsT m0 l n (i + 1) = (fsT m0 l n i).set i 2 := by
      show (let x := l.getD i []; if stq x then _ else _) = _
      simp only [hx, hst, if_true]
    have hout : outT m0 l n (i + 1) = (outT m0 l n i).set i 1 := by
      show (let x := l.getD i []; if stq x then _ else _) = _
      simp only [hx, hst, if_true]
    rw [hfs, hout]
    have hfi : ∀ k, k < n → k ≠ i → ((fsT m0 l n i).set i 2)[k]? = (fsT m0 l n i)[k]? := fun k _ hk => by rw [List.getElem?_set, if_neg (fun e => hk e.symm)]
    have hoi : ∀ k, k < n → k ≠ i → ((outT m0 l n i).set i 1)[k]? = (outT m0 l n i)[k]? := fun k _ hk => by rw [List.getElem?_set, if_neg (fun e => hk e.symm)]
    have hp0 : plc l (i + 1) (lnq x) = plc l i (lnq x) ++ [i] := plc_more (by rw [hx, hst]; simp)
    have hp1 : ∀ j, j ≠ lnq x → plc l (i + 1) j = plc l i j := fun j hj => plc_keep (by rw [hx, hst]; simp; exact fun e => hj e.symm)
    refine ⟨by rw [List.length_set, h.fl], by rw [List.length_set, h.ol], fun j => ?_, fun k hk hk2 => ?_, fun j k hk => ?_, fun j k hk hk2 => ?_, fun k hk hk2 => ?_⟩
    · rw [b3 j]
      have := h.le j
      by_cases hj : j = lnq x
      · rw [if_pos hj]
        rw [hj] at this ⊢
        rw [hp0, List.length_append]
        simp only [List.length_cons, List.length_nil]
        omega
      · rw [if_neg hj, hp1 j hj]
        omega
    · by_cases hki : k = i
      · rw [hki, hx]
        exact b1
      · exact h.line k (by omega) hk2
    · rw [b3 j] at hk
      by_cases hj : j = lnq x
      · subst hj
        rw [if_pos rfl, hp0, lastN_snoc (h.le _), List.mem_append] at hk
        rcases hk with hk | hk
        · have h1 := hlt (lastN_sub hk)
          rw [hfi k (by omega) (by omega), hoi k (by omega) (by omega)]
          exact h.pend _ k hk
        · simp only [List.mem_singleton] at hk
          subst hk
          rw [List.getElem?_set, if_pos rfl, if_pos (by rw [h.ol]; exact hi), List.getElem?_set, if_pos rfl, if_pos (by rw [h.fl]; exact hi)]
          exact ⟨rfl, rfl⟩
      · rw [if_neg hj, hp1 j hj, Nat.add_zero] at hk
        have h1 := hlt (lastN_sub hk)
        rw [hfi k (by omega) (by omega), hoi k (by omega) (by omega)]
        exact h.pend _ k hk
    · rw [b3 j] at hk2
      by_cases hj : j = lnq x
      · subst hj
        rw [if_pos rfl, hp0, lastN_snoc (h.le _), List.mem_append] at hk2
        rw [hp0, List.mem_append] at hk
        rcases hk with hk | hk
        · have h1 := hlt hk
          rw [hfi k (by omega) (by omega), hoi k (by omega) (by omega)]
          exact h.done _ k hk fun h2 => hk2 (.inl h2)
        · exact absurd (.inr hk) hk2
      · rw [if_neg hj, hp1 j hj, Nat.add_zero] at hk2
        rw [hp1 j hj] at hk
        have h1 := hlt hk
        rw [hfi k (by omega) (by omega), hoi k (by omega) (by omega)]
        exact h.done _ k hk hk2
    · have hki : k ≠ i := by
        rintro rfl
        rcases hk2 with h1 | h1
        · omega
        · rw [hx, hst] at h1
          cases h1
      rw [hfi k hk hki, hoi k hk hki]
      exact h.none_ k hk (hk2.imp (fun h => by omega) id)
  | false =>
    have hp : ∀ j, plc l (i + 1) j = plc l i j := fun j => plc_keep (by rw [hx, hst]; rfl)
    have hle := a3 hst
    obtain ⟨f, hfd⟩ : ∃ f : Int, (if x.getD 0 0 = 6 then (3 : Int) else 2) = f := ⟨_, rfl⟩
    have hf1 : f ≠ 1 := by rw [← hfd]; split <;> decide
    have hf23 : f = 2 ∨ f = 3 := by rw [← hfd]; split <;> simp
    have hout : outT m0 l n (i + 1) = outL l (memT m0 l i) (memT m0 l (i + 1)) f i (outT m0 l n i) m0.L.length := by
      show (let x := l.getD i []; if stq x then _ else _) = _
      simp only [hx, hst, Bool.false_eq_true, if_false]
      rw [hfd]
    have hoa := fun k hk => outL_at h (by omega) (memT m0 l (i + 1)) f hf1 m0.L.length k hk
    rw [← hout] at hoa
    have hol : (outT m0 l n (i + 1)).length = n := by rw [hout, outL_length, h.ol]
    have hfl : (fsT m0 l n (i + 1)).length = n := by
      show (let x := l.getD i []; if stq x then _ else _ : List Int).length = n
      simp only [hx, hst, Bool.false_eq_true, if_false]
      split
      · rw [markAll_len, h.fl]
      · exact h.fl
    have hfs : ∀ k, k < n → (fsT m0 l n (i + 1))[k]? = if x.getD 0 0 = 6 ∧ k ∈ lastN ((memT m0 l i).pl (atq x)) (plc l i (atq x)) then some 3 else (fsT m0 l n i)[k]? := fun k hk => by
      show (let x := l.getD i []; if stq x then _ else _ : List Int)[k]? = _
      simp only [hx, hst, Bool.false_eq_true, if_false]
      by_cases h6 : x.getD 0 0 = 6
      · rw [if_pos h6, markAll_at _ _ _ _ (by rw [h.fl]; exact hk)]
        by_cases hm : k ∈ lastN ((memT m0 l i).pl (atq x)) (plc l i (atq x))
        · rw [if_pos hm, if_pos ⟨h6, hm⟩]
        · rw [if_neg hm, if_neg fun e => hm e.2]
      · rw [if_neg h6, if_neg fun e => h6 e.1]
    have hsplit := fun j => front_split (p' := (memT m0 l (i + 1)).pl j) (h.le j) (hle j)
    refine ⟨hfl, hol, fun j => ?_, fun k hk hk2 => ?_, fun j k hk => ?_, fun j k hk hk2 => ?_, fun k hk hk2 => ?_⟩
    · rw [hp j]
      exact Nat.le_trans (hle j) (h.le j)
    · by_cases hki : k = i
      · rw [hki, hx, hst] at hk2
        cases hk2
      · exact h.line k (by omega) hk2
    · rw [hp j] at hk
      obtain ⟨s1, s2⟩ := hsplit j
      have hk0 : k ∈ lastN ((memT m0 l i).pl j) (plc l i j) := by rw [s1]; exact List.mem_append_right _ hk
      have hki := hlt (lastN_sub hk0)
      obtain ⟨q1, q2⟩ := h.pend j k hk0
      refine ⟨?_, ?_⟩
      · rw [hoa k (by omega), if_neg, q1]
        rintro ⟨j', _, hj2⟩
        have : j' = j := plc_line (lastN_sub (List.mem_of_mem_take hj2)) (lastN_sub hk0)
        subst this
        exact s2 k hj2 hk
      · rw [hfs k (by omega), if_neg, q2]
        rintro ⟨h6, hm⟩
        have hj : atq x = j := plc_line (lastN_sub hm) (lastN_sub hk0)
        obtain ⟨_, _, c3⟩ := a2 h6
        have := c3 j
        rw [if_pos hj.symm] at this
        rw [this, lastN_zero] at hk
        cases hk
    · rw [hp j] at hk hk2
      obtain ⟨s1, s2⟩ := hsplit j
      have hki := hlt hk
      obtain ⟨g1, g2, g3⟩ := plc_mem.1 hk
      have hjN : j < m0.L.length := by rw [← g3]; exact h.line k hki g2
      by_cases hfr : k ∈ frontN m0 l i j ((memT m0 l i).pl j - (memT m0 l (i + 1)).pl j)
      · have hk0 : k ∈ lastN ((memT m0 l i).pl j) (plc l i j) := List.mem_of_mem_take hfr
        rw [hoa k (by omega), if_pos ⟨j, hjN, hfr⟩, hfs k (by omega)]
        refine ⟨?_, by rcases hf23 with h1 | h1 <;> rw [h1] <;> simp⟩
        by_cases h6 : x.getD 0 0 = 6
        · obtain ⟨_, _, c3⟩ := a2 h6
          have hja : j = atq x := by
            apply Classical.byContradiction
            intro hne
            have := c3 j
            rw [if_neg hne] at this
            rw [this, Nat.sub_self] at hfr
            cases hfr
          subst hja
          rw [if_pos ⟨h6, hk0⟩, ← hfd, if_pos h6]
        · rw [if_neg fun e => h6 e.1, (h.pend j k hk0).2, ← hfd, if_neg h6]
      · have hk0 : k ∉ lastN ((memT m0 l i).pl j) (plc l i j) := by
          rw [s1, List.mem_append]
          rintro (h1 | h1)
          · exact hfr h1
          · exact hk2 h1
        obtain ⟨d1, d2⟩ := h.done j k hk hk0
        rw [hoa k (by omega), if_neg, hfs k (by omega), if_neg]
        · exact ⟨d1, d2⟩
        · rintro ⟨_, hm⟩
          have hj : atq x = j := plc_line (lastN_sub hm) hk
          rw [hj] at hm
          exact hk0 hm
        · rintro ⟨j', _, hj2⟩
          have : j' = j := plc_line (lastN_sub (List.mem_of_mem_take hj2)) hk
          subst this
          exact hfr hj2
    · have hnp : ∀ j, k ∉ plc l i j := fun j hm => by
        obtain ⟨g1, g2, _⟩ := plc_mem.1 hm
        rcases hk2 with h1 | h1
        · omega
        · rw [g2] at h1
          cases h1
      have h00 := h.none_ k hk (by
        by_cases hki : i ≤ k
        · exact .inl hki
        · rcases hk2 with h1 | h1
          · omega
          · exact .inr h1)
      rw [hoa k hk, if_neg, hfs k hk, if_neg]
      · exact h00
      · rintro ⟨_, hm⟩
        exact hnp _ (lastN_sub hm)
      · rintro ⟨j', _, hj2⟩
        exact hnp _ (lastN_sub (List.mem_of_mem_take hj2))
theorem FInv.all {m0 : PM} {l : List (List Int)} {n : Nat} (hn : l.length = n) (hf : fitsP m0 l = l.length) (hN : ∀ i, (memT m0 l i).L.length = m0.L.length) (h0 : ∀ j, m0.pl j = 0) : ∀ i, i ≤ n → FInv m0 l n i (fsT m0 l n i) (outT m0 l n i)
  | 0, _ => FInv.zero l n h0
  | i + 1, hi => FInv.step hn hf hN (FInv.all hn hf hN h0 i (by omega)) (by omega)
theorem fsEnd_len (m0 : PM) (l : List (List Int)) (n : Nat) (h : (fsT m0 l n n).length = n) : ∀ J, (fsEnd m0 l n J).length = n
  | 0 => h
  | J + 1 => by
    show (markAll (fsEnd m0 l n J) 1 _).length = n
    rw [markAll_len, fsEnd_len m0 l n h J]
theorem fsEnd_at (m0 : PM) (l : List (List Int)) (n : Nat) (h : (fsT m0 l n n).length = n) : ∀ J k, k < n → (fsEnd m0 l n J)[k]? = if ∃ j, j < J ∧ k ∈ lastN ((memT m0 l n).pl j) (plc l n j) then some 1 else (fsT m0 l n n)[k]?
  | 0, k, _ => by
    rw [if_neg (by rintro ⟨j, hj, _⟩; omega)]
    rfl
  | J + 1, k, hk => by
    show (markAll (fsEnd m0 l n J) 1 (lastN ((memT m0 l n).pl J) (plc l n J)))[k]? = _
    rw [markAll_at _ _ _ _ (by rw [fsEnd_len m0 l n h]; exact hk), fsEnd_at m0 l n h J k hk]
    by_cases h1 : k ∈ lastN ((memT m0 l n).pl J) (plc l n J)
    · rw [if_pos h1, if_pos ⟨J, by omega, h1⟩]
    · rw [if_neg h1]
      by_cases h2 : ∃ j, j < J ∧ k ∈ lastN ((memT m0 l n).pl j) (plc l n j)
      · obtain ⟨j, hj, h3⟩ := h2
        rw [if_pos ⟨j, hj, h3⟩, if_pos ⟨j, by omega, h3⟩]
      · rw [if_neg h2, if_neg]
        rintro ⟨j, hj, h3⟩
        by_cases hjJ : j = J
        · subst hjJ
          exact h1 h3
        · exact h2 ⟨j, by omega, h3⟩
/-- Both end alike. -/
theorem fates_eq {m0 : PM} {l : List (List Int)} {n : Nat} (hn : l.length = n) (hf : fitsP m0 l = l.length) (hN : ∀ i, (memT m0 l i).L.length = m0.L.length) (h0 : ∀ j, m0.pl j = 0) : fsEnd m0 l n m0.L.length = outT m0 l n n := by
  have h := FInv.all hn hf hN h0 n (Nat.le_refl _)
  refine List.ext_getElem? fun k => ?_
  by_cases hk : k < n
  · rw [fsEnd_at m0 l n h.fl _ k hk]
    by_cases hst : stq (l.getD k []) = true
    · have hkp : k ∈ plc l n (lnq (l.getD k [])) := plc_mem.2 ⟨hk, hst, rfl⟩
      by_cases hl : k ∈ lastN ((memT m0 l n).pl (lnq (l.getD k []))) (plc l n (lnq (l.getD k [])))
      · rw [if_pos ⟨_, h.line k hk hst, hl⟩, (h.pend _ k hl).1]
      · rw [if_neg, (h.done _ k hkp hl).1]
        rintro ⟨j, _, hj⟩
        have : j = lnq (l.getD k []) := plc_line (lastN_sub hj) hkp
        subst this
        exact hl hj
    · have hst : stq (l.getD k []) = false := by simpa using hst
      obtain ⟨e1, e2⟩ := h.none_ k hk (.inr hst)
      rw [if_neg, e1, e2]
      rintro ⟨j, _, hj⟩
      have := (plc_mem.1 (lastN_sub hj)).2.1
      rw [hst] at this
      cases this
  · rw [List.getElem?_eq_none (by rw [fsEnd_len m0 l n h.fl]; omega), List.getElem?_eq_none (by rw [h.ol]; omega)]
end Go.Proofs.YtpojhplnhppcpaaGreatDoor
namespace Go.Proofs.YtpojhplnhppcpaaGreatDoor
open Go.RowKit Go.Maps
def nilS : Value := .slice none 0 0
structure Places (w : World) (base b N : Nat) (st : Nat → List Nat) (D : DataW Value) (G : Nat → Value) : Prop where
  map : w.ownsMap Tryz.prog 3 heldR b (Maps.size D) D
  at_ : ∀ i, i < N → D.atKey (kOf i) (.held nilS) = .held (G i)
  off : ∀ kl, Maps.has D kl = true → ∃ i, i < N ∧ kl = kOf i
  sl : ∀ i, i < N → Sl w 3 1 (G i) (st i).length (iv (ci (st i)))
  own : ∀ i, i < N → ∀ k, (G i).ownBlock = some k → base ≤ k
  apart : ∀ i j, i < N → j < N → i ≠ j → (G i).ownBlock ≠ none → (G i).ownBlock ≠ (G j).ownBlock
  new : base ≤ b
theorem Places.keep {w w' : World} {base b N : Nat} {st : Nat → List Nat} {D : DataW Value} {G : Nat → Value} (h : Places w base b N st D G) (hb : w'.heap[b]? = w.heap[b]?) (hG : ∀ i, i < N → ∀ q, (G i).ownBlock = some q → w'.heap[q]? = w.heap[q]?) : Places w' base b N st D G :=
  ⟨ownsMap_keep h.map hb, h.at_, h.off, fun i hi => (h.sl i hi).keep fun q hq => hG i hi q hq, h.own, h.apart, h.new⟩
theorem Places.below {w w' : World} {base b N : Nat} {st : Nat → List Nat} {D : DataW Value} {G : Nat → Value} (h : Places w base b N st D G) (hb : Below w.heap.size w w') : Places w' base b N st D G :=
  h.keep (hb.block b h.map.lt) fun i hi q hq => hb.block q ((h.sl i hi).lt hq)
theorem zeroSl (w : World) : (zeroValue 59).run Tryz.prog w = .ok nilS w := by kernel_rfl
/-- What the map of places holds at a line. -/
theorem lookP_run {w : World} {b n : Nat} {D : DataW Value} (h : w.ownsMap Tryz.prog 3 heldR b n D) (z : Int) (hz : I64 z) {v : Value} (hv : D.atKey (.int .i64 z) (.held nilS) = .held v) :
    (Instr.lookup 120 (.map (some b)) (.int .i64 z) false).run Tryz.prog w = .ok v w := by
  obtain ⟨u, ps, hrun, hu⟩ := h.lookup keyed3 Tryz.underlying120 (zeroSl w) (show heldR nilS = some (.held nilS, []) from rfl) (key_of z hz)
  rw [hv] at hu
  rw [hrun, heldR_inj hu]
/-- A store into the map of places, where the operation stands alone. -/
theorem wp_mapUpdate_places {o : Oper} {a : Act} {K : Act → World → Prop} {Q : Exit → Act → World → Prop} {w : World} (m x v : Operand) (hop : o.op = Op.mapUpdate 120 m x v)
    (b n : Nat) (D : DataW Value) (hm : a.eval m = .map (some b)) (hown : w.ownsMap Tryz.prog 3 heldR b n D) (hn : n < maxLen) (key val : Value) (kl : Lit) (hx : a.eval x = key) (hv : a.eval v = val) (hkey : keyOf Tryz.prog 3 key = some kl)
    (hK : ∀ w', w'.ownsMap Tryz.prog 3 heldR b (n + 1) (D.put kl (.held val)) → w.grownBy w' (some b) → K (a.put o.dst undef) w') : o.wp Tryz.prog a w K Q := by
  obtain ⟨w', hrun, r1, r2⟩ := hown.update keyed3 Tryz.underlying120 hn hkey (show heldR val = some (.held val, []) from rfl)
  unfold Oper.wp
  simp [execOp, hop, hm, hx, hv, hrun, Result.andThen]
  exact hK w' r1 r2
theorem markAll_snoc (fs : List Int) (f : Int) (ks : List Nat) (k : Nat) : markAll fs f (ks ++ [k]) = (markAll fs f ks).set k f := by
  unfold markAll
  rw [List.foldl_append]
  rfl
theorem iv_ci_at {l : List Nat} {k : Nat} (h : k < l.length) : (iv (ci l))[k]? = some (.int .i64 ((l[k] : Nat) : Int)) := by
  unfold iv ci
  rw [List.getElem?_map, List.getElem?_map, List.getElem?_eq_getElem h]
  rfl
set_option maxRecDepth 100000 in
set_option maxHeartbeats 8000000 in
set_option linter.unusedSimpArgs false in
/-- The closure: the last places of a line, as many as it has pending stores, are marked. -/
theorem end_any (i n p sb pb fb mb base : Nat) (f : Int) (fv : Value) (fs : List Int) (st : Nat → List Nat) (m : PM) (F : Nat → Prop) (D : DataW Value) (G : Nat → Value) (w : World)
    (hs : Arr w sb 120 [.map (some mb)]) (hp : Arr w pb 32 [.pointer (some ⟨p, 0, none⟩)]) (hf : Arr w fb 59 [fv])
    (hm : m.Ok) (hsm : m.Small 1000000) (hr : Rep w p m F) (hi : i < m.L.length) (hP : Places w base mb m.L.length st D G) (hle : m.pl i ≤ (st i).length) (hlt : ∀ k ∈ st i, k < n)
    (hfs : Sl w 3 1 fv n (iv fs)) (hfne : ∀ q, fv.ownBlock = some q → q ≠ fb ∧ (G i).ownBlock ≠ some q) :
    Calls Tryz.prog 76 #[.int .i64 (i : Int), .int .i64 f, .pointer (some ⟨sb, 0, none⟩), .pointer (some ⟨pb, 0, none⟩), .pointer (some ⟨fb, 0, none⟩)] w fun e w' =>
      e = .returned (.tuple #[]) ∧ Sl w' 3 1 fv n (iv (markAll fs f (lastN (m.pl i) (st i)))) ∧ Kept (fun q => fv.ownBlock = some q) w w' := by
  have hfw := hm.few
  have hI : I64 (i : Int) := by unfold I64; omega
  have hlk0 := lookP_run hP.map (i : Int) hI (hP.at_ i hi)
  have hpe : pendP m (i : Int) = (m.line i).pend := by unfold pendP PM.has; rw [if_pos (by simp; exact hi), Int.toNat_natCast]
  have HPE := Lib.hid (pending_any p (i : Int) m F w hI hm.few (by rw [hpe]; exact hsm.pend _ (PM.line_mem hi)) hr)
  rw [hpe] at HPE
  change Hid (Calls _ _ _ _ (Cloned w 105 2 (m.pl i) (iv (flatS (m.line i).pend)))) at HPE
  have hplm : m.pl i ≤ 1000000 := hsm.pend _ (PM.line_mem hi)
  generalize m.pl i = pl at *
  have hsi := hP.sl i hi
  have HFE := Lib.hid hfne
  obtain ⟨S, hS⟩ : ∃ S, st i = S := ⟨_, rfl⟩
  rw [hS] at hsi hle hlt ⊢
  obtain ⟨LL, hLL⟩ : ∃ LL, lastN pl S = LL := ⟨_, rfl⟩
  rw [hLL]
  have HLL := Lib.hid hLL
  clear hLL
  obtain ⟨g, hg⟩ : ∃ g, G i = g := ⟨_, rfl⟩
  rw [hg] at hlk0 hsi HFE
  have s0 := hs.cell (j := 0) (u := .map (some mb)) rfl
  have p0 := hp.cell (j := 0) (u := .pointer (some ⟨p, 0, none⟩)) rfl
  have HF := Lib.hid hf
  have HFS := Lib.hid hfs
  have HSI := Lib.hid hsi
  have HLT := Lib.hid hlt
  obtain ⟨A, cap, rfl, hcc, hcm, hc0, hcs⟩ := hsi.shape
  obtain ⟨sl, hsl⟩ : ∃ sl, S.length = sl := ⟨_, rfl⟩
  have HSN := Lib.hid hsl
  have HCS := Lib.hid hcs
  rw [hsl] at hcc hle HSI hc0 hlk0
  have hcm2 : cap ≤ 9223372036854775807 := by unfold maxLen at hcm; omega
  clear hs hp hf hm hsm hr hP hpe hfne hS hg hfs hsi hlt hcm hcs hsl hI
  go_enter Tryz.func76, Tryz.ntmps76
  go_wp2_with fail
  refine HPE.out.mono ?_
  rintro e w1 ⟨pv, rfl, hps, _, hb1⟩
  obtain ⟨PA, pcap, rfl, _⟩ := hps.shape
  have HB1 := Lib.hid hb1
  have hwr : IntKind.i64.wrap ((sl : Int) - (pl : Int)) = ((sl - pl : Nat) : Int) := by rw [i64_wraps]; omega
  have h1 : ((sl - pl : Nat) : Int) ≤ (sl : Int) := by omega
  have h2 : sl - pl ≤ sl := by omega
  have h3 : sl - (sl - pl) = pl := by omega
  clear hps hb1 HPE
  by_cases hp0 : pl = 0
  · subst hp0
    have HFS1 : Hid (Sl w1 3 1 fv n (iv fs)) := Lib.hid (HFS.out.keep fun q hq => HB1.out.block q (HFS.out.lt hq))
    have HL0 : Hid (markAll fs f LL = fs) := Lib.hid (by rw [← HLL.out, lastN_zero]; rfl)
    have h4 : ((sl - 0 : Nat) : Int) = (sl : Int) := by simp
    rw [h4] at hwr
    clear h1 h2 h3 h4
    cases A with
    | none =>
      obtain ⟨rfl, rfl, _⟩ := hc0 rfl
      go_wp2_with fail
      all_goals (
        go_loopw [23] (fun i wr => i = .int .i64 0 ∧ wr = w1) (fun _ _ => 0)
        case atStart => exact ⟨rfl, rfl⟩
        case round =>
          obtain ⟨rfl, rfl⟩ := hrel
          go_wp2_with fail
          go_end0
          exact ⟨rfl, by rw [HL0.out]; exact HFS1.out, Kept.of_below HB1.out⟩)
    | some ad =>
      go_wp2_with fail
      all_goals (
        go_loopw [23] (fun i wr => i = .int .i64 0 ∧ wr = w1) (fun _ _ => 0)
        case atStart => exact ⟨rfl, rfl⟩
        case round =>
          obtain ⟨rfl, rfl⟩ := hrel
          go_wp2_with fail
          go_end0
          exact ⟨rfl, by rw [HL0.out]; exact HFS1.out, Kept.of_below HB1.out⟩)
  cases A with
  | none =>
    obtain ⟨rfl, rfl, _⟩ := hc0 rfl
    exact absurd hle (by omega)
  | some ad =>
    have hne : ¬ cap = sl - pl := by omega
    obtain ⟨hsp, hob, hcell⟩ := HCS.out ad rfl
    obtain ⟨b, o, sp⟩ := ad
    simp only at hsp hob hcell
    subst hsp
    have hbl := HSI.out.lt hob
    have hLd : LL = S.drop (sl - pl) := by rw [← HLL.out]; unfold lastN; rw [HSN.out]
    have hLn : LL.length = pl := by rw [hLd, List.length_drop, HSN.out]; omega
    have HLK : Hid (∀ k (h : k < pl), ∃ q, LL[k]? = some q ∧ q < n ∧ (iv (ci S))[(sl - pl) + k]? = some (.int .i64 ((q : Nat) : Int))) := Lib.hid fun k hk => by
      have hk2 : (sl - pl) + k < S.length := by rw [HSN.out]; omega
      refine ⟨S[(sl - pl) + k], ?_, HLT.out _ (List.getElem_mem hk2), iv_ci_at hk2⟩
      rw [hLd, List.getElem?_drop, List.getElem?_eq_getElem hk2]
    have HCE : Hid (∀ wr, Kept (fun q => fv.ownBlock = some q) w1 wr → ∀ j u, (iv (ci S))[j]? = some u → wr.cell? ⟨b, o + j, none⟩ = some u) := Lib.hid fun wr hK j u hj => by
      have e1 := (HB1.out.cell (p := ⟨b, o + j, none⟩) hbl).trans (hcell j u hj)
      refine (cell_of_block (hK.block b (Nat.lt_of_lt_of_le hbl HB1.out.size) fun hq => ?_)).trans e1
      exact (HFE.out b hq).2 hob
    have HF1 := Lib.hid (HF.out.keep HB1.out)
    have HS1 : Hid (Sl w1 3 1 fv n (iv (markAll fs f (LL.take 0)))) := Lib.hid (HFS.out.keep fun q hq => HB1.out.block q (HFS.out.lt hq))
    obtain ⟨FA, fcap, rfl, hf1, hf2, hf3, hf4⟩ := HFS.out.shape
    have HFA : Hid (∀ ad, FA = some ad → ad.spot = none ∧ (Value.slice FA n fcap).ownBlock = some ad.block) := Lib.hid fun ad h => ⟨(hf4 ad h).1, (hf4 ad h).2.1⟩
    have HF0 : Hid (FA = none → n = 0) := Lib.hid fun h => (hf3 h).1
    have hfc : fcap ≤ 9223372036854775807 := by unfold maxLen at hf2; omega
    have HLN := Lib.hid hLn
    have HK0 : Hid (Kept (fun q => (Value.slice FA n fcap).ownBlock = some q) w1 w1) := Lib.hid (Kept.refl _ _)
    clear hob hcell hLd hLn hf2 hf3 hf4 hbl
    go_wp2_with fail
    go_loopw [23] (fun i wr => ∃ k : Nat, i = .int .i64 (k : Int) ∧ k ≤ pl ∧ Hid (Sl wr 3 1 (.slice FA n fcap) n (iv (markAll fs f (LL.take k)))) ∧ Hid (Kept (fun q => (Value.slice FA n fcap).ownBlock = some q) w1 wr)) (fun i _ => pl - (intOf i).toNat)
    case atStart => exact ⟨0, rfl, by omega, HS1, HK0⟩
    case round =>
      clear HS1 HK0
      obtain ⟨k, rfl, hk, HS, HK⟩ := hrel
      by_cases hlt : k < pl
      · obtain ⟨q, hq, hqn, hqc⟩ := HLK.out k hlt
        have hkI : (k : Int) < (pl : Int) := by omega
        cases FA with
        | none => exact absurd (HF0.out rfl) (by omega)
        | some fad =>
        obtain ⟨hfs, hfo⟩ := HFA.out fad rfl
        obtain ⟨fg, fo, sp⟩ := fad
        simp only at hfs hfo
        subst hfs
        have ce := HCE.out wr HK.out _ _ hqc
        rw [← Nat.add_assoc] at ce
        have hfne := (HFE.out fg hfo).1
        have hA : Arr wr fb 59 [.slice (some ⟨fg, fo, none⟩) n fcap] := (HK.out.block fb HF1.out.lt fun hq => (HFE.out fb hq).1 rfl).trans HF1.out
        have cf := hA.cell (j := 0) (u := .slice (some ⟨fg, fo, none⟩) n fcap) rfl
        have fr := HS.out.free hfo (fo + q)
        have hlen : (iv (markAll fs f (LL.take k))).length = n * 1 := HS.out.1
        obtain ⟨cu, cc⟩ : ∃ u, wr.cell? ⟨fg, fo + q, none⟩ = some u := by
          obtain ⟨u, hu⟩ : ∃ u, (iv (markAll fs f (LL.take k)))[q]? = some u := ⟨_, List.getElem?_eq_getElem (by omega)⟩
          exact ⟨u, HS.out.cells rfl q u hu⟩
        have hS2 := HS.out.set q (.int .i64 f)
        rw [iv_set, ← markAll_snoc] at hS2
        have htk : LL.take k ++ [q] = LL.take (k + 1) := by
          have hkl : k < LL.length := by rw [HLN.out]; exact hlt
          rw [take_snoc' LL k hkl]
          rw [List.getElem?_eq_getElem hkl] at hq
          rw [Option.some.inj hq]
        rw [htk] at hS2
        have HS2 := Lib.hid hS2
        have HK2 : Hid (Kept (fun q => (Value.slice (some ⟨fg, fo, none⟩) n fcap).ownBlock = some q) w1 (wr.setCell ⟨fg, fo + q, none⟩ (.int .i64 f))) := Lib.hid (HK.out.then_ (Kept.setCell wr (a := ⟨fg, fo + q, none⟩) _ hfo))
        have hqI : (q : Int) < (n : Int) := by omega
        clear hS2 htk hA hfo HS HCE hqc hq hlen
        go_wp2_with fail
        go_roundw
        case rel => exact ⟨k + 1, by simp, by omega, HS2, HK2⟩
        case measure => simp [intOf]; omega
      · obtain rfl : k = pl := by omega
        have hkI : ¬ (k : Int) < (k : Int) := by omega
        have HFIN : Hid (Sl wr 3 1 (.slice FA n fcap) n (iv (markAll fs f LL))) := Lib.hid (by
          have := HS.out
          rw [List.take_of_length_le (by rw [HLN.out]; exact Nat.le_refl _)] at this
          exact this)
        have HKF : Hid (Kept (fun q => (Value.slice FA n fcap).ownBlock = some q) w wr) := Lib.hid ((Kept.of_below HB1.out).then_ HK.out)
        go_wp2_with fail
        go_end0
        exact ⟨rfl, HFIN.out, HKF.out⟩
end Go.Proofs.YtpojhplnhppcpaaGreatDoor
