/-
  Fates at two points of one list; how many stores of a line are pending.
-/
import Derived.Test.YtpojhplnhppcpaaGreatDoorQV4
namespace Go.Proofs.YtpojhplnhppcpaaGreatDoor
open Go.RowKit
theorem getD_take {l : List (List Int)} {n q : Nat} (h : q < n) : (l.take n).getD q [] = l.getD q [] := by
  rw [List.getD_eq_getElem?_getD, List.getD_eq_getElem?_getD, List.getElem?_take, if_pos h]
theorem memT_take {m0 : PM} {l : List (List Int)} {n i : Nat} (h : i ≤ n) : memT m0 (l.take n) i = memT m0 l i := by
  unfold memT
  rw [List.take_take, Nat.min_eq_left h]
theorem plc_take {l : List (List Int)} {n i j : Nat} (h : i ≤ n) : plc (l.take n) i j = plc l i j := by
  unfold plc seg
  refine List.filter_congr fun q hq => ?_
  have := (List.mem_range'_1.1 hq).2
  rw [getD_take (by omega)]
/-- The fates of the first events are told by these. -/
theorem out_take {m0 : PM} {l : List (List Int)} {n N : Nat} (hN : l.length = N) (hn : n ≤ N) (hf : fitsP m0 l = l.length) (hL : ∀ i, (memT m0 l i).L.length = m0.L.length) (h0 : ∀ j, m0.pl j = 0) : ∀ i, i ≤ n → ∀ k, k < n → (outT m0 (l.take n) n i)[k]? = (outT m0 l N i)[k]?
  | 0, _, k, hk => by
    show (List.replicate n (0 : Int))[k]? = (List.replicate N (0 : Int))[k]?
    rw [List.getElem?_replicate, List.getElem?_replicate, if_pos hk, if_pos (by omega)]
  | i + 1, hi, k, hk => by
    have ih := out_take hN hn hf hL h0 i (by omega)
    have A := FInv.all hN hf hL h0 i (by omega)
    have hlt : (l.take n).length = n := by rw [List.length_take]; omega
    have hL2 : ∀ i', (memT m0 (l.take n) i').L.length = m0.L.length := fun i' => by
      unfold memT
      rw [List.take_take]
      exact hL _
    have B := FInv.all hlt (by rw [hlt]; exact fits_take l n (by rw [hf, hN]; exact hn)) hL2 h0 i (by omega)
    have hx : (l.take n).getD i [] = l.getD i [] := getD_take (by omega)
    obtain ⟨x, hxe⟩ : ∃ x, l.getD i [] = x := ⟨_, rfl⟩
    rw [hxe] at hx
    cases hst : stq x with
    | true =>
      have h1 : outT m0 (l.take n) n (i + 1) = (outT m0 (l.take n) n i).set i 1 := by
        show (let x := (l.take n).getD i []; if stq x then _ else _) = _
        simp only [hx, hst, if_true]
      have h2 : outT m0 l N (i + 1) = (outT m0 l N i).set i 1 := by
        show (let x := l.getD i []; if stq x then _ else _) = _
        simp only [hxe, hst, if_true]
      rw [h1, h2, List.getElem?_set, List.getElem?_set, B.ol, A.ol]
      by_cases e : i = k
      · rw [if_pos e, if_pos e, if_pos (by omega), if_pos (by omega)]
      · rw [if_neg e, if_neg e]
        exact ih k hk
    | false =>
      obtain ⟨f, hfd⟩ : ∃ f : Int, (if x.getD 0 0 = 6 then (3 : Int) else 2) = f := ⟨_, rfl⟩
      have hf1 : f ≠ 1 := by rw [← hfd]; split <;> decide
      have h1 : outT m0 (l.take n) n (i + 1) = outL (l.take n) (memT m0 (l.take n) i) (memT m0 (l.take n) (i + 1)) f i (outT m0 (l.take n) n i) m0.L.length := by
        show (let x := (l.take n).getD i []; if stq x then _ else _) = _
        simp only [hx, hst, Bool.false_eq_true, if_false]
        rw [hfd]
      have h2 : outT m0 l N (i + 1) = outL l (memT m0 l i) (memT m0 l (i + 1)) f i (outT m0 l N i) m0.L.length := by
        show (let x := l.getD i []; if stq x then _ else _) = _
        simp only [hxe, hst, Bool.false_eq_true, if_false]
        rw [hfd]
      rw [h1, h2, outL_at B (by omega) _ f hf1 _ k hk, outL_at A (by omega) _ f hf1 _ k (by omega), ih k hk]
      unfold frontN
      rw [memT_take hi, memT_take (show i ≤ n by omega)]
      have hp : ∀ j, plc (l.take n) i j = plc l i j := fun j => plc_take (by omega)
      simp only [hp]
/-- What is durable stays so. -/
theorem out_stay {m0 : PM} {l : List (List Int)} {N : Nat} (hN : l.length = N) (hf : fitsP m0 l = l.length) (hL : ∀ i, (memT m0 l i).L.length = m0.L.length) (h0 : ∀ j, m0.pl j = 0) {i k : Nat} : ∀ d, i + d ≤ N → (outT m0 l N i)[k]? = some 2 → (outT m0 l N (i + d))[k]? = some 2
  | 0, _, h => h
  | d + 1, hd, h => by
    have ih := out_stay hN hf hL h0 d (by omega) h
    have A := FInv.all hN hf hL h0 (i + d) (by omega)
    have hkN : k < N := by
      have := (List.getElem?_eq_some_iff.1 ih).1
      rw [A.ol] at this
      exact this
    obtain ⟨x, hxe⟩ : ∃ x, l.getD (i + d) [] = x := ⟨_, rfl⟩
    show (outT m0 l N (i + d + 1))[k]? = _
    cases hst : stq x with
    | true =>
      have h2 : outT m0 l N (i + d + 1) = (outT m0 l N (i + d)).set (i + d) 1 := by
        show (let x := l.getD (i + d) []; if stq x then _ else _) = _
        simp only [hxe, hst, if_true]
      rw [h2, List.getElem?_set]
      by_cases e : i + d = k
      · have := (A.none_ k hkN (.inl (by omega))).1
        rw [ih] at this
        cases this
      · rw [if_neg e]
        exact ih
    | false =>
      obtain ⟨f, hfd⟩ : ∃ f : Int, (if x.getD 0 0 = 6 then (3 : Int) else 2) = f := ⟨_, rfl⟩
      have hf1 : f ≠ 1 := by rw [← hfd]; split <;> decide
      have h2 : outT m0 l N (i + d + 1) = outL l (memT m0 l (i + d)) (memT m0 l (i + d + 1)) f (i + d) (outT m0 l N (i + d)) m0.L.length := by
        show (let x := l.getD (i + d) []; if stq x then _ else _) = _
        simp only [hxe, hst, Bool.false_eq_true, if_false]
        rw [hfd]
      rw [h2, outL_at A (by omega) _ f hf1 _ k hkN, if_neg, ih]
      rintro ⟨j, _, hj⟩
      have := (A.pend j k (List.mem_of_mem_take hj)).1
      rw [ih] at this
      cases this
/-- How many stores of line j are pending, among the first k events. -/
def pcnt (O : List Int) (l : List (List Int)) (j k : Nat) : Nat := ((List.range' 0 k).filter fun q => decide (O.getD q 0 = 1) && (lnq (l.getD q []) == j)).length
theorem pcnt_succ (O : List Int) (l : List (List Int)) (j k : Nat) : pcnt O l j (k + 1) = pcnt O l j k + (if O.getD k 0 = 1 ∧ lnq (l.getD k []) = j then 1 else 0) := by
  unfold pcnt
  rw [List.range'_1_concat, List.filter_append, List.length_append, Nat.zero_add]
  congr 1
  rw [List.filter_cons, List.filter_nil]
  by_cases h : O.getD k 0 = 1 ∧ lnq (l.getD k []) = j
  · rw [if_pos h, if_pos (by rw [decide_eq_true h.1, h.2]; simp)]
    rfl
  · rw [if_neg h, if_neg (by
      simp only [Bool.and_eq_true, decide_eq_true_eq, beq_iff_eq]
      exact h)]
    rfl
theorem pcnt_pos {O : List Int} {l : List (List Int)} {j k : Nat} (h : 0 < pcnt O l j k) : ∃ q, q < k ∧ O.getD q 0 = 1 ∧ lnq (l.getD q []) = j := by
  unfold pcnt at h
  obtain ⟨q, hq⟩ := List.length_pos_iff_exists_mem.1 h
  rw [List.mem_filter, List.mem_range'_1] at hq
  simp only [Bool.and_eq_true, decide_eq_true_eq, beq_iff_eq] at hq
  exact ⟨q, by omega, hq.2⟩
theorem pcnt_le (O : List Int) (l : List (List Int)) (j k : Nat) : pcnt O l j k ≤ k := by
  unfold pcnt
  refine Nat.le_trans (List.length_filter_le _ _) ?_
  rw [List.length_range']
  exact Nat.le_refl _
theorem getD_some {O : List Int} {k : Nat} {z : Int} (h : O[k]? = some z) : O.getD k 0 = z := by
  rw [List.getD_eq_getElem?_getD, h]
  rfl
/-- What fates say, at one point. -/
structure Fated (m : PM) (NL : Nat) (l : List (List Int)) (n : Nat) (O : List Int) : Prop where
  len : O.length = n
  line : ∀ k, k < n → O.getD k 0 ≠ 0 → lnq (l.getD k []) < NL
  ahead : ∀ k, k < n → O.getD k 0 = 2 → pcnt O l (lnq (l.getD k [])) k = 0
  all : ∀ j, pcnt O l j n = m.pl j
  st : ∀ k, k < n → O.getD k 0 ≠ 0 → stq (l.getD k []) = true
theorem fated_of {m0 : PM} {l : List (List Int)} {N n : Nat} {O : List Int} (hN : l.length = N) (hn : n ≤ N) (hf : fitsP m0 l = l.length) (hL : ∀ i, (memT m0 l i).L.length = m0.L.length) (h0 : ∀ j, m0.pl j = 0) (hO : O.length = n) (hOe : ∀ k, k < n → O[k]? = (outT m0 l N n)[k]?) :
    Fated (memT m0 l n) m0.L.length l n O := by
  have A := FInv.all hN hf hL h0 n hn
  have hst : ∀ k, k < n → O.getD k 0 ≠ 0 → stq (l.getD k []) = true := fun k hk hz => by
    apply Classical.byContradiction
    intro hs
    have := (A.none_ k (by omega) (.inr (by simpa using hs))).1
    rw [← hOe k hk] at this
    exact hz (getD_some this)
  have one : ∀ k j, k < n → lnq (l.getD k []) = j → (O.getD k 0 = 1 ↔ k ∈ lastN ((memT m0 l n).pl j) (plc l n j)) := fun k j hk hj => by
    constructor
    · intro h1
      apply Classical.byContradiction
      intro hno
      have hs := hst k hk (by rw [h1]; decide)
      have := (A.done j k (plc_mem.2 ⟨hk, hs, hj⟩) hno).2
      rw [← hOe k hk] at this
      rcases this with h2 | h2 <;> rw [getD_some h2] at h1 <;> exact absurd h1 (by decide)
    · intro h1
      have := (A.pend j k h1).1
      rw [← hOe k hk] at this
      exact getD_some this
  have part : ∀ j, plc l n j = (plc l n j).take ((plc l n j).length - (memT m0 l n).pl j) ++ lastN ((memT m0 l n).pl j) (plc l n j) := fun j => (List.take_append_drop _ _).symm
  have lt : ∀ j k q, k ∈ plc l n j → k ∉ lastN ((memT m0 l n).pl j) (plc l n j) → q ∈ lastN ((memT m0 l n).pl j) (plc l n j) → k < q := fun j k q hk hno hq => by
    have hs := plc_sorted l n j
    rw [part j, List.pairwise_append] at hs
    rw [part j, List.mem_append] at hk
    rcases hk with h1 | h1
    · exact hs.2.2 k h1 q hq
    · exact absurd h1 hno
  refine ⟨hO, fun k hk hz => A.line k hk (hst k hk hz), fun k hk h2 => ?_, fun j => ?_, hst⟩
  · apply Classical.byContradiction
    intro hc
    obtain ⟨q, hq, q1, q2⟩ := pcnt_pos (Nat.pos_of_ne_zero hc)
    have hs := hst k hk (by rw [h2]; decide)
    have hq3 := (one q _ (by omega) q2).1 q1
    have hk3 : k ∉ lastN ((memT m0 l n).pl (lnq (l.getD k []))) (plc l n (lnq (l.getD k []))) := fun h => by
      have := (one k _ hk rfl).2 h
      rw [h2] at this
      exact absurd this (by decide)
    have := lt _ k q (plc_mem.2 ⟨hk, hs, rfl⟩) hk3 hq3
    omega
  · unfold pcnt
    have e1 : (List.range' 0 n).filter (fun q => decide (O.getD q 0 = 1) && (lnq (l.getD q []) == j)) = (plc l n j).filter fun q => decide (O.getD q 0 = 1) := by
      unfold plc seg
      rw [List.filter_filter]
      refine List.filter_congr fun q hq => ?_
      have hqn : q < n := by have := (List.mem_range'_1.1 hq).2; omega
      by_cases h1 : O.getD q 0 = 1
      · rw [hst q hqn (by rw [h1]; decide)]
        simp
      · rw [decide_eq_false h1]
        simp
    rw [e1, part j, List.filter_append]
    have e2 : (((plc l n j).take ((plc l n j).length - (memT m0 l n).pl j)).filter fun q => decide (O.getD q 0 = 1)) = [] := by
      rw [List.filter_eq_nil_iff]
      intro q hq
      have hqp : q ∈ plc l n j := List.mem_of_mem_take hq
      have hqm := plc_mem.1 hqp
      rw [decide_eq_true_iff, one q j hqm.1 hqm.2.2]
      intro h1
      have hs := plc_sorted l n j
      rw [part j, List.pairwise_append] at hs
      have := hs.2.2 q hq q h1
      omega
    have e3 : ((lastN ((memT m0 l n).pl j) (plc l n j)).filter fun q => decide (O.getD q 0 = 1)) = lastN ((memT m0 l n).pl j) (plc l n j) := by
      rw [List.filter_eq_self]
      intro q hq
      have hqm := plc_mem.1 (lastN_sub hq)
      exact decide_eq_true ((one q j hqm.1 hqm.2.2).2 hq)
    rw [e2, List.nil_append, e3]
    unfold lastN
    rw [List.length_drop]
    have := A.le j
    omega
/-- The address of a store that was recorded as it is. -/
theorem store_at {m0 : PM} {l : List (List Int)} (hf : fitsP m0 l = l.length) {k : Nat} (hk : k < l.length) (hs : stq (l.getD k []) = true) : 0 ≤ (l.getD k []).getD 1 0 := ((apply_pl (fits_step hf hk)).1 hs).2.1
/-- What is durable at a point is durable at a later one. -/
theorem fates_two {m0 : PM} {l : List (List Int)} {N n more : Nat} (hN : l.length = N) (hn : n ≤ more) (hm : more ≤ N) (hf : fitsP m0 l = l.length) (hL : ∀ i, (memT m0 l i).L.length = m0.L.length) (h0 : ∀ j, m0.pl j = 0) {k : Nat} (hk : k < n)
    (h : (outT m0 (l.take n) n n).getD k 0 = 2) : (outT m0 (l.take more) more more).getD k 0 = 2 := by
  have e1 := out_take hN (by omega) hf hL h0 n (Nat.le_refl _) k hk
  have e2 := out_take hN hm hf hL h0 more (Nat.le_refl _) k (by omega)
  have A := FInv.all hN hf hL h0 n (by omega)
  have hkl : k < (outT m0 l N n).length := by rw [A.ol]; omega
  rw [List.getD_eq_getElem?_getD, e1, List.getElem?_eq_getElem hkl] at h
  have h2 : (outT m0 l N n)[k]? = some 2 := by
    rw [List.getElem?_eq_getElem hkl]
    exact congrArg some h
  have h3 := out_stay hN hf hL h0 (i := n) (k := k) (more - n) (by omega) h2
  rw [show n + (more - n) = more by omega] at h3
  rw [h3] at e2
  exact getD_some e2
/-- The numbers of pending stores, line by line. -/
def cntL (O : List Int) (l : List (List Int)) (NL k : Nat) : List Int := (List.range NL).map fun j => ((pcnt O l j k : Nat) : Int)
theorem cntL_len (O : List Int) (l : List (List Int)) (NL k : Nat) : (cntL O l NL k).length = NL := by simp [cntL]
theorem cntL_at {O : List Int} {l : List (List Int)} {NL k j : Nat} (h : j < NL) : (cntL O l NL k).getD j 0 = ((pcnt O l j k : Nat) : Int) := by
  unfold cntL
  rw [List.getD_eq_getElem?_getD, List.getElem?_map, List.getElem?_range h]
  rfl
theorem cntL_zero (O : List Int) (l : List (List Int)) (NL : Nat) : cntL O l NL 0 = List.replicate NL 0 := by
  unfold cntL
  refine List.ext_getElem? fun j => ?_
  rw [List.getElem?_map, List.getElem?_replicate]
  by_cases h : j < NL
  · rw [List.getElem?_range h, if_pos h]
    rfl
  · rw [if_neg h, List.getElem?_eq_none (by simp; omega)]
    rfl
theorem cntL_no {O : List Int} {l : List (List Int)} {NL k : Nat} (h : O.getD k 0 ≠ 1) : cntL O l NL (k + 1) = cntL O l NL k := by
  unfold cntL
  refine List.map_congr_left fun j _ => ?_
  rw [pcnt_succ, if_neg fun e => h e.1]
  rfl
theorem cntL_yes {O : List Int} {l : List (List Int)} {NL k : Nat} (h : O.getD k 0 = 1) : cntL O l NL (k + 1) = (cntL O l NL k).set (lnq (l.getD k [])) (((pcnt O l (lnq (l.getD k [])) k : Nat) : Int) + 1) := by
  refine List.ext_getElem? fun j => ?_
  rw [List.getElem?_set, cntL_len]
  unfold cntL
  rw [List.getElem?_map, List.getElem?_map]
  by_cases hj : j < NL
  · rw [List.getElem?_range hj]
    show some (((pcnt O l j (k + 1) : Nat) : Int)) = _
    rw [pcnt_succ]
    by_cases he : lnq (l.getD k []) = j
    · rw [if_pos ⟨h, he⟩, if_pos he, if_pos (by omega), he]
      rfl
    · rw [if_neg fun e => he e.2, if_neg he]
      rfl
  · rw [List.getElem?_eq_none (by simp; omega)]
    by_cases he : lnq (l.getD k []) = j
    · rw [if_pos he, if_neg (by omega)]
      rfl
    · rw [if_neg he]
      rfl
end Go.Proofs.YtpojhplnhppcpaaGreatDoor
