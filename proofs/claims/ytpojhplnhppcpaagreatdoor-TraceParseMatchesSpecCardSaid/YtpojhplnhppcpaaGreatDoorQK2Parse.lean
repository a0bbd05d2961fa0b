/-
  What is printed is read again: the program's reading of lines and the specification's are one.
-/
import Derived.Test.YtpojhplnhppcpaaGreatDoorQX4
import Derived.Test.YtpojhplnhppcpaaGreatDoorQK1Parse
namespace Go.Proofs.YtpojhplnhppcpaaGreatDoor
open Go
def eventB : List UInt8 := [101, 118, 101, 110, 116]
/-- The specification's kinds: the number, and how many integers follow. -/
def kindN (w : List UInt8) : Int × Int :=
  if w = [115, 116, 111, 114, 101] then (1, 3) else if w = [112, 117, 98, 108, 105, 115, 104] then (2, 3) else if w = [102, 108, 117, 115, 104] then (3, 1) else if w = [102, 101, 110, 99, 101] then (4, 0)
  else if w = [101, 118, 105, 99, 116] then (5, 2) else if w = [104, 101, 97, 108] then (6, 9) else if w = [114, 111, 116] then (7, 10) else if w = eventB then (0, 1) else (0, -1)
def numsR : List (List UInt8) → Option (List Int)
  | [] => some []
  | p :: r => match numR p with
    | none => none
    | some z => match numsR r with
      | none => none
      | some v => some (z :: v)
/-- The event of a kind's integers. -/
def layE (k n : Int) (v : List Int) : List Int :=
  [k, if 0 < n then v.getD 0 0 else 0, if n = 2 ∨ n = 3 then v.getD 1 0 else if n = 10 then v.getD 9 0 else 0, if n = 3 then v.getD 2 0 else 0] ++
  (if 9 ≤ n then [v.getD 1 0, v.getD 2 0, v.getD 3 0, v.getD 4 0, v.getD 5 0, v.getD 6 0, v.getD 7 0, v.getD 8 0] else [0, 0, 0, 0, 0, 0, 0, 0])
/-- What the specification reads in parts. -/
def partsR (w : List UInt8) (qs : List (List UInt8)) : Option (List Int) :=
  if (qs.length : Int) = (kindN w).2 then
    match numsR qs with
    | none => none
    | some v => if w = eventB then (if v.getD 0 0 < 1 ∨ 7 < v.getD 0 0 then some (v.getD 0 0 :: List.replicate 11 0) else none) else some (layE (kindN w).1 (kindN w).2 v)
  else none
def evR (s : List UInt8) : Option (List Int) := partsR ((splitF 32 [] s).headD []) (splitF 32 [] s).tail
/-- An event without the fields that its line does not name. -/
def bareT (x : List Int) : List Int := (List.range 12).map fun i => if i = 0 ∨ i ∈ idxK (x.getD 0 0) then x.getD i 0 else 0
/-! ### lines -/
theorem word_no32 (k : Int) : (32 : UInt8) ∉ wordK k := by
  unfold wordK
  split
  · rename_i h
    have hc : k.toNat = 0 ∨ k.toNat = 1 ∨ k.toNat = 2 ∨ k.toNat = 3 ∨ k.toNat = 4 ∨ k.toNat = 5 ∨ k.toNat = 6 ∨ k.toNat = 7 := by omega
    rcases hc with h | h | h | h | h | h | h | h <;> rw [h] <;> decide
  · decide
theorem line_split (x : List Int) : ∀ (is : List Nat) (a : List UInt8), (32 : UInt8) ∉ a → splitF 32 [] (a ++ is.flatMap (fieldT x)) = a :: is.map fun i => Lib.itoa (x.getD i 0)
  | [], a, h => by
    rw [List.flatMap_nil, List.append_nil, splitF_end 32 a [] h]
    rfl
  | i :: r, a, h => by
    have e : a ++ (i :: r).flatMap (fieldT x) = a ++ 32 :: (Lib.itoa (x.getD i 0) ++ r.flatMap (fieldT x)) := by
      rw [List.flatMap_cons]
      unfold fieldT
      simp
    rw [e, splitF_no 32 a [] _ h, line_split x r _ (itoa_no32 _)]
    simp
theorem nums_itoa : ∀ vs : List Int, (∀ z ∈ vs, I64 z) → numsR (vs.map Lib.itoa) = some vs
  | [], _ => rfl
  | z :: r, h => by
    have hz := h z (by simp)
    unfold I64 at hz
    show (match numR (Lib.itoa z) with | none => none | some z => match numsR (r.map Lib.itoa) with | none => none | some v => some (z :: v)) = _
    rw [numR_itoa hz.1 hz.2, nums_itoa r fun y hy => h y (by simp [hy])]
theorem nums_some : ∀ {qs : List (List UInt8)} {vs : List Int}, numsR qs = some vs → qs = vs.map Lib.itoa ∧ ∀ z ∈ vs, I64 z
  | [], vs, h => by
    have : vs = [] := by injection h with h; exact h.symm
    subst this
    exact ⟨rfl, fun z hz => by cases hz⟩
  | p :: r, vs, h => by
    have h' : (match numR p with | none => none | some z => match numsR r with | none => none | some v => some (z :: v)) = some vs := h
    cases hp : numR p with
    | none => rw [hp] at h'; cases h'
    | some z =>
      rw [hp] at h'
      simp only at h'
      cases hr : numsR r with
      | none => rw [hr] at h'; cases h'
      | some v =>
        rw [hr] at h'
        simp only [Option.some.injEq] at h'
        subst h'
        obtain ⟨h1, h2, h3⟩ := numR_some hp
        obtain ⟨h4, h5⟩ := nums_some hr
        refine ⟨by rw [h1, h4]; rfl, fun y hy => ?_⟩
        rcases List.mem_cons.1 hy with rfl | hy
        · exact ⟨h2, h3⟩
        · exact h5 y hy
theorem kind_cases (k : Int) : k = 1 ∨ k = 2 ∨ k = 3 ∨ k = 4 ∨ k = 5 ∨ k = 6 ∨ k = 7 ∨ (k < 1 ∨ 7 < k) := by omega
theorem word_other {k : Int} (h : k < 1 ∨ 7 < k) : wordK k = eventB := by
  unfold wordK
  split
  · have : k.toNat = 0 := by omega
    rw [this]
    rfl
  · rfl
theorem idx_other {k : Int} (h : k < 1 ∨ 7 < k) : idxK k = [0] := by
  unfold idxK
  rw [if_neg (by omega), if_neg (by omega), if_neg (by omega), if_neg (by omega), if_neg (by omega), if_neg (by omega)]
theorem twelve {x : List Int} (h : x.length = 12) : ∃ a b c d e f g i j k l m, x = [a, b, c, d, e, f, g, i, j, k, l, m] := by
  match x, h with
  | [a, b, c, d, e, f, g, i, j, k, l, m], _ => exact ⟨a, b, c, d, e, f, g, i, j, k, l, m, rfl⟩
theorem bare_other {x : List Int} (h : x.getD 0 0 < 1 ∨ 7 < x.getD 0 0) : bareT x = x.getD 0 0 :: List.replicate 11 0 := by
  unfold bareT
  rw [idx_other h]
  simp [List.range_succ, List.replicate]
/-- What the specification reads in the line of an event. -/
theorem evR_line {x : List Int} (hl : x.length = 12) (hI : ∀ z ∈ x, I64 z) : evR (lineT x) = some (bareT x) := by
  have hv : ∀ z ∈ (idxK (x.getD 0 0)).map (fun i => x.getD i 0), I64 z := fun z hz => by
    obtain ⟨i, _, rfl⟩ := List.mem_map.1 hz
    exact getD_I hI i
  have hn := nums_itoa _ hv
  rw [List.map_map] at hn
  unfold evR lineT
  rw [line_split x _ _ (word_no32 _)]
  show partsR (wordK (x.getD 0 0)) ((idxK (x.getD 0 0)).map fun i => Lib.itoa (x.getD i 0)) = _
  have hn2 : numsR ((idxK (x.getD 0 0)).map fun i => Lib.itoa (x.getD i 0)) = some ((idxK (x.getD 0 0)).map fun i => x.getD i 0) := hn
  unfold partsR
  rw [List.length_map, hn2]
  clear hn hn2 hv
  have hb : bareT x = (List.range 12).map fun i => if i = 0 ∨ i ∈ idxK (x.getD 0 0) then x.getD i 0 else 0 := rfl
  rcases kind_cases (x.getD 0 0) with h | h | h | h | h | h | h | h
  case inr.inr.inr.inr.inr.inr.inr =>
    rw [word_other h, idx_other h, bare_other h]
    show (if ((1 : Nat) : Int) = 1 then (if x.getD 0 0 < 1 ∨ 7 < x.getD 0 0 then some (x.getD 0 0 :: List.replicate 11 0) else none) else none) = _
    rw [if_pos (show ((1 : Nat) : Int) = 1 from rfl), if_pos h]
  all_goals
    rw [hb, h]
    simp only [← h]
    obtain ⟨a, b, c, d, e, f, g, i, j, k, l, m, rfl⟩ := twelve hl
    obtain rfl : a = _ := h
    rfl
/-- What it reads, the line says. -/
theorem line_evR {s : List UInt8} {v : List Int} (h : evR s = some v) : lineT v = s := by
  obtain ⟨w, qs, hs⟩ : ∃ w qs, splitF 32 [] s = w :: qs := by
    cases hp : splitF 32 [] s with
    | nil => exact absurd hp (splitF_ne 32 s [])
    | cons w qs => exact ⟨w, qs, rfl⟩
  have hj := join_split 32 s []
  rw [hs, List.nil_append] at hj
  unfold evR at h
  rw [hs] at h
  change partsR w qs = some v at h
  unfold partsR at h
  split at h
  case isFalse => cases h
  rename_i hlen
  cases hq : numsR qs with
  | none => rw [hq] at h; cases h
  | some vs =>
    rw [hq] at h
    simp only at h
    obtain ⟨rfl, _⟩ := nums_some hq
    rw [List.length_map] at hlen
    by_cases hw : w = eventB
    · subst hw
      rw [if_pos rfl] at h
      split at h
      case isFalse => cases h
      rename_i hk
      simp only [Option.some.injEq] at h
      have hl1 : vs.length = 1 := by
        have : (kindN eventB).2 = 1 := rfl
        omega
      obtain ⟨a, rfl⟩ : ∃ a, vs = [a] := by
        match vs, hl1 with
        | [a], _ => exact ⟨a, rfl⟩
      subst h
      change a < 1 ∨ 7 < a at hk
      rw [← hj]
      show wordK a ++ (idxK a).flatMap (fieldT (a :: List.replicate 11 0)) = _
      rw [word_other hk, idx_other hk]
      simp [fieldT, joinF]
    · rw [if_neg hw] at h
      simp only [Option.some.injEq] at h
      subst h
      rw [← hj]
      unfold kindN at hlen ⊢
      split
      · rename_i hw2
        subst hw2
        rw [if_pos rfl] at hlen
        match vs, (show vs.length = 3 by omega) with
        | [a, b, c], _ => simp [lineT, layE, wordK, wordsT, idxK, fieldT, joinF]
      · rename_i n1
        rw [if_neg n1] at hlen
        split
        · rename_i hw2
          subst hw2
          rw [if_pos rfl] at hlen
          match vs, (show vs.length = 3 by omega) with
          | [a, b, c], _ => simp [lineT, layE, wordK, wordsT, idxK, fieldT, joinF]
        · rename_i n2
          rw [if_neg n2] at hlen
          split
          · rename_i hw2
            subst hw2
            rw [if_pos rfl] at hlen
            match vs, (show vs.length = 1 by omega) with
            | [a], _ => simp [lineT, layE, wordK, wordsT, idxK, fieldT, joinF]
          · rename_i n3
            rw [if_neg n3] at hlen
            split
            · rename_i hw2
              subst hw2
              rw [if_pos rfl] at hlen
              match vs, (show vs.length = 0 by omega) with
              | [], _ => simp [lineT, layE, wordK, wordsT, idxK, joinF]
            · rename_i n4
              rw [if_neg n4] at hlen
              split
              · rename_i hw2
                subst hw2
                rw [if_pos rfl] at hlen
                match vs, (show vs.length = 2 by omega) with
                | [a, b], _ => simp [lineT, layE, wordK, wordsT, idxK, fieldT, joinF]
              · rename_i n5
                rw [if_neg n5] at hlen
                split
                · rename_i hw2
                  subst hw2
                  rw [if_pos rfl] at hlen
                  match vs, (show vs.length = 9 by omega) with
                  | [a, b, c, d, e, f, g, i, j], _ => simp [lineT, layE, wordK, wordsT, idxK, fieldT, joinF]
                · rename_i n6
                  rw [if_neg n6] at hlen
                  split
                  · rename_i hw2
                    subst hw2
                    rw [if_pos rfl] at hlen
                    match vs, (show vs.length = 10 by omega) with
                    | [a, b, c, d, e, f, g, i, j, k], _ => simp [lineT, layE, wordK, wordsT, idxK, fieldT, joinF]
                  · rename_i n7
                    rw [if_neg n7, if_neg hw] at hlen
                    omega
theorem line_bare {x : List Int} (hl : x.length = 12) : lineT (bareT x) = lineT x := by
  have hb : bareT x = (List.range 12).map fun i => if i = 0 ∨ i ∈ idxK (x.getD 0 0) then x.getD i 0 else 0 := rfl
  rcases kind_cases (x.getD 0 0) with h | h | h | h | h | h | h | h
  case inr.inr.inr.inr.inr.inr.inr =>
    rw [bare_other h]
    show wordK (x.getD 0 0) ++ (idxK (x.getD 0 0)).flatMap (fieldT (x.getD 0 0 :: List.replicate 11 0)) = wordK (x.getD 0 0) ++ (idxK (x.getD 0 0)).flatMap (fieldT x)
    rw [idx_other h]
    rfl
  all_goals
    rw [hb, h]
    simp only [← h]
    obtain ⟨a, b, c, d, e, f, g, i, j, k, l, m, rfl⟩ := twelve hl
    obtain rfl : a = _ := h
    rfl
theorem readF_line {x : List Int} (hI : ∀ z ∈ x, I64 z) : ∀ (r : List Nat) (i : Nat) (v : List Int), readF (i :: r) (Lib.itoa (x.getD i 0) ++ r.flatMap (fieldT x)) v = some ((i :: r).foldl (fun v i => v.set i (x.getD i 0)) v)
  | [], i, v => by
    have hz := getD_I hI i
    unfold I64 at hz
    rw [List.flatMap_nil, List.append_nil]
    unfold readF
    rw [cut_no (itoa_no32 _)]
    simp only [atoi_itoa hz.1 hz.2]
    rfl
  | j :: r, i, v => by
    have hz := getD_I hI i
    unfold I64 at hz
    have e : Lib.itoa (x.getD i 0) ++ (j :: r).flatMap (fieldT x) = Lib.itoa (x.getD i 0) ++ 32 :: (Lib.itoa (x.getD j 0) ++ r.flatMap (fieldT x)) := by
      rw [List.flatMap_cons]
      unfold fieldT
      simp
    rw [e]
    unfold readF
    rw [cut_yes (itoa_no32 _)]
    simp only [atoi_itoa hz.1 hz.2]
    rw [readF_line hI r j]
    rfl
/-- What the program reads in the line of an event. -/
theorem decode_line {x : List Int} (hl : x.length = 12) (hI : ∀ z ∈ x, I64 z) : decodeT (lineT x) = some (bareT x) := by
  have key : (readF (idxK (kindT (Lib.cut (lineT x) [32]).1)) (Lib.cut (lineT x) [32]).2.1 (blankT (kindT (Lib.cut (lineT x) [32]).1))) = some (bareT x) := by
    have hc : ∀ i r, idxK (x.getD 0 0) = i :: r → Lib.cut (lineT x) [32] = (wordK (x.getD 0 0), Lib.itoa (x.getD i 0) ++ r.flatMap (fieldT x), true) := fun i r h => by
      have e : lineT x = wordK (x.getD 0 0) ++ 32 :: (Lib.itoa (x.getD i 0) ++ r.flatMap (fieldT x)) := by
        unfold lineT
        rw [h, List.flatMap_cons]
        unfold fieldT
        simp
      rw [e, cut_yes (word_no32 _)]
    have hb : bareT x = (List.range 12).map fun i => if i = 0 ∨ i ∈ idxK (x.getD 0 0) then x.getD i 0 else 0 := rfl
    rcases kind_cases (x.getD 0 0) with h | h | h | h | h | h | h | h
    case inr.inr.inr.inl =>
      have e : lineT x = wordK (x.getD 0 0) := by
        unfold lineT
        rw [h]
        rfl
      have e2 : Lib.cut (lineT x) [32] = (wordK (x.getD 0 0), [], false) := by rw [e, cut_no (word_no32 _)]
      rw [e2, hb, h]
      simp only [← h]
      obtain ⟨a, b, c, d, e, f, g, i, j, k, l, m, rfl⟩ := twelve hl
      obtain rfl : a = _ := h
      rfl
    case inr.inr.inr.inr.inr.inr.inr =>
      rw [hc 0 [] (idx_other h), bare_other h, word_other h]
      show readF [0] (Lib.itoa (x.getD 0 0) ++ ([] : List Nat).flatMap (fieldT x)) (blankT 0) = _
      rw [readF_line hI]
      rfl
    case inl =>
      rw [hc 1 [2, 3] (by rw [h]; rfl), hb, h]
      show readF [1, 2, 3] _ (blankT 1) = _
      rw [readF_line hI]
      simp only [← h]
      obtain ⟨a, b, c, d, e, f, g, i, j, k, l, m, rfl⟩ := twelve hl
      obtain rfl : a = _ := h
      rfl
    case inr.inl =>
      rw [hc 1 [2, 3] (by rw [h]; rfl), hb, h]
      show readF [1, 2, 3] _ (blankT 2) = _
      rw [readF_line hI]
      simp only [← h]
      obtain ⟨a, b, c, d, e, f, g, i, j, k, l, m, rfl⟩ := twelve hl
      obtain rfl : a = _ := h
      rfl
    case inr.inr.inl =>
      rw [hc 1 [] (by rw [h]; rfl), hb, h]
      show readF [1] _ (blankT 3) = _
      rw [readF_line hI]
      simp only [← h]
      obtain ⟨a, b, c, d, e, f, g, i, j, k, l, m, rfl⟩ := twelve hl
      obtain rfl : a = _ := h
      rfl
    case inr.inr.inr.inr.inl =>
      rw [hc 1 [2] (by rw [h]; rfl), hb, h]
      show readF [1, 2] _ (blankT 5) = _
      rw [readF_line hI]
      simp only [← h]
      obtain ⟨a, b, c, d, e, f, g, i, j, k, l, m, rfl⟩ := twelve hl
      obtain rfl : a = _ := h
      rfl
    case inr.inr.inr.inr.inr.inl =>
      rw [hc 1 [4, 5, 6, 7, 8, 9, 10, 11] (by rw [h]; rfl), hb, h]
      show readF [1, 4, 5, 6, 7, 8, 9, 10, 11] _ (blankT 6) = _
      rw [readF_line hI]
      simp only [← h]
      obtain ⟨a, b, c, d, e, f, g, i, j, k, l, m, rfl⟩ := twelve hl
      obtain rfl : a = _ := h
      rfl
    case inr.inr.inr.inr.inr.inr.inl =>
      rw [hc 1 [4, 5, 6, 7, 8, 9, 10, 11, 2] (by rw [h]; rfl), hb, h]
      show readF [1, 4, 5, 6, 7, 8, 9, 10, 11, 2] _ (blankT 7) = _
      rw [readF_line hI]
      simp only [← h]
      obtain ⟨a, b, c, d, e, f, g, i, j, k, l, m, rfl⟩ := twelve hl
      obtain rfl : a = _ := h
      rfl
  unfold decodeT
  rw [key]
  simp only
  rw [if_pos (line_bare hl)]
theorem readF_good : ∀ (is : List Nat) (p : List UInt8) (v u : List Int), readF is p v = some u → v.length = 12 → (∀ z ∈ v, I64 z) → u.length = 12 ∧ ∀ z ∈ u, I64 z
  | [], _, v, u, h, hl, hI => by
    injection h with h
    subst h
    exact ⟨hl, hI⟩
  | i :: r, p, v, u, h, hl, hI => by
    unfold readF at h
    split at h
    · rename_i z hz
      refine readF_good r _ _ u h (by rw [List.length_set]; exact hl) (set_I64 hI ?_)
      have := Lib.atoiAll_bounds hz
      unfold I64
      omega
    · cases h
theorem blank_I {k : Nat} (h : k < 8) : ∀ z ∈ blankT k, I64 z := fun z hz => by
  unfold blankT at hz
  unfold I64
  rcases List.mem_cons.1 hz with rfl | hz
  · omega
  · rw [List.eq_of_mem_replicate hz]
    omega
theorem kindN_I (w : List UInt8) : I64 (kindN w).1 := by
  unfold kindN I64
  repeat' split
  all_goals (simp only; omega)
theorem evR_good {s : List UInt8} {v : List Int} (h : evR s = some v) : v.length = 12 ∧ ∀ z ∈ v, I64 z := by
  have h0 : I64 0 := by unfold I64; omega
  unfold evR partsR at h
  split at h
  case isFalse => cases h
  split at h
  case h_1 => cases h
  rename_i vs hq
  have hI := (nums_some hq).2
  split at h
  · split at h
    · injection h with h
      subst h
      refine ⟨rfl, fun z hz => ?_⟩
      rcases List.mem_cons.1 hz with rfl | hz
      · exact getD_I hI 0
      · rw [List.eq_of_mem_replicate hz]
        exact h0
    · cases h
  · injection h with h
    subst h
    have hk := kindN_I ((splitF 32 [] s).headD [])
    generalize kindN ((splitF 32 [] s).headD []) = K at *
    obtain ⟨k, n⟩ := K
    simp only at hk ⊢
    have hg := fun i => getD_I hI i
    unfold layE
    refine ⟨by rw [List.length_append]; by_cases h9 : 9 ≤ n <;> simp [h9], fun z hz => ?_⟩
    rw [List.mem_append] at hz
    rcases hz with hz | hz
    · simp only [List.mem_cons, List.not_mem_nil, or_false] at hz
      rcases hz with rfl | rfl | rfl | rfl
      · exact hk
      · split
        · exact hg _
        · exact h0
      · split
        · exact hg _
        · split
          · exact hg _
          · exact h0
      · split
        · exact hg _
        · exact h0
    · split at hz
      · simp only [List.mem_cons, List.not_mem_nil, or_false] at hz
        rcases hz with rfl | rfl | rfl | rfl | rfl | rfl | rfl | rfl <;> exact hg _
      · simp only [List.mem_cons, List.not_mem_nil, or_false, or_self] at hz
        rw [hz]
        exact h0
/-- Both read the same. -/
theorem decode_eq (s : List UInt8) : decodeT s = evR s := by
  cases hd : decodeT s with
  | some v =>
    have hg : v.length = 12 ∧ (∀ z ∈ v, I64 z) ∧ lineT v = s := by
      unfold decodeT at hd
      split at hd
      · cases hd
      · rename_i u hu
        split at hd
        · rename_i he
          injection hd with hd
          subst hd
          obtain ⟨g1, g2⟩ := readF_good _ _ _ _ hu rfl (blank_I (kindT_lt _))
          exact ⟨g1, g2, he⟩
        · cases hd
    obtain ⟨g1, g2, g3⟩ := hg
    have h1 := decode_line g1 g2
    rw [g3, hd] at h1
    rw [← g3, evR_line g1 g2, ← h1]
  | none =>
    cases he : evR s with
    | none => rfl
    | some v =>
      obtain ⟨g1, g2⟩ := evR_good he
      have h1 := decode_line g1 g2
      rw [line_evR he, hd] at h1
      cases h1
/-! ### texts -/
/-- The lines of a text, and whether the last one ends. -/
def linesR (s : List UInt8) : List (List UInt8) × Bool :=
  let ps := splitF 10 [] s
  (if ps.getLastD [] = [] then ps.dropLast else ps, decide (ps.getLastD [] = []))
def refL (whole : Bool) : List (List UInt8) → List (List Int) → List (List Int) × Bool
  | [], acc => (acc, true)
  | x :: r, acc => match evR x with
    | none => (acc, false)
    | some v => if r = [] ∧ whole = false then (acc, false) else refL whole r (acc ++ [v])
def refP (s : List UInt8) : List (List Int) × Bool := refL (linesR s).2 (linesR s).1 []
theorem split_part (c : UInt8) : ∀ s : List UInt8, c ∉ s ∨ ∃ a r, s = a ++ c :: r ∧ c ∉ a
  | [] => .inl (by simp)
  | b :: s => by
    by_cases h : b = c
    · exact .inr ⟨[], s, by rw [h]; rfl, by simp⟩
    · rcases split_part c s with h1 | ⟨a, r, h1, h2⟩
      · exact .inl (by simp; exact ⟨fun e => h e.symm, h1⟩)
      · exact .inr ⟨b :: a, r, by rw [h1]; rfl, by simp; exact ⟨fun e => h e.symm, h2⟩⟩
theorem lines_cons {a r : List UInt8} (h : (10 : UInt8) ∉ a) : linesR (a ++ 10 :: r) = (a :: (linesR r).1, (linesR r).2) := by
  unfold linesR
  rw [splitF_no 10 a [] r h, List.nil_append]
  have hne := splitF_ne 10 r []
  generalize splitF 10 [] r = ps at *
  cases ps with
  | nil => exact absurd rfl hne
  | cons p q =>
    show (if (p :: q).getLastD a = [] then _ else _, decide ((p :: q).getLastD a = [])) = _
    have e : (p :: q).getLastD a = (p :: q).getLastD [] := rfl
    rw [e, List.dropLast_cons_cons]
    by_cases hq : (p :: q).getLastD [] = []
    · simp only [hq, if_true]
    · simp only [hq, if_false]
theorem lines_end {a : List UInt8} (h : (10 : UInt8) ∉ a) : linesR a = if a = [] then ([], true) else ([a], false) := by
  unfold linesR
  rw [splitF_end 10 a [] h, List.nil_append]
  show (if a = [] then _ else _, decide (a = [])) = _
  by_cases ha : a = []
  · rw [if_pos ha, if_pos ha, decide_eq_true ha]
    rfl
  · rw [if_neg ha, if_neg ha, decide_eq_false ha]
theorem lines_nil {r : List UInt8} (h : (linesR r).1 = []) : (linesR r).2 = true := by
  rcases split_part 10 r with h1 | ⟨a, q, rfl, h1⟩
  · rw [lines_end h1] at h ⊢
    split at h
    · rename_i e
      rw [if_pos e]
    · cases h
  · rw [lines_cons h1] at h
    cases h
theorem scan_ref : ∀ (n : Nat) (s : List UInt8) (acc : List (List Int)), s.length ≤ n → (scanT n s acc).1 = (refL (linesR s).2 (linesR s).1 acc).1 ∧ ((scanT n s acc).2 = [] ↔ (refL (linesR s).2 (linesR s).1 acc).2 = true)
  | 0, s, acc, h => by
    obtain rfl : s = [] := List.length_eq_zero_iff.1 (by omega)
    rw [lines_end (by simp), if_pos rfl]
    exact ⟨rfl, by simp [scanT, refL]⟩
  | n + 1, s, acc, h => by
    by_cases hs : s = []
    · subst hs
      rw [lines_end (by simp), if_pos rfl]
      exact ⟨rfl, by simp [scanT, refL]⟩
    · unfold scanT
      rw [if_neg hs]
      rcases split_part 10 s with h1 | ⟨a, r, rfl, h1⟩
      · rw [cut_no h1, lines_end h1, if_neg hs]
        cases he : evR s with
        | none => exact ⟨by simp [refL, he], by simp [refL, he, hs]⟩
        | some v => exact ⟨by simp [refL, he], by simp [refL, he, hs]⟩
      · rw [cut_yes h1, lines_cons h1]
        show (if true = true then (match decodeT a with | some v => scanT n r (acc ++ [v]) | none => (acc, a ++ 10 :: r)) else (acc, a ++ 10 :: r)).1 = (match evR a with | none => (acc, false) | some v => if (linesR r).1 = [] ∧ (linesR r).2 = false then (acc, false) else refL (linesR r).2 (linesR r).1 (acc ++ [v])).1 ∧
          ((if true = true then (match decodeT a with | some v => scanT n r (acc ++ [v]) | none => (acc, a ++ 10 :: r)) else (acc, a ++ 10 :: r)).2 = [] ↔ (match evR a with | none => (acc, false) | some v => if (linesR r).1 = [] ∧ (linesR r).2 = false then (acc, false) else refL (linesR r).2 (linesR r).1 (acc ++ [v])).2 = true)
        rw [if_pos rfl, decode_eq]
        cases he : evR a with
        | none => exact ⟨rfl, by simp⟩
        | some v =>
          simp only
          rw [if_neg (by
            rintro ⟨e1, e2⟩
            rw [lines_nil e1] at e2
            cases e2)]
          exact scan_ref n r (acc ++ [v]) (by simp at h; omega)
theorem parse_ref (s : List UInt8) : (parseT s).1 = (refP s).1 ∧ ((parseT s).2 = [] ↔ (refP s).2 = true) := scan_ref s.length s [] (Nat.le_refl _)
/-- What is parsed is printed. -/
theorem scan_back : ∀ (n : Nat) (s : List UInt8) (acc : List (List Int)), s.length ≤ n → (scanT n s acc).2 = [] → printT (scanT n s acc).1 = printT acc ++ s
  | 0, s, acc, h, _ => by
    obtain rfl : s = [] := List.length_eq_zero_iff.1 (by omega)
    show printT acc = _
    rw [List.append_nil]
  | n + 1, s, acc, h, h2 => by
    by_cases hs : s = []
    · subst hs
      unfold scanT
      rw [if_pos rfl, List.append_nil]
    · unfold scanT at h2 ⊢
      rw [if_neg hs] at h2 ⊢
      rcases split_part 10 s with h1 | ⟨a, r, rfl, h1⟩
      · rw [cut_no h1] at h2
        exact absurd h2 hs
      · rw [cut_yes h1] at h2 ⊢
        simp only [if_true] at h2 ⊢
        cases hd : decodeT a with
        | none => rw [hd] at h2; simp at h2
        | some v =>
          rw [hd] at h2
          simp only at h2 ⊢
          rw [scan_back n r (acc ++ [v]) (by simp at h; omega) h2]
          have : lineT v = a := by
            rw [decode_eq] at hd
            exact line_evR hd
          unfold printT
          rw [List.flatMap_append, List.flatMap_cons, List.flatMap_nil, this]
          simp
theorem print_parse {s : List UInt8} (h : (parseT s).2 = []) : printT (parseT s).1 = s := by
  have := scan_back s.length s [] (Nat.le_refl _) h
  exact this
theorem parse_len {s : List UInt8} : (parseT s).1.length ≤ s.length := by
  have : ∀ (n : Nat) (s : List UInt8) (acc : List (List Int)), s.length ≤ n → (scanT n s acc).1.length ≤ acc.length + n := by
    intro n
    induction n with
    | zero => intro s acc _; exact Nat.le_refl _
    | succ n ih =>
      intro s acc h
      unfold scanT
      split
      · show acc.length ≤ _; omega
      · split
        · rename_i h1 h2
          have hc := cut_len s h2
          split
          · rename_i v _
            have := ih (Lib.cut s [10]).2.1 (acc ++ [v]) (by omega)
            rw [List.length_append] at this
            refine Nat.le_trans this ?_
            simp only [List.length_cons, List.length_nil]
            omega
          · show acc.length ≤ _; omega
        · show acc.length ≤ _; omega
  have := this s.length s [] (Nat.le_refl _)
  rw [List.length_nil, Nat.zero_add] at this
  exact this
end Go.Proofs.YtpojhplnhppcpaaGreatDoor
