/-
  What is printed is read again: the program's reading of lines and the specification's are one.
-/
import Derived.Test.YtpojhplnhppcpaaGreatDoorQX4
import Derived.Test.YtpojhplnhppcpaaGreatDoorQK1Print
namespace Go.Proofs.YtpojhplnhppcpaaGreatDoor
open Go
def eventB : List UInt8 := [101, 118, 101, 110, 116]
/-- The specification's kinds: the number, and how many integers follow. -/
def kindN (w : List UInt8) : Int × Int :=
  if w = [115, 116, 111, 114, 101] then (1, 3) else if w = [112, 117, 98, 108, 105, 115, 104] then (2, 3) else if w = [102, 108, 117, 115, 104] then (3, 1) else if w = [102, 101, 110, 99, 101] then (4, 0)
  else if w = [101, 118, 105, 99, 116] then (5, 2) else if w = [104, 101, 97, 108] then (6, 9) else if w = [114, 111, 116] then (7, 10) else if w = eventB then (0, 1) else (0, -1)
def numsR : List (List UInt8) → Option (List Int)
  | [] => some []
  | p :: r => match numR p with
    | none => none
    | some z => match numsR r with
      | none => none
      | some v => some (z :: v)
/-- The event of a kind's integers. -/
def layE (k n : Int) (v : List Int) : List Int :=
  [k, if 0 < n then v.getD 0 0 else 0, if n = 2 ∨ n = 3 then v.getD 1 0 else if n = 10 then v.getD 9 0 else 0, if n = 3 then v.getD 2 0 else 0] ++
  (if 9 ≤ n then [v.getD 1 0, v.getD 2 0, v.getD 3 0, v.getD 4 0, v.getD 5 0, v.getD 6 0, v.getD 7 0, v.getD 8 0] else [0, 0, 0, 0, 0, 0, 0, 0])
/-- What the specification reads in parts. -/
def partsR (w : List UInt8) (qs : List (List UInt8)) : Option (List Int) :=
  if (qs.length : Int) = (kindN w).2 then
    match numsR qs with
    | none => none
    | some v => if w = eventB then (if v.getD 0 0 < 1 ∨ 7 < v.getD 0 0 then some (v.getD 0 0 :: List.replicate 11 0) else none) else some (layE (kindN w).1 (kindN w).2 v)
  else none
def evR (s : List UInt8) : Option (List Int) := partsR ((splitF 32 [] s).headD []) (splitF 32 [] s).tail
/-- An event without the fields that its line does not name. -/
def bareT (x : List Int) : List Int := (List.range 12).map fun i => if i = 0 ∨ i ∈ idxK (x.getD 0 0) then x.getD i 0 else 0
/-! ### lines -/
theorem word_no32 (k : Int) : (32 : UInt8) ∉ wordK k := by
  unfold wordK
  split
  · rename_i h
    have hc : k.toNat = 0 ∨ k.toNat = 1 ∨ k.toNat = 2 ∨ k.toNat = 3 ∨ k.toNat = 4 ∨ k.toNat = 5 ∨ k.toNat = 6 ∨ k.toNat = 7 := by omega
    rcases hc with h | h | h | h | h | h | h | h <;> rw [h] <;> decide
  · decide
theorem line_split (x : List Int) : ∀ (is : List Nat) (a : List UInt8), (32 : UInt8) ∉ a → splitF 32 [] (a ++ is.flatMap (fieldT x)) = a :: is.map fun i => Lib.itoa (x.getD i 0)
  | [], a, h => by
    rw [List.flatMap_nil, List.append_nil, splitF_end 32 a [] h]
    rfl
  | i :: r, a, h => by
    have e : a ++ (i :: r).flatMap (fieldT x) = a ++ 32 :: (Lib.itoa (x.getD i 0) ++ r.flatMap (fieldT x)) := by
      rw [List.flatMap_cons]
      unfold fieldT
      simp
    rw [e, splitF_no 32 a [] _ h, line_split x r _ (itoa_no32 _)]
    simp
theorem nums_itoa : ∀ vs : List Int, (∀ z ∈ vs, I64 z) → numsR (vs.map Lib.itoa) = some vs
  | [], _ => rfl
  | z :: r, h => by
    have hz := h z (by simp)
    unfold I64 at hz
    show (match numR (Lib.itoa z) with | none => none | some z => match numsR (r.map Lib.itoa) with | none => none | some v => some (z :: v)) = _
    rw [numR_itoa hz.1 hz.2, nums_itoa r fun y hy => h y (by simp [hy])]
theorem kind_cases (k : Int) : k = 1 ∨ k = 2 ∨ k = 3 ∨ k = 4 ∨ k = 5 ∨ k = 6 ∨ k = 7 ∨ (k < 1 ∨ 7 < k) := by omega
theorem word_other {k : Int} (h : k < 1 ∨ 7 < k) : wordK k = eventB := by
  unfold wordK
  split
  · have : k.toNat = 0 := by omega
    rw [this]
    rfl
  · rfl
theorem idx_other {k : Int} (h : k < 1 ∨ 7 < k) : idxK k = [0] := by
  unfold idxK
  rw [if_neg (by omega), if_neg (by omega), if_neg (by omega), if_neg (by omega), if_neg (by omega), if_neg (by omega)]
theorem twelve {x : List Int} (h : x.length = 12) : ∃ a b c d e f g i j k l m, x = [a, b, c, d, e, f, g, i, j, k, l, m] := by
  match x, h with
  | [a, b, c, d, e, f, g, i, j, k, l, m], _ => exact ⟨a, b, c, d, e, f, g, i, j, k, l, m, rfl⟩
theorem bare_other {x : List Int} (h : x.getD 0 0 < 1 ∨ 7 < x.getD 0 0) : bareT x = x.getD 0 0 :: List.replicate 11 0 := by
  unfold bareT
  rw [idx_other h]
  simp [List.range_succ, List.replicate]
/-- What the specification reads in the line of an event. -/
theorem evR_line {x : List Int} (hl : x.length = 12) (hI : ∀ z ∈ x, I64 z) : evR (lineT x) = some (bareT x) := by
  have hv : ∀ z ∈ (idxK (x.getD 0 0)).map (fun i => x.getD i 0), I64 z := fun z hz => by
    obtain ⟨i, _, rfl⟩ := List.mem_map.1 hz
    exact getD_I hI i
  have hn := nums_itoa _ hv
  rw [List.map_map] at hn
  unfold evR lineT
  rw [line_split x _ _ (word_no32 _)]
  show partsR (wordK (x.getD 0 0)) ((idxK (x.getD 0 0)).map fun i => Lib.itoa (x.getD i 0)) = _
  have hn2 : numsR ((idxK (x.getD 0 0)).map fun i => Lib.itoa (x.getD i 0)) = some ((idxK (x.getD 0 0)).map fun i => x.getD i 0) := hn
  unfold partsR
  rw [List.length_map, hn2]
  clear hn hn2 hv
  have hb : bareT x = (List.range 12).map fun i => if i = 0 ∨ i ∈ idxK (x.getD 0 0) then x.getD i 0 else 0 := rfl
  rcases kind_cases (x.getD 0 0) with h | h | h | h | h | h | h | h
  case inr.inr.inr.inr.inr.inr.inr =>
    rw [word_other h, idx_other h, bare_other h]
    show (if ((1 : Nat) : Int) = 1 then (if x.getD 0 0 < 1 ∨ 7 < x.getD 0 0 then some (x.getD 0 0 :: List.replicate 11 0) else none) else none) = _
    rw [if_pos (show ((1 : Nat) : Int) = 1 from rfl), if_pos h]
  all_goals
    rw [hb, h]
    simp only [← h]
    obtain ⟨a, b, c, d, e, f, g, i, j, k, l, m, rfl⟩ := twelve hl
    obtain rfl : a = _ := h
    rfl
theorem line_bare {x : List Int} (hl : x.length = 12) : lineT (bareT x) = lineT x := by
  have hb : bareT x = (List.range 12).map fun i => if i = 0 ∨ i ∈ idxK (x.getD 0 0) then x.getD i 0 else 0 := rfl
  rcases kind_cases (x.getD 0 0) with h | h | h | h | h | h | h | h
  case inr.inr.inr.inr.inr.inr.inr =>
    rw [bare_other h]
    show wordK (x.getD 0 0) ++ (idxK (x.getD 0 0)).flatMap (fieldT (x.getD 0 0 :: List.replicate 11 0)) = wordK (x.getD 0 0) ++ (idxK (x.getD 0 0)).flatMap (fieldT x)
    rw [idx_other h]
    rfl
  all_goals
    rw [hb, h]
    simp only [← h]
    obtain ⟨a, b, c, d, e, f, g, i, j, k, l, m, rfl⟩ := twelve hl
    obtain rfl : a = _ := h
    rfl
theorem readF_line {x : List Int} (hI : ∀ z ∈ x, I64 z) : ∀ (r : List Nat) (i : Nat) (v : List Int), readF (i :: r) (Lib.itoa (x.getD i 0) ++ r.flatMap (fieldT x)) v = some ((i :: r).foldl (fun v i => v.set i (x.getD i 0)) v)
  | [], i, v => by
    have hz := getD_I hI i
    unfold I64 at hz
    rw [List.flatMap_nil, List.append_nil]
    unfold readF
    rw [cut_no (itoa_no32 _)]
    simp only [atoi_itoa hz.1 hz.2]
    rfl
  | j :: r, i, v => by
    have hz := getD_I hI i
    unfold I64 at hz
    have e : Lib.itoa (x.getD i 0) ++ (j :: r).flatMap (fieldT x) = Lib.itoa (x.getD i 0) ++ 32 :: (Lib.itoa (x.getD j 0) ++ r.flatMap (fieldT x)) := by
      rw [List.flatMap_cons]
      unfold fieldT
      simp
    rw [e]
    unfold readF
    rw [cut_yes (itoa_no32 _)]
    simp only [atoi_itoa hz.1 hz.2]
    rw [readF_line hI r j]
    rfl
/-- What the program reads in the line of an event. -/
theorem decode_line {x : List Int} (hl : x.length = 12) (hI : ∀ z ∈ x, I64 z) : decodeT (lineT x) = some (bareT x) := by
  have key : (readF (idxK (kindT (Lib.cut (lineT x) [32]).1)) (Lib.cut (lineT x) [32]).2.1 (blankT (kindT (Lib.cut (lineT x) [32]).1))) = some (bareT x) := by
    have hc : ∀ i r, idxK (x.getD 0 0) = i :: r → Lib.cut (lineT x) [32] = (wordK (x.getD 0 0), Lib.itoa (x.getD i 0) ++ r.flatMap (fieldT x), true) := fun i r h => by
      have e : lineT x = wordK (x.getD 0 0) ++ 32 :: (Lib.itoa (x.getD i 0) ++ r.flatMap (fieldT x)) := by
        unfold lineT
        rw [h, List.flatMap_cons]
        unfold fieldT
        simp
      rw [e, cut_yes (word_no32 _)]
    have hb : bareT x = (List.range 12).map fun i => if i = 0 ∨ i ∈ idxK (x.getD 0 0) then x.getD i 0 else 0 := rfl
    rcases kind_cases (x.getD 0 0) with h | h | h | h | h | h | h | h
    case inr.inr.inr.inl =>
      have e : lineT x = wordK (x.getD 0 0) := by
        unfold lineT
        rw [h]
        rfl
      have e2 : Lib.cut (lineT x) [32] = (wordK (x.getD 0 0), [], false) := by rw [e, cut_no (word_no32 _)]
      rw [e2, hb, h]
      simp only [← h]
      obtain ⟨a, b, c, d, e, f, g, i, j, k, l, m, rfl⟩ := twelve hl
      obtain rfl : a = _ := h
      rfl
    case inr.inr.inr.inr.inr.inr.inr =>
      rw [hc 0 [] (idx_other h), bare_other h, word_other h]
      show readF [0] (Lib.itoa (x.getD 0 0) ++ ([] : List Nat).flatMap (fieldT x)) (blankT 0) = _
      rw [readF_line hI]
      rfl
    case inl =>
      rw [hc 1 [2, 3] (by rw [h]; rfl), hb, h]
      show readF [1, 2, 3] _ (blankT 1) = _
      rw [readF_line hI]
      simp only [← h]
      obtain ⟨a, b, c, d, e, f, g, i, j, k, l, m, rfl⟩ := twelve hl
      obtain rfl : a = _ := h
      rfl
    case inr.inl =>
      rw [hc 1 [2, 3] (by rw [h]; rfl), hb, h]
      show readF [1, 2, 3] _ (blankT 2) = _
      rw [readF_line hI]
      simp only [← h]
      obtain ⟨a, b, c, d, e, f, g, i, j, k, l, m, rfl⟩ := twelve hl
      obtain rfl : a = _ := h
      rfl
    case inr.inr.inl =>
      rw [hc 1 [] (by rw [h]; rfl), hb, h]
      show readF [1] _ (blankT 3) = _
      rw [readF_line hI]
      simp only [← h]
      obtain ⟨a, b, c, d, e, f, g, i, j, k, l, m, rfl⟩ := twelve hl
      obtain rfl : a = _ := h
      rfl
    case inr.inr.inr.inr.inl =>
      rw [hc 1 [2] (by rw [h]; rfl), hb, h]
      show readF [1, 2] _ (blankT 5) = _
      rw [readF_line hI]
      simp only [← h]
      obtain ⟨a, b, c, d, e, f, g, i, j, k, l, m, rfl⟩ := twelve hl
      obtain rfl : a = _ := h
      rfl
    case inr.inr.inr.inr.inr.inl =>
      rw [hc 1 [4, 5, 6, 7, 8, 9, 10, 11] (by rw [h]; rfl), hb, h]
      show readF [1, 4, 5, 6, 7, 8, 9, 10, 11] _ (blankT 6) = _
      rw [readF_line hI]
      simp only [← h]
      obtain ⟨a, b, c, d, e, f, g, i, j, k, l, m, rfl⟩ := twelve hl
      obtain rfl : a = _ := h
      rfl
    case inr.inr.inr.inr.inr.inr.inl =>
      rw [hc 1 [4, 5, 6, 7, 8, 9, 10, 11, 2] (by rw [h]; rfl), hb, h]
      show readF [1, 4, 5, 6, 7, 8, 9, 10, 11, 2] _ (blankT 7) = _
      rw [readF_line hI]
      simp only [← h]
      obtain ⟨a, b, c, d, e, f, g, i, j, k, l, m, rfl⟩ := twelve hl
      obtain rfl : a = _ := h
      rfl
  unfold decodeT
  rw [key]
  simp only
  rw [if_pos (line_bare hl)]
/-! ### texts -/
theorem word_no10 (k : Int) : (10 : UInt8) ∉ wordK k := by
  unfold wordK
  split
  · rename_i h
    have hc : k.toNat = 0 ∨ k.toNat = 1 ∨ k.toNat = 2 ∨ k.toNat = 3 ∨ k.toNat = 4 ∨ k.toNat = 5 ∨ k.toNat = 6 ∨ k.toNat = 7 := by omega
    rcases hc with h | h | h | h | h | h | h | h <;> rw [h] <;> decide
  · decide
theorem line_no10 (x : List Int) : (10 : UInt8) ∉ lineT x := fun h => by
  unfold lineT at h
  rw [List.mem_append, List.mem_flatMap] at h
  rcases h with h | ⟨i, _, h⟩
  · exact word_no10 _ h
  · unfold fieldT at h
    rcases List.mem_cons.1 h with h | h
    · cases h
    · exact itoa_no10 _ h
theorem scan_print : ∀ (l : List (List Int)), EvI l → ∀ (n : Nat) (acc : List (List Int)), (printT l).length ≤ n → scanT n (printT l) acc = (acc ++ l.map bareT, [])
  | [], _, n, acc, _ => by
    show scanT n [] acc = _
    cases n with
    | zero => simp [scanT]
    | succ n => unfold scanT; rw [if_pos rfl]; simp
  | x :: l, hl, n, acc, hn => by
    have e : printT (x :: l) = lineT x ++ 10 :: printT l := by
      unfold printT
      rw [List.flatMap_cons]
      simp
    rw [e] at hn ⊢
    cases n with
    | zero => simp at hn
    | succ n =>
      obtain ⟨h1, h2⟩ := hl x (by simp)
      unfold scanT
      rw [if_neg (by simp), cut_yes (line_no10 x)]
      simp only [decode_line h1 h2, if_true]
      rw [scan_print l (fun y hy => hl y (by simp [hy])) n _ (by simp at hn; omega)]
      simp
/-- What is printed is parsed. -/
theorem parse_print {l : List (List Int)} (hl : EvI l) : parseT (printT l) = (l.map bareT, []) := by
  have := scan_print l hl (printT l).length [] (Nat.le_refl _)
  rw [List.nil_append] at this
  exact this
end Go.Proofs.YtpojhplnhppcpaaGreatDoor
