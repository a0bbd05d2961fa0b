/-
  What becomes of a memory in the heap where a line is written, where an entry of the map is laid or struck, where a cell of its own is written. What becomes of a memory in the heap where a durable line is written, where an entry of the map is laid or struck, where the map is cleared. What becomes of a memory in the heap where an entry of the map is laid or struck, where the map is cleared.
-/
import Derived.Test.YtmnncbgibngmiaaGreatDoorQM6
namespace Go.Proofs.YtmnncbgibngmiaaGreatDoor
open Go.RowKit Go.Maps
theorem PM.upd_len (m : PM) (i : Nat) (f : PL → PL) : (m.upd i f).L.length = m.L.length := by simp [PM.upd]
theorem PM.upd_line {m : PM} {i j : Nat} (f : PL → PL) (hi : i < m.L.length) : (m.upd i f).line j = if j = i then f (m.line i) else m.line j := by
  unfold PM.line PM.upd
  simp only
  rw [List.getD_eq_getElem?_getD, List.getElem?_set]
  by_cases h : i = j
  · subst h
    rw [if_pos rfl, if_pos hi, if_pos rfl]
    rfl
  · rw [if_neg h, if_neg (fun e => h e.symm), List.getD_eq_getElem?_getD]
theorem PM.upd_upd (m : PM) (i : Nat) (f g : PL → PL) (hi : i < m.L.length) : (m.upd i f).upd i g = m.upd i fun l => g (f l) := by
  have h := PM.upd_line (j := i) f hi
  rw [if_pos rfl] at h
  have e : (m.upd i f).upd i g = { (m.upd i f) with L := (m.upd i f).L.set i (g ((m.upd i f).line i)) } := rfl
  rw [e, h]
  simp [PM.upd]
/-- What has come of it: the memory behind p is m now; nothing was written but blocks of F and new ones. -/
def Step (F : Nat → Prop) (w : World) (p : Nat) (m : PM) (w' : World) : Prop := Rep w' p m (Ex F w w') ∧ Kept F w w'
theorem Step.refl {F : Nat → Prop} {w : World} {p : Nat} {m : PM} (h : Rep w p m F) : Step F w p m w := ⟨h.ex, Kept.refl F w⟩
theorem Step.trans {F : Nat → Prop} {w w1 w2 : World} {p : Nat} {m m' : PM} (h : Step F w p m w1) (k : Step (Ex F w w1) w1 p m' w2) : Step F w p m' w2 :=
  ⟨k.1.wide (fun _ hx => (Ex.trans h.2.size k.2.size).1 hx) fun x hx => k.1.lt x ((Ex.trans h.2.size k.2.size).2 hx), h.2.trans k.2⟩
theorem Step.below {F : Nat → Prop} {w w1 : World} {p : Nat} {m : PM} (h : Rep w p m F) (hb : Below w.heap.size w w1) : Step F w p m w1 := ⟨(h.below hb).ex, Kept.of_below hb⟩
theorem Step.then_below {F : Nat → Prop} {w w1 w2 : World} {p : Nat} {m : PM} (h : Step F w p m w1) (hb : Below w1.heap.size w1 w2) : Step F w p m w2 := h.trans (Step.below h.1 hb)
/-- In world w1 the memory was that of F, and only blocks of F have been written since w. -/
theorem Step.of {F : Nat → Prop} {w w1 : World} {p : Nat} {m : PM} (h : Rep w1 p m F) (hk : Kept F w w1) : Step F w p m w1 := ⟨h.ex, hk⟩
section
variable {w w' : World} {p b : Nat} {m : PM} {F : Nat → Prop} {dv ev : Value} {D : DataW Value} {G : Nat → Value}
/-- Blocks of other kinds are other blocks. -/
theorem RepAt.p_ne_b (h : RepAt w p m F dv b ev D G) : p ≠ b := by
  rintro rfl
  obtain ⟨es, clock, hb, _⟩ := h.map
  have := h.mem
  unfold Arr at this
  rw [hb] at this
  cases this
theorem Sl.blk {e sz n : Nat} {v : Value} {xs : List Value} (h : Sl w e sz v n xs) {g : Nat} (hg : v.ownBlock = some g) : ∃ cur, w.heap[g]? = some (.cells cur e (0, 0)) := by
  rcases h.2 with ⟨rfl, _⟩ | ⟨g', o, cap, cur, rfl, hb, _⟩
  · simp [Value.ownBlock] at hg
  · simp [Value.ownBlock] at hg
    subst hg
    exact ⟨cur, hb⟩
theorem Sl.ne_of {e sz n e' : Nat} {v : Value} {xs : List Value} (h : Sl w e sz v n xs) {g : Nat} (hg : v.ownBlock = some g) {g' : Nat} {cs : Array Value} (hg' : w.heap[g']? = some (.cells cs e' (0, 0))) (hne : e ≠ e') : g ≠ g' := by
  rintro rfl
  obtain ⟨cur, hc⟩ := h.blk hg
  rw [hc] at hg'
  simp only [Option.some.injEq, Obj.cells.injEq] at hg'
  exact hne hg'.2.1
theorem Sl.ne_map {e sz n : Nat} {v : Value} {xs : List Value} (h : Sl w e sz v n xs) {g : Nat} (hg : v.ownBlock = some g) {R : Value → Option (DataW Value × List MemPlace)} {k : Nat} {D : DataW Value} (hm : w.ownsMap Tryz.prog 3 R b k D) : g ≠ b := by
  rintro rfl
  obtain ⟨cur, hc⟩ := h.blk hg
  obtain ⟨es, clock, hb, _⟩ := hm
  rw [hc] at hb
  cases hb
/-- A cell of the memory's own block is written: the span. -/
theorem RepAt.setSpan (h : RepAt w p m F dv b ev D G) (n : Int) : RepAt (w.setCell ⟨p, 2, none⟩ (.int .i64 n)) p { m with span := n } F dv b ev D G where
  mem := h.mem.set 2 _
  dur := h.dur.keep fun g hg => heap_setCell_other w _ g _ (h.dur.ne_of hg h.mem (by decide))
  map := ownsMap_keep h.map (heap_setCell_other w _ b _ (by show b ≠ p; exact fun e => h.p_ne_b e.symm))
  evs := h.evs.keep fun g hg => heap_setCell_other w _ g _ (h.evs.ne_of hg h.mem (by decide))
  at_ := h.at_
  has_ := h.has_
  off := h.off
  pend := fun i hi => (h.pend i hi).keep fun g hg => heap_setCell_other w _ g _ ((h.pend i hi).ne_of hg h.mem (by decide))
  apart := h.apart
  ownP := h.ownP
  ownB := h.ownB
  ownD := h.ownD
  ownE := h.ownE
  ownG := h.ownG
  lt := fun k hk => by simpa using h.lt k hk
/-- The events are other ones, in whatever slice of their own. -/
theorem RepAt.setEv (h : RepAt w p m F dv b ev D G) (hk : ∀ k, F k → ev.ownBlock ≠ some k → w'.heap[k]? = w.heap[k]?) (hs : w.heap.size ≤ w'.heap.size) {ev' : Value} {evs : List (List Int)} (hsl : Sl w' 79 12 ev' evs.length (iv evs.flatten))
    (ho : ∀ k, ev'.ownBlock = some k → F k ∨ w.heap.size ≤ k) : RepAt (w'.setCell ⟨p, 3, none⟩ ev') p { m with ev := evs } (Ex F w w') dv b ev' D G := by
  have hev : ∀ g, ev.ownBlock = some g → g ≠ p ∧ g ≠ b ∧ dv.ownBlock ≠ some g ∧ ∀ i, i < m.L.length → (G i).ownBlock ≠ some g := fun g hg => by
    obtain ⟨cur, hc⟩ := h.evs.blk hg
    exact ⟨h.evs.ne_of hg h.mem (by decide), h.evs.ne_map hg h.map, fun hd => h.dur.ne_of hd hc (by decide) rfl, fun i hi hd => (h.pend i hi).ne_of hd hc (by decide) rfl⟩
  have hp : w'.heap[p]? = w.heap[p]? := hk p h.ownP fun e => (hev p e).1 rfl
  have hb : w'.heap[b]? = w.heap[b]? := hk b h.ownB fun e => (hev b e).2.1 rfl
  have hmem : Arr w' p 61 [dv, .map (some b), .int .i64 m.span, ev] := hp.trans h.mem
  have hd : ∀ g, dv.ownBlock = some g → w'.heap[g]? = w.heap[g]? := fun g hg => hk g (h.ownD g hg) fun e => (hev g e).2.2.1 hg
  have hG : ∀ i, i < m.L.length → ∀ g, (G i).ownBlock = some g → w'.heap[g]? = w.heap[g]? := fun i hi g hg => hk g (h.ownG i hi g hg) fun e => (hev g e).2.2.2 i hi hg
  have hdur := h.dur.keep hd
  have hpend := fun i hi => (h.pend i hi).keep (hG i hi)
  exact {
    mem := hmem.set 3 _
    dur := hdur.keep fun g hg => heap_setCell_other _ _ g _ (hdur.ne_of hg hmem (by decide))
    map := ownsMap_keep (ownsMap_keep h.map hb) (heap_setCell_other _ _ b _ (by show b ≠ p; exact fun e => h.p_ne_b e.symm))
    evs := hsl.keep fun g hg => heap_setCell_other _ _ g _ (hsl.ne_of hg hmem (by decide))
    at_ := h.at_
    has_ := h.has_
    off := h.off
    pend := fun i hi => (hpend i hi).keep fun g hg => heap_setCell_other _ _ g _ ((hpend i hi).ne_of hg hmem (by decide))
    apart := h.apart
    ownP := .inl h.ownP
    ownB := .inl h.ownB
    ownD := fun k hk => .inl (h.ownD k hk)
    ownE := fun k hk => by
      rcases ho k hk with h1 | h1
      · exact .inl h1
      · exact .inr ⟨h1, hsl.lt hk⟩
    ownG := fun i hi k hk => .inl (h.ownG i hi k hk)
    lt := fun k hk => by
      have : k < w'.heap.size := by
        rcases hk with h1 | h1
        · exact Nat.lt_of_lt_of_le (h.lt k h1) hs
        · exact h1.2
      simpa using this }
end
end Go.Proofs.YtmnncbgibngmiaaGreatDoor
namespace Go.Proofs.YtmnncbgibngmiaaGreatDoor
open Go.RowKit Go.Maps
/-- n cells in the middle are others. -/
theorem splice_flat {α : Type} (f : α → List Int) (n : Nat) (L : List α) (i : Nat) (x : α) (hi : i < L.length) (hall : ∀ y ∈ L, (f y).length = n) (hx : (f x).length = n) :
    (L.flatMap f).take (i * n) ++ f x ++ (L.flatMap f).drop (i * n + n) = (L.set i x).flatMap f := by
  induction L generalizing i with
  | nil => simp at hi
  | cons y r ih =>
    have hy := hall y (by simp)
    cases i with
    | zero =>
      simp only [Nat.zero_mul, List.take_zero, List.nil_append, Nat.zero_add, List.set_cons_zero, List.flatMap_cons]
      rw [List.drop_append_of_le_length (by omega), List.drop_of_length_le (by omega), List.nil_append]
    | succ i =>
      have e : (i + 1) * n = n + i * n := by rw [Nat.add_mul]; omega
      simp only [List.set_cons_succ, List.flatMap_cons]
      rw [e, List.take_append, List.take_of_length_le (by omega), List.drop_append, List.drop_of_length_le (by omega), List.nil_append, hy,
        show n + i * n - n = i * n by omega, show n + i * n + n - n = i * n + n by omega, ← ih i (by simpa using hi) (fun z hz => hall z (by simp [hz]))]
      simp only [List.append_assoc]
theorem splice_in (cur X : List Value) (o a x T : Nat) (hX : X.length = x) (ha : a + x ≤ T) (hT : o + T ≤ cur.length) :
    ((cur.take (o + a) ++ X ++ cur.drop (o + a + x)).drop o).take T = ((cur.drop o).take T).take a ++ X ++ ((cur.drop o).take T).drop (a + x) := by
  apply List.ext_getElem?
  intro j
  have e1 : (cur.take (o + a)).length = o + a := by rw [List.length_take]; omega
  have e2 : (((cur.drop o).take T).take a).length = a := by rw [List.length_take, List.length_take, List.length_drop]; omega
  rw [List.getElem?_take, List.getElem?_drop, List.append_assoc, List.append_assoc]
  by_cases h1 : j < a
  · rw [if_pos (by omega), List.getElem?_append_left (by omega), List.getElem?_append_left (by omega), List.getElem?_take, if_pos (by omega), List.getElem?_take, if_pos (by omega), List.getElem?_take, if_pos (by omega), List.getElem?_drop]
  · rw [List.getElem?_append_right (l₁ := cur.take (o + a)) (by omega), e1, List.getElem?_append_right (l₁ := ((cur.drop o).take T).take a) (by omega), e2]
    by_cases h2 : j < a + x
    · rw [if_pos (by omega), List.getElem?_append_left (l₁ := X) (by omega), List.getElem?_append_left (l₁ := X) (by omega)]
      congr 1
      omega
    · rw [List.getElem?_append_right (l₁ := X) (by omega), List.getElem?_append_right (l₁ := X) (by omega), List.getElem?_drop, List.getElem?_drop, List.getElem?_take]
      by_cases h3 : j < T
      · rw [if_pos h3, if_pos (by omega), List.getElem?_drop]
        congr 1
        omega
      · rw [if_neg h3, if_neg (by omega)]
section
variable {w w' : World} {p b : Nat} {m : PM} {F : Nat → Prop} {dv ev : Value} {D : DataW Value} {G : Nat → Value}
/-- A slice's own cells, as its block has them. -/
theorem Sl.inside {e sz n : Nat} {xs : List Value} {g o cap : Nat} (h : Sl w e sz (.slice (some ⟨g, o, none⟩) n cap) n xs) : ∃ cur : List Value, Arr w g e cur ∧ n ≤ cap ∧ cap ≤ maxLen ∧ o + cap * sz ≤ cur.length ∧ (cur.drop o).take (n * sz) = xs := by
  rcases h.2 with ⟨h0, _⟩ | ⟨g', o', cap', cur, hv, hb, h1, h2, h3, h4⟩
  · cases h0
  · simp only [Value.slice.injEq, Option.some.injEq, Addr.mk.injEq, and_true, true_and] at hv
    obtain ⟨⟨rfl, rfl⟩, rfl⟩ := hv
    exact ⟨cur.toList, by unfold Arr; rw [hb], h1, h2, by simpa using h3, h4⟩
/-- A durable line is written. -/
theorem RepAt.setLine (h : RepAt w p m F dv b ev D G) (hm : m.Ok) {i d o cap : Nat} (hi : i < m.L.length) (hdv : dv = .slice (some ⟨d, o, none⟩) m.L.length cap) {ws : List Int} (h8 : ws.length = 8) (c : Int) {cur : List Value} (hc : Arr w d 57 cur) :
    RepAt (w.setRow d (cur.take (o + i * 9) ++ iv (ws ++ [c]) ++ cur.drop (o + i * 9 + 9)).toArray) p (m.upd i fun l => { l with ws := ws, code := c }) F dv b ev D G := by
  subst hdv
  obtain ⟨cur', hc', hn, hcm, hfit, htake⟩ := h.dur.inside
  have ecur : cur' = cur := by
    unfold Arr at hc hc'
    rw [hc] at hc'
    simp only [Option.some.injEq, Obj.cells.injEq, and_true] at hc'
    simpa using hc'.symm
  subst ecur
  have hF : F d := h.ownD d rfl
  have hd : ∀ k, k ≠ d → (w.setRow d (cur'.take (o + i * 9) ++ iv (ws ++ [c]) ++ cur'.drop (o + i * 9 + 9)).toArray).heap[k]? = w.heap[k]? := fun k hk => setRow_other w d k _ hk
  have hl9 : (iv (ws ++ [c])).length = 9 := by rw [iv_len, List.length_append, h8]; rfl
  have hN : m.L.length * 9 ≤ cap * 9 := Nat.mul_le_mul_right 9 hn
  have hi9 : i * 9 + 9 ≤ m.L.length * 9 := by omega
  have hup : (m.upd i fun l => { l with ws := ws, code := c }).L = m.L.set i { (m.line i) with ws := ws, code := c } := rfl
  have hlen := PM.upd_len m i fun l => { l with ws := ws, code := c }
  have hpnd : ∀ j, ((m.upd i fun l => { l with ws := ws, code := c }).line j).pend = (m.line j).pend ∧ ((m.upd i fun l => { l with ws := ws, code := c }).line j).mark = (m.line j).mark := fun j => by
    rw [PM.upd_line _ hi]
    by_cases e : j = i
    · subst e; rw [if_pos rfl]; exact ⟨rfl, rfl⟩
    · rw [if_neg e]; exact ⟨rfl, rfl⟩
  refine {
    mem := (hd p (fun e => ?_)).trans h.mem
    dur := ?_
    map := ownsMap_keep h.map (hd b fun e => ?_)
    evs := h.evs.keep fun g hg => hd g (h.evs.ne_of hg hc (by decide))
    at_ := fun j hj => by rw [(hpnd j).2]; exact h.at_ j (hlen ▸ hj)
    has_ := fun j hj => by rw [(hpnd j).1]; exact h.has_ j (hlen ▸ hj)
    off := fun kl hk => by rw [hlen]; exact h.off kl hk
    pend := fun j hj => by
      rw [(hpnd j).1]
      exact (h.pend j (hlen ▸ hj)).keep fun g hg => hd g ((h.pend j (hlen ▸ hj)).ne_of hg hc (by decide))
    apart := fun j k hj hk => h.apart j k (hlen ▸ hj) (hlen ▸ hk)
    ownP := h.ownP
    ownB := h.ownB
    ownD := h.ownD
    ownE := h.ownE
    ownG := fun j hj => h.ownG j (hlen ▸ hj)
    lt := fun k hk => by simpa using h.lt k hk }
  · subst e
    have h1 := h.mem
    unfold Arr at h1 hc
    rw [hc] at h1
    simp only [Option.some.injEq, Obj.cells.injEq] at h1
    exact absurd h1.2.1 (by decide)
  · refine ⟨?_, .inr ⟨d, o, cap, _, by rw [hlen], setRow_heap w d _ _ _ _ hc, by rw [hlen]; exact hn, hcm, ?_, ?_⟩⟩
    · rw [iv_len, hup]
      unfold flatL
      rw [flatMap_len _ 9 _ (fun x hx => ?_)]
      rcases List.mem_or_eq_of_mem_set hx with h1 | rfl
      · exact hm.flat_len x h1
      · show (ws ++ [c]).length = 9
        rw [List.length_append, h8]
        rfl
    · rw [List.size_toArray]
      have := splice_take cur' (iv (ws ++ [c])) (o + i * 9) (by rw [hl9]; omega)
      rw [hl9] at this
      rw [this]
      exact hfit
    · rw [List.toList_toArray, hlen, hup]
      have key := splice_flat (fun l : PL => l.ws ++ [l.code]) 9 m.L i { (m.line i) with ws := ws, code := c } hi hm.flat_len (by show (ws ++ [c]).length = 9; rw [List.length_append, h8]; rfl)
      unfold flatL
      rw [← key]
      have e0 : iv (List.take (i * 9) (m.L.flatMap fun l => l.ws ++ [l.code]) ++ (ws ++ [c]) ++ List.drop (i * 9 + 9) (m.L.flatMap fun l => l.ws ++ [l.code])) = (iv (flatL m.L)).take (i * 9) ++ iv (ws ++ [c]) ++ (iv (flatL m.L)).drop (i * 9 + 9) := by
        unfold iv flatL
        rw [List.map_append, List.map_append, List.map_take, List.map_drop]
      refine Eq.trans ?_ e0.symm
      rw [← htake]
      generalize iv (ws ++ [c]) = X at *
      exact splice_in cur' X o (i * 9) 9 (m.L.length * 9) hl9 (by omega) (by omega)
  · subst e
    obtain ⟨es, clock, hb, _⟩ := h.map
    unfold Arr at hc
    rw [hc] at hb
    cases hb
end
end Go.Proofs.YtmnncbgibngmiaaGreatDoor
namespace Go.Proofs.YtmnncbgibngmiaaGreatDoor
open Go.RowKit Go.Maps
def upG (G : Nat → Value) (i : Nat) (g : Value) : Nat → Value := fun j => if j = i then g else G j
theorem upG_same (G : Nat → Value) (i : Nat) (g : Value) : upG G i g i = g := by simp [upG]
theorem upG_other (G : Nat → Value) {i j : Nat} (g : Value) (h : j ≠ i) : upG G i g j = G j := by simp [upG, h]
section
variable {w w' : World} {p b : Nat} {m : PM} {F : Nat → Prop} {dv ev : Value} {D : DataW Value} {G : Nat → Value}
/-- The pending stores of a line are other ones. -/
theorem RepAt.putBusy (h : RepAt w p m F dv b ev D G) {i : Nat} (hi : i < m.L.length) (hk : ∀ k, F k → k ≠ b → (G i).ownBlock ≠ some k → w'.heap[k]? = w.heap[k]?) (hs : w.heap.size ≤ w'.heap.size)
    {g : Value} {mk n : Nat} {ss : List (Int × Int)} (hmap : w'.ownsMap Tryz.prog 3 heldR b n (D.put (kOf i) (.held (backV g mk)))) (hsl : Sl w' 66 2 g ss.length (iv (flatS ss))) (hne : ss ≠ [])
    (ho : ∀ k, g.ownBlock = some k → (G i).ownBlock = some k ∨ w.heap.size ≤ k) :
    RepAt w' p (m.upd i fun l => { l with pend := ss, mark := mk }) (Ex F w w') dv b ev (D.put (kOf i) (.held (backV g mk))) (upG G i g) := by
  have hlen := PM.upd_len m i fun l => { l with pend := ss, mark := mk }
  have hln := fun j => PM.upd_line (j := j) (fun l : PL => { l with pend := ss, mark := mk }) hi
  have hD := h.map.isMap
  have hlc := fun k (hk : k < w.heap.size) => hk
  have hflat : flatL (m.upd i fun l => { l with pend := ss, mark := mk }).L = flatL m.L := by
    unfold flatL PM.upd
    simp only
    apply List.ext_getElem?
    intro q
    have : (m.L.set i { (m.line i) with pend := ss, mark := mk }).map (fun l : PL => l.ws ++ [l.code]) = m.L.map (fun l : PL => l.ws ++ [l.code]) := by
      apply List.ext_getElem?
      intro j
      rw [List.getElem?_map, List.getElem?_map, List.getElem?_set]
      by_cases e : i = j
      · subst e
        rw [if_pos rfl, if_pos hi, List.getElem?_eq_getElem hi, PM.line_eq hi]
        rfl
      · rw [if_neg e]
    rw [List.flatMap_def, List.flatMap_def, this]
  have hdur : Sl w' 57 9 dv m.L.length (iv (flatL m.L)) := h.dur.keep fun q hq => hk q (h.ownD q hq) (h.dur.ne_map hq h.map) fun e => by
    obtain ⟨cur, hc⟩ := h.dur.blk hq
    exact (h.pend i hi).ne_of e hc (by decide) rfl
  have hpend : ∀ j, j < m.L.length → j ≠ i → Sl w' 66 2 (G j) (m.line j).pend.length (iv (flatS (m.line j).pend)) := fun j hj hji =>
    (h.pend j hj).keep fun q hq => hk q (h.ownG j hj q hq) ((h.pend j hj).ne_map hq h.map) fun e =>
      h.apart i j hi hj (fun e => hji e.symm) (by rw [e]; simp) (e.trans hq.symm)
  refine {
    mem := (hk p h.ownP h.p_ne_b fun e => (h.pend i hi).ne_of e h.mem (by decide) rfl).trans h.mem
    dur := by rw [hlen, hflat]; exact hdur
    map := ownsMap_size hmap
    evs := h.evs.keep fun q hq => hk q (h.ownE q hq) (h.evs.ne_map hq h.map) fun e => by
      obtain ⟨cur, hc⟩ := h.evs.blk hq
      exact (h.pend i hi).ne_of e hc (by decide) rfl
    at_ := fun j hj => ?_
    has_ := fun j hj => ?_
    off := fun kl hkl => ?_
    pend := fun j hj => ?_
    apart := fun j k hj hk' hjk hnn => ?_
    ownP := .inl h.ownP
    ownB := .inl h.ownB
    ownD := fun k hk => .inl (h.ownD k hk)
    ownE := fun k hk => .inl (h.ownE k hk)
    ownG := fun j hj k hk' => ?_
    lt := fun k hk => ?_ }
  · rw [hln j]
    by_cases e : j = i
    · subst e
      rw [if_pos rfl, upG_same, atKey_put_same hD (kOf_key _)]
    · rw [if_neg e, upG_other G g e, atKey_put_other (fun e2 => e (kOf_inj e2))]
      exact h.at_ j (hlen ▸ hj)
  · rw [hln j]
    by_cases e : j = i
    · subst e
      rw [if_pos rfl, has_put_same hD (kOf_key _)]
      simp [hne]
    · rw [if_neg e, has_put_other (fun e2 => e (kOf_inj e2))]
      exact h.has_ j (hlen ▸ hj)
  · rw [hlen]
    by_cases e : kl = kOf i
    · exact ⟨i, hi, e⟩
    · rw [has_put_other e] at hkl
      exact h.off kl hkl
  · rw [hln j]
    by_cases e : j = i
    · subst e
      rw [if_pos rfl, upG_same]
      exact hsl
    · rw [if_neg e, upG_other G g e]
      exact hpend j (hlen ▸ hj) e
  · rw [hlen] at hj hk'
    by_cases e : j = i
    · subst e
      rw [upG_same] at hnn ⊢
      rw [upG_other G g (fun e => hjk e.symm)]
      intro he
      obtain ⟨q, hq⟩ := Option.ne_none_iff_exists'.1 hnn
      rcases ho q hq with h1 | h1
      · exact h.apart j k hj hk' hjk (by rw [h1]; simp) (h1.trans (hq.symm.trans he))
      · have := h.lt q (h.ownG k hk' q (he.symm.trans hq))
        omega
    · rw [upG_other G g e] at hnn ⊢
      by_cases e2 : k = i
      · subst e2
        rw [upG_same]
        intro he
        obtain ⟨q, hq⟩ := Option.ne_none_iff_exists'.1 hnn
        rcases ho q (he.symm.trans hq) with h1 | h1
        · exact h.apart j k hj hk' hjk hnn (hq.trans h1.symm)
        · have := h.lt q (h.ownG j hj q hq)
          omega
      · rw [upG_other G g e2]
        exact h.apart j k hj hk' hjk hnn
  · rw [hlen] at hj
    by_cases e : j = i
    · subst e
      rw [upG_same] at hk'
      rcases ho k hk' with h1 | h1
      · exact .inl (h.ownG j hj k h1)
      · exact .inr ⟨h1, hsl.lt hk'⟩
    · rw [upG_other G g e] at hk'
      exact .inl (h.ownG j hj k hk')
  · rcases hk with h1 | h1
    · exact Nat.lt_of_lt_of_le (h.lt k h1) hs
    · exact h1.2
/-- The pending stores of a line are gone. -/
theorem RepAt.dropBusy (h : RepAt w p m F dv b ev D G) {i : Nat} (hi : i < m.L.length) (hk : ∀ k, F k → k ≠ b → w'.heap[k]? = w.heap[k]?) (hs : w.heap.size ≤ w'.heap.size) {n : Nat} (hmap : w'.ownsMap Tryz.prog 3 heldR b n (D.del (kOf i))) :
    RepAt w' p (m.upd i fun l => { l with pend := [], mark := 0 }) (Ex F w w') dv b ev (D.del (kOf i)) (upG G i (.slice none 0 0)) := by
  have hlen := PM.upd_len m i fun l => { l with pend := [], mark := 0 }
  have hln := fun j => PM.upd_line (j := j) (fun l : PL => { l with pend := [], mark := 0 }) hi
  have hflat : flatL (m.upd i fun l => { l with pend := [], mark := 0 }).L = flatL m.L := by
    unfold flatL PM.upd
    simp only
    have : (m.L.set i { (m.line i) with pend := [], mark := 0 }).map (fun l : PL => l.ws ++ [l.code]) = m.L.map (fun l : PL => l.ws ++ [l.code]) := by
      apply List.ext_getElem?
      intro j
      rw [List.getElem?_map, List.getElem?_map, List.getElem?_set]
      by_cases e : i = j
      · subst e
        rw [if_pos rfl, if_pos hi, List.getElem?_eq_getElem hi, PM.line_eq hi]
        rfl
      · rw [if_neg e]
    rw [List.flatMap_def, List.flatMap_def, this]
  refine {
    mem := (hk p h.ownP h.p_ne_b).trans h.mem
    dur := by rw [hlen, hflat]; exact h.dur.keep fun q hq => hk q (h.ownD q hq) (h.dur.ne_map hq h.map)
    map := ownsMap_size hmap
    evs := h.evs.keep fun q hq => hk q (h.ownE q hq) (h.evs.ne_map hq h.map)
    at_ := fun j hj => ?_
    has_ := fun j hj => ?_
    off := fun kl hkl => ?_
    pend := fun j hj => ?_
    apart := fun j k hj hk' hjk hnn => ?_
    ownP := .inl h.ownP
    ownB := .inl h.ownB
    ownD := fun k hk => .inl (h.ownD k hk)
    ownE := fun k hk => .inl (h.ownE k hk)
    ownG := fun j hj k hk' => ?_
    lt := fun k hk => ?_ }
  · rw [hln j]
    by_cases e : j = i
    · subst e
      rw [if_pos rfl, upG_same, atKey_del_same]
      rfl
    · rw [if_neg e, upG_other G _ e, atKey_del_other (fun e2 => e (kOf_inj e2))]
      exact h.at_ j (hlen ▸ hj)
  · rw [hln j]
    by_cases e : j = i
    · subst e
      rw [if_pos rfl, has_del_same]
      simp
    · rw [if_neg e, has_del_other (fun e2 => e (kOf_inj e2))]
      exact h.has_ j (hlen ▸ hj)
  · rw [hlen]
    by_cases e : kl = kOf i
    · exact ⟨i, hi, e⟩
    · rw [has_del_other e] at hkl
      exact h.off kl hkl
  · rw [hln j]
    by_cases e : j = i
    · subst e
      rw [if_pos rfl, upG_same]
      exact Sl.nil _ _ _
    · rw [if_neg e, upG_other G _ e]
      exact (h.pend j (hlen ▸ hj)).keep fun q hq => hk q (h.ownG j (hlen ▸ hj) q hq) ((h.pend j (hlen ▸ hj)).ne_map hq h.map)
  · rw [hlen] at hj hk'
    by_cases e : j = i
    · subst e
      rw [upG_same] at hnn
      simp [Value.ownBlock] at hnn
    · rw [upG_other G _ e] at hnn ⊢
      by_cases e2 : k = i
      · subst e2
        rw [upG_same]
        exact hnn
      · rw [upG_other G _ e2]
        exact h.apart j k hj hk' hjk hnn
  · rw [hlen] at hj
    by_cases e : j = i
    · subst e
      rw [upG_same] at hk'
      simp [Value.ownBlock] at hk'
    · rw [upG_other G _ e] at hk'
      exact .inl (h.ownG j hj k hk')
  · rcases hk with h1 | h1
    · exact Nat.lt_of_lt_of_le (h.lt k h1) hs
    · exact h1.2
/-- All pending stores are gone. -/
theorem RepAt.clearBusy (h : RepAt w p m F dv b ev D G) (hk : ∀ k, F k → k ≠ b → w'.heap[k]? = w.heap[k]?) (hs : w.heap.size ≤ w'.heap.size) {n : Nat} (hmap : w'.ownsMap Tryz.prog 3 heldR b n (.map [])) :
    RepAt w' p { m with L := m.L.map PL.lost } (Ex F w w') dv b ev (.map []) (fun _ => .slice none 0 0) := by
  have hlen : (m.L.map PL.lost).length = m.L.length := List.length_map ..
  have hln : ∀ j, j < m.L.length → ({ m with L := m.L.map PL.lost } : PM).line j = (m.line j).lost := fun j hj => by
    rw [PM.line_eq (by show j < (m.L.map PL.lost).length; rw [hlen]; exact hj), PM.line_eq hj]
    show (m.L.map PL.lost)[j]'_ = _
    rw [List.getElem_map]
  have hflat : flatL (m.L.map PL.lost) = flatL m.L := by
    unfold flatL
    rw [List.flatMap_map]
    rfl
  exact {
    mem := (hk p h.ownP h.p_ne_b).trans h.mem
    dur := by
      show Sl w' _ 9 dv (m.L.map PL.lost).length (iv (flatL (m.L.map PL.lost)))
      rw [hlen, hflat]
      exact h.dur.keep fun q hq => hk q (h.ownD q hq) (h.dur.ne_map hq h.map)
    map := ownsMap_size hmap
    evs := h.evs.keep fun q hq => hk q (h.ownE q hq) (h.evs.ne_map hq h.map)
    at_ := fun j hj => by rw [hln j (hlen ▸ hj)]; rfl
    has_ := fun j hj => by rw [hln j (hlen ▸ hj)]; simp [PL.lost, Maps.has]
    off := fun kl hkl => by simp [Maps.has] at hkl
    pend := fun j hj => by rw [hln j (hlen ▸ hj)]; exact Sl.nil _ _ _
    apart := fun j k _ _ _ hnn => by simp [Value.ownBlock] at hnn
    ownP := .inl h.ownP
    ownB := .inl h.ownB
    ownD := fun k hk => .inl (h.ownD k hk)
    ownE := fun k hk => .inl (h.ownE k hk)
    ownG := fun j _ k hk' => by simp [Value.ownBlock] at hk'
    lt := fun k hk => by
      rcases hk with h1 | h1
      · exact Nat.lt_of_lt_of_le (h.lt k h1) hs
      · exact h1.2 }
end
end Go.Proofs.YtmnncbgibngmiaaGreatDoor
