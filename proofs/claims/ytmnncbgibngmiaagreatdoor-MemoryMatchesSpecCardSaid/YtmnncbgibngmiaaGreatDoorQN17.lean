/-
  What memory's Copy does. What memory's Copy does: the walk.
-/
import Derived.Test.YtmnncbgibngmiaaGreatDoorQN16
namespace Go.Proofs.YtmnncbgibngmiaaGreatDoor
open Go.RowKit Go.Maps
theorem makeMap_hint (z : Int) (w : World) : (Instr.makeMap 59 (some (.int .i64 z))).run Tryz.prog w = .ok (.map (some w.heap.size)) (w.alloc (.map #[] 0)) := by
  have h := run_makeMap (P := Tryz.prog) 59 w
  simp only [Instr.makeMap, Sem.run_bind, run_underlying Tryz.underlying59, Result.andThen_ok] at h ⊢
  exact h
/-- A store into a map, where the operation stands alone. -/
theorem wp_mapUpdate_own {o : Oper} {a : Act} {K : Act → World → Prop} {Q : Exit → Act → World → Prop} {w : World} (m x v : Operand) (hop : o.op = Op.mapUpdate 59 m x v)
    (b n : Nat) (D : DataW Value) (hm : a.eval m = .map (some b)) (hown : w.ownsMap Tryz.prog 3 heldR b n D) (hn : n < maxLen) (key val : Value) (kl : Lit) (hx : a.eval x = key) (hv : a.eval v = val) (hkey : keyOf Tryz.prog 3 key = some kl)
    (hK : ∀ w', w'.ownsMap Tryz.prog 3 heldR b (n + 1) (D.put kl (.held val)) → w.grownBy w' (some b) → K (a.put o.dst undef) w') : o.wp Tryz.prog a w K Q := by
  obtain ⟨w', hrun, r1, r2⟩ := hown.update keyed3 Tryz.underlying59 hn hkey (show heldR val = some (.held val, []) from rfl)
  unfold Oper.wp
  simp [execOp, hop, hm, hx, hv, hrun, Result.andThen]
  exact hK w' r1 r2
/-- A map whose keys are lines is no larger than there are lines. -/
theorem few_of {w : World} {b n : Nat} {D : DataW Value} (hmap : w.ownsMap Tryz.prog 3 heldR b n D) {N : Nat} (off : ∀ kl, Maps.has D kl = true → ∃ i, i < N ∧ kl = kOf i) : Maps.size D ≤ N := by
  obtain ⟨es, rfl, hp, hlit⟩ := hmap.entries keyed3
  have hall : ∀ q ∈ es, ∃ i, i < N ∧ q.1 = kOf i := fun q hq => by
    refine off q.1 ?_
    show es.any (fun r => r.1.sameKey q.1) = true
    rw [List.any_eq_true]
    exact ⟨q, hq, WideAt.sameKey_self (hlit q hq)⟩
  show es.length ≤ N
  have hn : (es.map fun q => idxOf q.1).Nodup := by
    rw [List.nodup_iff_pairwise_ne, List.pairwise_map]
    refine List.Pairwise.imp_of_mem ?_ hp
    intro x y hx hy hne he
    obtain ⟨i, _, hi⟩ := hall x hx
    obtain ⟨j, _, hj⟩ := hall y hy
    rw [hi, hj] at he hne
    have : i = j := by unfold idxOf kOf at he; simpa using he
    subst this
    exact hne rfl
  have := nodup_small _ _ hn fun x hx => by
    obtain ⟨q, hq, rfl⟩ := List.mem_map.1 hx
    obtain ⟨i, hi, he⟩ := hall q hq
    rw [he]
    show ((i : Int)).toNat < N
    omega
  simpa using this
/-- A map of busy lines that is being copied: what is still to come is not there yet. -/
structure Part (w : World) (base b : Nat) (m : PM) (D : DataW Value) (G : Nat → Value) (todo : Nat → Bool) : Prop where
  map : w.ownsMap Tryz.prog 3 heldR b (Maps.size D) D
  at_ : ∀ i, i < m.L.length → todo i = false → D.atKey (kOf i) (.held zeroB) = .held (backV (G i) (m.line i).mark)
  has_ : ∀ i, i < m.L.length → Maps.has D (kOf i) = (!todo i && decide ((m.line i).pend ≠ []))
  off : ∀ kl, Maps.has D kl = true → ∃ i, i < m.L.length ∧ kl = kOf i
  pend : ∀ i, i < m.L.length → todo i = false → Sl w 66 2 (G i) (m.line i).pend.length (iv (flatS (m.line i).pend))
  own : ∀ i, i < m.L.length → todo i = false → ∀ k, (G i).ownBlock = some k → base ≤ k
  apart : ∀ i j, i < m.L.length → j < m.L.length → i ≠ j → todo i = false → todo j = false → (G i).ownBlock ≠ none → (G i).ownBlock ≠ (G j).ownBlock
  new : base ≤ b
section
variable {w w' : World} {base b : Nat} {m : PM} {D : DataW Value} {G : Nat → Value} {todo : Nat → Bool}
theorem Part.keep (h : Part w base b m D G todo) (hb : w'.heap[b]? = w.heap[b]?) (hG : ∀ i, i < m.L.length → todo i = false → ∀ q, (G i).ownBlock = some q → w'.heap[q]? = w.heap[q]?) : Part w' base b m D G todo :=
  ⟨ownsMap_keep h.map hb, h.at_, h.has_, h.off, fun i hi ht => (h.pend i hi ht).keep fun q hq => hG i hi ht q hq, h.own, h.apart, h.new⟩
theorem Part.below (h : Part w base b m D G todo) (hb : Below w.heap.size w w') : Part w' base b m D G todo :=
  h.keep (hb.block b h.map.lt) fun i hi ht q hq => hb.block q ((h.pend i hi ht).lt hq)
/-- The iterator has moved on. -/
theorem Part.iter (h : Part w base b m D G todo) {r : Nat} {x : Option Nat} {s c : Nat} {seen : Array Nat} (hr : w.heap[r]? = some (.mapIter x s seen c)) (hg : w.grownBy w' (some r)) : Part w' base b m D G todo := by
  have hK : Kept (fun k => k = r) w w' := Kept.of_grown hg (fun k hk => by simpa using hk.symm)
  refine h.keep (hK.block b h.map.lt fun e => ?_) fun i hi ht q hq => hK.block q ((h.pend i hi ht).lt hq) fun e => ?_
  · obtain ⟨es, clock, hb, _⟩ := h.map
    rw [e, hr] at hb
    cases hb
  · obtain ⟨cur, hc⟩ := (h.pend i hi ht).blk hq
    rw [e, hr] at hc
    cases hc
/-- An entry more. -/
theorem Part.step (h : Part w base b m D G todo) (hbase : base ≤ w.heap.size) {i : Nat} (hi : i < m.L.length) (hne : (m.line i).pend ≠ []) (hk : ∀ k, k < w.heap.size → k ≠ b → w'.heap[k]? = w.heap[k]?)
    {g : Value} {n : Nat} (hmap : w'.ownsMap Tryz.prog 3 heldR b n (D.put (kOf i) (.held (backV g (m.line i).mark)))) (hsl : Sl w' 66 2 g (m.line i).pend.length (iv (flatS (m.line i).pend))) (ho : ∀ k, g.ownBlock = some k → w.heap.size ≤ k) :
    Part w' base b m (D.put (kOf i) (.held (backV g (m.line i).mark))) (upG G i g) (fun j => todo j && decide (j ≠ i)) := by
  have hD := h.map.isMap
  have ht : ∀ j, j ≠ i → (todo j && decide (j ≠ i)) = todo j := fun j hj => by simp [hj]
  exact {
    map := ownsMap_size hmap
    at_ := fun j hj hd => by
      by_cases e : j = i
      · subst e
        rw [upG_same, atKey_put_same hD (kOf_key _)]
      · rw [upG_other G g e, atKey_put_other (fun e2 => e (kOf_inj e2))]
        exact h.at_ j hj (by rw [ht j e] at hd; exact hd)
    has_ := fun j hj => by
      by_cases e : j = i
      · subst e
        rw [has_put_same hD (kOf_key _)]
        simp [hne]
      · rw [has_put_other (fun e2 => e (kOf_inj e2)), ht j e]
        exact h.has_ j hj
    off := fun kl hkl => by
      by_cases e : kl = kOf i
      · exact ⟨i, hi, e⟩
      · rw [has_put_other e] at hkl
        exact h.off kl hkl
    pend := fun j hj hd => by
      by_cases e : j = i
      · subst e
        rw [upG_same]
        exact hsl
      · rw [upG_other G g e]
        rw [ht j e] at hd
        exact (h.pend j hj hd).keep fun q hq => hk q ((h.pend j hj hd).lt hq) ((h.pend j hj hd).ne_map hq h.map)
    own := fun j hj hd k hk' => by
      by_cases e : j = i
      · subst e
        rw [upG_same] at hk'
        exact Nat.le_trans hbase (ho k hk')
      · rw [upG_other G g e] at hk'
        exact h.own j hj (by rw [ht j e] at hd; exact hd) k hk'
    apart := fun j k hj hk' hjk hd1 hd2 hnn => by
      by_cases e : j = i
      · subst e
        rw [upG_same] at hnn ⊢
        rw [upG_other G g (fun e => hjk e.symm)]
        rw [ht k (fun e => hjk e.symm)] at hd2
        intro he
        obtain ⟨q, hq⟩ := Option.ne_none_iff_exists'.1 hnn
        have h1 := ho q hq
        have h2 := (h.pend k hk' hd2).lt (he.symm.trans hq)
        omega
      · rw [upG_other G g e] at hnn ⊢
        rw [ht j e] at hd1
        by_cases e2 : k = i
        · subst e2
          rw [upG_same]
          intro he
          obtain ⟨q, hq⟩ := Option.ne_none_iff_exists'.1 hnn
          have h1 := ho q (he.symm.trans hq)
          have h2 := (h.pend j hj hd1).lt hq
          omega
        · rw [upG_other G g e2]
          rw [ht k e2] at hd2
          exact h.apart j k hj hk' hjk hd1 hd2 hnn
    new := h.new }
end
theorem kOf_same (i j : Nat) : (kOf j).sameKey (kOf i) = decide (j = i) := by
  by_cases e : j = i
  · subst e
    rw [WideAt.sameKey_self (kOf_key j)]
    simp
  · rw [Maps.sameKey_ne (fun e2 => e (kOf_inj e2))]
    simp [e]
/-- The memory that Copy builds. -/
theorem rep_copy {w w1 : World} {m : PM} {b : Nat} {D : DataW Value} {G : Nat → Value} {dv ev : Value} (hb : Below w.heap.size w w1) (hp : Part w1 w.heap.size b m D G (fun _ => false))
    (hd : Sl w1 57 9 dv m.L.length (iv (flatL m.L))) (hdo : ∀ k, dv.ownBlock = some k → w.heap.size ≤ k) (he : Sl w1 79 12 ev m.ev.length (iv m.ev.flatten)) (heo : ∀ k, ev.ownBlock = some k → w.heap.size ≤ k) :
    Rep (w1.alloc (.cells #[dv, .map (some b), .int .i64 m.span, ev] 61)) w1.heap.size m (New w (w1.alloc (.cells #[dv, .map (some b), .int .i64 m.span, ev] 61))) := by
  have hn := bel_new w1 (.cells #[dv, .map (some b), .int .i64 m.span, ev] 61)
  have hz : (w1.alloc (.cells #[dv, .map (some b), .int .i64 m.span, ev] 61)).heap.size = w1.heap.size + 1 := by simp
  have hw := hb.size
  have hp2 := hp.below hn
  exact ⟨dv, b, ev, D, G, {
    mem := Arr.new w1 [dv, .map (some b), .int .i64 m.span, ev] 61
    dur := hd.keep fun q hq => hn.block q (hd.lt hq)
    map := hp2.map
    evs := he.keep fun q hq => hn.block q (he.lt hq)
    at_ := fun i hi => hp2.at_ i hi rfl
    has_ := fun i hi => by rw [hp2.has_ i hi]; simp
    off := hp2.off
    pend := fun i hi => hp2.pend i hi rfl
    apart := fun i j hi hj hij => hp2.apart i j hi hj hij rfl rfl
    ownP := ⟨hw, by omega⟩
    ownB := ⟨hp.new, hp2.map.lt⟩
    ownD := fun k hk => ⟨hdo k hk, by have := hd.lt hk; omega⟩
    ownE := fun k hk => ⟨heo k hk, by have := he.lt hk; omega⟩
    ownG := fun i hi k hk => ⟨hp2.own i hi rfl k hk, (hp2.pend i hi rfl).lt hk⟩
    lt := fun k hk => hk.2 }⟩
end Go.Proofs.YtmnncbgibngmiaaGreatDoor
namespace Go.Proofs.YtmnncbgibngmiaaGreatDoor
open Go.RowKit Go.Maps
theorem ranges_keep {w w' : World} {b r n cnt : Nat} {D : DataW Value} {left : Lit → Bool} (h : w.ranges Tryz.prog 3 heldR b r n D left cnt) (hb : w'.heap[b]? = w.heap[b]?) (hr : w'.heap[r]? = w.heap[r]?) : w'.ranges Tryz.prog 3 heldR b r n D left cnt := by
  obtain ⟨es, clock, since, seen, c0, h1, F, hs, hD, h2, rest⟩ := h
  exact ⟨es, clock, since, seen, c0, hb.trans h1, F, hs, hD, hr.trans h2, rest⟩
set_option maxRecDepth 100000 in
set_option maxHeartbeats 4000000 in
set_option linter.unusedSimpArgs false in
theorem copy_any (p : Nat) (m : PM) (F : Nat → Prop) (w : World) (hm : m.Ok) (hs : m.Small 1000000) (h : Rep w p m F) :
    Calls Tryz.prog 7 #[.pointer (some ⟨p, 0, none⟩)] w fun e w' => (∃ p', e = .returned (.pointer (some ⟨p', 0, none⟩)) ∧ Rep w' p' m (New w w')) ∧ Below w.heap.size w w' := by
  have HIM := Lib.hid fun W (hW : Below w.heap.size w W) => image_any p m F W hm.few (h.below hW)
  have HEV := Lib.hid fun W (hW : Below w.heap.size w W) => events_any p m F W hs.ev (h.below hW)
  have HPS := Lib.hid fun (v : Value) (n : Nat) xs W hsl (hn : n ≤ 1000000) => cloneStore_any v n (iv xs) W hsl (iv_one xs) hn
  have HSM := Lib.hid hs.pend
  have HM := Lib.hid hm
  obtain ⟨dv, b, ev, D, G, hr⟩ := h
  have c1 := hr.c1
  have c2 := hr.c2
  have hf := hm.few
  have HR0 := Lib.hid hr
  have hsz : Maps.size D ≤ 9223372036854775807 := by have := hr.few; omega
  have hmh := fun z => makeMap_hint z w
  have HMB : Hid (∀ o, (w.alloc o).ownsMap Tryz.prog 3 heldR b (Maps.size D) D) := Lib.hid fun o => ownsMap_keep hr.map (Below.heap_alloc w o b hr.map.lt)
  have HP0 : Hid (Part (w.alloc (.map #[] 0)) w.heap.size w.heap.size m (.map []) (fun _ => .slice none 0 0) (fun i => Maps.has D (kOf i))) := Lib.hid {
    map := World.ownsMap_made w Tryz.prog 3 heldR
    at_ := fun i hi hd => by
      rw [hr.has_ i hi] at hd
      have := (hr.idle hi (by simpa using hd)).2
      rw [this]
      rfl
    has_ := fun i hi => by
      rw [hr.has_ i hi]
      show false = _
      simp
    off := fun kl hk => by simp [Maps.has] at hk
    pend := fun i hi hd => by
      rw [hr.has_ i hi] at hd
      have : (m.line i).pend = [] := by simpa using hd
      rw [this]
      exact Sl.nil _ _ _
    own := fun i _ _ k hk => by simp [Value.ownBlock] at hk
    apart := fun i j _ _ _ _ _ hn => by simp [Value.ownBlock] at hn
    new := Nat.le_refl _ }
  have HOF : Hid (∀ kl, Maps.has D kl = true → ∃ i, i < m.L.length ∧ kl = kOf i ∧ (m.line i).pend ≠ [] ∧ D.atKey (kOf i) (.held zeroB) = .held (backV (G i) (m.line i).mark)) := Lib.hid fun kl hk => by
    obtain ⟨i, hi, rfl⟩ := hr.off kl hk
    rw [hr.has_ i hi] at hk
    exact ⟨i, hi, rfl, by simpa using hk, hr.at_ i hi⟩
  have HGI : Hid (∀ i, i < m.L.length → ∃ A cap, G i = .slice A (m.line i).pend.length cap ∧ (m.line i).pend.length ≤ cap ∧ cap ≤ maxLen) := Lib.hid fun i hi => by
    obtain ⟨A, cap, h1, h2, h3, _⟩ := (hr.pend i hi).shape
    exact ⟨A, cap, h1, h2, h3⟩
  have c1A := fun o => cell_below (bel_new w o) c1
  clear hm hs hr
  go_enter Tryz.func7, Tryz.ntmps7
  go_wp2_with (first
    | (at_len; refine wpList_len_own _ rfl _ 59 rfl 3 63 Tryz.underlying59 heldR b _ D rfl HR0.out.map ?_)
    | (at_range; refine wpList_range_own _ rfl _ 59 rfl 3 63 keyed3 Tryz.underlying59 heldR b _ D rfl (HMB.out _) ?_; intro w0 hrg0 hg0 hs0))
  go_frame
  have hB1 : Below (w.alloc (.map #[] 0)).heap.size (w.alloc (.map #[] 0)) w0 := (Below.refl _ _).grown hg0 (Nat.le_refl _) (fun k hk => by cases hk)
  have HP1 := Lib.hid (HP0.out.below hB1)
  have HB0 := Lib.hid (bel_on (bel_new w (.map #[] 0)) hB1)
  have hrz : (w.alloc (.map #[] 0)).heap.size = w.heap.size + 1 := by simp
  rw [hrz] at hrg0 ⊢
  have HRG0 := Lib.hid hrg0
  have HLH : Hid (∀ kl, Maps.has D kl = true → Maps.has D kl = true) := Lib.hid fun _ h => h
  have HIK : Hid (∀ key kl, keyOf Tryz.prog 3 key = some kl → ∃ x, key = Value.int .i64 x) := Lib.hid fun key kl h => by
    obtain ⟨x, rfl, _⟩ := Maps.keyOf_int_inv Tryz.underlying3 h
    exact ⟨x, rfl⟩
  have HIV : Hid (∀ v y, heldR v = some y → ∃ c : Value, v = (fun v : Value => v) c) := Lib.hid fun v _ _ => ⟨v, rfl⟩
  clear hrg0 hg0 hs0 hB1 HP0 HMB c1A hmh hrz
  go_loopw [17] (fun q wr => ∃ (left : Lit → Bool) (cnt : Nat) (D2 : DataW Value) (G2 : Nat → Value), Hid (wr.ranges Tryz.prog 3 heldR b (w.heap.size + 1) (Maps.size D) D left cnt) ∧ Hid (∀ kl, left kl = true → Maps.has D kl = true) ∧ Hid (Part wr w.heap.size w.heap.size m D2 G2 (fun i => left (kOf i))) ∧ Hid (Below w.heap.size w wr)) (fun _ wr => wr.rangeLeft b (w.heap.size + 1))
  case atStart => exact ⟨_, _, _, _, HRG0, HLH, HP1, HB0⟩
  case round =>
    clear HRG0 HLH HP1 HB0
    obtain ⟨left, cnt, D2, G2, HRG, HL, HP, HB⟩ := hrel
    go_wp2_with (at_next; refine wpList_next_ranges _ rfl _ rfl 3 keyed3 heldR (Value.int .i64) (fun v : Value => v) HIK.out HIV.out b (w.heap.size + 1) (Maps.size D) D left cnt rfl HRG.out ?_ ?_)
    · intro hc0 hl0
      have HP3 : Hid (Part wr w.heap.size w.heap.size m D2 G2 (fun _ => false)) := Lib.hid (by
        have := HP.out
        rw [show (fun i => left (kOf i)) = (fun _ => false) from funext fun i => hl0 _] at this
        exact this)
      clear hl0 HP HL HRG
      go_wp2_with fail
      have c22 := cell_below HB.out.drew c2
      have HBd : Hid (Below w.heap.size w wr.drew) := Lib.hid HB.out.drew
      have HPd : Hid (Part wr.drew w.heap.size w.heap.size m D2 G2 (fun _ => false)) := Lib.hid (HP3.out.below (bel_drew wr))
      refine wp_region_held_drew (S := fun W => W.cell? ⟨p, 2, none⟩ = some (.int .i64 m.span)) (by kernel_rfl) c22 (fun hHeld => ?_)
      clear HP3 HB
      generalize wr.drew = w2 at *
      refine wpAnyH_take (i := 0) (v := .pointer (some ⟨p, 0, none⟩)) rfl (by kernel_rfl) (by kernel_rfl) (by kernel_rfl) (fun _ _ _ h => h) (Or.inl ⟨by rfl, fun w hSw => by go_simp⟩) (by assumption) ?_
      change wpAnyH _ _ _ _ _ _ _ (Act.put _ (some 30) _) _
      simp only [Act.put, List.setIfInBounds_toArray, List.set_cons_zero, List.set_cons_succ]
      refine wpAnyH_take (i := 2) (v := .map (some w.heap.size)) rfl (by kernel_rfl) (by kernel_rfl) (by kernel_rfl) (fun _ _ _ h => h) (Or.inl ⟨by rfl, fun w hSw => by go_simp⟩) (by assumption) ?_
      change wpAnyH _ _ _ _ _ _ _ (Act.put _ (some 32) _) _
      simp only [Act.put, List.setIfInBounds_toArray, List.set_cons_zero, List.set_cons_succ]
      refine wpAnyH_take (i := 3) (v := .pointer (some ⟨p, 0, none⟩)) rfl (by kernel_rfl) (by kernel_rfl) (by kernel_rfl) (fun _ _ _ h => h) (Or.inl ⟨by rfl, fun w hSw => by go_simp⟩) (by assumption) ?_
      change wpAnyH _ _ _ _ _ _ _ (Act.put _ (some 33) _) _
      simp only [Act.put, List.setIfInBounds_toArray, List.set_cons_zero, List.set_cons_succ]
      refine wpAnyH_take (i := 4) (v := .pointer (some ⟨p, 0, none⟩)) rfl (by kernel_rfl) (by kernel_rfl) (by kernel_rfl) (fun _ _ _ h => h) (Or.inl ⟨by rfl, fun w hSw => by go_simp⟩) (by assumption) ?_
      change wpAnyH _ _ _ _ _ _ _ (Act.put _ (some 34) _) _
      simp only [Act.put, List.setIfInBounds_toArray, List.set_cons_zero, List.set_cons_succ]
      refine wpAnyH_take (i := 5) (v := .pointer (some ⟨p, 2, none⟩)) rfl (by kernel_rfl) (by kernel_rfl) (by kernel_rfl) (fun _ _ _ h => h) (Or.inl ⟨by rfl, fun w hSw => by go_simp⟩) (by assumption) ?_
      change wpAnyH _ _ _ _ _ _ _ (Act.put _ (some 35) _) _
      simp only [Act.put, List.setIfInBounds_toArray, List.set_cons_zero, List.set_cons_succ]
      refine wpAnyH_take (i := 6) (v := .int .i64 m.span) rfl (by kernel_rfl) (by kernel_rfl) (by kernel_rfl) (fun _ _ _ h => h) (Or.inl ⟨by rfl, fun w hSw => by go_simp⟩) (by assumption) ?_
      change wpAnyH _ _ _ _ _ _ _ (Act.put _ (some 36) _) _
      simp only [Act.put, List.setIfInBounds_toArray, List.set_cons_zero, List.set_cons_succ]
      refine wpAnyH_take (i := 7) (v := .pointer (some ⟨p, 0, none⟩)) rfl (by kernel_rfl) (by kernel_rfl) (by kernel_rfl) (fun _ _ _ h => h) (Or.inl ⟨by rfl, fun w hSw => by go_simp⟩) (by assumption) ?_
      change wpAnyH _ _ _ _ _ _ _ (Act.put _ (some 37) _) _
      simp only [Act.put, List.setIfInBounds_toArray, List.set_cons_zero, List.set_cons_succ]
      refine wpAnyH_ready (rs := [1]) (by kernel_rfl) (by simp) ?_
      refine AllReadyH.cons rfl (fun K hK => ?_) AllReadyH.nil
      go_simp
      refine (HIM.out _ HBd.out).mono ?_
      rintro e w3 ⟨dv', rfl, hs3, ho3, hb3⟩
      have HB3 := Lib.hid (bel_on HBd.out hb3)
      have HP4 := Lib.hid (HPd.out.below hb3)
      have HO3 : Hid (∀ k, dv'.ownBlock = some k → w.heap.size ≤ k) := Lib.hid fun k hk => Nat.le_trans HBd.out.size (ho3 k hk)
      have HS3 := Lib.hid hs3
      obtain ⟨A3, cap3, rfl, _⟩ := hs3.shape
      refine hK.out _ _ (cell_below hb3 hHeld) (fun hHeld1 => ?_)
      clear hK K hHeld hb3 hs3 ho3 HPd HBd
      refine wpAnyH_ready (rs := [8]) (by kernel_rfl) (by simp) ?_
      refine AllReadyH.cons rfl (fun K hK => ?_) AllReadyH.nil
      go_simp
      refine (HEV.out _ HB3.out).mono ?_
      rintro e w4 ⟨ev', rfl, hs4, ho4, hb4⟩
      have HB4 := Lib.hid (bel_on HB3.out hb4)
      have HNEW := Lib.hid (rep_copy HB4.out (HP4.out.below hb4) (HS3.out.keep fun q hq => hb4.block q (HS3.out.lt hq)) HO3.out hs4 (fun k hk => Nat.le_trans HB3.out.size (ho4 k hk)))
      obtain ⟨A4, cap4, rfl, _⟩ := hs4.shape
      refine hK.out _ _ (cell_below hb4 hHeld1) (fun hHeld2 => ?_)
      clear hK K hHeld1 hb4 hs4 ho4 HP4 HB3 HO3 HS3
      refine wpAnyH_take (i := 9) (v := .agg #[.slice A3 m.L.length cap3, .map (some w.heap.size), .int .i64 m.span, .slice A4 m.ev.length cap4]) rfl (by kernel_rfl) (by kernel_rfl) (by kernel_rfl) (fun _ _ _ h => h) (Or.inl ⟨by rfl, fun w hSw => by go_simp⟩) (by assumption) ?_
      change wpAnyH _ _ _ _ _ _ _ (Act.put _ (some 39) _) _
      simp only [Act.put, List.setIfInBounds_toArray, List.set_cons_zero, List.set_cons_succ]
      refine wpAnyH_ready (rs := [10]) (by kernel_rfl) (by simp) ?_
      refine AllReadyH.cons rfl (fun K hK => ?_) AllReadyH.nil
      go_simp
      refine hK.out _ _ (cell_below (bel_new _ _) hHeld2) (fun hHeld3 => ?_)
      clear hK K hHeld2
      refine wpAnyH_take (i := 11) (v := .pointer (some ⟨w4.heap.size, 0, none⟩)) rfl (by kernel_rfl) (by kernel_rfl) (by kernel_rfl) (fun _ _ _ h => h) (Or.inl ⟨by rfl, fun w hSw => by go_simp⟩) (by assumption) ?_
      change wpAnyH _ _ _ _ _ _ _ (Act.put _ (some 2) _) _
      simp only [Act.put, List.setIfInBounds_toArray, List.set_cons_zero, List.set_cons_succ]
      refine wpAnyH_done (by kernel_rfl) ?_ _
      have HB5 := Lib.hid (bel_on HB4.out (bel_new w4 (.cells #[.slice A3 m.L.length cap3, .map (some w.heap.size), .int .i64 m.span, .slice A4 m.ev.length cap4] 61)))
      go_wp2_with fail
      go_ret
      exact ⟨⟨_, rfl, HNEW.out⟩, HB5.out⟩
    · intro x c kl y ps w1 cnt1 hkey hlk hv hat hrg1 hlt1 hg1 hs1 hen
      obtain ⟨x', ex, rfl, _⟩ := Maps.keyOf_int_inv Tryz.underlying3 hkey
      simp only [Value.int.injEq, true_and] at ex
      subst ex
      have hcy : y = .held c := by
        unfold heldR at hv
        simp only [Option.some.injEq, Prod.mk.injEq] at hv
        exact hv.1.symm
      subst hcy
      obtain ⟨i, hi, hki, hpe, hati⟩ := HOF.out _ (HL.out _ hlk)
      have hxi : x = (i : Int) := by
        unfold kOf at hki
        simpa using hki
      subst hxi
      obtain ⟨A, cap, hG, hcap, hcm⟩ := HGI.out i hi
      have hcv : c = backV (G i) (m.line i).mark := by
        have h1 := hat (.held zeroB)
        have h2 : D.atKey (.int .i64 (i : Int)) (.held zeroB) = _ := hati
        rw [h1] at h2
        simpa using h2
      rw [hG] at hcv
      subst hcv
      unfold backV at hen ⊢
      have hitr : ∃ s c0 seen, wr.heap[w.heap.size + 1]? = some (.mapIter (some b) s seen c0) := by
        obtain ⟨_, _, s, seen, c0, _, _, _, _, hr, _⟩ := HRG.out
        exact ⟨s, c0, seen, hr⟩
      obtain ⟨s0, c0, seen0, hitr⟩ := hitr
      have HP1 := Lib.hid (HP.out.iter hitr hg1)
      have HB1 := Lib.hid (HB.out.grown hg1 (HB.out.size) (fun k hk => by
        simp only [Option.some.injEq] at hk
        omega))
      have HRG1 := Lib.hid hrg1
      have HLT := Lib.hid hlt1
      have HLE := Lib.hid HRG.out.left_eq
      have HTODO : Hid (left (kOf i) = true) := Lib.hid hlk
      have hnl : Maps.has D2 (kOf i) = false := by rw [HP.out.has_ i hi, show left (kOf i) = true from hlk]; rfl
      clear hrg1 hlt1 hg1 hs1 hitr hlk hv hat hati hki hkey hnl
      obtain ⟨pd, hpd⟩ : ∃ pd, (m.line i).pend = pd := ⟨_, rfl⟩
      obtain ⟨mk, hmk⟩ : ∃ mk, (m.line i).mark = mk := ⟨_, rfl⟩
      rw [hpd, hmk] at hen
      rw [hpd] at hG hcap hpe
      rw [hpd, hmk]
      have HPD := Lib.hid hpd
      have HMK := Lib.hid hmk
      have HNE := Lib.hid hpe
      have HSP : Hid (Sl w 66 2 (.slice A pd.length cap) pd.length (iv (flatS pd))) := Lib.hid (by
        have h7 := HR0.out.pend i hi
        rw [hpd, hG] at h7
        exact h7)
      have HLN : Hid (pd.length ≤ 1000000) := Lib.hid (by
        have := HSM.out _ (PM.line_mem hi)
        rw [hpd] at this
        exact this)
      have HI := Lib.hid hi
      have HK9 := Lib.hid (key_of (i : Int) (by unfold I64; omega))
      clear hpd hmk hG hpe hi
      have HB2 : Hid (Below w.heap.size w (w1.alloc (.cells #[.slice A pd.length cap, .int .i64 (mk : Int)] 63)).drew) := Lib.hid (bel_on HB1.out (bel_new _ _)).drew
      have hA2 : Arr (w1.alloc (.cells #[.slice A pd.length cap, .int .i64 (mk : Int)] 63)).drew w1.heap.size 63 [.slice A pd.length cap, .int .i64 (mk : Int)] := Arr.new w1 [.slice A pd.length cap, .int .i64 (mk : Int)] 63
      have HP2 : Hid (Part (w1.alloc (.cells #[.slice A pd.length cap, .int .i64 (mk : Int)] 63)).drew w.heap.size w.heap.size m D2 G2 (fun i => left (kOf i))) := Lib.hid (HP1.out.below (bel_new w1 _).drew)
      have HRG2 : Hid ((w1.alloc (.cells #[.slice A pd.length cap, .int .i64 (mk : Int)] 63)).drew.ranges Tryz.prog 3 heldR b (w.heap.size + 1) (Maps.size D) D (fun z => left z && !z.sameKey (.int .i64 (i : Int))) cnt1) := Lib.hid (ranges_keep HRG1.out ((bel_new w1 _).block b HRG1.out.owns.lt) ((bel_new w1 _).block _ HRG1.out.lt))
      clear HP1 HB1 HRG1 HP HB
      go_wp2_with fail
      obtain ⟨w2, hw2⟩ : ∃ w2, w1.alloc (.cells #[.slice A pd.length cap, .int .i64 (mk : Int)] 63) = w2 := ⟨_, rfl⟩
      rw [hw2] at HB2 hA2 HP2 HRG2 ⊢
      obtain ⟨g5, hg5⟩ : ∃ g5, w1.heap.size = g5 := ⟨_, rfl⟩
      rw [hg5] at hA2 ⊢
      have HG5 : Hid (g5 ≠ w.heap.size) := Lib.hid (fun e => by
        obtain ⟨es, clock, hb, _⟩ := HP2.out.map
        rw [← e, hA2] at hb
        cases hb)
      clear hw2 hg5 hen
      have e0 := hA2.cell (j := 0) rfl
      have e1 := hA2.cell (j := 1) rfl
      refine wp_region_held_drew (S := fun W => W.cell? ⟨g5, 0, none⟩ = some (.slice A pd.length cap) ∧ W.cell? ⟨g5, 1, none⟩ = some (.int .i64 (mk : Int))) (by kernel_rfl) ⟨e0, e1⟩ (fun hHeld => ?_)
      clear e0 e1
      generalize w2.drew = w3 at *
      refine wpAnyH_take (i := 0) (v := .map (some w.heap.size)) rfl (by kernel_rfl) (by kernel_rfl) (by kernel_rfl) (fun _ _ _ h => h) (Or.inl ⟨by rfl, fun w hSw => by obtain ⟨h1, h2⟩ := hSw; go_simp⟩) (by assumption) ?_
      change wpAnyH _ _ _ _ _ _ _ (Act.put _ (some 22) _) _
      simp only [Act.put, List.setIfInBounds_toArray, List.set_cons_zero, List.set_cons_succ]
      refine wpAnyH_take (i := 1) (v := .int .i64 (i : Int)) rfl (by kernel_rfl) (by kernel_rfl) (by kernel_rfl) (fun _ _ _ h => h) (Or.inl ⟨by rfl, fun w hSw => by obtain ⟨h1, h2⟩ := hSw; go_simp⟩) (by assumption) ?_
      change wpAnyH _ _ _ _ _ _ _ (Act.put _ (some 23) _) _
      simp only [Act.put, List.setIfInBounds_toArray, List.set_cons_zero, List.set_cons_succ]
      refine wpAnyH_take (i := 2) (v := .pointer (some ⟨g5, 0, none⟩)) rfl (by kernel_rfl) (by kernel_rfl) (by kernel_rfl) (fun _ _ _ h => h) (Or.inl ⟨by rfl, fun w hSw => by obtain ⟨h1, h2⟩ := hSw; go_simp⟩) (by assumption) ?_
      change wpAnyH _ _ _ _ _ _ _ (Act.put _ (some 24) _) _
      simp only [Act.put, List.setIfInBounds_toArray, List.set_cons_zero, List.set_cons_succ]
      refine wpAnyH_take (i := 3) (v := .slice A pd.length cap) rfl (by kernel_rfl) (by kernel_rfl) (by kernel_rfl) (fun _ _ _ h => h) (Or.inl ⟨by rfl, fun w hSw => by obtain ⟨h1, h2⟩ := hSw; go_simp⟩) (by assumption) ?_
      change wpAnyH _ _ _ _ _ _ _ (Act.put _ (some 25) _) _
      simp only [Act.put, List.setIfInBounds_toArray, List.set_cons_zero, List.set_cons_succ]
      refine wpAnyH_take (i := 5) (v := .pointer (some ⟨g5, 1, none⟩)) rfl (by kernel_rfl) (by kernel_rfl) (by kernel_rfl) (fun _ _ _ h => h) (Or.inl ⟨by rfl, fun w hSw => by obtain ⟨h1, h2⟩ := hSw; go_simp⟩) (by assumption) ?_
      change wpAnyH _ _ _ _ _ _ _ (Act.put _ (some 27) _) _
      simp only [Act.put, List.setIfInBounds_toArray, List.set_cons_zero, List.set_cons_succ]
      refine wpAnyH_take (i := 6) (v := .int .i64 (mk : Int)) rfl (by kernel_rfl) (by kernel_rfl) (by kernel_rfl) (fun _ _ _ h => h) (Or.inl ⟨by rfl, fun w hSw => by obtain ⟨h1, h2⟩ := hSw; go_simp⟩) (by assumption) ?_
      change wpAnyH _ _ _ _ _ _ _ (Act.put _ (some 28) _) _
      simp only [Act.put, List.setIfInBounds_toArray, List.set_cons_zero, List.set_cons_succ]
      refine wpAnyH_ready (rs := [4]) (by kernel_rfl) (by simp) ?_
      refine AllReadyH.cons rfl (fun K hK => ?_) AllReadyH.nil
      go_simp
      refine (HPS.out _ _ _ _ (HSP.out.keep fun q hq => HB2.out.block q (HSP.out.lt hq)) HLN.out).mono ?_
      rintro e w4 ⟨v', rfl, hs4, ho4, hb4⟩
      have HB4 := Lib.hid (bel_on HB2.out hb4)
      have HP4 := Lib.hid (HP2.out.below hb4)
      have HRG4 := Lib.hid (ranges_keep HRG2.out (hb4.block b HRG2.out.owns.lt) (hb4.block _ HRG2.out.lt))
      have HS4 := Lib.hid hs4
      have HO4 : Hid (∀ k, v'.ownBlock = some k → w3.heap.size ≤ k) := Lib.hid ho4
      have HW34 := Lib.hid hb4.size
      obtain ⟨A4, cap4, rfl, _⟩ := hs4.shape
      have hA4 := hA2.keep hb4
      refine hK.out _ _ ⟨cell_below hb4 hHeld.1, cell_below hb4 hHeld.2⟩ (fun hHeld1 => ?_)
      have HB34 := Lib.hid hb4
      clear hK K hHeld hb4 hs4 ho4 HRG2 hA2
      refine wpAnyH_take (i := 7) (v := .agg #[.slice A4 pd.length cap4, .int .i64 (mk : Int)]) rfl (by kernel_rfl) (by kernel_rfl) (by kernel_rfl) (fun _ _ _ h => h) (Or.inl ⟨by rfl, fun w hSw => by obtain ⟨h1, h2⟩ := hSw; go_simp⟩) (by assumption) ?_
      change wpAnyH _ _ _ _ _ _ _ (Act.put _ (some 29) _) _
      simp only [Act.put, List.setIfInBounds_toArray, List.set_cons_zero, List.set_cons_succ]
      refine wpAnyH_ready (rs := [8]) (by kernel_rfl) (by simp) ?_
      refine AllReadyH.cons rfl (fun K hK => ?_) AllReadyH.nil
      have hsz4 : Maps.size D2 < maxLen := by have h3 := few_of HP4.out.map HP4.out.off; unfold maxLen; omega
      refine wp_mapUpdate_own _ _ _ rfl w.heap.size _ D2 rfl HP4.out.map hsz4 _ (backV (.slice A4 pd.length cap4) mk) (kOf i) rfl rfl HK9.out ?_
      intro w5 hown5 hg5
      have hK5 : Kept (fun k => k = w.heap.size) w4 w5 := Kept.of_grown hg5 (fun k hk => by simpa using hk.symm)
      have HB5 : Hid (Below w.heap.size w w5) := Lib.hid (HB4.out.grown hg5 HB4.out.size (fun k hk => by simp only [Option.some.injEq] at hk; omega))
      have hA5 : Arr w5 g5 63 [.slice A pd.length cap, .int .i64 (mk : Int)] := (hK5.block g5 hA4.lt HG5.out).trans hA4
      have HRG5 := Lib.hid (ranges_keep HRG4.out (hK5.block b HRG4.out.owns.lt (fun e => by have := HR0.out.lt b HR0.out.ownB; omega)) (hK5.block _ HRG4.out.lt (by omega)))
      have HP5 := Lib.hid (HP2.out.step HB2.out.size HI.out (by rw [HPD.out]; exact HNE.out) (fun k hk hne => (hK5.block k (Nat.lt_of_lt_of_le hk HB34.out.size) hne).trans (HB34.out.block k hk)) (g := .slice A4 pd.length cap4) (by rw [HMK.out]; exact hown5) (by rw [HPD.out]; exact HS4.out.keep fun q hq => hK5.block q (HS4.out.lt hq) (HS4.out.ne_map hq HP4.out.map)) HO4.out)
      refine hK.out _ _ ⟨hA5.cell rfl, hA5.cell rfl⟩ (fun hHeld2 => ?_)
      clear hK K hHeld1
      refine wpAnyH_done (by kernel_rfl) ?_ _
      have HL5 : Hid (∀ kl, (left kl && !kl.sameKey (.int .i64 (i : Int))) = true → Maps.has D kl = true) := Lib.hid fun kl h => HL.out kl (by simp only [Bool.and_eq_true] at h; exact h.1)
      have HP6 : Hid (Part w5 w.heap.size w.heap.size m _ _ (fun j => left (kOf j) && !(kOf j).sameKey (.int .i64 (i : Int)))) := Lib.hid (by
        have h7 := HP5.out
        rw [show (fun j => left (kOf j) && decide (j ≠ i)) = (fun j => left (kOf j) && !(kOf j).sameKey (.int .i64 (i : Int))) from funext fun j => by rw [show (Lit.int .i64 (i : Int)) = kOf i from rfl, kOf_same]; simp] at h7
        exact h7)
      clear HP5 HP4 HS4 HO4 HRG4 hA4 hA5 hHeld2 HL HP2 HB2 hown5 hg5 hK5
      change Exit.inBlock 1 _ Exit.normal (Act.put _ none _) _
      simp only [Act.put]
      go_roundw
      case rel => exact ⟨_, _, _, _, _, _, _, _, _, _, _, _, _, _, _, ⟨_, _, _, _, HRG5, HL5, HP6, HB5⟩, rfl⟩
      case measure => rw [HRG5.out.left_eq, HLE.out]; exact HLT.out
end Go.Proofs.YtmnncbgibngmiaaGreatDoor
