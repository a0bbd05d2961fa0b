/-
  What memory's Copy does. What memory's Copy does: the walk. What calls leave of a memory: it stays right, it grows by one at most. The calls that a list of events records, over a memory as plain data: how many are recorded as they are, and what a replay makes. What the law's do does; a memory that a law holds in its hands.
-/
import Derived.Test.YtpojhplnhppcpaaGreatDoorQN14
namespace Go.Proofs.YtpojhplnhppcpaaGreatDoor
open Go.RowKit Go.Maps
theorem makeMap_hint (z : Int) (w : World) : (Instr.makeMap 98 (some (.int .i64 z))).run Tryz.prog w = .ok (.map (some w.heap.size)) (w.alloc (.map #[] 0)) := by
  have h := run_makeMap (P := Tryz.prog) 98 w
  simp only [Instr.makeMap, Sem.run_bind, run_underlying Tryz.underlying98, Result.andThen_ok] at h ⊢
  exact h
/-- A store into a map, where the operation stands alone. -/
theorem wp_mapUpdate_own {o : Oper} {a : Act} {K : Act → World → Prop} {Q : Exit → Act → World → Prop} {w : World} (m x v : Operand) (hop : o.op = Op.mapUpdate 98 m x v)
    (b n : Nat) (D : DataW Value) (hm : a.eval m = .map (some b)) (hown : w.ownsMap Tryz.prog 3 heldR b n D) (hn : n < maxLen) (key val : Value) (kl : Lit) (hx : a.eval x = key) (hv : a.eval v = val) (hkey : keyOf Tryz.prog 3 key = some kl)
    (hK : ∀ w', w'.ownsMap Tryz.prog 3 heldR b (n + 1) (D.put kl (.held val)) → w.grownBy w' (some b) → K (a.put o.dst undef) w') : o.wp Tryz.prog a w K Q := by
  obtain ⟨w', hrun, r1, r2⟩ := hown.update keyed3 Tryz.underlying98 hn hkey (show heldR val = some (.held val, []) from rfl)
  unfold Oper.wp
  simp [execOp, hop, hm, hx, hv, hrun, Result.andThen]
  exact hK w' r1 r2
/-- A map whose keys are lines is no larger than there are lines. -/
theorem few_of {w : World} {b n : Nat} {D : DataW Value} (hmap : w.ownsMap Tryz.prog 3 heldR b n D) {N : Nat} (off : ∀ kl, Maps.has D kl = true → ∃ i, i < N ∧ kl = kOf i) : Maps.size D ≤ N := by
  obtain ⟨es, rfl, hp, hlit⟩ := hmap.entries keyed3
  have hall : ∀ q ∈ es, ∃ i, i < N ∧ q.1 = kOf i := fun q hq => by
    refine off q.1 ?_
    show es.any (fun r => r.1.sameKey q.1) = true
    rw [List.any_eq_true]
    exact ⟨q, hq, WideAt.sameKey_self (hlit q hq)⟩
  show es.length ≤ N
  have hn : (es.map fun q => idxOf q.1).Nodup := by
    rw [List.nodup_iff_pairwise_ne, List.pairwise_map]
    refine List.Pairwise.imp_of_mem ?_ hp
    intro x y hx hy hne he
    obtain ⟨i, _, hi⟩ := hall x hx
    obtain ⟨j, _, hj⟩ := hall y hy
    rw [hi, hj] at he hne
    have : i = j := by unfold idxOf kOf at he; simpa using he
    subst this
    exact hne rfl
  have := nodup_small _ _ hn fun x hx => by
    obtain ⟨q, hq, rfl⟩ := List.mem_map.1 hx
    obtain ⟨i, hi, he⟩ := hall q hq
    rw [he]
    show ((i : Int)).toNat < N
    omega
  simpa using this
/-- A map of busy lines that is being copied: what is still to come is not there yet. -/
structure Part (w : World) (base b : Nat) (m : PM) (D : DataW Value) (G : Nat → Value) (todo : Nat → Bool) : Prop where
  map : w.ownsMap Tryz.prog 3 heldR b (Maps.size D) D
  at_ : ∀ i, i < m.L.length → todo i = false → D.atKey (kOf i) (.held zeroB) = .held (backV (G i) (m.line i).mark)
  has_ : ∀ i, i < m.L.length → Maps.has D (kOf i) = (!todo i && decide ((m.line i).pend ≠ []))
  off : ∀ kl, Maps.has D kl = true → ∃ i, i < m.L.length ∧ kl = kOf i
  pend : ∀ i, i < m.L.length → todo i = false → Sl w 105 2 (G i) (m.line i).pend.length (iv (flatS (m.line i).pend))
  own : ∀ i, i < m.L.length → todo i = false → ∀ k, (G i).ownBlock = some k → base ≤ k
  apart : ∀ i j, i < m.L.length → j < m.L.length → i ≠ j → todo i = false → todo j = false → (G i).ownBlock ≠ none → (G i).ownBlock ≠ (G j).ownBlock
  new : base ≤ b
section
variable {w w' : World} {base b : Nat} {m : PM} {D : DataW Value} {G : Nat → Value} {todo : Nat → Bool}
theorem Part.keep (h : Part w base b m D G todo) (hb : w'.heap[b]? = w.heap[b]?) (hG : ∀ i, i < m.L.length → todo i = false → ∀ q, (G i).ownBlock = some q → w'.heap[q]? = w.heap[q]?) : Part w' base b m D G todo :=
  ⟨ownsMap_keep h.map hb, h.at_, h.has_, h.off, fun i hi ht => (h.pend i hi ht).keep fun q hq => hG i hi ht q hq, h.own, h.apart, h.new⟩
theorem Part.below (h : Part w base b m D G todo) (hb : Below w.heap.size w w') : Part w' base b m D G todo :=
  h.keep (hb.block b h.map.lt) fun i hi ht q hq => hb.block q ((h.pend i hi ht).lt hq)
/-- The iterator has moved on. -/
theorem Part.iter (h : Part w base b m D G todo) {r : Nat} {x : Option Nat} {s c : Nat} {seen : Array Nat} (hr : w.heap[r]? = some (.mapIter x s seen c)) (hg : w.grownBy w' (some r)) : Part w' base b m D G todo := by
  have hK : Kept (fun k => k = r) w w' := Kept.of_grown hg (fun k hk => by simpa using hk.symm)
  refine h.keep (hK.block b h.map.lt fun e => ?_) fun i hi ht q hq => hK.block q ((h.pend i hi ht).lt hq) fun e => ?_
  · obtain ⟨es, clock, hb, _⟩ := h.map
    rw [e, hr] at hb
    cases hb
  · obtain ⟨cur, hc⟩ := (h.pend i hi ht).blk hq
    rw [e, hr] at hc
    cases hc
/-- An entry more. -/
theorem Part.step (h : Part w base b m D G todo) (hbase : base ≤ w.heap.size) {i : Nat} (hi : i < m.L.length) (hne : (m.line i).pend ≠ []) (hk : ∀ k, k < w.heap.size → k ≠ b → w'.heap[k]? = w.heap[k]?)
    {g : Value} {n : Nat} (hmap : w'.ownsMap Tryz.prog 3 heldR b n (D.put (kOf i) (.held (backV g (m.line i).mark)))) (hsl : Sl w' 105 2 g (m.line i).pend.length (iv (flatS (m.line i).pend))) (ho : ∀ k, g.ownBlock = some k → w.heap.size ≤ k) :
    Part w' base b m (D.put (kOf i) (.held (backV g (m.line i).mark))) (upG G i g) (fun j => todo j && decide (j ≠ i)) := by
  have hD := h.map.isMap
  have ht : ∀ j, j ≠ i → (todo j && decide (j ≠ i)) = todo j := fun j hj => by simp [hj]
  exact {
    map := ownsMap_size hmap
    at_ := fun j hj hd => by
      by_cases e : j = i
      · subst e
        rw [upG_same, atKey_put_same hD (kOf_key _)]
      · rw [upG_other G g e, atKey_put_other (fun e2 => e (kOf_inj e2))]
        exact h.at_ j hj (by rw [ht j e] at hd; exact hd)
    has_ := fun j hj => by
      by_cases e : j = i
      · subst e
        rw [has_put_same hD (kOf_key _)]
        simp [hne]
      · rw [has_put_other (fun e2 => e (kOf_inj e2)), ht j e]
        exact h.has_ j hj
    off := fun kl hkl => by
      by_cases e : kl = kOf i
      · exact ⟨i, hi, e⟩
      · rw [has_put_other e] at hkl
        exact h.off kl hkl
    pend := fun j hj hd => by
      by_cases e : j = i
      · subst e
        rw [upG_same]
        exact hsl
      · rw [upG_other G g e]
        rw [ht j e] at hd
        exact (h.pend j hj hd).keep fun q hq => hk q ((h.pend j hj hd).lt hq) ((h.pend j hj hd).ne_map hq h.map)
    own := fun j hj hd k hk' => by
      by_cases e : j = i
      · subst e
        rw [upG_same] at hk'
        exact Nat.le_trans hbase (ho k hk')
      · rw [upG_other G g e] at hk'
        exact h.own j hj (by rw [ht j e] at hd; exact hd) k hk'
    apart := fun j k hj hk' hjk hd1 hd2 hnn => by
      by_cases e : j = i
      · subst e
        rw [upG_same] at hnn ⊢
        rw [upG_other G g (fun e => hjk e.symm)]
        rw [ht k (fun e => hjk e.symm)] at hd2
        intro he
        obtain ⟨q, hq⟩ := Option.ne_none_iff_exists'.1 hnn
        have h1 := ho q hq
        have h2 := (h.pend k hk' hd2).lt (he.symm.trans hq)
        omega
      · rw [upG_other G g e] at hnn ⊢
        rw [ht j e] at hd1
        by_cases e2 : k = i
        · subst e2
          rw [upG_same]
          intro he
          obtain ⟨q, hq⟩ := Option.ne_none_iff_exists'.1 hnn
          have h1 := ho q (he.symm.trans hq)
          have h2 := (h.pend j hj hd1).lt hq
          omega
        · rw [upG_other G g e2]
          rw [ht k e2] at hd2
          exact h.apart j k hj hk' hjk hd1 hd2 hnn
    new := h.new }
end
theorem kOf_same (i j : Nat) : (kOf j).sameKey (kOf i) = decide (j = i) := by
  by_cases e : j = i
  · subst e
    rw [WideAt.sameKey_self (kOf_key j)]
    simp
  · rw [Maps.sameKey_ne (fun e2 => e (kOf_inj e2))]
    simp [e]
/-- The memory that Copy builds. -/
theorem rep_copy {w w1 : World} {m : PM} {b : Nat} {D : DataW Value} {G : Nat → Value} {dv ev : Value} (hb : Below w.heap.size w w1) (hp : Part w1 w.heap.size b m D G (fun _ => false))
    (hd : Sl w1 77 9 dv m.L.length (iv (flatL m.L))) (hdo : ∀ k, dv.ownBlock = some k → w.heap.size ≤ k) (he : Sl w1 68 12 ev m.ev.length (iv m.ev.flatten)) (heo : ∀ k, ev.ownBlock = some k → w.heap.size ≤ k) :
    Rep (w1.alloc (.cells #[dv, .map (some b), .int .i64 m.span, ev] 100)) w1.heap.size m (New w (w1.alloc (.cells #[dv, .map (some b), .int .i64 m.span, ev] 100))) := by
  have hn := bel_new w1 (.cells #[dv, .map (some b), .int .i64 m.span, ev] 100)
  have hz : (w1.alloc (.cells #[dv, .map (some b), .int .i64 m.span, ev] 100)).heap.size = w1.heap.size + 1 := by simp
  have hw := hb.size
  have hp2 := hp.below hn
  exact ⟨dv, b, ev, D, G, {
    mem := Arr.new w1 [dv, .map (some b), .int .i64 m.span, ev] 100
    dur := hd.keep fun q hq => hn.block q (hd.lt hq)
    map := hp2.map
    evs := he.keep fun q hq => hn.block q (he.lt hq)
    at_ := fun i hi => hp2.at_ i hi rfl
    has_ := fun i hi => by rw [hp2.has_ i hi]; simp
    off := hp2.off
    pend := fun i hi => hp2.pend i hi rfl
    apart := fun i j hi hj hij => hp2.apart i j hi hj hij rfl rfl
    ownP := ⟨hw, by omega⟩
    ownB := ⟨hp.new, hp2.map.lt⟩
    ownD := fun k hk => ⟨hdo k hk, by have := hd.lt hk; omega⟩
    ownE := fun k hk => ⟨heo k hk, by have := he.lt hk; omega⟩
    ownG := fun i hi k hk => ⟨hp2.own i hi rfl k hk, (hp2.pend i hi rfl).lt hk⟩
    lt := fun k hk => hk.2 }⟩
end Go.Proofs.YtpojhplnhppcpaaGreatDoor
namespace Go.Proofs.YtpojhplnhppcpaaGreatDoor
open Go.RowKit Go.Maps
theorem ranges_keep {w w' : World} {b r n cnt : Nat} {D : DataW Value} {left : Lit → Bool} (h : w.ranges Tryz.prog 3 heldR b r n D left cnt) (hb : w'.heap[b]? = w.heap[b]?) (hr : w'.heap[r]? = w.heap[r]?) : w'.ranges Tryz.prog 3 heldR b r n D left cnt := by
  obtain ⟨es, clock, since, seen, c0, h1, F, hs, hD, h2, rest⟩ := h
  exact ⟨es, clock, since, seen, c0, hb.trans h1, F, hs, hD, hr.trans h2, rest⟩
end Go.Proofs.YtpojhplnhppcpaaGreatDoor
namespace Go.Proofs.YtpojhplnhppcpaaGreatDoor
open Go.RowKit Go.Maps
theorem PL.Ok.push {l : PL} (h : l.Ok) {a v : Int} (ha : 0 ≤ a ∧ a < 8) (hv : okW v = true) (hs : l.state ≠ 2) : (l.push (a, v)).Ok where
  len := h.len
  val := h.val
  pend := fun s hm => by
    rcases List.mem_append.1 hm with h1 | h1
    · exact h.pend s h1
    · simp only [List.mem_singleton] at h1
      subst h1
      exact ⟨ha.1, ha.2, hv⟩
  mark := by
    have := h.mark
    show l.mark ≤ (l.pend ++ [(a, v)]).length
    rw [List.length_append]
    omega
  rot := fun h2 => absurd h2 hs
theorem PL.Ok.flushed {l : PL} (h : l.Ok) : l.flushed.Ok := ⟨h.len, h.val, h.pend, Nat.le_refl _, h.rot⟩
theorem PL.made_ok {ws : List Int} (h8 : ws.length = 8) (ha : ws.all okW = true) : (PL.made ws).Ok := ⟨h8, (enc_facts h8 ha).1, fun s hs => by simp [PL.made] at hs, Nat.le_refl _, fun _ => rfl⟩
theorem PL.Ok.rotted {l : PL} (h : l.Ok) {ws : List Int} {c : Int} (h8 : ws.length = 8) (hv : validB ws c = true) (hp : l.pend = []) : (l.rotted ws c).Ok := by
  obtain ⟨vs, vc, hvs, hvc, hvl, hvw, hvb⟩ := valid_nat h.val
  obtain ⟨us, uc, hus, huc, hul, huw, hub⟩ := valid_nat hv
  rw [h.len] at hvl
  rw [h8] at hul
  have hx : ∀ x ∈ xorL vs us, x < 1099511627776 := xorL_lt (by omega) hvw huw
  have e : l.rotted ws c = { l with ws := ci (xorL vs us), code := ((vc ^^^ uc : Nat) : Int) } := by
    unfold PL.rotted xorI
    rw [hvs, hvc, hus, huc, nw_ci, nw_ci, Int.toNat_natCast, Int.toNat_natCast]
  rw [e]
  have hl8 : (ci (xorL vs us)).length = 8 := by rw [ci_len, xorL_len vs us (by omega), hvl]
  refine ⟨hl8, ?_, fun s hs => by rw [show ({ l with ws := ci (xorL vs us), code := ((vc ^^^ uc : Nat) : Int) } : PL).pend = l.pend from rfl, hp] at hs; simp at hs, h.mark, fun _ => hp⟩
  show validB (ci (xorL vs us)) ((vc ^^^ uc : Nat) : Int) = true
  rw [valid_ci hx]
  exact decide_eq_true (Nat.xor_lt_two_pow (n := 10) hvb hub)
theorem PM.Ok.ofL {m : PM} (h : m.Ok) (f : PL → PL) (hf : ∀ l ∈ m.L, (f l).Ok) : ({ m with L := m.L.map f } : PM).Ok where
  pos := by show 1 ≤ (m.L.map f).length; rw [List.length_map]; exact h.pos
  few := by show (m.L.map f).length ≤ 4096; rw [List.length_map]; exact h.few
  lines := fun l hl => by
    obtain ⟨x, hx, rfl⟩ := List.mem_map.1 hl
    exact hf x hx
  span0 := h.span0
  span := h.span
  evs := h.evs
theorem PM.Ok.add {m : PM} (h : m.Ok) {e : List Int} (he : e.length = 12) (hi : ∀ z ∈ e, I64 z) : (m.add e).Ok :=
  ⟨h.pos, h.few, h.lines, h.span0, h.span, fun x hx => by
    rcases List.mem_append.1 hx with h1 | h1
    · exact h.evs x h1
    · simp only [List.mem_singleton] at h1
      subst h1
      exact ⟨he, hi⟩⟩
theorem evt_i64 {k a v s : Int} {ws : List Int} (hk : I64 k) (ha : I64 a) (hv : I64 v) (hs : I64 s) (hw : ∀ z ∈ ws, I64 z) : ∀ z ∈ evt k a v s ws, I64 z := by
  intro z hz
  unfold evt at hz
  simp only [List.cons_append, List.nil_append, List.mem_cons] at hz
  rcases hz with rfl | rfl | rfl | rfl | hz
  · exact hk
  · exact ha
  · exact hv
  · exact hs
  · exact hw z hz
theorem small_i64 {k : Int} (h : 0 ≤ k ∧ k < 100) : I64 k := by unfold I64; omega
/-- The memory is right, has as many lines, and no more than n of whatever. -/
structure PM.Good (m m' : PM) (n : Nat) : Prop where
  ok : m'.Ok
  len : m'.L.length = m.L.length
  small : m'.Small n
theorem PM.Good.refl {m : PM} {n : Nat} (h : m.Ok) (hs : m.Small n) : PM.Good m m (n + 1) := ⟨h, rfl, hs.mono (by omega)⟩
theorem PM.Small.upd {m : PM} {n k : Nat} (h : m.Small n) {i : Nat} {f : PL → PL} (hk : n ≤ k) (hf : (f (m.line i)).pend.length ≤ k) : (m.upd i f).Small k :=
  ⟨Nat.le_trans h.ev hk, fun l hl => by
    rcases List.mem_or_eq_of_mem_set hl with h1 | rfl
    · exact Nat.le_trans (h.pend l h1) hk
    · exact hf⟩
theorem PM.Small.add {m : PM} {n : Nat} (h : m.Small n) (e : List Int) : (m.add e).Small (n + 1) := ⟨by
  have := h.ev
  show (m.ev ++ [e]).length ≤ n + 1
  rw [List.length_append]
  simp
  omega, fun l hl => Nat.le_trans (h.pend l hl) (by omega)⟩
/-- A call that is recorded. -/
theorem rec_good {m : PM} {r : Int × PM} {e : List Int} {n : Nat} (hr : r.1 ≠ 0 → r.2 = m) (hm : m.Ok) (hs : m.Small n) (h0 : r.1 = 0 → r.2.Ok ∧ r.2.L.length = m.L.length ∧ r.2.ev = m.ev ∧ (∀ l ∈ r.2.L, l.pend.length ≤ n + 1) ∧ e.length = 12 ∧ ∀ z ∈ e, I64 z) : PM.Good m (rec_ r e).2 (n + 1) := by
  by_cases h : r.1 = 0
  · obtain ⟨h1, h2, h3, h4, h5, h6⟩ := h0 h
    rw [rec_0 h]
    refine ⟨h1.add h5 h6, h2, ⟨?_, h4⟩⟩
    show (r.2.ev ++ [e]).length ≤ n + 1
    rw [h3, List.length_append]
    have := hs.ev
    simp
    omega
  · rw [rec_1 h, hr h]
    exact PM.Good.refl hm hs
theorem settle_pend (l : PL) (n : Nat) : (l.settle n).pend.length ≤ l.pend.length := by
  unfold PL.settle
  split
  · exact Nat.le_refl _
  · show (l.pend.drop n).length ≤ _
    rw [List.length_drop]
    omega
theorem upd_pend {m : PM} {n : Nat} (hs : m.Small n) {i : Nat} {f : PL → PL} (hf : (f (m.line i)).pend.length ≤ n + 1) : ∀ l ∈ (m.upd i f).L, l.pend.length ≤ n + 1 := fun l hl => by
  rcases List.mem_or_eq_of_mem_set hl with h1 | rfl
  · exact Nat.le_trans (hs.pend l h1) (by omega)
  · exact hf
theorem put_good {m : PM} {n : Nat} (hm : m.Ok) (hs : m.Small n) (k a v : Int) (hk : 0 ≤ k ∧ k < 100) (ha : I64 a) : PM.Good m (storeP m k a v).2 (n + 1) := by
  unfold storeP
  refine rec_good (fun h => ?_) hm hs fun h => ?_
  · unfold putP at h ⊢
    split
    · rfl
    · rename_i h1
      rw [if_neg h1] at h
      split
      · rfl
      · rename_i h2
        rw [if_neg h2] at h
        split
        · rfl
        · rename_i h3
          rw [if_neg h3] at h
          exact absurd rfl h
  · unfold putP at h ⊢
    split at h
    · cases h
    · rename_i h1
      rw [if_neg h1]
      split at h
      · cases h
      · rename_i h2
        rw [if_neg h2]
        split at h
        · cases h
        · rename_i h3
          rw [if_neg h3]
          have hh : m.hasA a = true := by simpa using h1
          have hr : 0 ≤ a ∧ a < 8 * m.L.length := by unfold PM.hasA at hh; simpa using hh
          have hi : (a / 8).toNat < m.L.length := by omega
          have hv : okW v = true := by simpa using h2
          have hok : (m.upd (a / 8).toNat (·.push (a % 8, v))).Ok := hm.upd ((hm.line hi).push ⟨by omega, by omega⟩ hv h3)
          refine ⟨hok, PM.upd_len .., rfl, upd_pend hs ?_, evt_len _ _ _ _ rfl, evt_i64 (small_i64 hk) ha (okW_i64 hv) hm.span z8_i64⟩
          show ((m.line (a / 8).toNat).pend ++ [_]).length ≤ n + 1
          rw [List.length_append]
          have := hs.pend _ (PM.line_mem hi)
          simp
          omega
theorem flush_good {m : PM} {n : Nat} (hm : m.Ok) (hs : m.Small n) (a : Int) (ha : I64 a) : PM.Good m (rec_ (flushP m a) (evt 3 a 0 0 Z8)).2 (n + 1) := by
  refine rec_good (fun h => ?_) hm hs fun h => ?_
  · unfold flushP at h ⊢
    split
    · rfl
    · rename_i h1
      rw [if_neg h1] at h
      exact absurd rfl h
  · unfold flushP at h ⊢
    split at h
    · cases h
    · rename_i h1
      rw [if_neg h1]
      have hh : m.has a = true := by simpa using h1
      have hr : 0 ≤ a ∧ a < m.L.length := by unfold PM.has at hh; simpa using hh
      have hi : a.toNat < m.L.length := by omega
      have hok : (m.upd a.toNat (·.flushed)).Ok := hm.upd (hm.line hi).flushed
      refine ⟨hok, PM.upd_len .., rfl, upd_pend hs ?_, evt_len _ _ _ _ rfl, evt_i64 (small_i64 (by omega)) ha (small_i64 (by omega)) (small_i64 (by omega)) z8_i64⟩
      have := hs.pend _ (PM.line_mem hi)
      show (m.line a.toNat).pend.length ≤ n + 1
      omega
theorem fence_good {m : PM} {n : Nat} (hm : m.Ok) (hs : m.Small n) : PM.Good m ((fenceP m).add (evt 4 0 0 0 Z8)) (n + 1) := by
  have h1 : (fenceP m).Ok := hm.ofL _ fun l hl => (hm.lines l hl).settle _
  have h2 : (fenceP m).Small n := ⟨hs.ev, fun l hl => by
    obtain ⟨x, hx, rfl⟩ := List.mem_map.1 hl
    exact Nat.le_trans (settle_pend x _) (hs.pend x hx)⟩
  exact ⟨h1.add (evt_len _ _ _ _ rfl) (evt_i64 (small_i64 (by omega)) (small_i64 (by omega)) (small_i64 (by omega)) (small_i64 (by omega)) z8_i64), List.length_map .., h2.add _⟩
theorem evict_good {m : PM} {n : Nat} (hm : m.Ok) (hs : m.Small n) (a v : Int) (ha : I64 a) (hv : I64 v) : PM.Good m (rec_ (evictP m a v) (evt 5 a v 0 Z8)).2 (n + 1) := by
  refine rec_good (fun h => ?_) hm hs fun h => ?_
  · unfold evictP at h ⊢
    split
    · rfl
    · rename_i h1
      rw [if_neg h1] at h
      split
      · rfl
      · rename_i h2
        rw [if_neg h2] at h
        exact absurd rfl h
  · unfold evictP at h ⊢
    split at h
    · cases h
    · rename_i h1
      rw [if_neg h1]
      split at h
      · cases h
      · rename_i h2
        rw [if_neg h2]
        have hh : m.has a = true := by simpa using h1
        have hr : 0 ≤ a ∧ a < m.L.length := by unfold PM.has at hh; simpa using hh
        have hi : a.toNat < m.L.length := by omega
        refine ⟨settle_ok hm hi, PM.upd_len .., rfl, upd_pend hs ?_, evt_len _ _ _ _ rfl, evt_i64 (small_i64 (by omega)) ha hv (small_i64 (by omega)) z8_i64⟩
        have := hs.pend _ (PM.line_mem hi)
        have := settle_pend (m.line a.toNat) v.toNat
        omega
theorem heal_good {m : PM} {n : Nat} (hm : m.Ok) (hs : m.Small n) (a : Int) (ws : List Int) (ha : I64 a) (h8 : ws.length = 8) : PM.Good m (rec_ (healP m a ws) (evt 6 a 0 0 ws)).2 (n + 1) := by
  refine rec_good (fun h => ?_) hm hs fun h => ?_
  · unfold healP at h ⊢
    split
    · rfl
    · rename_i h1
      rw [if_neg h1] at h
      split
      · rfl
      · rename_i h2
        rw [if_neg h2] at h
        exact absurd rfl h
  · unfold healP at h ⊢
    split at h
    · cases h
    · rename_i h1
      rw [if_neg h1]
      split at h
      · cases h
      · rename_i h2
        rw [if_neg h2]
        have hw : ws.all okW = true := by simpa using h2
        have hok : (m.upd a.toNat fun _ => PL.made ws).Ok := hm.upd (PL.made_ok h8 hw)
        refine ⟨hok, PM.upd_len .., rfl, upd_pend hs (by simp [PL.made]), evt_len _ _ _ _ h8, evt_i64 (small_i64 (by omega)) ha (small_i64 (by omega)) (small_i64 (by omega)) fun z hz => okW_i64 (all_ok hw z hz)⟩
theorem rot_good {m : PM} {n : Nat} (hm : m.Ok) (hs : m.Small n) (a : Int) (ws : List Int) (c : Int) (ha : I64 a) (h8 : ws.length = 8) : PM.Good m (rec_ (rotP m a ws c) (evt 7 a c 0 ws)).2 (n + 1) := by
  refine rec_good (fun h => ?_) hm hs fun h => ?_
  · unfold rotP at h ⊢
    split
    · rfl
    · rename_i h1
      rw [if_neg h1] at h
      split
      · rfl
      · rename_i h2
        rw [if_neg h2] at h
        split
        · rfl
        · rename_i h3
          rw [if_neg h3] at h
          exact absurd rfl h
  · unfold rotP at h ⊢
    split at h
    · cases h
    · rename_i h1
      rw [if_neg h1]
      split at h
      · cases h
      · rename_i h2
        rw [if_neg h2]
        split at h
        · cases h
        · rename_i h3
          rw [if_neg h3]
          have hh : m.has a = true := by simpa using h1
          have hr : 0 ≤ a ∧ a < m.L.length := by unfold PM.has at hh; simpa using hh
          have hi : a.toNat < m.L.length := by omega
          have hv : validB ws c = true := by simpa using h2
          have hp : (m.line a.toNat).pend = [] := by simpa using h3
          obtain ⟨hw, hc0, hc1⟩ := valid_words hv
          have hok : (m.upd a.toNat (·.rotted ws c)).Ok := hm.upd ((hm.line hi).rotted h8 hv hp)
          refine ⟨hok, PM.upd_len .., rfl, upd_pend hs ?_, evt_len _ _ _ _ h8, evt_i64 (small_i64 (by omega)) ha (by unfold I64; omega) (small_i64 (by omega)) fun z hz => okW_i64 (all_ok hw z hz)⟩
          show (m.line a.toNat).pend.length ≤ n + 1
          rw [hp]
          simp
theorem settles_good (cs : List (Int × Int)) : ∀ (m : PM) (last : Int) {n : Nat}, m.Ok → m.Small n → cutsOk m last cs = true → PM.Good m (settles m cs) n := by
  induction cs with
  | nil => intro m last n hm hs _; exact ⟨hm, rfl, hs⟩
  | cons c r ih =>
    intro m last n hm hs hc
    obtain ⟨q1, q2, q3, q4, q5⟩ := cutsOk_cons hc
    have hr : 0 ≤ c.1 ∧ c.1 < m.L.length := by unfold PM.has at q2; simpa using q2
    have hi : c.1.toNat < m.L.length := by omega
    have h2 : (m.upd c.1.toNat (·.settle c.2.toNat)).Small n := hs.upd (Nat.le_refl _) (Nat.le_trans (settle_pend _ _) (hs.pend _ (PM.line_mem hi)))
    obtain ⟨g1, g2, g3⟩ := ih (m.upd c.1.toNat (·.settle c.2.toNat)) c.1 (settle_ok hm hi) h2 (by rw [cutsOk_upd hi _ _ (by omega)]; exact q5)
    exact ⟨g1, g2.trans (PM.upd_len ..), g3⟩
theorem lost_good {m : PM} (h : m.Ok) : m.lost.Ok ∧ m.lost.L.length = m.L.length ∧ m.lost.Small 0 :=
  ⟨⟨by show 1 ≤ (m.L.map PL.lost).length; rw [List.length_map]; exact h.pos, by show (m.L.map PL.lost).length ≤ 4096; rw [List.length_map]; exact h.few, fun l hl => by
    obtain ⟨x, hx, rfl⟩ := List.mem_map.1 hl
    exact (h.lines x hx).lost, Int.le_refl _, (show I64 0 from small_i64 (by omega)), fun e he => by simp [PM.lost] at he⟩, List.length_map .., ⟨Nat.le_refl _, fun l hl => by
    obtain ⟨x, hx, rfl⟩ := List.mem_map.1 hl
    simp [PL.lost]⟩⟩
theorem crash_good {m : PM} {n : Nat} (hm : m.Ok) (hs : m.Small n) (cs : List (Int × Int)) : PM.Good m (crashP m cs).2 (n + 1) := by
  unfold crashP
  split
  · exact PM.Good.refl hm hs
  · rename_i h
    have hc : cutsOk m (-1) cs = true := by simpa using h
    obtain ⟨g1, g2, g3⟩ := settles_good cs m (-1) hm hs hc
    obtain ⟨l1, l2, l3⟩ := lost_good g1
    exact ⟨l1, l2.trans g2, l3.mono (by omega)⟩
theorem span_good {m : PM} {n : Nat} (hm : m.Ok) (hs : m.Small n) (z : Int) (hz : I64 z) : PM.Good m (spanP m z) (n + 1) :=
  ⟨⟨hm.pos, hm.few, hm.lines, by show 0 ≤ max z 0; omega, by unfold I64 at *; show _ ∧ _; constructor <;> (show _ ; simp only [spanP]; omega), hm.evs⟩, rfl, ⟨Nat.le_trans hs.ev (by omega), fun l hl => Nat.le_trans (hs.pend l hl) (by omega)⟩⟩
theorem forget_good {m : PM} {n : Nat} (hm : m.Ok) (hs : m.Small n) : PM.Good m (forgetP m) (n + 1) :=
  ⟨⟨hm.pos, hm.few, hm.lines, hm.span0, hm.span, fun e he => by simp [forgetP] at he⟩, rfl, ⟨by simp [forgetP], fun l hl => Nat.le_trans (hs.pend l hl) (by omega)⟩⟩
/-- A call as it comes in. -/
structure POp.Ok (x : POp) : Prop where
  k : I64 x.k
  a : I64 x.a
  b : I64 x.b
  len : x.ws.length = 8
  ws : ∀ z ∈ x.ws, I64 z
  cs : ∀ c ∈ x.cs, I64 c.1 ∧ I64 c.2
theorem doP_good {m : PM} {n : Nat} (hm : m.Ok) (hs : m.Small n) (x : POp) (hx : x.Ok) : PM.Good m (doP m x).2 (n + 1) := by
  unfold doP
  split
  · exact put_good hm hs 1 _ _ (by omega) hx.a
  · split
    · exact put_good hm hs 2 _ _ (by omega) hx.a
    · split
      · exact span_good hm hs _ hx.a
      · split
        · exact flush_good hm hs _ hx.a
        · split
          · exact fence_good hm hs
          · split
            · exact evict_good hm hs _ _ hx.a hx.b
            · split
              · exact heal_good hm hs _ _ hx.a hx.len
              · split
                · exact rot_good hm hs _ _ _ hx.a hx.len
                · split
                  · exact crash_good hm hs _
                  · split
                    · exact forget_good hm hs
                    · exact PM.Good.refl hm hs
theorem newP_ok {n : Nat} (h : 1 ≤ n ∧ n ≤ 4096) : (newP n).Ok ∧ (newP n).Small 0 ∧ (newP n).L.length = n := by
  have hl : (newP n).L.length = n := List.length_replicate ..
  refine ⟨⟨by omega, by omega, fun l hm => ?_, Int.le_refl _, small_i64 (by simp [newP]), fun e he => by simp [newP] at he⟩, ⟨Nat.le_refl _, fun l hm => ?_⟩, hl⟩
  · rw [(List.mem_replicate.1 hm).2]
    exact PL.zero_ok
  · rw [(List.mem_replicate.1 hm).2]
    simp [PL.zero]
theorem fromP_ok {img : List (List Int × Int)} (h8 : ∀ x ∈ img, x.1.length = 8) (h : rightB img = true) : (fromP img).Ok ∧ (fromP img).Small 0 ∧ (fromP img).L.length = img.length := by
  have hl : (fromP img).L.length = img.length := List.length_map ..
  unfold rightB at h
  simp only [Bool.and_eq_true, decide_eq_true_eq, List.all_eq_true] at h
  refine ⟨⟨by omega, by omega, fun l hm => ?_, Int.le_refl _, small_i64 (by simp [fromP]), fun e he => by simp [fromP] at he⟩, ⟨Nat.le_refl _, fun l hm => ?_⟩, hl⟩
  · obtain ⟨x, hx, rfl⟩ := List.mem_map.1 hm
    exact ⟨h8 x hx, h.2 x hx, fun s hs => by simp at hs, Nat.le_refl _, fun _ => rfl⟩
  · obtain ⟨x, hx, rfl⟩ := List.mem_map.1 hm
    simp
end Go.Proofs.YtpojhplnhppcpaaGreatDoor
namespace Go.Proofs.YtpojhplnhppcpaaGreatDoor
open Go.RowKit
/-- What the call that an event records makes of a memory. -/
def callP (m : PM) (k a v s : Int) (ws : List Int) : PM :=
  if k = 1 then (storeP (spanP m s) 1 a v).2 else if k = 2 then (storeP (spanP m s) 2 a v).2 else if k = 3 then (rec_ (flushP m a) (evt 3 a 0 0 Z8)).2
  else if k = 4 then (fenceP m).add (evt 4 0 0 0 Z8) else if k = 5 then (rec_ (evictP m a v) (evt 5 a v 0 Z8)).2 else if k = 6 then (rec_ (healP m a ws) (evt 6 a 0 0 ws)).2
  else if k = 7 then (rec_ (rotP m a ws v) (evt 7 a v 0 ws)).2 else m
def applyP (m : PM) (x : List Int) : PM := callP m (x.getD 0 0) (x.getD 1 0) (x.getD 2 0) (x.getD 3 0) (x.drop 4)
def appliesB (m : PM) (x : List Int) : Bool := decide ((applyP m x).ev = m.ev ++ [x])
/-- A call records one event, or none. -/
theorem rec_ev {r : Int × PM} {m : PM} (e : List Int) (h : r.2.ev = m.ev) : (rec_ r e).2.ev = m.ev ∨ (rec_ r e).2.ev = m.ev ++ [e] := by
  unfold rec_
  split
  · right
    show r.2.ev ++ [e] = _
    rw [h]
  · exact .inl h
theorem put_ev (m : PM) (a v : Int) : (putP m a v).2.ev = m.ev := by unfold putP; (repeat' split) <;> rfl
theorem flush_ev (m : PM) (a : Int) : (flushP m a).2.ev = m.ev := by unfold flushP; split <;> rfl
theorem evict_ev (m : PM) (a v : Int) : (evictP m a v).2.ev = m.ev := by unfold evictP; (repeat' split) <;> rfl
theorem heal_ev (m : PM) (a : Int) (ws : List Int) : (healP m a ws).2.ev = m.ev := by unfold healP; (repeat' split) <;> rfl
theorem rot_ev (m : PM) (a : Int) (ws : List Int) (c : Int) : (rotP m a ws c).2.ev = m.ev := by unfold rotP; (repeat' split) <;> rfl
theorem call_ev (m : PM) (k a v s : Int) (ws : List Int) : (callP m k a v s ws).ev = m.ev ∨ ∃ e, (callP m k a v s ws).ev = m.ev ++ [e] := by
  unfold callP
  split
  · exact (rec_ev _ (put_ev (spanP m s) a v)).imp id fun h => ⟨_, h⟩
  · split
    · exact (rec_ev _ (put_ev (spanP m s) a v)).imp id fun h => ⟨_, h⟩
    · split
      · exact (rec_ev _ (flush_ev m a)).imp id fun h => ⟨_, h⟩
      · split
        · exact .inr ⟨_, rfl⟩
        · split
          · exact (rec_ev _ (evict_ev m a v)).imp id fun h => ⟨_, h⟩
          · split
            · exact (rec_ev _ (heal_ev m a ws)).imp id fun h => ⟨_, h⟩
            · split
              · exact (rec_ev _ (rot_ev m a ws v)).imp id fun h => ⟨_, h⟩
              · exact .inl rfl
theorem call_good {m : PM} {n : Nat} (hm : m.Ok) (hs : m.Small n) (k a v s : Int) (ws : List Int) (ha : I64 a) (hv : I64 v) (hsp : I64 s) (hw : ws.length = 8) : (callP m k a v s ws).Ok ∧ (callP m k a v s ws).L.length = m.L.length ∧ (callP m k a v s ws).Small (n + 2) := by
  have hsg := span_good hm hs s hsp
  have w2 : ∀ {m' : PM}, m'.Small (n + 1) → m'.Small (n + 2) := fun h => h.mono (by omega)
  unfold callP
  split
  · have h := put_good hsg.ok hsg.small 1 a v (by omega) ha
    exact ⟨h.ok, h.len.trans hsg.len, h.small⟩
  · split
    · have h := put_good hsg.ok hsg.small 2 a v (by omega) ha
      exact ⟨h.ok, h.len.trans hsg.len, h.small⟩
    · split
      · have h := flush_good hm hs a ha
        exact ⟨h.ok, h.len, w2 h.small⟩
      · split
        · have h := fence_good hm hs
          exact ⟨h.ok, h.len, w2 h.small⟩
        · split
          · have h := evict_good hm hs a v ha hv
            exact ⟨h.ok, h.len, w2 h.small⟩
          · split
            · have h := heal_good hm hs a ws ha hw
              exact ⟨h.ok, h.len, w2 h.small⟩
            · split
              · have h := rot_good hm hs a ws v ha hw
                exact ⟨h.ok, h.len, w2 h.small⟩
              · exact ⟨hm, rfl, hs.mono (by omega)⟩def runP (m : PM) (l : List (List Int)) : PM := l.foldl applyP m
/-- How many of the first events are recorded as they are. -/
def fitsP (m : PM) : List (List Int) → Nat
  | [] => 0
  | x :: r => if appliesB m x = true then fitsP (applyP m x) r + 1 else 0
/-- Events of twelve integers. -/
def EvI (l : List (List Int)) : Prop := ∀ x ∈ l, x.length = 12 ∧ ∀ z ∈ x, I64 z
theorem getD_I {x : List Int} (h : ∀ z ∈ x, I64 z) (i : Nat) : I64 (x.getD i 0) := by
  rw [List.getD_eq_getElem?_getD]
  by_cases hi : i < x.length
  · rw [List.getElem?_eq_getElem hi]
    exact h _ (List.getElem_mem hi)
  · rw [List.getElem?_eq_none (by omega)]
    show I64 0
    unfold I64
    omega
theorem apply_good {m : PM} {n : Nat} (hm : m.Ok) (hs : m.Small n) {x : List Int} (h12 : x.length = 12) (hI : ∀ z ∈ x, I64 z) : (applyP m x).Ok ∧ (applyP m x).L.length = m.L.length ∧ (applyP m x).Small (n + 2) :=
  call_good hm hs _ _ _ _ _ (getD_I hI 1) (getD_I hI 2) (getD_I hI 3) (by rw [List.length_drop, h12])
theorem fits_le (m : PM) (l : List (List Int)) : fitsP m l ≤ l.length := by
  induction l generalizing m with
  | nil => exact Nat.le_refl _
  | cons x r ih =>
    unfold fitsP
    split
    · have := ih (applyP m x)
      simp only [List.length_cons]
      omega
    · exact Nat.zero_le _
theorem fits_on {m : PM} {l : List (List Int)} {k : Nat} (hk : k < l.length) (h : appliesB m l[k] = true) : fitsP m (l.drop k) = fitsP (applyP m l[k]) (l.drop (k + 1)) + 1 := by
  rw [List.drop_eq_getElem_cons hk]
  show (if _ then _ else _) = _
  rw [if_pos h]
theorem fits_off {m : PM} {l : List (List Int)} {k : Nat} (hk : k < l.length) (h : appliesB m l[k] = false) : fitsP m (l.drop k) = 0 := by
  rw [List.drop_eq_getElem_cons hk]
  show (if _ then _ else _) = _
  rw [if_neg (by rw [h]; simp)]
theorem run_on (m : PM) {l : List (List Int)} {k : Nat} (hk : k < l.length) : runP m (l.take (k + 1)) = applyP (runP m (l.take k)) l[k] := by
  rw [take_snoc' l k hk]
  unfold runP
  rw [List.foldl_append]
  rfl/-! ### a replay -/
/-- The answer of the call that an event records. -/
def codeP (m : PM) (k a v s : Int) (ws : List Int) : Int :=
  if k = 1 then (storeP (spanP m s) 1 a v).1 else if k = 2 then (storeP (spanP m s) 2 a v).1 else if k = 3 then (rec_ (flushP m a) (evt 3 a 0 0 Z8)).1
  else if k = 4 then 0 else if k = 5 then (rec_ (evictP m a v) (evt 5 a v 0 Z8)).1 else if k = 6 then (rec_ (healP m a ws) (evt 6 a 0 0 ws)).1
  else if k = 7 then (rec_ (rotP m a ws v) (evt 7 a v 0 ws)).1 else 3
def codeX (m : PM) (x : List Int) : Int := codeP m (x.getD 0 0) (x.getD 1 0) (x.getD 2 0) (x.getD 3 0) (x.drop 4)
theorem code_ev (m : PM) (k a v s : Int) (ws : List Int) : (codeP m k a v s ws = 0 → ∃ e, (callP m k a v s ws).ev = m.ev ++ [e]) ∧ (codeP m k a v s ws ≠ 0 → (callP m k a v s ws).ev = m.ev) := by
  have rc : ∀ {r : Int × PM} (e : List Int), r.2.ev = m.ev → ((rec_ r e).1 = 0 → ∃ e', (rec_ r e).2.ev = m.ev ++ [e']) ∧ ((rec_ r e).1 ≠ 0 → (rec_ r e).2.ev = m.ev) := by
    intro r e h
    unfold rec_
    split
    · exact ⟨fun _ => ⟨e, by show r.2.ev ++ [e] = _; rw [h]⟩, fun hn => absurd rfl hn⟩
    · rename_i h0
      exact ⟨fun h1 => absurd h1 h0, fun _ => h⟩
  unfold codeP callP
  split
  · exact rc _ (put_ev (spanP m s) a v)
  · split
    · exact rc _ (put_ev (spanP m s) a v)
    · split
      · exact rc _ (flush_ev m a)
      · split
        · exact ⟨fun _ => ⟨_, rfl⟩, fun h => absurd rfl h⟩
        · split
          · exact rc _ (evict_ev m a v)
          · split
            · exact rc _ (heal_ev m a ws)
            · split
              · exact rc _ (rot_ev m a ws v)
              · exact ⟨fun h => absurd h (by decide), fun _ => rfl⟩
/-- The calls, until one fails. -/
def goP (m : PM) : List (List Int) → PM
  | [] => m
  | x :: r => if codeX m x = 0 then goP (applyP m x) r else applyP m x
theorem go_fits (l : List (List Int)) : ∀ m : PM, ∃ recs, (goP m l).ev = m.ev ++ recs ∧ recs.length ≤ l.length ∧ fitsP m l ≤ recs.length ∧ recs.take (fitsP m l) = l.take (fitsP m l) ∧
    (fitsP m l < l.length → recs[fitsP m l]? ≠ l[fitsP m l]?) ∧ (fitsP m l = l.length → goP m l = runP m l) := by
  induction l with
  | nil => exact fun m => ⟨[], by simp [goP], Nat.le_refl _, Nat.le_refl _, rfl, fun h => absurd h (by simp), fun _ => rfl⟩
  | cons x r ih =>
    intro m
    obtain ⟨c0, c1⟩ := code_ev m (x.getD 0 0) (x.getD 1 0) (x.getD 2 0) (x.getD 3 0) (x.drop 4)
    by_cases hc : codeX m x = 0
    · obtain ⟨e, he⟩ := c0 hc
      have he' : (applyP m x).ev = m.ev ++ [e] := he
      obtain ⟨recs, r1, r2, r3, r4, r5, r6⟩ := ih (applyP m x)
      have hg : goP m (x :: r) = goP (applyP m x) r := by show (if _ then _ else _) = _; rw [if_pos hc]
      rw [hg]
      refine ⟨e :: recs, by rw [r1, he']; simp, by simpa using r2, ?_⟩
      by_cases hx : e = x
      · subst hx
        have hf : fitsP m (e :: r) = fitsP (applyP m e) r + 1 := by
          show (if _ then _ else _) = _
          rw [if_pos (by unfold appliesB; rw [he']; exact decide_eq_true rfl)]
        rw [hf]
        refine ⟨by simpa using r3, by rw [List.take_succ_cons, List.take_succ_cons, r4], fun h => ?_, fun h => ?_⟩
        · rw [List.getElem?_cons_succ, List.getElem?_cons_succ]
          exact r5 (by simpa using h)
        · rw [r6 (by simpa using h)]
          rfl
      · have hf : fitsP m (x :: r) = 0 := by
          show (if _ then _ else _) = _
          rw [if_neg]
          unfold appliesB
          rw [he']
          intro h
          have := of_decide_eq_true h
          simp at this
          exact hx this
        rw [hf]
        exact ⟨Nat.zero_le _, rfl, fun _ => by simp; exact hx, fun h => by simp at h⟩
    · have he := c1 hc
      have he' : (applyP m x).ev = m.ev := he
      have hg : goP m (x :: r) = applyP m x := by show (if _ then _ else _) = _; rw [if_neg hc]
      rw [hg]
      have hf : fitsP m (x :: r) = 0 := by
        show (if _ then _ else _) = _
        rw [if_neg]
        unfold appliesB
        rw [he']
        intro h
        have := of_decide_eq_true h
        simp at this
      rw [hf]
      exact ⟨[], by rw [he']; simp, Nat.zero_le _, Nat.le_refl _, rfl, fun _ => by simp, fun h => by simp at h⟩
theorem go_good (l : List (List Int)) : ∀ {m : PM} {n : Nat}, m.Ok → m.Small n → EvI l → (goP m l).Ok ∧ (goP m l).L.length = m.L.length ∧ (goP m l).Small (n + 2 * l.length) := by
  induction l with
  | nil => exact fun hm hs _ => ⟨hm, rfl, hs⟩
  | cons x r ih =>
    intro m n hm hs hl
    obtain ⟨g1, g2, g3⟩ := apply_good hm hs (hl x (by simp)).1 (hl x (by simp)).2
    have hr : EvI r := fun y hy => hl y (by simp [hy])
    unfold goP
    split
    · obtain ⟨h1, h2, h3⟩ := ih g1 g3 hr
      exact ⟨h1, h2.trans g2, h3.mono (by simp only [List.length_cons]; omega)⟩
    · exact ⟨g1, g2, g3.mono (by simp only [List.length_cons]; omega)⟩
/-- Step by step. -/
theorem go_on {m : PM} {l : List (List Int)} {k : Nat} (hk : k < l.length) (h : codeX m l[k] = 0) : goP m (l.drop k) = goP (applyP m l[k]) (l.drop (k + 1)) := by
  rw [List.drop_eq_getElem_cons hk]
  show (if _ then _ else _) = _
  rw [if_pos h]
theorem go_off {m : PM} {l : List (List Int)} {k : Nat} (hk : k < l.length) (h : codeX m l[k] ≠ 0) : goP m (l.drop k) = applyP m l[k] := by
  rw [List.drop_eq_getElem_cons hk]
  show (if _ then _ else _) = _
  rw [if_neg h]
end Go.Proofs.YtpojhplnhppcpaaGreatDoor
namespace Go.Proofs.YtpojhplnhppcpaaGreatDoor
open Go.RowKit Go.Maps
/-- A memory of blocks that are new since w0, while the table stands. -/
structure Has (w0 w : World) (p : Nat) (m : PM) (F : Nat → Prop) : Prop where
  rep : Rep w p m F
  ok : m.Ok
  tab : Tab w
  not1 : ¬ F 6
  below : Below w0.heap.size w0 w
  new : ∀ k, F k → w0.heap.size ≤ k
theorem Has.step {w0 w w' : World} {p : Nat} {m m' : PM} {F : Nat → Prop} (h : Has w0 w p m F) (s : Step F w p m' w') (hok : m'.Ok) : Has w0 w' p m' (Ex F w w') where
  rep := s.1
  ok := hok
  tab := h.tab.kept h.not1 s.2
  not1 := Ex.not1 h.tab h.not1
  below := h.below.trans (s.2.below (fun k _ hk => h.new k hk) h.below.size)
  new := fun k hk => by
    rcases hk with h1 | h1
    · exact h.new k h1
    · exact Nat.le_trans h.below.size h1.1
theorem Has.stay {w0 w w' : World} {p : Nat} {m : PM} {F : Nat → Prop} (h : Has w0 w p m F) (hb : Below w.heap.size w w') : Has w0 w' p m F :=
  ⟨h.rep.below hb, h.ok, h.tab.keep hb, h.not1, bel_on h.below hb, h.new⟩
/-- Another memory is written. -/
theorem Has.other {w0 w w' : World} {p : Nat} {m : PM} {F H : Nat → Prop} (h : Has w0 w p m F) (hk : Kept H w w') (hd : ∀ k, F k → ¬ H k) (h1 : ¬ H 6) (hn : ∀ k, H k → w0.heap.size ≤ k) : Has w0 w' p m F :=
  ⟨h.rep.kept hk hd, h.ok, h.tab.kept h1 hk, h.not1, h.below.trans (hk.below (fun k _ hk => hn k hk) h.below.size), h.new⟩
theorem size61 {cs : List Value} (h : cs.length = 12) : (Tryz.prog.info? 91).map (·.size) = some cs.toArray.size := by
  rw [List.size_toArray, h]
  kernel_rfl
/-- A call as a value. -/
def opV (x : POp) (cv : Value) : List Value := iv ([x.k, x.a, x.b] ++ x.ws) ++ [cv]
theorem opV_len {x : POp} (hx : x.Ok) (cv : Value) : (opV x cv).length = 12 := by
  unfold opV
  rw [List.length_append, iv_len, List.length_append, hx.len]
  rfl
theorem doP_0 {m : PM} {x : POp} (h : x.k = 0) : doP m x = ((0, (storeP m 1 x.a x.b).1), (storeP m 1 x.a x.b).2) := by unfold doP; simp [h]
theorem doP_1 {m : PM} {x : POp} (h : x.k = 1) : doP m x = ((0, (storeP m 2 x.a x.b).1), (storeP m 2 x.a x.b).2) := by unfold doP; simp [h]
theorem doP_2 {m : PM} {x : POp} (h : x.k = 2) : doP m x = ((0, 0), spanP m x.a) := by unfold doP; simp [h]
theorem doP_3 {m : PM} {x : POp} (h : x.k = 3) : doP m x = ((0, (rec_ (flushP m x.a) (evt 3 x.a 0 0 Z8)).1), (rec_ (flushP m x.a) (evt 3 x.a 0 0 Z8)).2) := by unfold doP; simp [h]
theorem doP_4 {m : PM} {x : POp} (h : x.k = 4) : doP m x = ((0, 0), (fenceP m).add (evt 4 0 0 0 Z8)) := by unfold doP; simp [h]
theorem doP_5 {m : PM} {x : POp} (h : x.k = 5) : doP m x = ((0, (rec_ (evictP m x.a x.b) (evt 5 x.a x.b 0 Z8)).1), (rec_ (evictP m x.a x.b) (evt 5 x.a x.b 0 Z8)).2) := by unfold doP; simp [h]
theorem doP_6 {m : PM} {x : POp} (h : x.k = 6) : doP m x = ((0, (rec_ (healP m x.a x.ws) (evt 6 x.a 0 0 x.ws)).1), (rec_ (healP m x.a x.ws) (evt 6 x.a 0 0 x.ws)).2) := by unfold doP; simp [h]
theorem doP_7 {m : PM} {x : POp} (h : x.k = 7) : doP m x = ((0, (rec_ (rotP m x.a x.ws x.b) (evt 7 x.a x.b 0 x.ws)).1), (rec_ (rotP m x.a x.ws x.b) (evt 7 x.a x.b 0 x.ws)).2) := by unfold doP; simp [h]
theorem doP_8 {m : PM} {x : POp} (h : x.k = 8) : doP m x = ((0, (crashP m x.cs).1), (crashP m x.cs).2) := by unfold doP; simp [h]
theorem doP_9 {m : PM} {x : POp} (h : x.k = 9) : doP m x = ((0, 0), forgetP m) := by unfold doP; simp [h]
theorem doP_d {m : PM} {x : POp} (h0 : ¬ x.k = 0) (h1 : ¬ x.k = 1) (h2 : ¬ x.k = 2) (h3 : ¬ x.k = 3) (h4 : ¬ x.k = 4) (h5 : ¬ x.k = 5) (h6 : ¬ x.k = 6) (h7 : ¬ x.k = 7) (h8 : ¬ x.k = 8) (h9 : ¬ x.k = 9) : doP m x = (loadP m x.a, m) := by
  unfold doP
  simp [h0, h1, h2, h3, h4, h5, h6, h7, h8, h9]
end Go.Proofs.YtpojhplnhppcpaaGreatDoor
