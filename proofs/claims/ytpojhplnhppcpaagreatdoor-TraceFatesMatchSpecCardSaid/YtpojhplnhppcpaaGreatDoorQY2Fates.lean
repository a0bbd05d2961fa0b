/-
  What the reference's Copy does.
-/
import Derived.Test.YtpojhplnhppcpaaGreatDoorQZ13
namespace Go.Proofs.YtpojhplnhppcpaaGreatDoor
open Go.RowKit Go.Maps
/-- append of whatever slice, where the operation stands alone. -/
theorem wp_append_rd {o : Oper} {a : Act} {K : Act → World → Prop} {Q : Exit → Act → World → Prop} {w : World} (s x : Operand) (t : TypeId)
    (ho : o.op = .call { callee := .builtin .append, args := #[s, x], argTypes := #[t, t] })
    (e : TypeId) (i : TypeInfo) (z : Value) (size bytes : Nat) (ht : Tryz.prog.underlying t = some (.slice e)) (hi : Tryz.prog.info? e = some i) (hz : i.zero = some z)
    (hsize : i.size = size) (hby : i.bytes = bytes) (hzs : z.cells.size = size) (hsz : 0 < size)
    (v : Value) (n : Nat) (xs : List Value) (hs : a.eval s = v) (hown : Sl w e size v n xs)
    (y : Value) (m : Nat) (news : List Value) (hx : a.eval x = y) (hy : Rd w y m news) (hl : news.length = m * size) (h1 : ∀ u ∈ news, u.oneCell' = true)
    (h63 : n + m ≤ maxLen) (hbytes : (n + m) * bytes ≤ 140737488355328)
    (h : ∀ v' w', Sl w' e size v' (n + m) (xs ++ news) → w.grownBy w' v.ownBlock → (v'.ownBlock = v.ownBlock ∨ v'.ownBlock = some w.heap.size) → K (a.put o.dst v') w') : o.wp Tryz.prog a w K Q := by
  obtain ⟨v', w', hr, h2, h3, h5⟩ := run_append_rd w t o.type e i z size bytes ht hi hz hsize hby hzs hsz v n xs hown y m news hy hl h1 h63 hbytes
  unfold Oper.wp execOp
  simp only [ho, resolve, invoke, builtin, Sem.run_bind, Sem.run_pure, Result.andThen_ok, List.map_toArray, List.map_cons, List.map_nil, hs, hx, hr]
  exact h v' w' h2 h3 h5
/-- A copy that is being made. -/
structure CpAt (w0 w : World) (r : Nat) (m : PM) (k : Nat) (evv u : Value) (X : List (PL × Value)) : Prop where
  mem : Arr w r 128 [u, .int .i64 m.span, evv]
  lst : X.map (·.1) = m.L.take k
  lin : Sl w 130 11 u k (X.map lnR).flatten
  evs : Sl w 68 12 evv m.ev.length (iv m.ev.flatten)
  pend : ∀ x ∈ X, Sl w 105 2 x.2 x.1.pend.length (iv (flatS x.1.pend))
  ownR : w0.heap.size ≤ r
  ownU : ∀ b, u.ownBlock = some b → w0.heap.size ≤ b
  ownE : ∀ b, evv.ownBlock = some b → w0.heap.size ≤ b
  ownG : ∀ x ∈ X, ∀ b, x.2.ownBlock = some b → w0.heap.size ≤ b
  below : Below w0.heap.size w0 w
section
variable {w0 w w2 w3 : World} {r k : Nat} {m : PM} {evv u : Value} {X : List (PL × Value)}
theorem CpAt.stay (h : CpAt w0 w r m k evv u X) (hb : Below w.heap.size w w2) : CpAt w0 w2 r m k evv u X where
  mem := h.mem.keep hb
  lst := h.lst
  lin := h.lin.keep fun q hq => hb.block q (h.lin.lt hq)
  evs := h.evs.keep fun q hq => hb.block q (h.evs.lt hq)
  pend := fun x hx => (h.pend x hx).keep fun q hq => hb.block q ((h.pend x hx).lt hq)
  ownR := h.ownR
  ownU := h.ownU
  ownE := h.ownE
  ownG := h.ownG
  below := bel_on h.below hb
/-- A line is added. -/
theorem CpAt.push (h0 : CpAt w0 w r m k evv u X) (hb : Below w.heap.size w w2) (hk : k < m.L.length) {v' : Value} (hv : Sl w2 105 2 v' (m.line k).pend.length (iv (flatS (m.line k).pend))) (hvn : ∀ b, v'.ownBlock = some b → w0.heap.size ≤ b)
    {u' : Value} (hsl : Sl w3 130 11 u' (k + 1) ((X.map lnR).flatten ++ lnR (m.line k, v'))) (hg : w2.grownBy w3 u.ownBlock) (ho : u'.ownBlock = u.ownBlock ∨ u'.ownBlock = some w2.heap.size) :
    (w3.cell? ⟨r, 0, none⟩ = some u ∧ w3.frozen? ⟨r, 0, none⟩ = false) ∧ CpAt w0 (w3.setCell ⟨r, 0, none⟩ u') r m (k + 1) evv u' (X ++ [(m.line k, v')]) := by
  have h := h0.stay hb
  have hty : ∀ {e sz n : Nat} {y : Value} {xs : List Value}, Sl w2 e sz y n xs → e ≠ 130 → ∀ g, y.ownBlock = some g → some g ≠ u.ownBlock := fun hy hne g hg e => by
    obtain ⟨cur, hc⟩ := h.lin.blk e.symm
    exact hy.ne_of hg hc hne rfl
  have hm3 : Arr w3 r 128 [u, .int .i64 m.span, evv] := (hg.block r h.mem.lt (fun e => h.lin.ne_of e.symm h.mem (by decide) rfl)).trans h.mem
  have hev3 := h.evs.keep (w' := w3) fun q hq => hg.block q (h.evs.lt hq) (hty h.evs (by decide) q hq)
  have hv3 := hv.keep (w' := w3) fun q hq => hg.block q (hv.lt hq) (hty hv (by decide) q hq)
  have hp3 := fun x hx => (h.pend x hx).keep (w' := w3) fun q hq => hg.block q ((h.pend x hx).lt hq) (hty (h.pend x hx) (by decide) q hq)
  refine ⟨⟨hm3.cell rfl, hm3.free 0⟩, ?_⟩
  exact {
    mem := hm3.set 0 u'
    lst := by
      rw [List.map_append, h.lst, take_snoc' _ k hk, ← PM.line_eq hk]
      rfl
    lin := by
      rw [List.map_append, List.flatten_append]
      have := hsl.keep (w' := w3.setCell ⟨r, 0, none⟩ u') fun g hg => heap_setCell_other _ _ g _ (hsl.ne_of hg hm3 (by decide))
      simpa using this
    evs := hev3.keep fun g hg => heap_setCell_other _ _ g _ (hev3.ne_of hg hm3 (by decide))
    pend := fun x hx => by
      rcases List.mem_append.1 hx with h1 | h1
      · exact (hp3 x h1).keep fun g hg => heap_setCell_other _ _ g _ ((hp3 x h1).ne_of hg hm3 (by decide))
      · rw [List.mem_singleton.1 h1]
        exact hv3.keep fun g hg => heap_setCell_other _ _ g _ (hv3.ne_of hg hm3 (by decide))
    ownR := h.ownR
    ownU := own_of h.below.size h.ownU ho
    ownE := h.ownE
    ownG := fun x hx b hb => by
      rcases List.mem_append.1 hx with h1 | h1
      · exact h.ownG x h1 b hb
      · rw [List.mem_singleton.1 h1] at hb
        exact hvn b hb
    below := (h.below.grown hg h.below.size (fun q hq => h.ownU q hq)).setCell h.ownR _ }
/-- The copy is made. -/
theorem CpAt.done (h : CpAt w0 w r m m.L.length evv u X) (hm : m.Ok) : Ref w r m (New w0 w) := by
  rcases h.lin.2 with ⟨_, h0⟩ | ⟨g, o, cap, cur, hv, hb, _⟩
  · have := hm.pos
    omega
  · subst hv
    have hgl := h.lin.lt (g := g) rfl
    refine ⟨g, o, cap, evv, X, ?_⟩
    exact {
      mem := h.mem
      lst := by rw [h.lst, List.take_length]
      lin := h.lin
      evs := h.evs
      pend := h.pend
      ownP := ⟨h.ownR, h.mem.lt⟩
      ownD := ⟨h.ownU g rfl, hgl⟩
      ownE := fun q hq => ⟨h.ownE q hq, h.evs.lt hq⟩
      ownG := fun x hx q hq => ⟨h.ownG x hx q hq, (h.pend x hx).lt hq⟩
      lt := fun q hq => hq.2 }
end
end Go.Proofs.YtpojhplnhppcpaaGreatDoor
