/-
  What trace's Fates works on: its variables, the memory, the fates, the map of places.
-/
import Derived.Test.YtpojhplnhppcpaaGreatDoorQV4
namespace Go.Proofs.YtpojhplnhppcpaaGreatDoor
open Go.RowKit Go.Maps
structure FW (w0 w : World) (N NL : Nat) (sb pb fb mb p : Nat) (fv : Value) (m : PM) (fs : List Int) (st : Nat → List Nat) (F : Nat → Prop) (D : DataW Value) (G : Nat → Value) : Prop where
  s : Arr w sb 120 [.map (some mb)]
  q : Arr w pb 32 [.pointer (some ⟨p, 0, none⟩)]
  f : Arr w fb 59 [fv]
  pl : Places w w0.heap.size mb NL st D G
  rep : Rep w p m F
  fs_ : Sl w 3 1 fv N (iv fs)
  new : ∀ k, F k → w0.heap.size ≤ k
  fnew : ∀ k, fv.ownBlock = some k → w0.heap.size ≤ k
  fF : ¬ F sb ∧ ¬ F pb ∧ ¬ F fb ∧ ¬ F mb
  fvF : ∀ k, fv.ownBlock = some k → ¬ F k ∧ k ≠ sb ∧ k ≠ pb ∧ k ≠ fb ∧ k ≠ mb ∧ ∀ j, j < NL → (G j).ownBlock ≠ some k
  gF : ∀ j, j < NL → ∀ k, (G j).ownBlock = some k → ¬ F k ∧ k ≠ sb ∧ k ≠ pb ∧ k ≠ fb ∧ k ≠ mb
  ne : sb ≠ mb ∧ pb ≠ mb ∧ fb ≠ mb
  below : Below w0.heap.size w0 w
section
variable {w0 w w' : World} {N NL sb pb fb mb p : Nat} {fv : Value} {m m' : PM} {fs fs' : List Int} {st : Nat → List Nat} {F : Nat → Prop} {D : DataW Value} {G : Nat → Value}
theorem FW.stay (h : FW w0 w N NL sb pb fb mb p fv m fs st F D G) (hb : Below w.heap.size w w') : FW w0 w' N NL sb pb fb mb p fv m fs st F D G :=
  ⟨h.s.keep hb, h.q.keep hb, h.f.keep hb, h.pl.below hb, h.rep.below hb, h.fs_.keep fun k hk => hb.block k (h.fs_.lt hk), h.new, h.fnew, h.fF, h.fvF, h.gF, h.ne, bel_on h.below hb⟩
/-- A call on the memory. -/
theorem FW.call (h : FW w0 w N NL sb pb fb mb p fv m fs st F D G) (s : Step F w p m' w') : FW w0 w' N NL sb pb fb mb p fv m' fs st (Ex F w w') D G := by
  have hk := s.2.block
  have kk : ∀ {k}, k < w.heap.size → ¬ F k → ¬ Ex F w w' k := fun h1 h2 h3 => by
    rcases h3 with h3 | h3
    · exact h2 h3
    · omega
  have lb := h.pl.map.lt
  refine ⟨(hk sb h.s.lt h.fF.1).trans h.s, (hk pb h.q.lt h.fF.2.1).trans h.q, (hk fb h.f.lt h.fF.2.2.1).trans h.f,
    h.pl.keep (hk mb lb h.fF.2.2.2) (fun i hi k hq => hk k ((h.pl.sl i hi).lt hq) (h.gF i hi k hq).1), s.1, h.fs_.keep fun k hq => hk k (h.fs_.lt hq) (h.fvF k hq).1, ?_, h.fnew,
    ⟨kk h.s.lt h.fF.1, kk h.q.lt h.fF.2.1, kk h.f.lt h.fF.2.2.1, kk lb h.fF.2.2.2⟩, fun k hq => ⟨kk (h.fs_.lt hq) (h.fvF k hq).1, (h.fvF k hq).2⟩,
    fun j hj k hq => ⟨kk ((h.pl.sl j hj).lt hq) (h.gF j hj k hq).1, (h.gF j hj k hq).2⟩, h.ne, h.below.trans (s.2.below (fun k _ hq => h.new k hq) h.below.size)⟩
  intro k hq
  rcases hq with hq | hq
  · exact h.new k hq
  · exact Nat.le_trans h.below.size hq.1
/-- The fates are written. -/
theorem FW.marked (h : FW w0 w N NL sb pb fb mb p fv m fs st F D G) (hs : Sl w' 3 1 fv N (iv fs')) (hk : Kept (fun k => fv.ownBlock = some k) w w') : FW w0 w' N NL sb pb fb mb p fv m fs' st F D G := by
  refine ⟨(hk.block sb h.s.lt fun e => (h.fvF sb e).2.1 rfl).trans h.s, (hk.block pb h.q.lt fun e => (h.fvF pb e).2.2.1 rfl).trans h.q, (hk.block fb h.f.lt fun e => (h.fvF fb e).2.2.2.1 rfl).trans h.f,
    h.pl.keep (hk.block mb h.pl.map.lt fun e => (h.fvF mb e).2.2.2.2.1 rfl) (fun i hi k hq => hk.block k ((h.pl.sl i hi).lt hq) fun e => (h.fvF k e).2.2.2.2.2 i hi hq),
    h.rep.kept hk (fun k hF e => (h.fvF k e).1 hF), hs, h.new, h.fnew, h.fF, h.fvF, h.gF, h.ne, h.below.trans (hk.below (fun k _ hq => h.fnew k hq) h.below.size)⟩
/-- A place more on a line. -/
theorem FW.place (h : FW w0 w N NL sb pb fb mb p fv m fs st F D G) {i x : Nat} (hi : i < NL) {w1 w2 w3 : World} {g : Value} (h1 : Below w.heap.size w w1) (hg : w1.grownBy w2 (G i).ownBlock) (hsl : Sl w2 3 1 g ((st i).length + 1) (iv (ci (st i ++ [x]))))
    (ho : g.ownBlock = (G i).ownBlock ∨ g.ownBlock = some w1.heap.size) {n : Nat} (hm : w3.ownsMap Tryz.prog 3 heldR mb n (D.put (kOf i) (.held g))) (hg3 : w2.grownBy w3 (some mb)) :
    FW w0 w3 N NL sb pb fb mb p fv m fs (fun j => if j = i then st i ++ [x] else st j) F (D.put (kOf i) (.held g)) (upG G i g) := by
  have hD := h.pl.map.isMap
  have k2 : Kept (fun k => (G i).ownBlock = some k) w1 w2 := Kept.of_grown hg fun k hk => hk
  have k3 : Kept (fun k => k = mb) w2 w3 := Kept.of_grown hg3 fun k hk => by simpa using hk.symm
  have lmb := h.pl.map.lt
  have big : ∀ {k}, k < w.heap.size → (G i).ownBlock ≠ some k → k ≠ mb → w3.heap[k]? = w.heap[k]? := fun {k} hk a b =>
    (k3.block k (Nat.lt_of_lt_of_le (Nat.lt_of_lt_of_le hk h1.size) k2.size) b).trans ((k2.block k (Nat.lt_of_lt_of_le hk h1.size) a).trans (h1.block k hk))
  have gmb : ∀ {k}, g.ownBlock = some k → k ≠ mb := fun {k} hk e => by
    rcases ho with ho | ho
    · rw [ho] at hk
      exact (h.gF i hi k hk).2.2.2.2 e
    · rw [ho] at hk
      simp only [Option.some.injEq] at hk
      have := h1.size
      omega
  have gold : ∀ {k}, g.ownBlock = some k → (G i).ownBlock = some k ∨ w.heap.size ≤ k := fun {k} hk => by
    rcases ho with ho | ho
    · exact .inl (ho ▸ hk)
    · rw [ho] at hk
      simp only [Option.some.injEq] at hk
      have := h1.size
      exact .inr (by omega)
  have gF' : ∀ {k}, g.ownBlock = some k → ¬ F k ∧ k ≠ sb ∧ k ≠ pb ∧ k ≠ fb ∧ k ≠ mb := fun {k} hk => by
    rcases gold hk with h2 | h2
    · exact h.gF i hi k h2
    · have a := h.s.lt
      have b := h.q.lt
      have c := h.f.lt
      exact ⟨fun hF => by have := h.rep.lt k hF; omega, by omega, by omega, by omega, by omega⟩
  refine ⟨(big h.s.lt (fun e => (h.gF i hi sb e).2.1 rfl) h.ne.1).trans h.s, (big h.q.lt (fun e => (h.gF i hi pb e).2.2.1 rfl) h.ne.2.1).trans h.q, (big h.f.lt (fun e => (h.gF i hi fb e).2.2.2.1 rfl) h.ne.2.2).trans h.f, ?_,
    h.rep.keep (fun k hF => big (h.rep.lt k hF) (fun e => (h.gF i hi k e).1 hF) (fun e => h.fF.2.2.2 (e ▸ hF))) (Nat.le_trans h1.size (Nat.le_trans k2.size k3.size)),
    h.fs_.keep (fun k hk => big (h.fs_.lt hk) (fun e => (h.fvF k hk).2.2.2.2.2 i hi e) (h.fvF k hk).2.2.2.2.1), h.new, h.fnew, h.fF, fun k hk => ?_, fun j hj k hk => ?_, h.ne, ?_⟩
  · exact {
      map := ownsMap_size hm
      at_ := fun j hj => by
        by_cases e : j = i
        · subst e
          rw [upG_same, atKey_put_same hD (kOf_key _)]
        · rw [upG_other G g e, atKey_put_other (fun e2 => e (kOf_inj e2))]
          exact h.pl.at_ j hj
      off := fun kl hkl => by
        by_cases e : kl = kOf i
        · exact ⟨i, hi, e⟩
        · rw [has_put_other e] at hkl
          exact h.pl.off kl hkl
      sl := fun j hj => by
        by_cases e : j = i
        · subst e
          rw [upG_same, if_pos rfl, List.length_append]
          exact hsl.keep fun k hk => k3.block k (hsl.lt hk) (gmb hk)
        · rw [upG_other G g e, if_neg e]
          exact (h.pl.sl j hj).keep fun k hk => big ((h.pl.sl j hj).lt hk) (fun e2 => h.pl.apart j i hj hi e (by rw [hk]; simp) (by rw [hk, e2])) (h.gF j hj k hk).2.2.2.2
      own := fun j hj k hk => by
        by_cases e : j = i
        · subst e
          rw [upG_same] at hk
          rcases gold hk with h2 | h2
          · exact h.pl.own j hj k h2
          · exact Nat.le_trans h.below.size h2
        · rw [upG_other G g e] at hk
          exact h.pl.own j hj k hk
      apart := fun j k hj hk hjk hnn => by
        by_cases e : j = i
        · subst e
          rw [upG_same] at hnn ⊢
          rw [upG_other G g (fun e2 => hjk e2.symm)]
          intro e3
          obtain ⟨q, hq⟩ := Option.ne_none_iff_exists'.1 hnn
          rcases gold hq with h2 | h2
          · exact h.pl.apart j k hj hk hjk (by rw [h2]; simp) (by rw [h2, ← hq, e3])
          · have := (h.pl.sl k hk).lt (e3 ▸ hq)
            omega
        · rw [upG_other G g e] at hnn ⊢
          by_cases e2 : k = i
          · subst e2
            rw [upG_same]
            intro e3
            obtain ⟨q, hq⟩ := Option.ne_none_iff_exists'.1 hnn
            rcases gold (e3 ▸ hq) with h2 | h2
            · exact h.pl.apart j k hj hk hjk hnn (by rw [hq, h2])
            · have := (h.pl.sl j hj).lt hq
              omega
          · rw [upG_other G g e2]
            exact h.pl.apart j k hj hk hjk hnn
      new := h.pl.new }
  · obtain ⟨a1, a2, a3, a4, a5, a6⟩ := h.fvF k hk
    refine ⟨a1, a2, a3, a4, a5, fun j hj => ?_⟩
    by_cases e : j = i
    · subst e
      rw [upG_same]
      intro e2
      rcases gold e2 with h2 | h2
      · exact a6 j hj h2
      · have := h.fs_.lt hk
        omega
    · rw [upG_other G g e]
      exact a6 j hj
  · by_cases e : j = i
    · subst e
      rw [upG_same] at hk
      exact gF' hk
    · rw [upG_other G g e] at hk
      exact h.gF j hj k hk
  · have b1 := bel_on h.below h1
    have b2 := b1.trans (k2.below (fun k _ hk => h.pl.own i hi k hk) b1.size)
    exact b2.trans (k3.below (fun k _ hk => by subst hk; exact h.pl.new) b2.size)
end
end Go.Proofs.YtpojhplnhppcpaaGreatDoor
