/-
  A memory as plain data: lines with pending stores, a span, events; what each call makes of it. A memory of the program in the heap: what its blocks hold, and that it stays while other blocks are written. What memory's small tests do: isWord, isCode, areWords, hasLine, hasAddress; Lines, Forget, Span. What slices.Clone does with lines, stores and events.
-/
import Derived.Test.YtpojhplnhppcpaaGreatDoorQC8
import Derived.Test.YtpojhplnhppcpaaGreatDoorQSl
import Derived.Maps.RangeWalk
import Derived.Maps.OwnSet
import Derived.Maps.Ext
namespace Go.Proofs.YtpojhplnhppcpaaGreatDoor
open Go.RowKit
/-- A line: durable words and their code, pending stores, the mark. -/
structure PL where
  ws : List Int
  code : Int
  pend : List (Int × Int)
  mark : Nat
/-- A memory. -/
structure PM where
  L : List PL
  span : Int
  ev : List (List Int)
def PL.zero : PL := ⟨Z8, 0, [], 0⟩
def PM.line (m : PM) (i : Nat) : PL := m.L.getD i PL.zero
def put1 (ws : List Int) (s : Int × Int) : List Int := ws.set s.1.toNat s.2
def applyS (ws : List Int) (ss : List (Int × Int)) : List Int := ss.foldl put1 ws
def PL.fixW (l : PL) : List Int := (fixZ l.ws l.code).1
def PL.err (l : PL) : Int := (fixZ l.ws l.code).2.2
def PL.after (l : PL) (n : Nat) : List Int := applyS l.fixW (l.pend.take n)
def PL.shows (l : PL) : List Int := l.after l.pend.length
def PL.state (l : PL) : Nat := (chkZ l.ws l.code).1
def PL.settle (l : PL) (n : Nat) : PL := if n = 0 then l else ⟨l.after n, encZ (l.after n), l.pend.drop n, l.mark - n⟩
/-- What a line owes: eight words and a code in their ranges, stores of words, the mark no further than they go; what is rotten has none. -/
structure PL.Ok (l : PL) : Prop where
  len : l.ws.length = 8
  val : validB l.ws l.code = true
  pend : ∀ s ∈ l.pend, 0 ≤ s.1 ∧ s.1 < 8 ∧ okW s.2 = true
  mark : l.mark ≤ l.pend.length
  rot : l.state = 2 → l.pend = []
structure PM.Ok (m : PM) : Prop where
  pos : 1 ≤ m.L.length
  few : m.L.length ≤ 4096
  lines : ∀ l ∈ m.L, l.Ok
  span0 : 0 ≤ m.span
  span : I64 m.span
  evs : ∀ e ∈ m.ev, e.length = 12 ∧ ∀ z ∈ e, I64 z
/-- No more than n of whatever there is. -/
structure PM.Small (m : PM) (n : Nat) : Prop where
  ev : m.ev.length ≤ n
  pend : ∀ l ∈ m.L, l.pend.length ≤ n
theorem PM.Small.mono {m : PM} {n k : Nat} (h : m.Small n) (hk : n ≤ k) : m.Small k := ⟨Nat.le_trans h.ev hk, fun l hl => Nat.le_trans (h.pend l hl) hk⟩
theorem PM.line_mem {m : PM} {i : Nat} (h : i < m.L.length) : m.line i ∈ m.L := by
  unfold PM.line
  rw [List.getD_eq_getElem?_getD, List.getElem?_eq_getElem h]
  exact List.getElem_mem h
theorem PM.Ok.line {m : PM} (h : m.Ok) {i : Nat} (hi : i < m.L.length) : (m.line i).Ok := h.lines _ (PM.line_mem hi)
/-! ### words -/
theorem okW_i64 {z : Int} (h : okW z = true) : I64 z := by
  have := okW_of h
  unfold I64
  omega
theorem valid_words {L : List Int} {c : Int} (h : validB L c = true) : L.all okW = true ∧ 0 ≤ c ∧ c ≤ 1023 := by
  unfold validB at h
  simp only [Bool.and_eq_true, decide_eq_true_eq] at h
  exact ⟨h.1, h.2⟩
theorem all_ok {L : List Int} (h : L.all okW = true) : ∀ z ∈ L, okW z = true := List.all_eq_true.1 h
/-- A valid line comes from natural numbers. -/
theorem valid_nat {L : List Int} {c : Int} (h : validB L c = true) : ∃ (ws : List Nat) (n : Nat), L = ci ws ∧ c = n ∧ ws.length = L.length ∧ (∀ x ∈ ws, x < 1099511627776) ∧ n < 1024 := by
  obtain ⟨ha, h0, h1⟩ := valid_words h
  obtain ⟨e, hs⟩ := of_all ha
  exact ⟨nw L, c.toNat, e, by omega, nw_len L, hs, by omega⟩
theorem z8_len : Z8.length = 8 := rfl
theorem z8_ok : Z8.all okW = true := by decide
theorem fix_facts {L : List Int} {c : Int} (h8 : L.length = 8) (h : validB L c = true) : (fixZ L c).1.length = 8 ∧ (fixZ L c).1.all okW = true ∧
    ((fixZ L c).2.2 = 0 ∧ (chkZ L c).1 ≠ 2 ∨ (fixZ L c).2.2 = 9 ∧ (chkZ L c).1 = 2 ∧ (fixZ L c).1 = Z8) := by
  have ha := (valid_words h).1
  unfold fixZ
  rw [if_pos h]
  by_cases h2 : (chkZ L c).1 = 2
  · rw [if_pos h2]
    exact ⟨rfl, z8_ok, .inr ⟨rfl, h2, rfl⟩⟩
  · rw [if_neg h2]
    by_cases h1 : (chkZ L c).1 = 1
    · rw [if_pos h1]
      obtain ⟨ws, n, rfl, rfl, hl, hs, hn⟩ := valid_nat h
      rw [nw_ci, Int.toNat_natCast]
      have hw : ws.length = 8 := by rw [hl, h8]
      refine ⟨by rw [ci_len, flipR_len, hw], ?_, .inl ⟨rfl, h2⟩⟩
      have hok : okBit (chkZ (ci ws) (n : Int)).2.1 (chkZ (ci ws) (n : Int)).2.2 = true := by
        rw [chkZ_ci hs hn] at h1 ⊢
        unfold chkF at h1 ⊢
        split at h1
        · cases h1
        · rename_i hne
          rw [if_neg hne]
          split at h1
          · cases h1
          · rename_i hp
            rw [if_neg hp]
            split at h1
            · rename_i hf
              rw [if_pos hf]
              exact (psn_find (synT_lt hw hs hn) hf).1
            · cases h1
      obtain ⟨_, hs', _⟩ := flip_nine hw hs hn hok
      exact all_ci hs'
    · rw [if_neg h1]
      exact ⟨h8, ha, .inl ⟨rfl, h2⟩⟩
theorem enc_facts {L : List Int} (h8 : L.length = 8) (ha : L.all okW = true) : validB L (encZ L) = true ∧ (chkZ L (encZ L)).1 = 0 ∧ (fixZ L (encZ L)).1 = L ∧ (fixZ L (encZ L)).2.2 = 0 := by
  obtain ⟨e, hs⟩ := of_all ha
  have hw : (nw L).length = 8 := by rw [nw_len, h8]
  generalize nw L = ws at *
  subst e
  rw [encZ_ci hs]
  refine ⟨?_, by rw [chkZ_enc hw hs], by rw [fixZ_enc hw hs], by rw [fixZ_enc hw hs]⟩
  rw [valid_ci hs]
  exact decide_eq_true (encN_lt hw hs)
theorem enc_z8 : encZ Z8 = 0 := by decide +kernel
/-! ### stores -/
theorem applyS_len (ss : List (Int × Int)) : ∀ ws : List Int, (applyS ws ss).length = ws.length := by
  induction ss with
  | nil => intro ws; rfl
  | cons s r ih => intro ws; show (applyS (put1 ws s) r).length = _; rw [ih]; unfold put1; rw [List.length_set]
theorem set_all {ws : List Int} {k : Nat} {z : Int} (h : ws.all okW = true) (hz : okW z = true) : (ws.set k z).all okW = true := by
  rw [List.all_eq_true] at h ⊢
  intro x hx
  rcases List.mem_or_eq_of_mem_set hx with hx | rfl
  · exact h x hx
  · exact hz
theorem applyS_ok (ss : List (Int × Int)) : ∀ ws : List Int, ws.all okW = true → (∀ s ∈ ss, okW s.2 = true) → (applyS ws ss).all okW = true := by
  induction ss with
  | nil => intro ws h _; exact h
  | cons s r ih =>
    intro ws h hs
    show (applyS (put1 ws s) r).all okW = true
    exact ih _ (set_all h (hs s (by simp))) fun t ht => hs t (by simp [ht])
theorem applyS_snoc (ws : List Int) (ss : List (Int × Int)) (s : Int × Int) : applyS ws (ss ++ [s]) = put1 (applyS ws ss) s := by simp [applyS]
theorem take_snoc' {α : Type} (l : List α) (k : Nat) (h : k < l.length) : l.take (k + 1) = l.take k ++ [l[k]] := by
  rw [List.take_succ_eq_append_getElem h]
theorem PL.Ok.fixW {l : PL} (h : l.Ok) : l.fixW.length = 8 ∧ l.fixW.all okW = true := ⟨(fix_facts h.len h.val).1, (fix_facts h.len h.val).2.1⟩
theorem PL.Ok.after {l : PL} (h : l.Ok) (n : Nat) : (l.after n).length = 8 ∧ (l.after n).all okW = true := by
  refine ⟨by unfold PL.after; rw [applyS_len, h.fixW.1], applyS_ok _ _ h.fixW.2 fun s hs => (h.pend s (List.mem_of_mem_take hs)).2.2⟩
theorem PL.Ok.err {l : PL} (h : l.Ok) : l.err = 0 ∧ l.state ≠ 2 ∨ l.err = 9 ∧ l.state = 2 ∧ l.fixW = Z8 := (fix_facts h.len h.val).2.2
theorem PL.zero_ok : PL.zero.Ok := ⟨rfl, by decide, fun s hs => by simp [PL.zero] at hs, Nat.le_refl _, fun _ => rfl⟩
theorem PL.Ok.settle {l : PL} (h : l.Ok) (n : Nat) : (l.settle n).Ok := by
  unfold PL.settle
  split
  · exact h
  · obtain ⟨h1, h2⟩ := h.after n
    obtain ⟨e1, e2, _, _⟩ := enc_facts h1 h2
    have hm := h.mark
    exact ⟨h1, e1, fun s hs => h.pend s (List.mem_of_mem_drop hs), by show l.mark - n ≤ (l.pend.drop n).length; rw [List.length_drop]; omega, fun h2 => by
      have : (chkZ (l.after n) (encZ (l.after n))).1 = 2 := h2
      rw [e1_of e2] at this
      cases this⟩
where
  e1_of {a : Nat} (h : a = 0) : a = 0 := h
/-! ### the calls -/
def PM.upd (m : PM) (i : Nat) (f : PL → PL) : PM := { m with L := m.L.set i (f (m.line i)) }
def PM.add (m : PM) (e : List Int) : PM := { m with ev := m.ev ++ [e] }
def PM.has (m : PM) (z : Int) : Bool := decide (0 ≤ z ∧ z < m.L.length)
def PM.hasA (m : PM) (z : Int) : Bool := decide (0 ≤ z ∧ z < 8 * m.L.length)
def evt (kind at_ val span : Int) (ws : List Int) : List Int := [kind, at_, val, span] ++ ws
def PL.push (l : PL) (s : Int × Int) : PL := { l with pend := l.pend ++ [s] }
def PL.flushed (l : PL) : PL := { l with mark := l.pend.length }
def PL.made (ws : List Int) : PL := ⟨ws, encZ ws, [], 0⟩
def xorI (a b : Int) : Int := ((a.toNat ^^^ b.toNat : Nat) : Int)
def PL.rotted (l : PL) (ws : List Int) (c : Int) : PL := { l with ws := ci (xorL (nw l.ws) (nw ws)), code := xorI l.code c }
def putP (m : PM) (at_ val : Int) : Int × PM :=
  if m.hasA at_ = false then (40, m) else if okW val = false then (1, m) else if (m.line (at_ / 8).toNat).state = 2 then (9, m) else (0, m.upd (at_ / 8).toNat (·.push (at_ % 8, val)))
def flushP (m : PM) (z : Int) : Int × PM := if m.has z = false then (40, m) else (0, m.upd z.toNat (·.flushed))
def fenceP (m : PM) : PM := { m with L := m.L.map fun l => l.settle l.mark }
def evictP (m : PM) (z n : Int) : Int × PM :=
  if m.has z = false then (40, m) else if n < 1 ∨ ((m.line z.toNat).pend.length : Int) < n then (1, m) else (0, m.upd z.toNat (·.settle n.toNat))
def healP (m : PM) (z : Int) (ws : List Int) : Int × PM := if m.has z = false then (40, m) else if ws.all okW = false then (1, m) else (0, m.upd z.toNat fun _ => PL.made ws)
def rotP (m : PM) (z : Int) (ws : List Int) (c : Int) : Int × PM :=
  if m.has z = false then (40, m) else if validB ws c = false then (1, m) else if (m.line z.toNat).pend ≠ [] then (4, m) else (0, m.upd z.toNat (·.rotted ws c))
/-- A call is recorded if it has no error. -/
def rec_ (r : Int × PM) (e : List Int) : Int × PM := if r.1 = 0 then (0, r.2.add e) else r
def storeP (m : PM) (kind at_ val : Int) : Int × PM := rec_ (putP m at_ val) (evt kind at_ val m.span Z8)
def spanP (m : PM) (n : Int) : PM := { m with span := max n 0 }
/-- Are the cuts right? -/
def cutsOk (m : PM) : Int → List (Int × Int) → Bool
  | _, [] => true
  | last, c :: r => !(decide (c.1 ≤ last) || !m.has c.1 || decide (c.2 < 0) || decide (((m.line c.1.toNat).pend.length : Int) < c.2)) && cutsOk m c.1 r
def settles (m : PM) (cs : List (Int × Int)) : PM := cs.foldl (fun m c => m.upd c.1.toNat (·.settle c.2.toNat)) m
def PL.lost (l : PL) : PL := { l with pend := [], mark := 0 }
def PM.lost (m : PM) : PM := ⟨m.L.map PL.lost, 0, []⟩
def crashP (m : PM) (cs : List (Int × Int)) : Int × PM := if cutsOk m (-1) cs = false then (1, m) else (0, (settles m cs).lost)
def forgetP (m : PM) : PM := { m with ev := [] }
def stateP (m : PM) (z : Int) : Int := if m.has z then (((m.line z.toNat).state : Nat) : Int) else -1
def pendP (m : PM) (z : Int) : List (Int × Int) := if m.has z then (m.line z.toNat).pend else []
def loadP (m : PM) (at_ : Int) : Int × Int := if m.hasA at_ = false then (0, 40) else ((m.line (at_ / 8).toNat).shows.getD (at_ % 8).toNat 0, (m.line (at_ / 8).toNat).err)
def newP (n : Nat) : PM := ⟨List.replicate n PL.zero, 0, []⟩
def fromP (img : List (List Int × Int)) : PM := ⟨img.map fun x => ⟨x.1, x.2, [], 0⟩, 0, []⟩
def PM.seen (m : PM) : List (List Int) := m.L.map PL.shows
/-- A call of a script. -/
structure POp where
  k : Int
  a : Int
  b : Int
  ws : List Int
  cs : List (Int × Int)
def doP (m : PM) (x : POp) : (Int × Int) × PM :=
  if x.k = 0 then ((0, (storeP m 1 x.a x.b).1), (storeP m 1 x.a x.b).2)
  else if x.k = 1 then ((0, (storeP m 2 x.a x.b).1), (storeP m 2 x.a x.b).2)
  else if x.k = 2 then ((0, 0), spanP m x.a)
  else if x.k = 3 then ((0, (rec_ (flushP m x.a) (evt 3 x.a 0 0 Z8)).1), (rec_ (flushP m x.a) (evt 3 x.a 0 0 Z8)).2)
  else if x.k = 4 then ((0, 0), (fenceP m).add (evt 4 0 0 0 Z8))
  else if x.k = 5 then ((0, (rec_ (evictP m x.a x.b) (evt 5 x.a x.b 0 Z8)).1), (rec_ (evictP m x.a x.b) (evt 5 x.a x.b 0 Z8)).2)
  else if x.k = 6 then ((0, (rec_ (healP m x.a x.ws) (evt 6 x.a 0 0 x.ws)).1), (rec_ (healP m x.a x.ws) (evt 6 x.a 0 0 x.ws)).2)
  else if x.k = 7 then ((0, (rec_ (rotP m x.a x.ws x.b) (evt 7 x.a x.b 0 x.ws)).1), (rec_ (rotP m x.a x.ws x.b) (evt 7 x.a x.b 0 x.ws)).2)
  else if x.k = 8 then ((0, (crashP m x.cs).1), (crashP m x.cs).2)
  else if x.k = 9 then ((0, 0), forgetP m)
  else (loadP m x.a, m)
end Go.Proofs.YtpojhplnhppcpaaGreatDoor
namespace Go.Proofs.YtpojhplnhppcpaaGreatDoor
open Go.RowKit Go.Maps
/-- What is written: nothing but blocks of F, and new ones. -/
structure Kept (F : Nat → Prop) (w w' : World) : Prop where
  os : w'.os = w.os
  tape : w'.tape = w.tape
  output : w'.output = w.output
  size : w.heap.size ≤ w'.heap.size
  block : ∀ k, k < w.heap.size → ¬ F k → w'.heap[k]? = w.heap[k]?
/-- F and the blocks that are new. -/
def Ex (F : Nat → Prop) (w w' : World) : Nat → Prop := fun k => F k ∨ (w.heap.size ≤ k ∧ k < w'.heap.size)
theorem Kept.refl (F : Nat → Prop) (w : World) : Kept F w w := ⟨rfl, rfl, rfl, Nat.le_refl _, fun _ _ _ => rfl⟩
theorem Kept.of_below {F : Nat → Prop} {w w' : World} (h : Below w.heap.size w w') : Kept F w w' := ⟨h.os, h.tape, h.output, h.size, fun k hk _ => h.block k hk⟩
theorem Kept.trans {F : Nat → Prop} {w w1 w2 : World} (h : Kept F w w1) (k : Kept (Ex F w w1) w1 w2) : Kept F w w2 :=
  ⟨k.os.trans h.os, k.tape.trans h.tape, k.output.trans h.output, Nat.le_trans h.size k.size, fun i hi hf => (k.block i (Nat.lt_of_lt_of_le hi h.size) (by
    rintro (h1 | h1)
    · exact hf h1
    · omega)).trans (h.block i hi hf)⟩
theorem Kept.then_ {F : Nat → Prop} {w w1 w2 : World} (h : Kept F w w1) (k : Kept F w1 w2) : Kept F w w2 :=
  ⟨k.os.trans h.os, k.tape.trans h.tape, k.output.trans h.output, Nat.le_trans h.size k.size, fun i hi hf => (k.block i (Nat.lt_of_lt_of_le hi h.size) hf).trans (h.block i hi hf)⟩
theorem Kept.mono {F G : Nat → Prop} {w w' : World} (h : Kept F w w') (hG : ∀ k, k < w.heap.size → F k → G k) : Kept G w w' := ⟨h.os, h.tape, h.output, h.size, fun k hk hf => h.block k hk fun h1 => hf (hG k hk h1)⟩
theorem Kept.below {F : Nat → Prop} {w w' : World} {B : Nat} (h : Kept F w w') (hF : ∀ k, k < w.heap.size → F k → B ≤ k) (hB : B ≤ w.heap.size) : Below B w w' := ⟨h.os, h.tape, h.output, h.size, fun k hk => h.block k (by omega) fun h1 => by have := hF k (by omega) h1; omega⟩
theorem Kept.of_grown {F : Nat → Prop} {w w' : World} {row : Option Nat} (h : w.grownBy w' row) (hr : ∀ k, row = some k → F k) : Kept F w w' := ⟨h.os, h.tape, h.output, h.size, fun k hk hf => h.block k hk fun e => hf (hr k e.symm)⟩
theorem Kept.setCell {F : Nat → Prop} (w : World) {a : Addr} (u : Value) (h : F a.block) : Kept F w (w.setCell a u) := ⟨rfl, rfl, rfl, by simp [World.setCell], fun k _ hf => Below.heap_setCell _ _ _ _ fun e => hf (e ▸ h)⟩
theorem Kept.setRow {F : Nat → Prop} (w : World) {g : Nat} (cs : Array Value) (h : F g) : Kept F w (w.setRow g cs) := ⟨rfl, rfl, rfl, by simp, fun k _ hf => setRow_other w g k cs fun e => hf (e ▸ h)⟩
theorem Ex.trans {F : Nat → Prop} {w w1 w2 : World} (h1 : w.heap.size ≤ w1.heap.size) (h2 : w1.heap.size ≤ w2.heap.size) {k : Nat} : Ex (Ex F w w1) w1 w2 k ↔ Ex F w w2 k := by
  unfold Ex
  constructor
  · rintro ((h | h) | h)
    · exact .inl h
    · exact .inr (by omega)
    · exact .inr (by omega)
  · rintro (h | h)
    · exact .inl (.inl h)
    · by_cases h3 : k < w1.heap.size
      · exact .inl (.inr (by omega))
      · exact .inr (by omega)
/-- How an element of the map of busy lines reads: as itself. -/
def heldR (v : Value) : Option (DataW Value × List MemPlace) := some (.held v, [])
def kOf (i : Nat) : Lit := .int .i64 (i : Int)
def backV (G : Value) (mark : Nat) : Value := .agg #[G, .int .i64 (mark : Int)]
def zeroB : Value := .agg #[.slice none 0 0, .int .i64 0]
/-- The cells of lines, of stores. -/
def flatL (L : List PL) : List Int := L.flatMap fun l => l.ws ++ [l.code]
def flatS (ss : List (Int × Int)) : List Int := ss.flatMap fun s => [s.1, s.2]
structure RepAt (w : World) (p : Nat) (m : PM) (F : Nat → Prop) (dv : Value) (b : Nat) (ev : Value) (D : DataW Value) (G : Nat → Value) : Prop where
  mem : Arr w p 100 [dv, .map (some b), .int .i64 m.span, ev]
  dur : Sl w 77 9 dv m.L.length (iv (flatL m.L))
  map : w.ownsMap Tryz.prog 3 heldR b (Maps.size D) D
  evs : Sl w 68 12 ev m.ev.length (iv m.ev.flatten)
  at_ : ∀ i, i < m.L.length → D.atKey (kOf i) (.held zeroB) = .held (backV (G i) (m.line i).mark)
  has_ : ∀ i, i < m.L.length → Maps.has D (kOf i) = decide ((m.line i).pend ≠ [])
  off : ∀ kl, Maps.has D kl = true → ∃ i, i < m.L.length ∧ kl = kOf i
  pend : ∀ i, i < m.L.length → Sl w 105 2 (G i) (m.line i).pend.length (iv (flatS (m.line i).pend))
  apart : ∀ i j, i < m.L.length → j < m.L.length → i ≠ j → (G i).ownBlock ≠ none → (G i).ownBlock ≠ (G j).ownBlock
  ownP : F p
  ownB : F b
  ownD : ∀ k, dv.ownBlock = some k → F k
  ownE : ∀ k, ev.ownBlock = some k → F k
  ownG : ∀ i, i < m.L.length → ∀ k, (G i).ownBlock = some k → F k
  lt : ∀ k, F k → k < w.heap.size
/-- The memory behind the pointer p is m; its blocks are among F. -/
def Rep (w : World) (p : Nat) (m : PM) (F : Nat → Prop) : Prop := ∃ dv b ev D G, RepAt w p m F dv b ev D G
theorem ownsMap_keep {w w' : World} {R : Value → Option (DataW Value × List MemPlace)} {b n : Nat} {D : DataW Value} (h : w.ownsMap Tryz.prog 3 R b n D) (hb : w'.heap[b]? = w.heap[b]?) : w'.ownsMap Tryz.prog 3 R b n D := by
  obtain ⟨es, clock, h1, r⟩ := h
  exact ⟨es, clock, hb.trans h1, r⟩
theorem ownsMap_size {w : World} {R : Value → Option (DataW Value × List MemPlace)} {b n : Nat} {D : DataW Value} (h : w.ownsMap Tryz.prog 3 R b n D) : w.ownsMap Tryz.prog 3 R b (Maps.size D) D := by
  obtain ⟨es, clock, hb, F, hs, rfl⟩ := h
  exact ⟨es, clock, hb, F, by simp [Maps.size, length_sorted], rfl⟩
theorem RepAt.keep {w w' : World} {p b : Nat} {m : PM} {F F' : Nat → Prop} {dv ev : Value} {D : DataW Value} {G : Nat → Value} (h : RepAt w p m F dv b ev D G)
    (hk : ∀ k, F k → w'.heap[k]? = w.heap[k]?) (hF : ∀ k, F k → F' k) (hlt : ∀ k, F' k → k < w'.heap.size) : RepAt w' p m F' dv b ev D G where
  mem := (hk p h.ownP).trans h.mem
  dur := h.dur.keep fun g hg => hk g (h.ownD g hg)
  map := ownsMap_keep h.map (hk b h.ownB)
  evs := h.evs.keep fun g hg => hk g (h.ownE g hg)
  at_ := h.at_
  has_ := h.has_
  off := h.off
  pend := fun i hi => (h.pend i hi).keep fun g hg => hk g (h.ownG i hi g hg)
  apart := h.apart
  ownP := hF _ h.ownP
  ownB := hF _ h.ownB
  ownD := fun k hk => hF _ (h.ownD k hk)
  ownE := fun k hk => hF _ (h.ownE k hk)
  ownG := fun i hi k hk => hF _ (h.ownG i hi k hk)
  lt := hlt
theorem Rep.lt {w : World} {p : Nat} {m : PM} {F : Nat → Prop} (h : Rep w p m F) : ∀ k, F k → k < w.heap.size := by
  obtain ⟨_, _, _, _, _, h⟩ := h
  exact h.lt
/-- Its blocks are as they were. -/
theorem Rep.keep {w w' : World} {p : Nat} {m : PM} {F : Nat → Prop} (h : Rep w p m F) (hk : ∀ k, F k → w'.heap[k]? = w.heap[k]?) (hs : w.heap.size ≤ w'.heap.size) : Rep w' p m F := by
  obtain ⟨dv, b, ev, D, G, h⟩ := h
  exact ⟨dv, b, ev, D, G, h.keep hk (fun _ h => h) fun k hk => Nat.lt_of_lt_of_le (h.lt k hk) hs⟩
theorem Rep.below {w w' : World} {p : Nat} {m : PM} {F : Nat → Prop} (h : Rep w p m F) (hb : Below w.heap.size w w') : Rep w' p m F :=
  h.keep (fun k hk => hb.block k (h.lt k hk)) hb.size
/-- Another memory is written. -/
theorem Rep.kept {w w' : World} {p : Nat} {m : PM} {F H : Nat → Prop} (h : Rep w p m F) (hk : Kept H w w') (hd : ∀ k, F k → ¬ H k) : Rep w' p m F :=
  h.keep (fun k hF => hk.block k (h.lt k hF) (hd k hF)) hk.size
theorem Rep.wide {w : World} {p : Nat} {m : PM} {F F' : Nat → Prop} (h : Rep w p m F) (hF : ∀ k, F k → F' k) (hlt : ∀ k, F' k → k < w.heap.size) : Rep w p m F' := by
  obtain ⟨dv, b, ev, D, G, h⟩ := h
  exact ⟨dv, b, ev, D, G, h.keep (fun _ _ => rfl) hF hlt⟩
theorem Rep.ex {w w' : World} {p : Nat} {m : PM} {F : Nat → Prop} (h : Rep w' p m F) : Rep w' p m (Ex F w w') :=
  h.wide (fun _ h => .inl h) fun k hk => by
    rcases hk with h1 | h1
    · exact h.lt k h1
    · exact h1.2
/-! ### look-ups -/
theorem keyed3 : Keyed Tryz.prog 3 := int_keyed Tryz.underlying3
theorem key_of (z : Int) (h : I64 z) : keyOf Tryz.prog 3 (.int .i64 z) = some (.int .i64 z) := keyOf_int_mk Tryz.underlying3 (by
  unfold I64 at h
  simp [Lit.wf, IntKind.min, IntKind.max, IntKind.bits, IntKind.signed]
  omega)
theorem zero89 (w : World) : (zeroValue 108).run Tryz.prog w = .ok zeroB w := by kernel_rfl
theorem heldR_inj {v u : Value} {ps : List MemPlace} (h : heldR v = some (.held u, ps)) : v = u := by
  unfold heldR at h
  simp only [Option.some.injEq, Prod.mk.injEq, DataW.held.injEq] at h
  exact h.1
/-- What the map holds at a key. -/
theorem look_run {w : World} {b n : Nat} {D : DataW Value} (h : w.ownsMap Tryz.prog 3 heldR b n D) (z : Int) (hz : I64 z) {v : Value} (hv : D.atKey (.int .i64 z) (.held zeroB) = .held v) :
    (Instr.lookup 98 (.map (some b)) (.int .i64 z) false).run Tryz.prog w = .ok v w := by
  obtain ⟨u, ps, hrun, hu⟩ := h.lookup keyed3 Tryz.underlying98 (zero89 w) (show heldR zeroB = some (.held zeroB, []) from rfl) (key_of z hz)
  rw [hv] at hu
  rw [hrun, heldR_inj hu]
theorem look_ok_run {w : World} {b n : Nat} {D : DataW Value} (h : w.ownsMap Tryz.prog 3 heldR b n D) (z : Int) (hz : I64 z) {v : Value} (hv : D.atKey (.int .i64 z) (.held zeroB) = .held v) :
    (Instr.lookup 98 (.map (some b)) (.int .i64 z) true).run Tryz.prog w = .ok (.tuple #[v, .bool (Maps.has D (.int .i64 z))]) w := by
  obtain ⟨u, ps, hrun, hu⟩ := h.look_ok keyed3 Tryz.underlying98 (zero89 w) (show heldR zeroB = some (.held zeroB, []) from rfl) (key_of z hz)
  rw [hv] at hu
  rw [hrun, heldR_inj hu]
theorem kOf_inj {i j : Nat} (h : kOf i = kOf j) : i = j := by
  unfold kOf at h
  simp only [Lit.int.injEq, true_and] at h
  omega
theorem kOf_key (i : Nat) : WideAt.IsKeyLit (kOf i) := trivial
/-- No line, no entry. -/
theorem RepAt.none_ {w : World} {p b : Nat} {m : PM} {F : Nat → Prop} {dv ev : Value} {D : DataW Value} {G : Nat → Value} (h : RepAt w p m F dv b ev D G) {z : Int} (hz : m.has z = false) :
    D.atKey (.int .i64 z) (.held zeroB) = .held zeroB ∧ Maps.has D (.int .i64 z) = false := by
  have hn : Maps.has D (.int .i64 z) = false := by
    cases hh : Maps.has D (.int .i64 z)
    · rfl
    · obtain ⟨i, hi, hk⟩ := h.off _ hh
      unfold kOf at hk
      simp only [Lit.int.injEq, true_and] at hk
      subst hk
      unfold PM.has at hz
      simp only [decide_eq_false_iff_not] at hz
      omega
  exact ⟨Maps.atKey_of_not_has hn _, hn⟩
/-- A line with nothing pending has no entry. -/
theorem RepAt.idle {w : World} {p b : Nat} {m : PM} {F : Nat → Prop} {dv ev : Value} {D : DataW Value} {G : Nat → Value} (h : RepAt w p m F dv b ev D G) {i : Nat} (hi : i < m.L.length) (he : (m.line i).pend = []) : G i = .slice none 0 0 ∧ (m.line i).mark = 0 := by
  have hn : Maps.has D (kOf i) = false := by rw [h.has_ i hi, he]; simp
  have h1 := h.at_ i hi
  rw [Maps.atKey_of_not_has hn] at h1
  unfold zeroB backV at h1
  simp only [DataW.held.injEq, Value.agg.injEq] at h1
  have h2 := congrArg Array.toList h1
  simp only [List.cons.injEq, Value.int.injEq] at h2
  exact ⟨h2.1.symm, by omega⟩
def idxOf : Lit → Nat
  | .int _ z => z.toNat
  | _ => 0
theorem nodup_small : ∀ (n : Nat) (l : List Nat), l.Nodup → (∀ x ∈ l, x < n) → l.length ≤ n := by
  intro n
  induction n with
  | zero =>
    intro l _ hl
    cases l with
    | nil => exact Nat.le_refl _
    | cons q r => have := hl q (by simp); omega
  | succ n ih =>
    intro l hp hl
    have h1 := ih (l.filter fun q => q != n) (hp.filter _) fun q hq => by
      obtain ⟨hq1, hq2⟩ := List.mem_filter.1 hq
      have := hl q hq1
      simp at hq2
      omega
    have h2 : l.length ≤ (l.filter fun q => q != n).length + 1 := by
      clear h1 ih hl
      induction l with
      | nil => simp
      | cons q r ih =>
        obtain ⟨hq, hr⟩ := List.nodup_cons.1 hp
        by_cases he : q = n
        · subst he
          have hf : r.filter (fun x => x != q) = r := by
            rw [List.filter_eq_self]
            intro x hx
            simp only [bne_iff_ne, ne_eq]
            exact fun e => hq (e ▸ hx)
          rw [List.filter_cons_of_neg (by simp), hf]
          simp
        · rw [List.filter_cons_of_pos (by simpa using he)]
          have := ih hr
          simp only [List.length_cons]
          omega
    omega
/-- The map is no larger than there are lines. -/
theorem RepAt.few {w : World} {p b : Nat} {m : PM} {F : Nat → Prop} {dv ev : Value} {D : DataW Value} {G : Nat → Value} (h : RepAt w p m F dv b ev D G) : Maps.size D ≤ m.L.length := by
  obtain ⟨es, rfl, hp⟩ := h.map.tidy keyed3
  have hall : ∀ q ∈ es, ∃ i, i < m.L.length ∧ q.1 = kOf i := fun q hq => by
    refine h.off q.1 ?_
    show es.any (fun r => r.1.sameKey q.1) = true
    rw [List.any_eq_true]
    obtain ⟨es', e, _, hk⟩ := h.map.entries keyed3
    cases e
    exact ⟨q, hq, WideAt.sameKey_self (hk q hq)⟩
  show es.length ≤ m.L.length
  have hn : (es.map fun q => idxOf q.1).Nodup := by
    rw [List.nodup_iff_pairwise_ne, List.pairwise_map]
    refine List.Pairwise.imp_of_mem ?_ hp
    intro x y hx hy hne he
    obtain ⟨i, _, hi⟩ := hall x hx
    obtain ⟨j, _, hj⟩ := hall y hy
    rw [hi, hj] at he hne
    have : i = j := by unfold idxOf kOf at he; simpa using he
    subst this
    exact hne rfl
  have := nodup_small _ _ hn fun x hx => by
    obtain ⟨q, hq, rfl⟩ := List.mem_map.1 hx
    obtain ⟨i, hi, he⟩ := hall q hq
    rw [he]
    show ((i : Int)).toNat < m.L.length
    omega
  simpa using this
end Go.Proofs.YtpojhplnhppcpaaGreatDoor
namespace Go.Proofs.YtpojhplnhppcpaaGreatDoor
open Go.RowKit
set_option maxRecDepth 100000 in
set_option maxHeartbeats 400000 in
theorem isWord_any (z : Int) (w : World) :
    Calls Tryz.prog 126 #[.int .i64 z] w fun e w' => e = .returned (.bool (okW z)) ∧ w' = w := by
  unfold okW
  go_enter Tryz.func126, Tryz.ntmps126
  by_cases h1 : 0 ≤ z
  · by_cases h2 : z ≤ 1099511627775
    · go_wp2_with fail
      go_ret
      exact ⟨ret_bool (by simp; try omega), rfl⟩
    · go_wp2_with fail
      go_ret
      exact ⟨ret_bool (by simp; try omega), rfl⟩
  · go_wp2_with fail
    go_ret
    exact ⟨ret_bool (by simp; try omega), rfl⟩
def okC (z : Int) : Bool := decide (0 ≤ z ∧ z ≤ 1023)
theorem validB_eq (L : List Int) (c : Int) : validB L c = (L.all okW && okC c) := rfl
set_option maxRecDepth 100000 in
set_option maxHeartbeats 400000 in
theorem isCodeM_any (z : Int) (w : World) :
    Calls Tryz.prog 93 #[.int .i64 z] w fun e w' => e = .returned (.bool (okC z)) ∧ w' = w := by
  unfold okC
  go_enter Tryz.func93, Tryz.ntmps93
  by_cases h1 : 0 ≤ z
  · by_cases h2 : z ≤ 1023
    · go_wp2_with fail
      go_ret
      exact ⟨ret_bool (by simp; try omega), rfl⟩
    · go_wp2_with fail
      go_ret
      exact ⟨ret_bool (by simp; try omega), rfl⟩
  · go_wp2_with fail
    go_ret
    exact ⟨ret_bool (by simp; try omega), rfl⟩
set_option maxRecDepth 100000 in
set_option maxHeartbeats 400000 in
theorem areWords_any (L : List Int) (w : World) (h8 : L.length = 8) :
    Calls Tryz.prog 92 #[.agg (iv L).toArray] w fun e w' => e = .returned (.bool (L.all okW)) ∧ Below w.heap.size w w' := by
  have HI := Lib.hid (size22' h8)
  have HB := Lib.hid (bel_new w (.cells (iv L).toArray 66))
  have HA := Lib.hid (Arr.new w (iv L) 66)
  obtain ⟨R, hR⟩ : ∃ R, L.all okW = R := ⟨_, rfl⟩
  rw [hR]
  have HR := Lib.hid hR
  clear hR
  go_enter Tryz.func92, Tryz.ntmps92
  go_wp2_with ((with_reducible refine arm_row 66 w.heap.size 66 _ HA.out _ Tryz.underlying66 rfl HI.out rfl _ rfl ?_ ?_); focus rfl)
  obtain ⟨W, hW⟩ : ∃ W, w.alloc (.cells (iv L).toArray 66) = W := ⟨_, rfl⟩
  rw [hW] at HB ⊢
  clear hW HA
  go_loopw [6] (fun i wr => ∃ k : Nat, i = .int .i64 (k : Int) ∧ k ≤ 8 ∧ (∀ j, j < k → okW (L.getD j 0) = true) ∧ wr = W) (fun i _ => 8 - (intOf i).toNat)
  case atStart => exact ⟨0, rfl, by omega, fun j hj => by omega, rfl⟩
  case round =>
    obtain ⟨k, rfl, hk, hall, rfl⟩ := hrel
    by_cases hlt : k < 8
    · have hidx := index22 L k hlt h8 wr
      have hnot := fun h => not_all (L := L) (k := k) (by omega) h
      have hstep : okW (L.getD k 0) = true → ∀ j, j < k + 1 → okW (L.getD j 0) = true := fun h j hj => by
        rcases Nat.lt_succ_iff_lt_or_eq.1 hj with h1 | h1
        · exact hall j h1
        · subst h1; exact h
      have hc := isWord_any (L.getD k 0) wr
      generalize L.getD k 0 = v at *
      cases hv : okW v with
      | false =>
        rw [hv] at hc
        have HN := Lib.hid (hnot hv)
        clear hstep hnot hall hv
        go_wp2_with (go_at_call 126; refine hc.mono ?_; rintro e w' ⟨rfl, rfl⟩)
        go_ret
        exact ⟨ret_bool (by rw [← HR.out, HN.out]), HB.out⟩
      | true =>
        rw [hv] at hc
        have HS := Lib.hid (hstep hv)
        clear hstep hnot hall hv
        go_wp2_with (go_at_call 126; refine hc.mono ?_; rintro e w' ⟨rfl, rfl⟩)
        go_roundw
        case rel => exact ⟨k + 1, by simp, by omega, HS.out, trivial⟩
        case measure => simp [intOf]; omega
    · obtain rfl : k = 8 := by omega
      have ha := all_of h8 hall
      have HV := Lib.hid ha
      clear hall ha
      go_wp2_with fail
      go_ret
      exact ⟨ret_bool (by rw [← HR.out, HV.out]), HB.out⟩
section
variable {w : World} {p b : Nat} {m : PM} {F : Nat → Prop} {dv ev : Value} {D : DataW Value} {G : Nat → Value}
theorem RepAt.c0 (h : RepAt w p m F dv b ev D G) : w.cell? ⟨p, 0, none⟩ = some dv := h.mem.cell rfl
theorem RepAt.c1 (h : RepAt w p m F dv b ev D G) : w.cell? ⟨p, 1, none⟩ = some (.map (some b)) := h.mem.cell rfl
theorem RepAt.c2 (h : RepAt w p m F dv b ev D G) : w.cell? ⟨p, 2, none⟩ = some (.int .i64 m.span) := h.mem.cell rfl
theorem RepAt.c3 (h : RepAt w p m F dv b ev D G) : w.cell? ⟨p, 3, none⟩ = some ev := h.mem.cell rfl
end
set_option maxRecDepth 100000 in
set_option maxHeartbeats 400000 in
theorem hasLine_any (p : Nat) (z : Int) (m : PM) (F : Nat → Prop) (w : World) (hm : m.Ok) (h : Rep w p m F) :
    Calls Tryz.prog 65 #[.pointer (some ⟨p, 0, none⟩), .int .i64 z] w fun e w' => e = .returned (.bool (m.has z)) ∧ w' = w := by
  obtain ⟨dv, b, ev, D, G, h⟩ := h
  have c0 := h.c0
  obtain ⟨A, cap, rfl, _, _, _, _⟩ := h.dur.shape
  have hf := hm.few
  unfold PM.has
  generalize m.L.length = n at *
  clear h hm
  go_enter Tryz.func65, Tryz.ntmps65
  by_cases h1 : 0 ≤ z
  · by_cases h2 : z < n
    · go_wp2_with fail
      go_ret
      exact ⟨ret_bool (by simp; try omega), rfl⟩
    · go_wp2_with fail
      go_ret
      exact ⟨ret_bool (by simp; try omega), rfl⟩
  · go_wp2_with fail
    go_ret
    exact ⟨ret_bool (by simp; try omega), rfl⟩
set_option maxRecDepth 100000 in
set_option maxHeartbeats 400000 in
theorem hasAddress_any (p : Nat) (z : Int) (m : PM) (F : Nat → Prop) (w : World) (hz : I64 z) (hm : m.Ok) (h : Rep w p m F) :
    Calls Tryz.prog 90 #[.pointer (some ⟨p, 0, none⟩), .int .i64 z] w fun e w' => e = .returned (.bool (m.hasA z)) ∧ w' = w := by
  have hc := hasLine_any p (z / 8) m F w hm h
  obtain ⟨hz1, hz2⟩ := hz
  unfold PM.hasA
  unfold PM.has at hc
  generalize m.L.length = n at *
  clear h hm
  by_cases h1 : 0 ≤ z
  · have e : decide (0 ≤ z / 8 ∧ z / 8 < (n : Int)) = decide (0 ≤ z ∧ z < 8 * (n : Int)) := by
      rw [decide_eq_decide]
      omega
    rw [e] at hc
    generalize decide (0 ≤ z ∧ z < 8 * (n : Int)) = r at *
    have HC := Lib.hid hc
    clear e hc
    go_enter Tryz.func90, Tryz.ntmps90
    go_wp2_with (go_at_call 65; refine HC.out.mono ?_; rintro e w' ⟨rfl, rfl⟩)
    go_ret
    exact ⟨rfl, rfl⟩
  · go_enter Tryz.func90, Tryz.ntmps90
    go_wp2_with fail
    go_ret
    exact ⟨ret_bool (by simp; try omega), rfl⟩
set_option maxRecDepth 100000 in
set_option maxHeartbeats 400000 in
theorem lines_any (p : Nat) (m : PM) (F : Nat → Prop) (w : World) (h : Rep w p m F) :
    Calls Tryz.prog 78 #[.pointer (some ⟨p, 0, none⟩)] w fun e w' => e = .returned (.int .i64 (m.L.length : Nat)) ∧ w' = w := by
  obtain ⟨dv, b, ev, D, G, h⟩ := h
  have c0 := h.c0
  obtain ⟨A, cap, rfl, _, _, _, _⟩ := h.dur.shape
  generalize m.L.length = n at *
  clear h
  go_enter Tryz.func78, Tryz.ntmps78
  go_wp2_with fail
  go_ret
  exact ⟨rfl, rfl⟩
end Go.Proofs.YtpojhplnhppcpaaGreatDoor
namespace Go.Proofs.YtpojhplnhppcpaaGreatDoor
open Go.RowKit
theorem Sl.own_bound {w : World} {B : Nat} {v v' : Value} (h : v'.ownBlock = v.ownBlock ∨ v'.ownBlock = some w.heap.size) (hv : ∀ k, v.ownBlock = some k → B ≤ k) (hB : B ≤ w.heap.size) : ∀ k, v'.ownBlock = some k → B ≤ k := by
  intro k hk
  rcases h with h | h
  · exact hv k (h ▸ hk)
  · rw [h] at hk
    cases hk
    exact hB
/-- A copy: the same cells in new blocks. -/
def Cloned (w : World) (e sz n : Nat) (xs : List Value) (en : Ending) (w' : World) : Prop :=
  ∃ v', en = .returned v' ∧ Sl w' e sz v' n xs ∧ (∀ k, v'.ownBlock = some k → w.heap.size ≤ k) ∧ Below w.heap.size w w'
theorem infoLine : (Tryz.prog.info? 77).map (fun i => (i.zero, i.size, i.bytes)) = some (some (.agg #[.int .i64 0, .int .i64 0, .int .i64 0, .int .i64 0, .int .i64 0, .int .i64 0, .int .i64 0, .int .i64 0, .int .i64 0]), 9, 72) := by kernel_rfl
set_option maxRecDepth 100000 in
set_option maxHeartbeats 1000000 in
theorem cloneLine_any (v : Value) (n : Nat) (xs : List Value) (w : World) (h : Sl w 77 9 v n xs) (h1 : ∀ u ∈ xs, u.oneCell' = true) (hn : n ≤ 1000000) :
    Calls Tryz.prog 60 #[v] w (Cloned w 77 9 n xs) := by
  obtain ⟨A, cap, rfl, _, _, hnone, hsome⟩ := h.shape
  obtain ⟨i0, hi, hz0, hz1, hz2⟩ := info_parts infoLine
  have hlen := h.1
  have q : ∀ (w : World) (a : Option Addr) (n c n' c' : Nat), (binOp .eql 23 (.slice a n c) (.slice none n' c')).run Tryz.prog w = .ok (.bool a.isNone) w := fun w a n c n' c' => Lib.run_eql_slice_nil w _ _ a n c n' c' Tryz.underlying23
  cases A with
  | none =>
    obtain ⟨rfl, rfl, rfl⟩ := hnone rfl
    clear h h1 hn hsome hnone hlen hi hz0 hz1 hz2
    go_enter Tryz.func60, Tryz.ntmps60
    go_wp2_with fail
    go_ret
    exact ⟨_, rfl, Sl.nil _ _ _, fun k hk => by simp [Value.ownBlock] at hk, Below.refl _ _⟩
  | some ad =>
    obtain ⟨hsp, hob, hc⟩ := hsome ad rfl
    obtain ⟨g, o, sp⟩ := ad
    obtain rfl : sp = none := hsp
    have HC := Lib.hid hc
    have H1 := Lib.hid h1
    have HL := Lib.hid hlen
    have HI := Lib.hid hi
    have HZ0 := Lib.hid hz0
    have HZ1 := Lib.hid hz1
    have HZ2 := Lib.hid hz2
    clear h hnone hsome hc h1 hob hlen hi hz0 hz1 hz2
    go_enter Tryz.func60, Tryz.ntmps60
    go_wp2_with (at_builtin; refine wpList_append_sl _ rfl _ _ 23 rfl 77 i0 _ 9 72 Tryz.underlying23 HI.out HZ0.out HZ1.out HZ2.out rfl (by decide) _ 0 [] rfl (Sl.of_row (World.ownsRow_made (base := 0) w #[] 0 (Nat.zero_le _) (Nat.zero_le _) (by simp))) ⟨g, o, none⟩ n cap xs rfl HL.out ?qc H1.out (by unfold maxLen; omega) (by omega) ?_)
    case qc =>
      intro j u hj
      have hcell := HC.out j u hj
      exact (World.cell?_alloc_lt w _ _ (block_lt_of_cell hcell)).trans hcell
    intro v' w1 hs hg ho
    have HS := Lib.hid hs
    have HB : Hid (Below w.heap.size w w1) := Lib.hid ((bel_new w _).grown hg (by simp) (by intro k hk; simp [Value.ownBlock] at hk; omega))
    have HO : Hid (∀ k, v'.ownBlock = some k → w.heap.size ≤ k) := Lib.hid (by
      intro k hk
      rcases ho with h | h
      · rw [hk] at h
        simp [Value.ownBlock] at h
        omega
      · rw [hk] at h
        simp at h
        omega)
    clear hs hg ho
    go_wp2_with fail
    go_ret
    exact ⟨_, rfl, by simpa using HS.out, HO.out, HB.out⟩
theorem infoStore : (Tryz.prog.info? 105).map (fun i => (i.zero, i.size, i.bytes)) = some (some (.agg #[.int .i64 0, .int .i64 0]), 2, 16) := by kernel_rfl
set_option maxRecDepth 100000 in
set_option maxHeartbeats 1000000 in
theorem cloneStore_any (v : Value) (n : Nat) (xs : List Value) (w : World) (h : Sl w 105 2 v n xs) (h1 : ∀ u ∈ xs, u.oneCell' = true) (hn : n ≤ 1000000) :
    Calls Tryz.prog 62 #[v] w (Cloned w 105 2 n xs) := by
  obtain ⟨A, cap, rfl, _, _, hnone, hsome⟩ := h.shape
  obtain ⟨i0, hi, hz0, hz1, hz2⟩ := info_parts infoStore
  have hlen := h.1
  have q : ∀ (w : World) (a : Option Addr) (n c n' c' : Nat), (binOp .eql 44 (.slice a n c) (.slice none n' c')).run Tryz.prog w = .ok (.bool a.isNone) w := fun w a n c n' c' => Lib.run_eql_slice_nil w _ _ a n c n' c' Tryz.underlying44
  cases A with
  | none =>
    obtain ⟨rfl, rfl, rfl⟩ := hnone rfl
    clear h h1 hn hsome hnone hlen hi hz0 hz1 hz2
    go_enter Tryz.func62, Tryz.ntmps62
    go_wp2_with fail
    go_ret
    exact ⟨_, rfl, Sl.nil _ _ _, fun k hk => by simp [Value.ownBlock] at hk, Below.refl _ _⟩
  | some ad =>
    obtain ⟨hsp, hob, hc⟩ := hsome ad rfl
    obtain ⟨g, o, sp⟩ := ad
    obtain rfl : sp = none := hsp
    have HC := Lib.hid hc
    have H1 := Lib.hid h1
    have HL := Lib.hid hlen
    have HI := Lib.hid hi
    have HZ0 := Lib.hid hz0
    have HZ1 := Lib.hid hz1
    have HZ2 := Lib.hid hz2
    clear h hnone hsome hc h1 hob hlen hi hz0 hz1 hz2
    go_enter Tryz.func62, Tryz.ntmps62
    go_wp2_with (at_builtin; refine wpList_append_sl _ rfl _ _ 44 rfl 105 i0 _ 2 16 Tryz.underlying44 HI.out HZ0.out HZ1.out HZ2.out rfl (by decide) _ 0 [] rfl (Sl.of_row (World.ownsRow_made (base := 0) w #[] 0 (Nat.zero_le _) (Nat.zero_le _) (by simp))) ⟨g, o, none⟩ n cap xs rfl HL.out ?qc H1.out (by unfold maxLen; omega) (by omega) ?_)
    case qc =>
      intro j u hj
      have hcell := HC.out j u hj
      exact (World.cell?_alloc_lt w _ _ (block_lt_of_cell hcell)).trans hcell
    intro v' w1 hs hg ho
    have HS := Lib.hid hs
    have HB : Hid (Below w.heap.size w w1) := Lib.hid ((bel_new w _).grown hg (by simp) (by intro k hk; simp [Value.ownBlock] at hk; omega))
    have HO : Hid (∀ k, v'.ownBlock = some k → w.heap.size ≤ k) := Lib.hid (by
      intro k hk
      rcases ho with h | h
      · rw [hk] at h
        simp [Value.ownBlock] at h
        omega
      · rw [hk] at h
        simp at h
        omega)
    clear hs hg ho
    go_wp2_with fail
    go_ret
    exact ⟨_, rfl, by simpa using HS.out, HO.out, HB.out⟩
theorem infoEvent : (Tryz.prog.info? 68).map (fun i => (i.zero, i.size, i.bytes)) = some (some (.agg #[.int .i64 0, .int .i64 0, .int .i64 0, .int .i64 0, .int .i64 0, .int .i64 0, .int .i64 0, .int .i64 0, .int .i64 0, .int .i64 0, .int .i64 0, .int .i64 0]), 12, 96) := by kernel_rfl
set_option maxRecDepth 100000 in
set_option maxHeartbeats 1000000 in
theorem cloneEvent_any (v : Value) (n : Nat) (xs : List Value) (w : World) (h : Sl w 68 12 v n xs) (h1 : ∀ u ∈ xs, u.oneCell' = true) (hn : n ≤ 1000000) :
    Calls Tryz.prog 59 #[v] w (Cloned w 68 12 n xs) := by
  obtain ⟨A, cap, rfl, _, _, hnone, hsome⟩ := h.shape
  obtain ⟨i0, hi, hz0, hz1, hz2⟩ := info_parts infoEvent
  have hlen := h.1
  have q : ∀ (w : World) (a : Option Addr) (n c n' c' : Nat), (binOp .eql 24 (.slice a n c) (.slice none n' c')).run Tryz.prog w = .ok (.bool a.isNone) w := fun w a n c n' c' => Lib.run_eql_slice_nil w _ _ a n c n' c' Tryz.underlying24
  cases A with
  | none =>
    obtain ⟨rfl, rfl, rfl⟩ := hnone rfl
    clear h h1 hn hsome hnone hlen hi hz0 hz1 hz2
    go_enter Tryz.func59, Tryz.ntmps59
    go_wp2_with fail
    go_ret
    exact ⟨_, rfl, Sl.nil _ _ _, fun k hk => by simp [Value.ownBlock] at hk, Below.refl _ _⟩
  | some ad =>
    obtain ⟨hsp, hob, hc⟩ := hsome ad rfl
    obtain ⟨g, o, sp⟩ := ad
    obtain rfl : sp = none := hsp
    have HC := Lib.hid hc
    have H1 := Lib.hid h1
    have HL := Lib.hid hlen
    have HI := Lib.hid hi
    have HZ0 := Lib.hid hz0
    have HZ1 := Lib.hid hz1
    have HZ2 := Lib.hid hz2
    clear h hnone hsome hc h1 hob hlen hi hz0 hz1 hz2
    go_enter Tryz.func59, Tryz.ntmps59
    go_wp2_with (at_builtin; refine wpList_append_sl _ rfl _ _ 24 rfl 68 i0 _ 12 96 Tryz.underlying24 HI.out HZ0.out HZ1.out HZ2.out rfl (by decide) _ 0 [] rfl (Sl.of_row (World.ownsRow_made (base := 0) w #[] 0 (Nat.zero_le _) (Nat.zero_le _) (by simp))) ⟨g, o, none⟩ n cap xs rfl HL.out ?qc H1.out (by unfold maxLen; omega) (by omega) ?_)
    case qc =>
      intro j u hj
      have hcell := HC.out j u hj
      exact (World.cell?_alloc_lt w _ _ (block_lt_of_cell hcell)).trans hcell
    intro v' w1 hs hg ho
    have HS := Lib.hid hs
    have HB : Hid (Below w.heap.size w w1) := Lib.hid ((bel_new w _).grown hg (by simp) (by intro k hk; simp [Value.ownBlock] at hk; omega))
    have HO : Hid (∀ k, v'.ownBlock = some k → w.heap.size ≤ k) := Lib.hid (by
      intro k hk
      rcases ho with h | h
      · rw [hk] at h
        simp [Value.ownBlock] at h
        omega
      · rw [hk] at h
        simp at h
        omega)
    clear hs hg ho
    go_wp2_with fail
    go_ret
    exact ⟨_, rfl, by simpa using HS.out, HO.out, HB.out⟩
end Go.Proofs.YtpojhplnhppcpaaGreatDoor
