/-
  Lines of words, their exclusive or; their distance as a plain function. Two lines are compared. What flips do to lines with their codes. One bit is corrected, two are found.
-/
import Derived.Test.YtpojhplnhppcpaaGreatDoorQC3
import Derived.DeepKeys
namespace Go.Proofs.YtpojhplnhppcpaaGreatDoor
open Go.RowKit
theorem arm_rowg {ops : Array Oper} {rest : List Oper} {o : Oper} {a : Act} {Q : Exit → Act → World → Prop} {w : World} (ty g t : Nat) (cs : List Value) (hA : Arr w g t cs) (d : TypeDesc) (hu : Tryz.prog.underlying ty = some d) (hd : d.isRow = true) (hi : (Tryz.prog.info? ty).map (·.size) = some cs.length)
    (hw : Region.wanted o (yielded ops a.tmps) = true) (x : Operand) (ho : o.op = .load ty x) (hx : a.eval x = .pointer (some ⟨g, 0, none⟩))
    (h : wpList Tryz.prog ops Q rest (a.put o.dst (.agg cs.toArray)) w) : wpList Tryz.prog ops Q (o :: rest) a w := by
  refine wpList_step fun K hK => ?_
  rw [if_pos hw]
  exact wp_load_mid ty x ho g 0 hx cs d hA.range hu hd hi (hK _ _ h)
/-- The exclusive or of two lines, word by word. -/
def xorL (vs us : List Nat) : List Nat := List.zipWith (fun a b => a ^^^ b) vs us
def mix (vs us : List Nat) : Nat → List Nat
  | 0 => vs
  | k + 1 => (mix vs us k).set k (vs.getD k 0 ^^^ us.getD k 0)
theorem mix_len (vs us : List Nat) : ∀ k, (mix vs us k).length = vs.length := by
  intro k
  induction k with
  | zero => rfl
  | succ k ih => unfold mix; rw [List.length_set, ih]
theorem mix_get (vs us : List Nat) : ∀ k j, j < vs.length → (mix vs us k).getD j 0 = if j < k then vs.getD j 0 ^^^ us.getD j 0 else vs.getD j 0 := by
  intro k
  induction k with
  | zero => intro j _; rw [if_neg (by omega)]; rfl
  | succ k ih =>
    intro j hj
    unfold mix
    rw [List.getD_eq_getElem?_getD, List.getElem?_set]
    by_cases h : k = j
    · subst h
      rw [if_pos rfl, mix_len, if_pos hj, if_pos (by omega)]
      rfl
    · rw [if_neg h, ← List.getD_eq_getElem?_getD, ih j hj]
      by_cases h2 : j < k
      · rw [if_pos h2, if_pos (by omega)]
      · rw [if_neg h2, if_neg (by omega)]
theorem xorL_len (vs us : List Nat) (h : us.length = vs.length) : (xorL vs us).length = vs.length := by simp [xorL, h]
theorem xorL_get (vs us : List Nat) (h : us.length = vs.length) (j : Nat) (hj : j < vs.length) : (xorL vs us).getD j 0 = vs.getD j 0 ^^^ us.getD j 0 := by
  have hj2 : j < us.length := by omega
  have hz : j < (xorL vs us).length := by rw [xorL_len vs us h]; exact hj
  rw [List.getD_eq_getElem?_getD, List.getElem?_eq_getElem hz]
  simp [xorL, hj, hj2]
theorem mix_all (vs us : List Nat) (h : us.length = vs.length) : mix vs us vs.length = xorL vs us := by
  refine List.ext_getElem (by rw [mix_len, xorL_len vs us h]) fun j h1 h2 => ?_
  have hj : j < vs.length := by rw [mix_len] at h1; exact h1
  have e1 := mix_get vs us vs.length j hj
  rw [if_pos hj, ← xorL_get vs us h j hj] at e1
  rw [List.getD_eq_getElem?_getD, List.getD_eq_getElem?_getD, List.getElem?_eq_getElem h1, List.getElem?_eq_getElem h2] at e1
  exact e1
theorem get_lt {ws : List Nat} (hs : ∀ x ∈ ws, x < 1099511627776) (k : Nat) : ws.getD k 0 < 1099511627776 := by
  rw [List.getD_eq_getElem?_getD]
  cases h : ws[k]? with
  | none => decide
  | some x =>
    rcases List.getElem?_eq_some_iff.1 h with ⟨hk, rfl⟩
    exact hs _ (List.getElem_mem hk)
theorem xorL_lt {vs us : List Nat} (h : us.length = vs.length) (hv : ∀ x ∈ vs, x < 1099511627776) (hu : ∀ x ∈ us, x < 1099511627776) : ∀ x ∈ xorL vs us, x < 1099511627776 := by
  intro x hx
  obtain ⟨j, hj, rfl⟩ := List.mem_iff_getElem.1 hx
  have hj2 : j < vs.length := by rw [xorL_len vs us h] at hj; exact hj
  have e := xorL_get vs us h j hj2
  rw [List.getD_eq_getElem?_getD, List.getElem?_eq_getElem hj] at e
  rw [show (xorL vs us)[j] = vs.getD j 0 ^^^ us.getD j 0 from e]
  exact Nat.xor_lt_two_pow (n := 40) (get_lt hv j) (get_lt hu j)
/-- In how many bits two lines with their codes differ. -/
def distZ (V : List Int) (a : Int) (U : List Int) (b : Int) : Int :=
  if validB V a ∧ validB U b then ((popT (xorL (nw V) (nw U)) (a.toNat ^^^ b.toNat) : Nat) : Int) else -1
end Go.Proofs.YtpojhplnhppcpaaGreatDoor
namespace Go.Proofs.YtpojhplnhppcpaaGreatDoor
open Go.RowKit
theorem mapM_of {α β : Type} (f : α → Option β) (g : α → β) : ∀ (is : List α), (∀ i ∈ is, f i = some (g i)) → is.mapM f = some (is.map g)
  | [], _ => by simp
  | i :: is, h => by
    rw [List.mapM_cons, h i (by simp), mapM_of f g is fun j hj => h j (by simp [hj])]
    rfl
def I64 (z : Int) : Prop := -9223372036854775808 ≤ z ∧ z ≤ 9223372036854775807
theorem lits_one (D : Nat) (z : Int) (h : I64 z) : Tryz.prog.keyLits (D + 1) 3 [.int .i64 z] = some [.int .i64 z] := by
  have hw : (Lit.int .i64 z).wf = true := by
    unfold I64 at h
    simp [Lit.wf, IntKind.min, IntKind.max, IntKind.bits, IntKind.signed]
    omega
  simp [Program.keyLits, Tryz.underlying3, hw]
def litsOf (l : List Int) : List Lit := l.map fun z => .int .i64 z
theorem litsOf_inj {l m : List Int} (h : litsOf l = litsOf m) : l = m := by
  unfold litsOf at h
  refine List.map_inj_right (f := fun z : Int => Lit.int .i64 z) (fun a b hab => ?_) |>.1 h
  simpa using hab
theorem lits_row (ty n : Nat) (hu : Tryz.prog.underlying ty = some (.array n 3)) (hc : Tryz.prog.cellsOf ty = n) (l : List Int) (hl : l.length = n) (hz : ∀ z ∈ l, I64 z) : Tryz.prog.keyLits 2 ty (iv l) = some (litsOf l) := by
  have c5 : Tryz.prog.cellsOf 3 = 1 := by kernel_rfl
  unfold Program.keyLits
  rw [hu]
  simp only
  rw [if_pos (by rw [iv_len, hl, hc]), mapM_of _ (fun i => [Lit.int .i64 (l.getD i 0)])]
  · simp only [Option.map_some, Option.some.injEq]
    unfold litsOf
    have : ((List.range n).map fun i => [Lit.int .i64 (l.getD i 0)]).flatten = (List.range n).map fun i => Lit.int .i64 (l.getD i 0) := by
      induction (List.range n) with
      | nil => rfl
      | cons x r ih => simp only [List.map_cons, List.flatten_cons, ih]; rfl
    rw [this]
    apply List.ext_getElem
    · simp [hl]
    · intro i h1 h2
      simp at h2
      simp [h2]
  · intro i hi
    have hi2 : i < l.length := by rw [hl]; exact List.mem_range.1 hi
    rw [c5, Nat.mul_one]
    have e : ((iv l).drop i).take 1 = [.int .i64 (l.getD i 0)] := by
      rw [List.drop_eq_getElem_cons (by rw [iv_len]; exact hi2)]
      simp [iv, hi2]
    rw [e]
    refine lits_one 0 _ (hz _ ?_)
    rw [List.getD_eq_getElem?_getD, List.getElem?_eq_getElem hi2]
    exact List.getElem_mem hi2
theorem eq_line (l m : List Int) (hl : l.length = 8) (hm : m.length = 8) (zl : ∀ z ∈ l, I64 z) (zm : ∀ z ∈ m, I64 z) (w : World) :
    (Op.equalIn 10000 66 (.agg (iv l).toArray) (.agg (iv m).toArray)).run Tryz.prog w = .ok (decide (l = m)) w := by
  have hu := Tryz.underlying66
  have hc : Tryz.prog.cellsOf 66 = 8 := by kernel_rfl
  have hk : Tryz.prog.keyTypeAt 2 66 = true := by kernel_rfl
  have hf : ∀ q : List Int, q.length = 8 → (Value.agg (iv q).toArray).formed Tryz.prog 66 = true := by
    intro q hq
    unfold Value.formed
    rw [hu]
    simp [iv_len, hq, hc]
  have hcells : ∀ q : List Int, (Value.agg (iv q).toArray).cells.toList = iv q := fun q => by simp [Value.cells]
  obtain ⟨r, hr, hiff⟩ := run_equalIn_deep (P := Tryz.prog) 9998 2 66 hk w 2 2 (.agg (iv l).toArray) (.agg (iv m).toArray) (litsOf l) (litsOf m) (hf l hl) (hf m hm) (by rw [hcells]; exact lits_row 66 8 hu hc l hl zl) (by rw [hcells]; exact lits_row 66 8 hu hc m hm zm)
  have e : r = decide (l = m) := by
    rw [Bool.eq_iff_iff, hiff, decide_eq_true_iff]
    exact ⟨litsOf_inj, fun h => by rw [h]⟩
  rw [← e]
  exact hr
theorem ci_i64 {ws : List Nat} (h : ∀ x ∈ ws, x < 1099511627776) : ∀ z ∈ ci ws, I64 z := by
  intro z hz
  obtain ⟨x, hx, rfl⟩ := List.mem_map.1 hz
  have := h x hx
  unfold I64
  omega
theorem z8_i64 : ∀ z ∈ Z8, I64 z := by
  intro z hz
  have e : z = 0 := by simpa [Z8] using hz
  subst e
  unfold I64
  omega
theorem ret_t2 {a b a' b' : Int} (h1 : a = a') (h2 : b = b') : Ending.returned (.tuple #[.int .i64 a, .int .i64 b]) = .returned (.tuple #[.int .i64 a', .int .i64 b']) := by rw [h1, h2]
end Go.Proofs.YtpojhplnhppcpaaGreatDoor
namespace Go.Proofs.YtpojhplnhppcpaaGreatDoor
open Go.RowKit
theorem okBit_cast {k b : Nat} (h : okBit k b = true) : (k < 8 ∧ dataB (k : Int) (b : Int) = true) ∨ (k = 8 ∧ dataB (k : Int) (b : Int) = false ∧ codeB (k : Int) (b : Int) = true) := by
  unfold okBit at h
  simp at h
  by_cases hk : k < 8
  · left
    refine ⟨hk, ?_⟩
    unfold dataB
    simp
    omega
  · right
    refine ⟨by omega, ?_, ?_⟩
    · unfold dataB
      simp
      omega
    · unfold codeB
      simp
      omega
theorem nine_get8 (ws : List Nat) (c : Nat) (h8 : ws.length = 8) : (ws ++ [c]).getD 8 0 = c := by
  rw [List.getD_eq_getElem?_getD, List.getElem?_append_right (by omega), h8]
  rfl
theorem flipR_flp {ws : List Nat} {c k b : Nat} (h8 : ws.length = 8) (h : okBit k b = true) : (flipR ws c k b).1 ++ [(flipR ws c k b).2] = flp (ws ++ [c]) k b := by
  unfold flipR
  rcases okBit_cast h with ⟨hk, hd⟩ | ⟨hk, hd, hc⟩
  · rw [hd, if_pos rfl, Int.toNat_natCast, Int.toNat_natCast]
    unfold flp
    show ws.set k _ ++ [c] = _
    rw [List.set_append_left _ _ (by omega)]
    congr 3
    rw [List.getD_eq_getElem?_getD, List.getD_eq_getElem?_getD, List.getElem?_append_left (by omega)]
  · rw [hd, hc, if_neg (by decide), if_pos rfl, Int.toNat_natCast]
    subst hk
    unfold flp
    rw [nine_get8 ws c h8, List.set_append_right _ _ (by omega), h8]
    rfl
/-- A line, a code and a bit give a line and a code again. -/
theorem flip_nine {ws : List Nat} {c k b : Nat} (h8 : ws.length = 8) (hs : ∀ x ∈ ws, x < 1099511627776) (hc : c < 1024) (h : okBit k b = true) :
    (flipR ws c k b).1.length = 8 ∧ (∀ x ∈ (flipR ws c k b).1, x < 1099511627776) ∧ (flipR ws c k b).2 < 1024 := by
  have hn := (nine_of h8 hs hc).flp h
  have e := flipR_flp (c := c) h8 h
  have hl : (flipR ws c k b).1.length = 8 := by rw [flipR_len, h8]
  rw [← e] at hn
  refine ⟨hl, fun x hx => hn.small x (List.mem_append_left _ hx), ?_⟩
  have := hn.code
  rwa [nine_get8 _ _ hl] at this
theorem app_inj {a b : List Nat} {x y : Nat} (hl : a.length = b.length) (h : a ++ [x] = b ++ [y]) : a = b ∧ x = y := by
  obtain ⟨h1, h2⟩ := List.append_inj h hl
  exact ⟨h1, by simpa using h2⟩
theorem flip_back {ws : List Nat} {c k b : Nat} (h8 : ws.length = 8) (h : okBit k b = true) : flipR (flipR ws c k b).1 (flipR ws c k b).2 k b = (ws, c) := by
  have hl : (flipR ws c k b).1.length = 8 := by rw [flipR_len, h8]
  have e := flipR_flp (ws := (flipR ws c k b).1) (c := (flipR ws c k b).2) hl h
  rw [flipR_flp h8 h, flp_flp] at e
  obtain ⟨e1, e2⟩ := app_inj (by rw [flipR_len, flipR_len]) e
  exact Prod.ext e1 e2
theorem synT_flip {ws : List Nat} {c k b : Nat} (h8 : ws.length = 8) (h : okBit k b = true) : synT (flipR ws c k b).1 (flipR ws c k b).2 = synT ws c ^^^ psn k b := by
  unfold synT
  rw [flipR_flp h8 h, synL_flp b (okBit_b h) _ 0 k (by have := okBit_k h; simp; omega), Nat.zero_add]
theorem popT_flip {ws : List Nat} {c k b : Nat} (h8 : ws.length = 8) (h : okBit k b = true) : popT (flipR ws c k b).1 (flipR ws c k b).2 % 2 = (popT ws c + 1) % 2 := by
  unfold popT
  rw [flipR_flp h8 h, popL_flp b (okBit_b h) _ k (by have := okBit_k h; simp; omega)]
  split
  · rename_i ht
    have := popL_pos (okBit_b h) _ k ht
    omega
  · rfl
theorem xorL_app (a b : List Nat) (x y : Nat) (h : a.length = b.length) : xorL (a ++ [x]) (b ++ [y]) = xorL a b ++ [x ^^^ y] := by
  unfold xorL
  rw [List.zipWith_append h]
  rfl
theorem popT_xor (a b : List Nat) (x y : Nat) (h : a.length = b.length) : popT (xorL a b) (x ^^^ y) = popL (xorL (a ++ [x]) (b ++ [y])) := by
  unfold popT
  rw [xorL_app a b x y h]
theorem xorL_self : ∀ (x : List Nat), popL (xorL x x) = 0 ∧ ∀ k, (xorL x x).getD k 0 = 0 := by
  intro x
  induction x with
  | nil => exact ⟨rfl, fun k => rfl⟩
  | cons n x ih =>
    have e : xorL (n :: x) (n :: x) = (n ^^^ n) :: xorL x x := rfl
    rw [e, Nat.xor_self]
    refine ⟨by simp only [popL, popW_zero, ih.1], fun k => ?_⟩
    cases k with
    | zero => rfl
    | succ k => exact ih.2 k
theorem xorL_flp (x y : List Nat) (k b : Nat) (hl : y.length = x.length) (hk : k < x.length) : xorL x (flp y k b) = flp (xorL x y) k b := by
  refine List.ext_getElem (by rw [xorL_len x _ (by rw [flp_len, hl]), flp_len, xorL_len x y hl]) fun j h1 h2 => ?_
  have hj : j < x.length := by rw [xorL_len x _ (by rw [flp_len, hl])] at h1; exact h1
  have e1 := xorL_get x (flp y k b) (by rw [flp_len, hl]) j hj
  have e2 := flp_get (xorL x y) k b j (by rw [xorL_len x y hl]; exact hk)
  have e3 := flp_get y k b j (by omega)
  have e4 := xorL_get x y hl k hk
  have e5 := xorL_get x y hl j hj
  rw [List.getD_eq_getElem?_getD, List.getElem?_eq_getElem h1] at e1
  rw [List.getD_eq_getElem?_getD, List.getElem?_eq_getElem h2] at e2
  refine e1.trans (Eq.trans ?_ e2.symm)
  rw [e3]
  by_cases h : j = k
  · subst h
    rw [if_pos rfl, if_pos rfl, e4, Nat.xor_assoc]
  · rw [if_neg h, if_neg h, e5]
theorem dist_one (x : List Nat) (k b : Nat) (hk : k < x.length) (hb : b < 40) : popL (xorL x (flp x k b)) = 1 := by
  rw [xorL_flp x x k b rfl hk, popL_flp b hb _ k (by rw [xorL_len x x rfl]; exact hk), (xorL_self x).2 k, Nat.zero_testBit, (xorL_self x).1]
  rfl
theorem dist_two (x : List Nat) (k b k' b' : Nat) (hk : k < x.length) (hb : b < 40) (hk' : k' < x.length) (hb' : b' < 40) (hne : ¬ (k = k' ∧ b = b')) : popL (xorL x (flp (flp x k b) k' b')) = 2 := by
  rw [xorL_flp x _ k' b' (by rw [flp_len]) hk', xorL_flp x x k b rfl hk, popL_flp b' hb' _ k' (by rw [flp_len, xorL_len x x rfl]; exact hk'), flp_get _ k b k' (by rw [xorL_len x x rfl]; exact hk),
    popL_flp b hb _ k (by rw [xorL_len x x rfl]; exact hk), (xorL_self x).2 k, (xorL_self x).2 k', Nat.zero_testBit, (xorL_self x).1]
  have ht : ((if k' = k then 0 ^^^ 2 ^ b else 0).testBit b') = false := by
    split
    · rename_i h
      rw [Nat.zero_xor, Nat.testBit_two_pow]
      simp
      intro h2
      exact hne ⟨h.symm, h2⟩
    · exact Nat.zero_testBit _
  rw [ht]
  rfl
/-- The clean codes. -/
theorem popW_code (s t : Nat) (hs : s < 512) (ht : t < 2) : popW (s + 512 * t) 40 = popW s 40 + t := by
  have all : ∀ s : Fin 512, ∀ t : Fin 2, popW (s.val + 512 * t.val) 40 = popW s.val 40 + t.val := by decide +kernel
  exact all ⟨s, hs⟩ ⟨t, ht⟩
theorem popT_eq (ws : List Nat) (c : Nat) : popT ws c = popL ws + popW c 40 := by
  unfold popT
  rw [popL_append]
  simp [popL]
theorem xor_zero_iff (a b : Nat) : a ^^^ b = 0 ↔ a = b := by
  constructor
  · intro h
    have := congrArg (· ^^^ b) h
    simpa [Nat.xor_assoc] using this
  · intro h
    rw [h, Nat.xor_self]
theorem clean_iff {ws : List Nat} {c : Nat} (h8 : ws.length = 8) (hs : ∀ x ∈ ws, x < 1099511627776) (hc : c < 1024) : (synT ws c = 0 ∧ popT ws c % 2 = 0) ↔ c = encN ws := by
  have h0 := synT_eq ws 0 h8 (by decide)
  have hS : synT ws 0 < 512 := synT_lt h8 hs (by decide)
  have e0 : synT ws 0 = synL 0 ws := by rw [h0]; simp
  rw [synT_eq ws c h8 hc, xor_zero_iff, popT_eq]
  unfold encN
  rw [e0] at hS ⊢
  rw [popT_eq]
  generalize synL 0 ws = S at *
  generalize popL ws = P at *
  have hp := popW_code (c % 512) (c / 512) (by omega) (by omega)
  have ec : c % 512 + 512 * (c / 512) = c := by omega
  rw [ec] at hp
  constructor
  · rintro ⟨h1, h2⟩
    rw [h1] at hp ec
    omega
  · intro h
    have h1 : c % 512 = S := by omega
    refine ⟨h1, ?_⟩
    rw [h1] at hp
    omega
theorem encN_lt {ws : List Nat} (h8 : ws.length = 8) (hs : ∀ x ∈ ws, x < 1099511627776) : encN ws < 1024 := by
  have hS : synT ws 0 < 512 := synT_lt h8 hs (by decide)
  unfold encN
  omega
theorem encN_clean {ws : List Nat} (h8 : ws.length = 8) (hs : ∀ x ∈ ws, x < 1099511627776) : synT ws (encN ws) = 0 ∧ popT ws (encN ws) % 2 = 0 := (clean_iff h8 hs (encN_lt h8 hs)).2 rfl
theorem encZ_ci {ws : List Nat} (hs : ∀ x ∈ ws, x < 1099511627776) : encZ (ci ws) = ((encN ws : Nat) : Int) := by
  unfold encZ
  rw [all_ci hs, if_pos rfl, nw_ci]
theorem chkZ_ci {ws : List Nat} {c : Nat} (hs : ∀ x ∈ ws, x < 1099511627776) (hc : c < 1024) : chkZ (ci ws) (c : Int) = chkF (synT ws c) (popT ws c % 2) := by
  unfold chkZ
  rw [valid_ci hs, decide_eq_true hc, if_pos rfl, nw_ci, Int.toNat_natCast]
theorem chkF_clean (s p : Nat) : (chkF s p).1 = 0 ↔ s = 0 ∧ p = 0 := by
  unfold chkF
  split
  · rename_i h
    exact ⟨fun _ => h, fun _ => rfl⟩
  · rename_i h
    split
    · exact ⟨fun h2 => by simp at h2, fun h2 => absurd h2 h⟩
    · split
      · exact ⟨fun h2 => by simp at h2, fun h2 => absurd h2 h⟩
      · exact ⟨fun h2 => by simp at h2, fun h2 => absurd h2 h⟩
theorem chkZ_clean {ws : List Nat} {c : Nat} (h8 : ws.length = 8) (hs : ∀ x ∈ ws, x < 1099511627776) (hc : c < 1024) : (chkZ (ci ws) (c : Int)).1 = 0 ↔ c = encN ws := by
  rw [chkZ_ci hs hc, chkF_clean]
  exact clean_iff h8 hs hc
theorem chkZ_enc {ws : List Nat} (h8 : ws.length = 8) (hs : ∀ x ∈ ws, x < 1099511627776) : chkZ (ci ws) ((encN ws : Nat) : Int) = (0, 0, 0) := by
  rw [chkZ_ci hs (encN_lt h8 hs), (encN_clean h8 hs).1, (encN_clean h8 hs).2]
  rfl
theorem fixZ_enc {ws : List Nat} (h8 : ws.length = 8) (hs : ∀ x ∈ ws, x < 1099511627776) : fixZ (ci ws) ((encN ws : Nat) : Int) = (ci ws, ((encN ws : Nat) : Int), 0) := by
  unfold fixZ
  rw [valid_ci hs, decide_eq_true (encN_lt h8 hs), if_pos rfl, chkZ_enc h8 hs, if_neg (by decide), if_neg (by decide)]
end Go.Proofs.YtpojhplnhppcpaaGreatDoor
namespace Go.Proofs.YtpojhplnhppcpaaGreatDoor
open Go.RowKit
theorem chkF_psn {k b : Nat} (h : okBit k b = true) : chkF (psn k b) 1 = (1, k, b) := by
  rw [chk_find rfl, find_psn h]
  rfl
theorem chk_one {ws : List Nat} {k b : Nat} (h8 : ws.length = 8) (hs : ∀ x ∈ ws, x < 1099511627776) (h : okBit k b = true) :
    chkZ (ci (flipR ws (encN ws) k b).1) (((flipR ws (encN ws) k b).2 : Nat) : Int) = (1, k, b) := by
  obtain ⟨_, hs', hc'⟩ := flip_nine h8 hs (encN_lt h8 hs) h
  rw [chkZ_ci hs' hc', synT_flip h8 h, (encN_clean h8 hs).1, popT_flip h8 h, Nat.zero_xor]
  have h2 : (popT ws (encN ws) + 1) % 2 = 1 := by have := (encN_clean h8 hs).2; omega
  rw [h2, chkF_psn h]
theorem fix_one {ws : List Nat} {k b : Nat} (h8 : ws.length = 8) (hs : ∀ x ∈ ws, x < 1099511627776) (h : okBit k b = true) :
    fixZ (ci (flipR ws (encN ws) k b).1) (((flipR ws (encN ws) k b).2 : Nat) : Int) = (ci ws, ((encN ws : Nat) : Int), 0) := by
  obtain ⟨_, hs', hc'⟩ := flip_nine h8 hs (encN_lt h8 hs) h
  unfold fixZ
  rw [valid_ci hs', decide_eq_true hc', if_pos rfl, chk_one h8 hs h, if_neg (by simp), if_pos rfl, nw_ci, Int.toNat_natCast]
  show (ci (flipR (flipR ws (encN ws) k b).1 (flipR ws (encN ws) k b).2 k b).1, (((flipR (flipR ws (encN ws) k b).1 (flipR ws (encN ws) k b).2 k b).2 : Nat) : Int), 0) = _
  rw [flip_back h8 h]
theorem distZ_ci {ws us : List Nat} {c d : Nat} (hs : ∀ x ∈ ws, x < 1099511627776) (hu : ∀ x ∈ us, x < 1099511627776) (hc : c < 1024) (hd : d < 1024) (hl : ws.length = us.length) :
    distZ (ci ws) (c : Int) (ci us) (d : Int) = ((popL (xorL (ws ++ [c]) (us ++ [d])) : Nat) : Int) := by
  unfold distZ
  rw [valid_ci hs, valid_ci hu, decide_eq_true hc, decide_eq_true hd, if_pos ⟨rfl, rfl⟩, nw_ci, nw_ci, Int.toNat_natCast, Int.toNat_natCast, popT_xor _ _ _ _ hl]
theorem dist_flip {ws : List Nat} {c k b : Nat} (h8 : ws.length = 8) (hs : ∀ x ∈ ws, x < 1099511627776) (hc : c < 1024) (h : okBit k b = true) :
    distZ (ci ws) (c : Int) (ci (flipR ws c k b).1) (((flipR ws c k b).2 : Nat) : Int) = 1 := by
  obtain ⟨hl, hs', hc'⟩ := flip_nine h8 hs hc h
  rw [distZ_ci hs hs' hc hc' (by omega), flipR_flp h8 h, dist_one _ k b (by have := okBit_k h; simp; omega) (okBit_b h)]
  rfl
theorem dist_flip2 {ws : List Nat} {c k b k' b' : Nat} (h8 : ws.length = 8) (hs : ∀ x ∈ ws, x < 1099511627776) (hc : c < 1024) (h : okBit k b = true) (h' : okBit k' b' = true) (hne : ¬ (k = k' ∧ b = b')) :
    distZ (ci ws) (c : Int) (ci (flipR (flipR ws c k b).1 (flipR ws c k b).2 k' b').1) (((flipR (flipR ws c k b).1 (flipR ws c k b).2 k' b').2 : Nat) : Int) = 2 := by
  obtain ⟨hl, hs', hc'⟩ := flip_nine h8 hs hc h
  obtain ⟨hl2, hs2, hc2⟩ := flip_nine hl hs' hc' h'
  rw [distZ_ci hs hs2 hc hc2 (by omega), flipR_flp hl h', flipR_flp h8 h, dist_two _ k b k' b' (by have := okBit_k h; simp; omega) (okBit_b h) (by have := okBit_k h'; simp; omega) (okBit_b h') hne]
  rfl
theorem chk_two {ws : List Nat} {k b k' b' : Nat} (h8 : ws.length = 8) (hs : ∀ x ∈ ws, x < 1099511627776) (h : okBit k b = true) (h' : okBit k' b' = true) (hne : ¬ (k = k' ∧ b = b')) :
    chkZ (ci (flipR (flipR ws (encN ws) k b).1 (flipR ws (encN ws) k b).2 k' b').1) (((flipR (flipR ws (encN ws) k b).1 (flipR ws (encN ws) k b).2 k' b').2 : Nat) : Int) = (2, 0, 0) := by
  obtain ⟨hl, hs', hc'⟩ := flip_nine h8 hs (encN_lt h8 hs) h
  obtain ⟨hl2, hs2, hc2⟩ := flip_nine hl hs' hc' h'
  rw [chkZ_ci hs2 hc2, synT_flip hl h', synT_flip h8 h, popT_flip hl h', (encN_clean h8 hs).1, Nat.zero_xor]
  have h1 := popT_flip (c := encN ws) h8 h
  have h2 : (popT (flipR ws (encN ws) k b).1 (flipR ws (encN ws) k b).2 + 1) % 2 = 0 := by have := (encN_clean h8 hs).2; omega
  have h3 : ¬ psn k b ^^^ psn k' b' = 0 := fun e => hne (psn_inj h h' ((xor_zero_iff _ _).1 e))
  rw [h2]
  unfold chkF
  rw [if_neg (by omega), if_pos rfl]
theorem fix_rot {ws : List Nat} {c : Nat} (hs : ∀ x ∈ ws, x < 1099511627776) (hc : c < 1024) (h : (chkZ (ci ws) (c : Int)).1 = 2) : fixZ (ci ws) (c : Int) = (Z8, 0, 9) := by
  unfold fixZ
  rw [valid_ci hs, decide_eq_true hc, if_pos rfl, if_pos h]
theorem fix_two {ws : List Nat} {k b k' b' : Nat} (h8 : ws.length = 8) (hs : ∀ x ∈ ws, x < 1099511627776) (h : okBit k b = true) (h' : okBit k' b' = true) (hne : ¬ (k = k' ∧ b = b')) :
    fixZ (ci (flipR (flipR ws (encN ws) k b).1 (flipR ws (encN ws) k b).2 k' b').1) (((flipR (flipR ws (encN ws) k b).1 (flipR ws (encN ws) k b).2 k' b').2 : Nat) : Int) = (Z8, 0, 9) := by
  obtain ⟨hl, hs', hc'⟩ := flip_nine h8 hs (encN_lt h8 hs) h
  obtain ⟨_, hs2, hc2⟩ := flip_nine hl hs' hc' h'
  exact fix_rot hs2 hc2 (by rw [chk_two h8 hs h h' hne])
end Go.Proofs.YtpojhplnhppcpaaGreatDoor
