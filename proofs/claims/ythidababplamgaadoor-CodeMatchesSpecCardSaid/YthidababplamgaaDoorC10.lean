/- Two lines are compared; what the reference's Bit and Made do. -/
import Derived.Test.YthidababplamgaaDoorC9
import Derived.DeepKeys
namespace Go.Proofs.YthidababplamgaaDoor
open Go.RowKit
theorem mapM_of {α β : Type} (f : α → Option β) (g : α → β) : ∀ (is : List α), (∀ i ∈ is, f i = some (g i)) → is.mapM f = some (is.map g)
  | [], _ => by simp
  | i :: is, h => by
    rw [List.mapM_cons, h i (by simp), mapM_of f g is fun j hj => h j (by simp [hj])]
    rfl
def I64 (z : Int) : Prop := -9223372036854775808 ≤ z ∧ z ≤ 9223372036854775807
theorem lits_one (D : Nat) (z : Int) (h : I64 z) : Tryd.prog.keyLits (D + 1) 3 [.int .i64 z] = some [.int .i64 z] := by
  have hw : (Lit.int .i64 z).wf = true := by
    unfold I64 at h
    simp [Lit.wf, IntKind.min, IntKind.max, IntKind.bits, IntKind.signed]
    omega
  simp [Program.keyLits, Tryd.underlying3, hw]
def litsOf (l : List Int) : List Lit := l.map fun z => .int .i64 z
theorem litsOf_inj {l m : List Int} (h : litsOf l = litsOf m) : l = m := by
  unfold litsOf at h
  refine List.map_inj_right (f := fun z : Int => Lit.int .i64 z) (fun a b hab => ?_) |>.1 h
  simpa using hab
theorem lits_row (ty n : Nat) (hu : Tryd.prog.underlying ty = some (.array n 3)) (hc : Tryd.prog.cellsOf ty = n) (l : List Int) (hl : l.length = n) (hz : ∀ z ∈ l, I64 z) : Tryd.prog.keyLits 2 ty (iv l) = some (litsOf l) := by
  have c5 : Tryd.prog.cellsOf 3 = 1 := by kernel_rfl
  unfold Program.keyLits
  rw [hu]
  simp only
  rw [if_pos (by rw [iv_len, hl, hc]), mapM_of _ (fun i => [Lit.int .i64 (l.getD i 0)])]
  · simp only [Option.map_some, Option.some.injEq]
    unfold litsOf
    have : ((List.range n).map fun i => [Lit.int .i64 (l.getD i 0)]).flatten = (List.range n).map fun i => Lit.int .i64 (l.getD i 0) := by
      induction (List.range n) with
      | nil => rfl
      | cons x r ih => simp only [List.map_cons, List.flatten_cons, ih]; rfl
    rw [this]
    apply List.ext_getElem
    · simp [hl]
    · intro i h1 h2
      simp at h2
      simp [h2]
  · intro i hi
    have hi2 : i < l.length := by rw [hl]; exact List.mem_range.1 hi
    rw [c5, Nat.mul_one]
    have e : ((iv l).drop i).take 1 = [.int .i64 (l.getD i 0)] := by
      rw [List.drop_eq_getElem_cons (by rw [iv_len]; exact hi2)]
      simp [iv, hi2]
    rw [e]
    refine lits_one 0 _ (hz _ ?_)
    rw [List.getD_eq_getElem?_getD, List.getElem?_eq_getElem hi2]
    exact List.getElem_mem hi2
theorem eq_line (l m : List Int) (hl : l.length = 8) (hm : m.length = 8) (zl : ∀ z ∈ l, I64 z) (zm : ∀ z ∈ m, I64 z) (w : World) :
    (Op.equalIn 10000 22 (.agg (iv l).toArray) (.agg (iv m).toArray)).run Tryd.prog w = .ok (decide (l = m)) w := by
  have hu := Tryd.underlying22
  have hc : Tryd.prog.cellsOf 22 = 8 := by kernel_rfl
  have hk : Tryd.prog.keyTypeAt 2 22 = true := by kernel_rfl
  have hf : ∀ q : List Int, q.length = 8 → (Value.agg (iv q).toArray).formed Tryd.prog 22 = true := by
    intro q hq
    unfold Value.formed
    rw [hu]
    simp [iv_len, hq, hc]
  have hcells : ∀ q : List Int, (Value.agg (iv q).toArray).cells.toList = iv q := fun q => by simp [Value.cells]
  obtain ⟨r, hr, hiff⟩ := run_equalIn_deep (P := Tryd.prog) 9998 2 22 hk w 2 2 (.agg (iv l).toArray) (.agg (iv m).toArray) (litsOf l) (litsOf m) (hf l hl) (hf m hm) (by rw [hcells]; exact lits_row 22 8 hu hc l hl zl) (by rw [hcells]; exact lits_row 22 8 hu hc m hm zm)
  have e : r = decide (l = m) := by
    rw [Bool.eq_iff_iff, hiff, decide_eq_true_iff]
    exact ⟨litsOf_inj, fun h => by rw [h]⟩
  rw [← e]
  exact hr
theorem ci_i64 {ws : List Nat} (h : ∀ x ∈ ws, x < 1099511627776) : ∀ z ∈ ci ws, I64 z := by
  intro z hz
  obtain ⟨x, hx, rfl⟩ := List.mem_map.1 hz
  have := h x hx
  unfold I64
  omega
theorem z8_i64 : ∀ z ∈ Z8, I64 z := by
  intro z hz
  have e : z = 0 := by simpa [Z8] using hz
  subst e
  unfold I64
  omega
/-- One of the 330 bits. -/
def bitF (n : Nat) : Nat × Nat := if 320 ≤ n % 330 then (8, n % 330 - 320) else (n % 330 / 40, n % 330 % 40)
theorem bitF_ok (n : Nat) : okBit (bitF n).1 (bitF n).2 = true := by
  unfold bitF okBit
  split
  · simp
    omega
  · simp
    omega
theorem ret_t2 {a b a' b' : Int} (h1 : a = a') (h2 : b = b') : Ending.returned (.tuple #[.int .i64 a, .int .i64 b]) = .returned (.tuple #[.int .i64 a', .int .i64 b']) := by rw [h1, h2]
set_option maxRecDepth 100000 in
set_option maxHeartbeats 400000 in
theorem bit_any (z : Int) (n : Nat) (w : World) (hz : z = n) (hn : n < 65536) :
    Calls Tryd.prog 26 #[.int .u16 z] w fun e w' => e = .returned (.tuple #[.int .i64 ((bitF n).1 : Nat), .int .i64 ((bitF n).2 : Nat)]) ∧ w' = w := by
  subst hz
  have hb : (n : Int) < 65536 := by omega
  have hw : IntKind.i64.wrap (n : Int) = n := by rw [i64_wraps]; omega
  by_cases h : 320 ≤ n % 330
  · have e1 : (bitF n).1 = 8 := by unfold bitF; rw [if_pos h]
    have e2 : ((bitF n).2 : Int) = (n : Int) % 330 - 320 := by unfold bitF; rw [if_pos h]; show ((n % 330 - 320 : Nat) : Int) = _; omega
    rw [e1, e2]
    have hi : 320 ≤ (n : Int) % 330 := by omega
    go_enter Tryd.func26, Tryd.ntmps26
    go_wp2_with fail
    go_ret2
    exact ⟨rfl, rfl⟩
  · have e1 : ((bitF n).1 : Int) = (n : Int) % 330 / 40 := by unfold bitF; rw [if_neg h]; show ((n % 330 / 40 : Nat) : Int) = _; omega
    have e2 : ((bitF n).2 : Int) = (n : Int) % 330 % 40 := by unfold bitF; rw [if_neg h]; show ((n % 330 % 40 : Nat) : Int) = _; omega
    rw [e1, e2]
    have hi : ¬ 320 ≤ (n : Int) % 330 := by omega
    have hi0 : 0 ≤ (n : Int) % 330 := by omega
    go_enter Tryd.func26, Tryd.ntmps26
    go_wp2_with fail
    go_ret2
    exact ⟨rfl, rfl⟩
/-- A valid line of any numbers. -/
def made (L : List Int) : List Nat := L.map fun z => (z % 1099511627776).toNat
theorem made_len (L : List Int) : (made L).length = L.length := by simp [made]
theorem made_lt (L : List Int) : ∀ x ∈ made L, x < 1099511627776 := by
  intro x hx
  obtain ⟨z, _, rfl⟩ := List.mem_map.1 hx
  omega
def madeK (L : List Int) : Nat → List Int
  | 0 => L
  | k + 1 => (madeK L k).set k (L.getD k 0 % 1099511627776)
theorem madeK_len (L : List Int) : ∀ k, (madeK L k).length = L.length := by
  intro k
  induction k with
  | zero => rfl
  | succ k ih => unfold madeK; rw [List.length_set, ih]
theorem madeK_get (L : List Int) : ∀ k j, j < L.length → (madeK L k).getD j 0 = if j < k then L.getD j 0 % 1099511627776 else L.getD j 0 := by
  intro k
  induction k with
  | zero => intro j _; rw [if_neg (by omega)]; rfl
  | succ k ih =>
    intro j hj
    unfold madeK
    rw [List.getD_eq_getElem?_getD, List.getElem?_set]
    by_cases h : k = j
    · subst h
      rw [if_pos rfl, madeK_len, if_pos hj, if_pos (by omega)]
      rfl
    · rw [if_neg h, ← List.getD_eq_getElem?_getD, ih j hj]
      by_cases h2 : j < k
      · rw [if_pos h2, if_pos (by omega)]
      · rw [if_neg h2, if_neg (by omega)]
theorem madeK_all (L : List Int) : madeK L L.length = ci (made L) := by
  refine List.ext_getElem (by rw [madeK_len, ci_len, made_len]) fun j h1 h2 => ?_
  have hj : j < L.length := by rw [madeK_len] at h1; exact h1
  have e1 := madeK_get L L.length j hj
  rw [if_pos hj, List.getD_eq_getElem?_getD, List.getD_eq_getElem?_getD, List.getElem?_eq_getElem h1, List.getElem?_eq_getElem hj] at e1
  rw [show (madeK L L.length)[j] = L[j] % 1099511627776 from e1]
  simp [ci, made]
  omega
set_option maxRecDepth 100000 in
set_option maxHeartbeats 1000000 in
theorem made_any (L : List Int) (w : World) (h8 : L.length = 8) :
    Calls Tryd.prog 24 #[.agg (iv L).toArray] w fun e w' => e = .returned (.agg (iv (ci (made L))).toArray) ∧ Below w.heap.size w w' := by
  have H22 := Lib.hid Tryd.underlying22
  have HM := Lib.hid (show madeK L 8 = ci (made L) by rw [← h8]; exact madeK_all L)
  have hml : (ci (made L)).length = 8 := by rw [ci_len, made_len, h8]
  have HI := Lib.hid (size22' hml)
  have HO := Lib.hid (iv_one (ci (made L)))
  have HL := Lib.hid (show (iv Z8).length = (iv (ci (made L))).length by rw [iv_len, iv_len, hml]; rfl)
  generalize ci (made L) = M at *
  have HA : Hid (Arr ((w.alloc (.cells (iv L).toArray 22)).alloc (.cells (iv Z8).toArray 22)) w.heap.size 22 (iv L)) := Lib.hid (Arr2_0 _ _ _ _)
  have HZ : Hid (Arr ((w.alloc (.cells (iv L).toArray 22)).alloc (.cells (iv Z8).toArray 22)) (w.heap.size + 1) 22 (iv Z8)) := Lib.hid (a2_1 _ _ _)
  have HB : Hid (Below w.heap.size w ((w.alloc (.cells (iv L).toArray 22)).alloc (.cells (iv Z8).toArray 22))) := Lib.hid (bel2 _ _ _)
  go_enter Tryd.func24, Tryd.ntmps24
  go_wp2_with fail
  refine name_world ?_
  intro W hW
  have HA2 : Hid (Arr W w.heap.size 22 (iv L)) := Lib.hid (by rw [hW]; exact HA.out)
  have HZ2 : Hid (Arr W (w.heap.size + 1) 22 (iv Z8)) := Lib.hid (by rw [hW]; exact HZ.out)
  have HB2 : Hid (Below w.heap.size w W) := Lib.hid (by rw [hW]; exact HB.out)
  clear hW HA HZ HB
  go_loopw [3] (fun i wr => ∃ k : Nat, i = .int .i64 (k : Int) ∧ k ≤ 8 ∧ Hid (Arr wr w.heap.size 22 (iv (madeK L k))) ∧ Hid (Arr wr (w.heap.size + 1) 22 (iv Z8)) ∧ Hid (Below w.heap.size w wr)) (fun i _ => 8 - (intOf i).toNat)
  case atStart => exact ⟨0, rfl, by omega, HA2, HZ2, HB2⟩
  case round =>
    clear HA2 HZ2 HB2
    obtain ⟨k, rfl, hk, HA, HZ, HB⟩ := hrel
    by_cases hlt : k < 8
    · have hcv := HA.out.cell (iv_at (l := madeK L k) (k := k) (by rw [madeK_len]; omega))
      have hfv := HA.out.free k
      rw [madeK_get L k k (by omega), if_neg (Nat.lt_irrefl _)] at hcv
      have hand := i64_and40 (L.getD k 0)
      have hst : (iv (madeK L k)).set k (.int .i64 (L.getD k 0 % 1099511627776)) = iv (madeK L (k + 1)) := by
        rw [iv_set]
        rfl
      have HST := Lib.hid hst
      clear hst
      generalize L.getD k 0 = x at *
      generalize x % 1099511627776 = y at *
      have HA4 : Hid (Arr (wr.setCell ⟨w.heap.size, k, none⟩ (.int .i64 y)) w.heap.size 22 (iv (madeK L (k + 1)))) := Lib.hid (by rw [← HST.out]; exact HA.out.set k _)
      have HU4 : Hid (Arr (wr.setCell ⟨w.heap.size, k, none⟩ (.int .i64 y)) (w.heap.size + 1) 22 (iv Z8)) := Lib.hid (HZ.out.other (by simp) _)
      have HB4 : Hid (Below w.heap.size w (wr.setCell ⟨w.heap.size, k, none⟩ (.int .i64 y))) := Lib.hid (HB.out.setCell (Nat.le_refl _) _)
      go_wp2_with fail
      go_roundw
      case rel => exact ⟨k + 1, by simp, by omega, HA4, HU4, HB4⟩
      case measure => simp [intOf]; omega
    · obtain rfl : k = 8 := by omega
      rw [HM.out] at HA
      go_wp2_with (first
        | ((with_reducible refine arm_row 22 w.heap.size 22 _ HA.out _ H22.out rfl HI.out rfl _ rfl ?_ ?_); focus rfl)
        | ((with_reducible refine arm_put 22 (w.heap.size + 1) 22 _ _ HZ.out HI.out HL.out HO.out rfl _ _ rfl ?_ ?_ ?_); (focus rfl); (focus rfl)))
      refine bodyPost_ret (v := .agg (iv M).toArray) (ret_row Tryd.results24 _ _ (w.heap.size + 1) 22 (iv M) (HZ.out.row _) rfl _ H22.out rfl HI.out) rfl ?_
      exact ⟨rfl, bel_row HB.out (by omega) _⟩
end Go.Proofs.YthidababplamgaaDoor
