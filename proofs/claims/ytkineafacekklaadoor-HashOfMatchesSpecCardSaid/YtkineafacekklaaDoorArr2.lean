/- Parts of a block: read and written. -/
import Derived.Test.YtkineafacekklaaDoorComp
namespace Go.Proofs.YtkineafacekklaaDoor
open Go.RowKit
def setAll (l : List Value) (o : Nat) : List Value → List Value
  | [] => l
  | v :: r => setAll (l.set o v) (o + 1) r
theorem setAll_mid (A : List Value) : ∀ (ds cs C : List Value), cs.length = ds.length → setAll (A ++ (cs ++ C)) A.length ds = A ++ (ds ++ C) := by
  intro ds
  induction ds generalizing A with
  | nil =>
    intro cs C h
    have h0 : cs = [] := List.eq_nil_of_length_eq_zero (by simpa using h)
    subst h0
    rfl
  | cons d ds ih =>
    intro cs C h
    cases cs with
    | nil => simp at h
    | cons c cs =>
      show setAll ((A ++ (c :: cs ++ C)).set A.length d) (A.length + 1) ds = _
      rw [List.set_append_right _ _ (Nat.le_refl _), Nat.sub_self]
      show setAll (A ++ (d :: (cs ++ C))) (A.length + 1) ds = _
      have := ih (A ++ [d]) cs C (by simpa using h)
      simpa using this
theorem arr_setCells {t b : Nat} : ∀ (ds : List Value) (o : Nat) (w : World) (cs : List Value), Arr w b t cs → Arr (w.setCells b o ds) b t (setAll cs o ds) := by
  intro ds
  induction ds with
  | nil => intro o w cs h; exact h
  | cons d ds ih =>
    intro o w cs h
    exact ih (o + 1) _ _ (h.set o d)
theorem heap_setCells (b : Nat) : ∀ (ds : List Value) (o : Nat) (w : World) (k : Nat), k ≠ b → (w.setCells b o ds).heap[k]? = w.heap[k]? := by
  intro ds
  induction ds with
  | nil => intro o w k h; rfl
  | cons d ds ih =>
    intro o w k h
    exact (ih (o + 1) _ k h).trans (heap_setCell_other w _ k d h)
theorem bel_setCells {B b : Nat} {a : World} (hB : B ≤ b) : ∀ (ds : List Value) (o : Nat) (w : World), Below B a w → Below B a (w.setCells b o ds) := by
  intro ds
  induction ds with
  | nil => intro o w h; exact h
  | cons d ds ih =>
    intro o w h
    exact ih (o + 1) _ (h.setCell hB d)
theorem Arr.mid {w : World} {g t : Nat} {A cs C : List Value} (h : Arr w g t (A ++ (cs ++ C))) : w.rangeAt g A.length cs := fun j v hv => by
  refine h.cell ?_
  have hj : j < cs.length := (List.getElem?_eq_some_iff.1 hv).1
  rw [List.getElem?_append_right (by omega), Nat.add_sub_cancel_left, List.getElem?_append_left hj]
  exact hv
section
variable {ops : Array Oper} {rest : List Oper} {o : Oper} {a : Act} {Q : Exit → Act → World → Prop} {w : World}
/-- A part of a block is written. -/
theorem arm_part (ty g t f : Nat) (A cs C ds : List Value) (hA : Arr w g t (A ++ (cs ++ C))) (hf : A.length = f) (hl : cs.length = ds.length) (hi : (Tryd.prog.info? ty).map (·.size) = some ds.length) (h1 : ∀ v ∈ ds, v.oneCell' = true)
    (hgd : o.guard = none) (x y : Operand) (ho : o.op = .store ty x y) (hx : a.eval x = .pointer (some ⟨g, f, none⟩)) (hy : a.eval y = .agg ds.toArray)
    (h : ∀ w', Arr w' g t (A ++ (ds ++ C)) → (∀ k, k ≠ g → w'.heap[k]? = w.heap[k]?) → (∀ B, B ≤ g → Below B w w') → wpList Tryd.prog ops Q rest (a.put o.dst undef) w') : wpList Tryd.prog ops Q (o :: rest) a w := by
  subst hf
  refine wpList_store_mid hgd ty x y ho g A.length ds.toArray hx hy ?_ (by simpa using hi) (all_oneCell_toArray h1) ?_
  · intro j hj
    simp only [List.size_toArray] at hj
    have hr := hA.mid.isSome j (by omega)
    exact ⟨hr, hA.free _⟩
  · refine h _ ?_ (fun k hk => heap_setCells g _ _ _ k hk) (fun B hB => bel_setCells hB _ _ _ (Below.refl _ _))
    have := arr_setCells (t := t) ds A.length w _ hA
    rw [setAll_mid A ds cs C hl] at this
    simpa using this
end
/-- The cells of a stream. -/
def stc (v : V8) (b : List UInt8) (n : Nat) : List Value := uv v.list ++ (bv b ++ [.int .u64 (n : Int)])
theorem stc_len (v : V8) (b : List UInt8) (n : Nat) (h : b.length = 64) : (stc v b n).length = 73 := by
  unfold stc
  rw [List.length_append, List.length_append, uv_len, bv_len, list_len, h]
  rfl
theorem stc_one (v : V8) (b : List UInt8) (n : Nat) : ∀ u ∈ stc v b n, u.oneCell' = true := by
  intro u hu
  rcases List.mem_append.1 hu with h | h
  · exact uv_one _ u h
  · rcases List.mem_append.1 h with h | h
    · exact bv_one _ u h
    · rw [List.mem_singleton.1 h]; rfl
theorem stc_last {w : World} {g t : Nat} {v : V8} {b : List UInt8} {n : Nat} (h : Arr w g t (stc v b n)) (hb : b.length = 64) : w.cell? ⟨g, 72, none⟩ = some (.int .u64 (n : Int)) := by
  refine h.cell ?_
  unfold stc
  rw [List.getElem?_append_right (by rw [uv_len, list_len]; decide), uv_len, list_len, List.getElem?_append_right (by rw [bv_len, hb]; decide), bv_len, hb]
  rfl
def Z51 : List UInt8 := List.replicate 64 0
end Go.Proofs.YtkineafacekklaaDoor
