/- Two arrays of bytes are compared. -/
import Derived.Test.YtkineafacekklaaDoorSumF
import Derived.DeepKeys
namespace Go.Proofs.YtkineafacekklaaDoor
open Go.RowKit
theorem mapM_of {α β : Type} (f : α → Option β) (g : α → β) : ∀ (is : List α), (∀ i ∈ is, f i = some (g i)) → is.mapM f = some (is.map g)
  | [], _ => by simp
  | i :: is, h => by
    rw [List.mapM_cons, h i (by simp), mapM_of f g is fun j hj => h j (by simp [hj])]
    rfl
theorem lits_one (D : Nat) (b : UInt8) : Tryd.prog.keyLits (D + 1) 5 [.int .u8 (b.toNat : Int)] = some [.int .u8 (b.toNat : Int)] := by
  have hw : (Lit.int .u8 (b.toNat : Int)).wf = true := by
    have := b.toNat_lt
    simp [Lit.wf, IntKind.min, IntKind.max, IntKind.bits, IntKind.signed]
    omega
  simp [Program.keyLits, Tryd.underlying5, hw]
def litsOf (l : List UInt8) : List Lit := l.map fun b => .int .u8 (b.toNat : Int)
theorem litsOf_inj {l m : List UInt8} (h : litsOf l = litsOf m) : l = m := by
  unfold litsOf at h
  refine List.map_inj_right (f := fun b : UInt8 => Lit.int .u8 (b.toNat : Int)) (fun a b hab => ?_) |>.1 h
  simp only [Lit.int.injEq, true_and] at hab
  exact UInt8.toNat_inj.1 (by omega)
theorem lits_row (ty n : Nat) (hu : Tryd.prog.underlying ty = some (.array n 5)) (hc : Tryd.prog.cellsOf ty = n) (l : List UInt8) (hl : l.length = n) : Tryd.prog.keyLits 2 ty (bv l) = some (litsOf l) := by
  have c5 : Tryd.prog.cellsOf 5 = 1 := by kernel_rfl
  unfold Program.keyLits
  rw [hu]
  simp only
  rw [if_pos (by rw [bv_len, hl, hc]), mapM_of _ (fun i => [Lit.int .u8 ((l.getD i 0).toNat : Int)])]
  · simp only [Option.map_some, Option.some.injEq]
    unfold litsOf
    have : ((List.range n).map fun i => [Lit.int .u8 ((l.getD i 0).toNat : Int)]).flatten = (List.range n).map fun i => Lit.int .u8 ((l.getD i 0).toNat : Int) := by
      induction (List.range n) with
      | nil => rfl
      | cons x r ih => simp only [List.map_cons, List.flatten_cons, ih]; rfl
    rw [this]
    apply List.ext_getElem
    · simp [hl]
    · intro i h1 h2
      simp at h2
      simp [h2]
  · intro i hi
    have hi2 : i < l.length := by rw [hl]; exact List.mem_range.1 hi
    rw [c5, Nat.mul_one]
    have e : ((bv l).drop i).take 1 = [.int .u8 ((l.getD i 0).toNat : Int)] := by
      rw [List.drop_eq_getElem_cons (by rw [bv_len]; exact hi2)]
      simp [bv, hi2]
    rw [e]
    exact lits_one 0 _
theorem eq_bytes (ty n : Nat) (hu : Tryd.prog.underlying ty = some (.array n 5)) (hc : Tryd.prog.cellsOf ty = n) (hk : Tryd.prog.keyTypeAt 2 ty = true) (l m : List UInt8) (hl : l.length = n) (hm : m.length = n) (w : World) :
    (Op.equalIn 10000 ty (.agg (bv l).toArray) (.agg (bv m).toArray)).run Tryd.prog w = .ok (decide (l = m)) w := by
  have hf : ∀ q : List UInt8, q.length = n → (Value.agg (bv q).toArray).formed Tryd.prog ty = true := by
    intro q hq
    unfold Value.formed
    rw [hu]
    simp [bv_len, hq, hc]
  have hcells : ∀ q : List UInt8, (Value.agg (bv q).toArray).cells.toList = bv q := fun q => by simp [Value.cells]
  obtain ⟨r, hr, hiff⟩ := run_equalIn_deep (P := Tryd.prog) 9998 2 ty hk w 2 2 (.agg (bv l).toArray) (.agg (bv m).toArray) (litsOf l) (litsOf m) (hf l hl) (hf m hm) (by rw [hcells]; exact lits_row ty n hu hc l hl) (by rw [hcells]; exact lits_row ty n hu hc m hm)
  have e : r = decide (l = m) := by
    rw [Bool.eq_iff_iff, hiff, decide_eq_true_iff]
    exact ⟨litsOf_inj, fun h => by rw [h]⟩
  rw [← e]
  exact hr
theorem eq_sum (l m : List UInt8) (hl : l.length = 32) (hm : m.length = 32) (w : World) : (Op.equalIn 10000 47 (.agg (bv l).toArray) (.agg (bv m).toArray)).run Tryd.prog w = .ok (decide (l = m)) w :=
  eq_bytes 47 32 Tryd.underlying47 (by kernel_rfl) (by kernel_rfl) l m hl hm w
theorem eq_dig (l m : List UInt8) (hl : l.length = 16) (hm : m.length = 16) (w : World) : (Op.equalIn 10000 58 (.agg (bv l).toArray) (.agg (bv m).toArray)).run Tryd.prog w = .ok (decide (l = m)) w :=
  eq_bytes 58 16 Tryd.underlying58 (by kernel_rfl) (by kernel_rfl) l m hl hm w
end Go.Proofs.YtkineafacekklaaDoor
