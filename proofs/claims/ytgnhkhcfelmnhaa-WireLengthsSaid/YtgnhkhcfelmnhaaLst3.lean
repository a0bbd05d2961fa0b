/- What wire's decoder of one digest does. -/
import Derived.Test.YtgnhkhcfelmnhaaLst1
import Derived.Laws.CopyOwn
namespace Go.Proofs.Ytgnhkhcfelmnhaa
open Go.RowKit
theorem copy16 (w1 : World) (A : Option Addr) (n cap : Nat) (l : List UInt8) (hn : l.length = n) (h16 : 16 ≤ n) (hr : RV w1 A (bv l)) (Z : Array Value) (hZ : Z.size = 16) :
    (Builtin.copy_ #[28, 28] 3 #[.slice (some ⟨w1.heap.size, 0, none⟩) 16 16, .slice A n cap]).run Try.prog (w1.alloc (.cells Z 57)) = .ok (goInt 16) (w1.alloc (.cells (bv (l.take 16)).toArray 57)) := by
  obtain ⟨b, o, rfl, hc⟩ := hr (by intro h; have h1 := congrArg List.length h; rw [bv_len] at h1; simp only [List.length_nil] at h1; omega)
  have hlen : (bv (l.take 16)).length = 16 := by rw [bv_len, List.length_take]; omega
  have hrun := run_copy_row (P := Try.prog) (w1.alloc (.cells Z 57)) 28 28 3 5 w1.heap.size 0 16 16 ⟨b, o, none⟩ n cap Z 57 (bv (l.take 16)) Try.underlying28 (by kernel_rfl) (heap_alloc_last w1 _) (by rw [hlen]; show 16 = Nat.min n 16; exact (Nat.min_eq_right h16).symm)
    (fun j v hv => by
      rw [add_lit']
      have hj : (bv l)[j]? = some v := by
        have e : bv (l.take 16) = (bv l).take 16 := by simp [bv]
        rw [e, List.getElem?_take] at hv
        split at hv
        · exact hv
        · cases hv
      have h1 := hc j v hj
      rw [World.cell?_alloc_lt w1 _ _ (block_lt_of_cell h1)]
      exact h1) (by omega) (bv_one _)
  rw [hrun, hlen]
  congr 1
  have e : (Z.toList.take 0 ++ bv (l.take 16) ++ Z.toList.drop (0 + (16))).toArray = (bv (l.take 16)).toArray := by
    have : Z.toList.drop (0 + 16) = [] := List.drop_eq_nil_of_le (by simp [hZ])
    rw [this]
    simp
  rw [e, World.setRow_alloc_new]
theorem list16 (l : List UInt8) (h : l.length = 16) : ∃ c0 c1 c2 c3 c4 c5 c6 c7 c8 c9 c10 c11 c12 c13 c14 c15, l = [c0, c1, c2, c3, c4, c5, c6, c7, c8, c9, c10, c11, c12, c13, c14, c15] := by
  match l, h with
  | [c0, c1, c2, c3, c4, c5, c6, c7, c8, c9, c10, c11, c12, c13, c14, c15], _ => exact ⟨_, _, _, _, _, _, _, _, _, _, _, _, _, _, _, _, rfl⟩
set_option maxRecDepth 100000 in
set_option maxHeartbeats 1000000 in
theorem getDigest_any (A : Option Addr) (n cap : Nat) (l : List UInt8) (w : World) (hn : l.length = n) (h16 : 16 ≤ n) (hr : RV w A (bv l)) (hl : n ≤ 140737488355328) :
    Calls Try.prog 49 #[.slice A n cap] w fun e w' => e = .returned (.tuple #[.agg (bv (l.take 16)).toArray, .int .i64 16, .int .i64 0]) ∧ Below w.heap.size w w' := by
  have hcp := copy16 (w.alloc (.cells #[.int .u8 0, .int .u8 0, .int .u8 0, .int .u8 0, .int .u8 0, .int .u8 0, .int .u8 0, .int .u8 0, .int .u8 0, .int .u8 0, .int .u8 0, .int .u8 0, .int .u8 0, .int .u8 0, .int .u8 0, .int .u8 0] 57)) A n cap l hn h16 (hr.below ((Below.refl _ _).alloc (Nat.le_refl _) _)) #[.int .u8 0, .int .u8 0, .int .u8 0, .int .u8 0, .int .u8 0, .int .u8 0, .int .u8 0, .int .u8 0, .int .u8 0, .int .u8 0, .int .u8 0, .int .u8 0, .int .u8 0, .int .u8 0, .int .u8 0, .int .u8 0] rfl
  have hd16 : (l.take 16).length = 16 := by rw [List.length_take]; omega
  have hbl : (bv (l.take 16)).length = 16 := by rw [bv_len]; exact hd16
  clear hbl
  obtain ⟨c0, c1, c2, c3, c4, c5, c6, c7, c8, c9, c10, c11, c12, c13, c14, c15, hcs⟩ := list16 _ hd16
  rw [hcs] at hcp ⊢
  simp only [World.size_alloc, bv, List.map_cons, List.map_nil] at hcp ⊢
  clear hr hcs hd16
  go_enter Try.func49, Try.ntmps49
  go_wp2
  exact bodyPost_ret (by simp [results, Try.results49, go_sem]) rfl ⟨rfl, ((Below.refl _ _).alloc (Nat.le_refl _) _).alloc (by simp) _⟩
end Go.Proofs.Ytgnhkhcfelmnhaa
