/- What hash.Crc40, Add and Words do. -/
import Derived.Test.YtkineafacekklaaDoorShift
import Derived.OneCell
namespace Go.Proofs.YtkineafacekklaaDoor
open Go.RowKit
theorem run_take (r : Nat) (l : List UInt8) (k : Nat) (h : k < l.length) : run r (l.take (k + 1)) = nextB (run r (l.take k)) l[k].toNat := by
  rw [List.take_succ_eq_append_getElem h, run_snoc]
theorem blk_keep {w w2 : World} {b : Nat} {o : Obj} (h : w.heap[b]? = some o) (hb : Below w.heap.size w w2) : w2.heap[b]? = some o := by rw [hb.block b (lt_of_block h)]; exact h
theorem bel_new (W : World) (o : Obj) : Below W.heap.size W (W.alloc o) := (Below.refl _ _).alloc (Nat.le_refl _) _
theorem bel_on {W w1 w' : World} (h : Below W.heap.size W w1) (h2 : Below w1.heap.size w1 w') : Below W.heap.size W w' := h.trans (h2.mono h.size)
set_option maxRecDepth 100000 in
set_option maxHeartbeats 400000 in
theorem crc40_any (A : Option Addr) (n cap : Nat) (l : List UInt8) (w : World) (hn : l.length = n) (hr : RV w A (bv l)) (hl : n ≤ 140737488355328) :
    Calls Tryd.prog 16 #[.slice A n cap] w fun e w' => e = .returned (.int .i64 (crc l : Nat)) ∧ Below w.heap.size w w' := by
  have HN := Lib.hid hn
  clear hn
  go_enter Tryd.func16, Tryd.ntmps16
  go_wp2_with fail
  refine (begin_any _).mono ?_
  rintro e w1 ⟨rfl, hb1⟩
  have hz1 := hb1.size
  go_wp2
  go_loopw [9] (fun i wr => ∃ (k r : Nat), i = .int .i64 k ∧ k ≤ n ∧ Hid (r = run MASK (l.take k)) ∧ r < 1099511627776 ∧ wr.heap[w1.heap.size]? = some (.cells #[.int .u64 (r : Int)] 30 (0, 0)) ∧ Below w.heap.size w wr) (fun i _ => n - (intOf i).toNat)
  case atStart => exact ⟨0, MASK, rfl, by omega, Lib.hid rfl, MASK_lt, heap_alloc_last _ _, hb1.alloc hz1 _⟩
  case round =>
    obtain ⟨k, r, rfl, hk, hR, hr40, hbx, hb⟩ := hrel
    have hhs := hb.size
    have hc0 := cell_of_one hbx
    have hf0 := free_of_one hbx
    by_cases hlt : k < n
    · have hkl : k < l.length := by rw [HN.out]; exact hlt
      obtain ⟨b, o, rfl, hc⟩ := hr.at_ (w' := wr) hb (k := k) (bv_at hkl)
      have HT := Lib.hid (run_take MASK l k hkl)
      have hu := l[k].toNat_lt
      generalize l[k].toNat = x at *
      clear hr
      have HB := Lib.hid hbx
      clear hbx
      go_wp2_with (go_at_call 40; refine (next_any r x _ _ rfl hr40 (by omega)).mono ?_; rintro e w2 ⟨rfl, hb2⟩; have HB2 := Lib.hid (blk_keep HB.out hb2); have hc2 := cell_of_one HB2.out; have hf2 := free_of_one HB2.out)
      go_roundw
      case rel => exact ⟨k + 1, _, by go_num, by omega, Lib.hid (by rw [HT.out, ← hR.out]), nextB_lt, one_setCell HB2.out, (bel_on hb hb2).setCell hz1 _⟩
      case measure => simp [intOf]; omega
    · obtain rfl : k = n := by omega
      have HE : Hid (r = run MASK l) := Lib.hid (by rw [hR.out, List.take_of_length_le (by rw [HN.out]; exact Nat.le_refl _)])
      clear hr hbx
      go_wp2_with (go_at_call 22; refine (value_any r _ hr40).mono ?_; rintro e w2 ⟨rfl, hb2⟩)
      go_ret
      exact ⟨ret_i64 (by rw [HE.out]; rfl), bel_on hb hb2⟩
end Go.Proofs.YtkineafacekklaaDoor
