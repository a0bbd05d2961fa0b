/- What Add of a Crc does. -/
import Derived.Test.YtkineafacekklaaDoorCrc3
import Derived.StillTailTactics
namespace Go.Proofs.YtkineafacekklaaDoor
open Go.RowKit
theorem str_at (t : ByteArray) (k : Nat) (h : k < t.size) : t.data.toList[k]'(by simpa using h) = t[k] := rfl
theorem bel_drew (w : World) : Below w.heap.size w w.drew := (Below.refl _ _).drew
set_option maxRecDepth 100000 in
set_option maxHeartbeats 400000 in
theorem add_any (r0 : Nat) (t : ByteArray) (w : World) (hr0 : r0 < 1099511627776) (hl : t.size ≤ 140737488355328) :
    Calls Tryd.prog 20 #[.agg #[.int .u64 (r0 : Int)], .string t] w fun e w' => e = .returned (.agg #[.int .u64 (run r0 t.data.toList : Nat)]) ∧ Below w.heap.size w w' := by
  go_enter Tryd.func20, Tryd.ntmps20
  go_wp2
  go_loopw [8] (fun i wr => ∃ (k r : Nat), i = .int .i64 k ∧ k ≤ t.size ∧ Hid (r = run r0 (t.data.toList.take k)) ∧ r < 1099511627776 ∧ wr.heap[w.heap.size]? = some (.cells #[.int .u64 (r : Int)] 30 (0, 0)) ∧ wr.heap[w.heap.size + 1]? = some (.cells #[.int .u64 0] 30 (0, 0)) ∧ Below w.heap.size w wr) (fun i _ => t.size - (intOf i).toNat)
  case atStart => exact ⟨0, r0, rfl, by omega, Lib.hid rfl, hr0, heap_alloc2_old _ _ _, heap_alloc2_new _ _ _, (bel_new w _).alloc (by simp) _⟩
  case round =>
    obtain ⟨k, r, rfl, hk, hR, hr40, hbx, hbx2, hb⟩ := hrel
    have hhs := hb.size
    have hc0 := cell_of_one hbx
    have hf0 := free_of_one hbx
    by_cases hlt : k < t.size
    · have HB := Lib.hid hbx
      have HB2 := Lib.hid hbx2
      clear hbx hbx2
      go_wp2_with fail
      go_still_tail 4, (by kernel_rfl)
      change wpList _ _ _ _ _ wr.drew
      have hbd := bel_drew wr
      have HD := Lib.hid (blk_keep HB.out hbd)
      have HD2 := Lib.hid (blk_keep HB2.out hbd)
      have hb' := bel_on hb hbd
      have HT : Hid (run r0 (t.data.toList.take (k + 1)) = nextB (run r0 (t.data.toList.take k)) t[k].toNat) := Lib.hid (run_take r0 t.data.toList k (by simpa using hlt))
      have hu := t[k].toNat_lt
      generalize t[k].toNat = x at *
      have hz3 : wr.drew.heap.size = wr.heap.size := rfl
      generalize wr.drew = w3 at *
      clear hbd hc0 hf0 HB HB2 hb
      go_wp2_with (go_at_call 40; refine (next_any r x _ _ rfl hr40 (by omega)).mono ?_; rintro e w2 ⟨rfl, hb2⟩; have HB3 := Lib.hid (blk_keep HD.out hb2); have HB4 := Lib.hid (blk_keep HD2.out hb2); have hc2 := cell_of_one HB3.out; have hf2 := free_of_one HB3.out)
      go_roundw
      case rel => exact ⟨k + 1, _, by go_num, by omega, Lib.hid (by rw [HT.out, ← hR.out]), nextB_lt, one_setCell HB3.out, (Below.heap_setCell _ _ _ _ (by simp)).trans HB4.out, (bel_on hb' hb2).setCell (Nat.le_refl _) _⟩
      case measure => simp [intOf]; omega
    · obtain rfl : k = t.size := by omega
      have HE : Hid (r = run r0 t.data.toList) := Lib.hid (by rw [hR.out, List.take_of_length_le (by simp)])
      have hc2 := cell_of_one hbx2
      have hf2 := free_of_one hbx2
      have HB := Lib.hid hbx
      have HB2 := Lib.hid hbx2
      clear hbx hbx2
      go_wp2
      have hc3 := cell_of_one (one_setCell (u := .int .u64 (r : Int)) HB2.out)
      exact bodyPost_ret (v := .agg #[.int .u64 (r : Int)]) (by simp [results, Tryd.results20, go_sem, hc3]) rfl ⟨by rw [HE.out], hb.setCell (by simp) _⟩
end Go.Proofs.YtkineafacekklaaDoor
