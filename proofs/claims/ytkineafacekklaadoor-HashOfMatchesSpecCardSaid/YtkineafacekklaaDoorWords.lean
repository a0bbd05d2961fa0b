/- What Words does. -/
import Derived.Test.YtkineafacekklaaDoorJoin
namespace Go.Proofs.YtkineafacekklaaDoor
open Go.RowKit
/-- A word's bytes. -/
def wb (z : Int) (k : Nat) : UInt8 := UInt8.ofNat (z / 2 ^ (32 - 8 * k) % 256).toNat
def five (z : Int) : List UInt8 := (List.range 5).map (wb z)
theorem wb_nat (z : Int) (k : Nat) : ((wb z k).toNat : Int) = z / 2 ^ (32 - 8 * k) % 256 := by
  unfold wb
  have h1 := Int.emod_nonneg (z / 2 ^ (32 - 8 * k)) (show (256 : Int) ≠ 0 by decide)
  have h2 := Int.emod_lt_of_pos (z / 2 ^ (32 - 8 * k)) (show (0 : Int) < 256 by decide)
  generalize z / 2 ^ (32 - 8 * k) % 256 = t at *
  simp
  omega
theorem five_take (z : Int) (k : Nat) (h : k < 5) : (five z).take (k + 1) = (five z).take k ++ [wb z k] := by
  rw [List.take_succ_eq_append_getElem (by simp [five]; omega)]
  simp [five]
theorem wb_arg (z : Int) (j : Nat) : IntKind.u8.wrap (z / 2 ^ (32 - 8 * (j : Int)).toNat) = ((wb z j).toNat : Int) := by
  rw [wb_nat, IntKind.wrap_u8', show (32 - 8 * (j : Int)).toNat = 32 - 8 * j by omega]
theorem run_five (r : Nat) (z : Int) (j : Nat) (h : j < 5) : run r ((five z).take (j + 1)) = nextB (run r ((five z).take j)) (wb z j).toNat := by
  rw [five_take z j h, run_snoc]
set_option maxRecDepth 100000 in
set_option maxHeartbeats 1000000 in
theorem words_any (A : Option Addr) (n cap : Nat) (l : List Int) (w : World) (hn : l.length = n) (hr : RV w A (iv l)) (hl : n ≤ 140737488355328) (hz : ∀ z ∈ l, I64 z) :
    Calls Tryd.prog 23 #[.slice A n cap] w fun e w' => e = .returned (.int .i64 (crc (l.flatMap five) : Nat)) ∧ Below w.heap.size w w' := by
  have HN := Lib.hid hn
  have HZ := Lib.hid hz
  clear hn hz
  go_enter Tryd.func23, Tryd.ntmps23
  go_wp2_with fail
  refine (begin_any _).mono ?_
  rintro e w1 ⟨rfl, hb1⟩
  have hz1 := hb1.size
  go_wp2
  go_loopw [6, 10] (fun _ i wr => ∃ (k r : Nat), i = .int .i64 k ∧ k ≤ n ∧ Hid (r = run MASK ((l.take k).flatMap five)) ∧ r < 1099511627776 ∧ wr.heap[w1.heap.size]? = some (.cells #[.int .u64 (r : Int)] 30 (0, 0)) ∧ Below w.heap.size w wr) (fun _ i _ => n - (intOf i).toNat)
  case atStart => exact ⟨0, MASK, rfl, by omega, Lib.hid rfl, MASK_lt, heap_alloc_last _ _, hb1.alloc hz1 _⟩
  case round =>
    obtain ⟨k, r, rfl, hk, hR, hr40, hbx, hb⟩ := hrel
    have hhs := hb.size
    by_cases hlt : k < n
    · have hkl : k < l.length := by rw [HN.out]; exact hlt
      obtain ⟨b, o, rfl, hc⟩ := hr.at_ (w' := wr) hb (k := k) (iv_at hkl)
      have HT : Hid (run MASK ((l.take (k + 1)).flatMap five) = run (run MASK ((l.take k).flatMap five)) (five l[k])) := Lib.hid (by rw [List.take_succ_eq_append_getElem hkl, List.flatMap_append, run_append]; simp)
      have hI := HZ.out _ (List.getElem_mem hkl)
      unfold I64 at hI
      generalize l[k] = z at *
      clear hr
      have HB := Lib.hid hbx
      clear hbx
      go_wp2
      obtain ⟨wo, hwo⟩ : ∃ wo : World, wo = wr := ⟨_, rfl⟩
      have hbo : Below w.heap.size w wo := by rw [hwo]; exact hb
      rw [← hwo] at HB
      go_loopw [6] (fun i wr => ∃ (j s : Nat), i = .int .i64 (32 - 8 * (j : Int)) ∧ j ≤ 5 ∧ Hid (s = run r ((five z).take j)) ∧ s < 1099511627776 ∧ wr.heap[w1.heap.size]? = some (.cells #[.int .u64 (s : Int)] 30 (0, 0)) ∧ Below w.heap.size w wr) (fun i _ => (intOf i + 8).toNat)
      case atStart => exact ⟨0, r, rfl, by omega, Lib.hid rfl, hr40, by rw [← hwo]; exact HB.out, by rw [← hwo]; exact hbo⟩
      case round =>
        obtain ⟨j, s, rfl, hj, hS, hs40, hbx, hb⟩ := hrel
        have hhs := hb.size
        by_cases hlj : j < 5
        · have hs0 : 8 * (j : Int) ≤ 32 := by omega
          have hc0 := cell_of_one hbx
          have HB := Lib.hid hbx
          clear hbx
          go_wp2_with fail
          go_still_tail 5, (by kernel_rfl)
          change wpList _ _ _ _ _ wr.drew
          have hbd := bel_drew wr
          have HD := Lib.hid (blk_keep HB.out hbd)
          have hb' := bel_on hb hbd
          have hz3 : wr.drew.heap.size = wr.heap.size := rfl
          generalize wr.drew = w3 at *
          have HT2 := Lib.hid (run_five r z j hlj)
          have HA := Lib.hid (wb_nat z j).symm
          have hu := (wb z j).toNat_lt
          generalize (wb z j).toNat = x at *
          clear hbd hc0 HB hb
          go_wp2_with fail
          refine (next_any s x _ _ HA.out hs40 (by omega)).mono ?_
          rintro e w2 ⟨rfl, hb2⟩
          have HB3 := Lib.hid (blk_keep HD.out hb2)
          have hc2 := cell_of_one HB3.out
          have hf2 := free_of_one HB3.out
          go_wp2_with fail
          go_roundw
          case rel => exact ⟨j + 1, _, by go_num, by omega, Lib.hid (by rw [HT2.out, ← hS.out]), nextB_lt, one_setCell HB3.out, (bel_on hb' hb2).setCell hz1 _⟩
          case measure => simp [intOf]; omega
        · obtain rfl : j = 5 := by omega
          go_wp2
          go_roundw
          case rel => exact ⟨k + 1, s, by go_num, by omega, Lib.hid (by rw [HT.out, ← hR.out, hS.out]; rfl), hs40, hbx, hb⟩
          case measure => simp [intOf]; omega
    · obtain rfl : k = n := by omega
      have hc0 := cell_of_one hbx
      have HE : Hid (r = run MASK (l.flatMap five)) := Lib.hid (by rw [hR.out, List.take_of_length_le (by rw [HN.out]; exact Nat.le_refl _)])
      clear hr hbx
      go_wp2_with (go_at_call 22; refine (value_any r _ hr40).mono ?_; rintro e w2 ⟨rfl, hb2⟩)
      go_ret
      exact ⟨ret_i64 (by rw [HE.out]; rfl), bel_on hb hb2⟩
end Go.Proofs.YtkineafacekklaaDoor
