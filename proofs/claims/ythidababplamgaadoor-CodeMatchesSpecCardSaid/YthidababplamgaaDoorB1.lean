/- What bits.Len does with a small number. -/
import Derived.Test.YthidababplamgaaDoorKit
import Derived.Lib.BitFns
namespace Go.Proofs.YthidababplamgaaDoor
open Go.RowKit
theorem w64 (z : Int) (h0 : -9223372036854775808 ≤ z) (h1 : z ≤ 9223372036854775807) : wrap64 z = z := by unfold wrap64; omega
theorem ret_i64 {a b : Int} (h : a = b) : Ending.returned (.int .i64 a) = .returned (.int .i64 b) := by rw [h]
theorem lib_len (x : Nat) (h : x < 1024) : Lib.bitLen x = bitLen x := by
  have all : ∀ x : Fin 1024, Lib.bitLen x = bitLen x := by decide +kernel
  exact all ⟨x, h⟩
theorem len_le (x : Nat) (h : x < 1024) : bitLen x ≤ 10 := by
  have all : ∀ x : Fin 1024, bitLen x ≤ 10 := by decide +kernel
  exact all ⟨x, h⟩
/-- The table of the standard library, as the program spells it. -/
def tab : ByteArray := { data := (([0, 1, 2, 2, 3, 3, 3, 3, 4, 4, 4, 4, 4, 4, 4, 4, 5, 5, 5, 5, 5, 5, 5, 5, 5, 5, 5, 5, 5, 5, 5, 5, 6, 6, 6, 6, 6, 6, 6, 6, 6, 6, 6, 6, 6, 6, 6, 6, 6, 6, 6, 6, 6, 6, 6, 6, 6, 6, 6, 6, 6, 6, 6, 6].append [7, 7, 7, 7, 7, 7, 7, 7, 7, 7, 7, 7, 7, 7, 7, 7, 7, 7, 7, 7, 7, 7, 7, 7, 7, 7, 7, 7, 7, 7, 7, 7, 7, 7, 7, 7, 7, 7, 7, 7, 7, 7, 7, 7, 7, 7, 7, 7, 7, 7, 7, 7, 7, 7, 7, 7, 7, 7, 7, 7, 7, 7, 7, 7]).append ([8, 8, 8, 8, 8, 8, 8, 8, 8, 8, 8, 8, 8, 8, 8, 8, 8, 8, 8, 8, 8, 8, 8, 8, 8, 8, 8, 8, 8, 8, 8, 8, 8, 8, 8, 8, 8, 8, 8, 8, 8, 8, 8, 8, 8, 8, 8, 8, 8, 8, 8, 8, 8, 8, 8, 8, 8, 8, 8, 8, 8, 8, 8, 8].append [8, 8, 8, 8, 8, 8, 8, 8, 8, 8, 8, 8, 8, 8, 8, 8, 8, 8, 8, 8, 8, 8, 8, 8, 8, 8, 8, 8, 8, 8, 8, 8, 8, 8, 8, 8, 8, 8, 8, 8, 8, 8, 8, 8, 8, 8, 8, 8, 8, 8, 8, 8, 8, 8, 8, 8, 8, 8, 8, 8, 8, 8, 8, 8])).toArray }
theorem fold_tab : tab = Lib.len8tab := by decide +kernel
theorem idx_tab (y : Nat) (h : y < 256) (w : World) : (Instr.index 9 (.string tab) (.int .u8 (y : Int))).run Tryd.prog w = .ok (.int .u8 (bitLen y : Nat)) w := by
  rw [fold_tab, Lib.run_index_len8tab w 9 .u8 (y : Int) Tryd.underlying9 (by omega) (by omega), Lib.len8_of _ (by omega) (by omega), Int.toNat_natCast, lib_len y (by omega)]
set_option maxRecDepth 100000 in
set_option maxHeartbeats 4000000 in
theorem len64_a (z : Int) (n : Nat) (w : World) (h0 : 0 ≤ z) (h1 : z ≤ 255) (hn : z = n) :
    Calls Tryd.prog 44 #[.int .u64 z] w fun e w' => e = .returned (.int .i64 (bitLen n : Nat)) ∧ w' = w := by
  go_enter Tryd.func44, Tryd.ntmps44
  have hi := idx_tab n (by omega) w
  have e : z % 256 = z := by omega
  rw [← hn] at hi
  have hle := len_le n (by omega)
  clear hn
  unfold tab at hi
  generalize ({ data := (([0, 1, 2, 2, 3, 3, 3, 3, 4, 4, 4, 4, 4, 4, 4, 4, 5, 5, 5, 5, 5, 5, 5, 5, 5, 5, 5, 5, 5, 5, 5, 5, 6, 6, 6, 6, 6, 6, 6, 6, 6, 6, 6, 6, 6, 6, 6, 6, 6, 6, 6, 6, 6, 6, 6, 6, 6, 6, 6, 6, 6, 6, 6, 6].append [7, 7, 7, 7, 7, 7, 7, 7, 7, 7, 7, 7, 7, 7, 7, 7, 7, 7, 7, 7, 7, 7, 7, 7, 7, 7, 7, 7, 7, 7, 7, 7, 7, 7, 7, 7, 7, 7, 7, 7, 7, 7, 7, 7, 7, 7, 7, 7, 7, 7, 7, 7, 7, 7, 7, 7, 7, 7, 7, 7, 7, 7, 7, 7]).append ([8, 8, 8, 8, 8, 8, 8, 8, 8, 8, 8, 8, 8, 8, 8, 8, 8, 8, 8, 8, 8, 8, 8, 8, 8, 8, 8, 8, 8, 8, 8, 8, 8, 8, 8, 8, 8, 8, 8, 8, 8, 8, 8, 8, 8, 8, 8, 8, 8, 8, 8, 8, 8, 8, 8, 8, 8, 8, 8, 8, 8, 8, 8, 8].append [8, 8, 8, 8, 8, 8, 8, 8, 8, 8, 8, 8, 8, 8, 8, 8, 8, 8, 8, 8, 8, 8, 8, 8, 8, 8, 8, 8, 8, 8, 8, 8, 8, 8, 8, 8, 8, 8, 8, 8, 8, 8, 8, 8, 8, 8, 8, 8, 8, 8, 8, 8, 8, 8, 8, 8, 8, 8, 8, 8, 8, 8, 8, 8])).toArray } : ByteArray) = T at *
  go_wp2
  go_ret
  refine ⟨ret_i64 ?_, rfl⟩
  rfl
set_option maxRecDepth 100000 in
set_option maxHeartbeats 4000000 in
theorem len64_b (z : Int) (n : Nat) (w : World) (h0 : 256 ≤ z) (h1 : z ≤ 1023) (hn : z / 256 = n) :
    Calls Tryd.prog 44 #[.int .u64 z] w fun e w' => e = .returned (.int .i64 (8 + bitLen n : Nat)) ∧ w' = w := by
  go_enter Tryd.func44, Tryd.ntmps44
  have hi := idx_tab n (by omega) w
  have e : z / 256 % 256 = z / 256 := by omega
  rw [← hn] at hi
  have hle := len_le n (by omega)
  clear hn
  unfold tab at hi
  generalize ({ data := (([0, 1, 2, 2, 3, 3, 3, 3, 4, 4, 4, 4, 4, 4, 4, 4, 5, 5, 5, 5, 5, 5, 5, 5, 5, 5, 5, 5, 5, 5, 5, 5, 6, 6, 6, 6, 6, 6, 6, 6, 6, 6, 6, 6, 6, 6, 6, 6, 6, 6, 6, 6, 6, 6, 6, 6, 6, 6, 6, 6, 6, 6, 6, 6].append [7, 7, 7, 7, 7, 7, 7, 7, 7, 7, 7, 7, 7, 7, 7, 7, 7, 7, 7, 7, 7, 7, 7, 7, 7, 7, 7, 7, 7, 7, 7, 7, 7, 7, 7, 7, 7, 7, 7, 7, 7, 7, 7, 7, 7, 7, 7, 7, 7, 7, 7, 7, 7, 7, 7, 7, 7, 7, 7, 7, 7, 7, 7, 7]).append ([8, 8, 8, 8, 8, 8, 8, 8, 8, 8, 8, 8, 8, 8, 8, 8, 8, 8, 8, 8, 8, 8, 8, 8, 8, 8, 8, 8, 8, 8, 8, 8, 8, 8, 8, 8, 8, 8, 8, 8, 8, 8, 8, 8, 8, 8, 8, 8, 8, 8, 8, 8, 8, 8, 8, 8, 8, 8, 8, 8, 8, 8, 8, 8].append [8, 8, 8, 8, 8, 8, 8, 8, 8, 8, 8, 8, 8, 8, 8, 8, 8, 8, 8, 8, 8, 8, 8, 8, 8, 8, 8, 8, 8, 8, 8, 8, 8, 8, 8, 8, 8, 8, 8, 8, 8, 8, 8, 8, 8, 8, 8, 8, 8, 8, 8, 8, 8, 8, 8, 8, 8, 8, 8, 8, 8, 8, 8, 8])).toArray } : ByteArray) = T at *
  go_wp2
  go_ret
  refine ⟨ret_i64 ?_, rfl⟩
  omega
theorem len64_any (z : Int) (x : Nat) (w : World) (hz : z = x) (hx : x < 1024) :
    Calls Tryd.prog 44 #[.int .u64 z] w fun e w' => e = .returned (.int .i64 (bitLen x : Nat)) ∧ w' = w := by
  rcases Nat.lt_or_ge x 256 with h | h
  · exact len64_a z x w (by omega) (by omega) hz
  · have hs : bitLen x = 8 + bitLen (x / 256) := bitLen_shift x 8 (by show x / 256 ≠ 0; omega)
    rw [hs]
    exact len64_b z (x / 256) w (by omega) (by omega) (by omega)
end Go.Proofs.YthidababplamgaaDoor
