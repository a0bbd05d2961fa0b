/- What bits.TrailingZeros does, the table being as the program's text lays it. -/
import Derived.Test.YthidababplamgaaDoorB4
import Derived.Lib.TrailingZeros
namespace Go.Proofs.YthidababplamgaaDoor
open Go.RowKit
/-- The table in its variable. -/
def Tab (w : World) : Prop := ∀ j, j < 64 → w.cell? ⟨1, j, none⟩ = some (.int .u8 (Lib.deBruijn64tab.getD j 0 : Nat))
theorem Tab.lt {w : World} (h : Tab w) : 1 < w.heap.size := block_lt_of_cell (h 0 (by decide))
theorem Tab.keep {w w2 : World} (h : Tab w) (hb : Below w.heap.size w w2) : Tab w2 := fun j hj => by
  rw [hb.cell (p := ⟨1, j, none⟩) h.lt]
  exact h j hj
set_option maxRecDepth 100000 in
set_option maxHeartbeats 400000 in
theorem tz64_core (z : Int) (k idx : Nat) (w : World) (hz0 : 0 < z) (hz : z < 1099511627776)
    (key : IntKind.u64.wrap (bits BinOp.and IntKind.u64 z (IntKind.u64.wrap (-z)) * 285870213051353865) / 288230376151711744 = (idx : Int))
    (hi : idx < 64) (hk : k < 64) (hcell : w.cell? ⟨1, idx, none⟩ = some (.int .u8 (k : Int))) :
    Calls Tryd.prog 50 #[.int .u64 z] w fun e w' => e = .returned (.int .i64 k) ∧ w' = w := by
  go_enter Tryd.func50, Tryd.ntmps50
  go_wp2_with fail
  go_ret
  exact ⟨rfl, rfl⟩
theorem tz64_any (z : Int) (x : Nat) (w : World) (hz : z = x) (h0 : x ≠ 0) (hx : x < 1099511627776) (hT : Tab w) :
    Calls Tryd.prog 50 #[.int .u64 z] w fun e w' => e = .returned (.int .i64 (Lib.ctz 64 x : Nat)) ∧ w' = w := by
  subst hz
  obtain ⟨hlow, hk⟩ := Lib.lowest_bit 64 x h0 (by omega)
  obtain ⟨hi, htab⟩ := Lib.deBruijn64_at _ hk
  have hcell := hT _ hi
  rw [htab] at hcell
  refine tz64_core x _ _ w (by omega) (by omega) ?_ hi hk hcell
  have e1 : IntKind.u64.wrap (-(x : Int)) = ((18446744073709551616 - x : Nat) : Int) := by rw [IntKind.wrap_u64]; omega
  have hlow' : x &&& (18446744073709551616 - x) = 2 ^ Lib.ctz 64 x := hlow
  rw [e1, u64_and_nat x _ (by omega) (by omega), hlow', IntKind.wrap_u64]
  generalize 2 ^ Lib.ctz 64 x = a
  omega
set_option maxRecDepth 100000 in
set_option maxHeartbeats 400000 in
theorem tz_any (z : Int) (x : Nat) (w : World) (hz : z = x) (h0 : x ≠ 0) (hx : x < 1099511627776) (hT : Tab w) :
    Calls Tryd.prog 46 #[.int .u64 z] w fun e w' => e = .returned (.int .i64 (Lib.ctz 64 x : Nat)) ∧ w' = w := by
  have h := tz64_any z x w hz h0 hx hT
  generalize Lib.ctz 64 x = p at *
  have h1 : 0 < z := by omega
  have h2 : z < 1099511627776 := by omega
  clear hz hx hT h0
  go_enter Tryd.func46, Tryd.ntmps46
  go_wp2_with fail
  refine h.mono ?_
  rintro e w1 ⟨rfl, rfl⟩
  go_wp2
  go_ret
  exact ⟨rfl, rfl⟩
end Go.Proofs.YthidababplamgaaDoor
