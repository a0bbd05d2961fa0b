/- What the laws' checked does. -/
import Derived.Test.YthidababplamgaaDoorC8
namespace Go.Proofs.YthidababplamgaaDoor
open Go.RowKit
/-- A state as three numbers. -/
def stI (r : Nat × Nat × Nat) : List Int := [(r.1 : Int), (r.2.1 : Int), (r.2.2 : Int)]
def stV (r : Nat × Nat × Nat) : Value := .agg (iv (stI r)).toArray
def Z3 : List Int := [0, 0, 0]
theorem size29' (r : Nat × Nat × Nat) : (Tryd.prog.info? 29).map (·.size) = some (iv (stI r)).length := size29
set_option maxRecDepth 100000 in
set_option maxHeartbeats 1000000 in
theorem checked_any (L : List Int) (c : Int) (w : World) (h8 : L.length = 8) (hT : Tab w) :
    Calls Tryd.prog 16 #[.agg (iv L).toArray, .int .i64 c] w fun e w' => e = .returned (stV (chkZ L c)) ∧ Below w.heap.size w w' := by
  have HI := Lib.hid (size22' (l := L) h8)
  have H22 := Lib.hid Tryd.underlying22
  have H29 := Lib.hid Tryd.underlying29
  have HT := Lib.hid (hT.keep (bel2 w (.cells (iv L).toArray 22) (.cells (iv Z3).toArray 29)))
  have HC := Lib.hid fun w hT => check_any L c w h8 hT
  generalize chkZ L c = r at *
  have HIR := Lib.hid (size29' r)
  have HOR := Lib.hid (iv_one (stI r))
  have HLR := Lib.hid (show (iv Z3).length = (iv (stI r)).length from rfl)
  clear hT
  go_enter Tryd.func16, Tryd.ntmps16
  go_wp2_with ((with_reducible refine arm_row 22 w.heap.size 22 _ (Arr2_0 w (iv L) 22 _) _ H22.out rfl HI.out rfl _ rfl ?_ ?_); focus rfl)
  refine (HC.out _ HT.out).mono ?_
  rintro e w1 ⟨rfl, hb⟩
  have HZ : Hid (Arr w1 (w.heap.size + 1) 29 (iv Z3)) := Lib.hid (Arr.keep (a2_1 _ _ _) hb)
  have HB : Hid (Below w.heap.size w w1) := Lib.hid (bel_on (bel2 _ _ _) hb)
  clear hb
  unfold t3
  go_wp2_with ((with_reducible refine arm_put 29 (w.heap.size + 1) 29 _ _ HZ.out HIR.out HLR.out HOR.out rfl _ _ rfl ?_ ?_ ?_); (focus rfl); (focus rfl))
  refine bodyPost_ret (v := stV r) (ret_row Tryd.results16 _ _ (w.heap.size + 1) 29 (iv (stI r)) (HZ.out.row _) rfl _ H29.out rfl HIR.out) rfl ?_
  exact ⟨rfl, bel_row HB.out (by omega) _⟩
end Go.Proofs.YthidababplamgaaDoor
