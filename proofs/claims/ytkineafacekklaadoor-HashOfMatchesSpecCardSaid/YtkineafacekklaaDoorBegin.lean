/- What Begin does. -/
import Derived.Test.YtkineafacekklaaDoorCompd
namespace Go.Proofs.YtkineafacekklaaDoor
open Go.RowKit
theorem build53 (w : World) : (Instr.build 53 #[(0, .agg #[.int .u32 1779033703, .int .u32 3144134277, .int .u32 1013904242, .int .u32 2773480762, .int .u32 1359893119, .int .u32 2600822924, .int .u32 528734635, .int .u32 1541459225])]).run Tryd.prog w = .ok (.agg (stc IV Z51 0).toArray) w := by kernel_rfl
theorem st0_len : (stc IV Z51 0).length = 73 := rfl
theorem st0_size : (Tryd.prog.info? 53).map (·.size) = some (stc IV Z51 0).length := size53
set_option maxRecDepth 100000 in
set_option maxHeartbeats 400000 in
theorem begins_any (w : World) : Calls Tryd.prog 31 #[] w fun e w' => e = .returned (.agg (stc IV Z51 0).toArray) ∧ Below w.heap.size w w' := by
  have hz53 := zero53
  have hb := build53
  have HO := Lib.hid (stc_one IV Z51 0)
  have HL := Lib.hid st0_len
  have HS := Lib.hid st0_size
  go_enter Tryd.func31, Tryd.ntmps31
  go_wp2_with ((with_reducible refine arm_new 53 (stc IV Z51 0) 73 HL.out size53 HO.out _ ?_ rfl _ _ rfl ?_ ?_ ?_); (focus rfl); (focus rfl); (focus rfl))
  exact bodyPost_ret (v := .agg (stc IV Z51 0).toArray) (ret_row Tryd.results31 _ _ w.heap.size 53 _ (Arr.new _ _ _) rfl _ Tryd.underlying53 rfl HS.out) rfl ⟨rfl, bel_new _ _⟩
end Go.Proofs.YtkineafacekklaaDoor
