/- What compressed and Begin of a stream do. -/
import Derived.Test.YtkineafacekklaaDoorArr2
namespace Go.Proofs.YtkineafacekklaaDoor
open Go.RowKit
def zst : List Value := uv [0, 0, 0, 0, 0, 0, 0, 0] ++ (bv Z51 ++ [.int .u64 0])
theorem zst_len : zst.length = 73 := rfl
theorem info53 : (Tryd.prog.info? 53).map (fun i => (i.zero, i.size)) = some (some (.agg zst.toArray), 73) := by kernel_rfl
theorem zero53 (w : World) : (zeroValue 53).run Tryd.prog w = .ok (.agg zst.toArray) w := (zero_of_info info53).1 w
theorem z51s : (Tryd.prog.info? 51).map (·.size) = some (bv Z51).length := by rw [size51]; rfl
theorem uv8 (v : V8) : (uv v.list).length = 8 := rfl
set_option maxRecDepth 100000 in
set_option maxHeartbeats 1000000 in
theorem compd_any (v : V8) (b : List UInt8) (n : Nat) (w : World) (h64 : b.length = 64) (hok : v.Ok) (hT : Tab w 1) :
    Calls Tryd.prog 47 #[.agg (stc v b n).toArray] w fun e w' => e = .returned (.agg (stc (comp v b) Z51 n).toArray) ∧ Below w.heap.size w w' := by
  have hA0 := a2_0 w (.cells (stc v b n).toArray 53) (.cells zst.toArray 53)
  have hA1 := a2_1 w (.cells (stc v b n).toArray 53) (.cells zst.toArray 53)
  have HA0 : Hid (Arr ((w.alloc (.cells (stc v b n).toArray 53)).alloc (.cells zst.toArray 53)) w.heap.size 53 ([] ++ (uv v.list ++ (bv b ++ [Value.int .u64 (n : Int)])))) := Lib.hid hA0
  have HA1 : Hid (Arr ((w.alloc (.cells (stc v b n).toArray 53)).alloc (.cells zst.toArray 53)) (w.heap.size + 1) 53 zst) := Lib.hid hA1
  have HA2 : Hid (Arr ((w.alloc (.cells (stc v b n).toArray 53)).alloc (.cells zst.toArray 53)) w.heap.size 53 (uv v.list ++ (bv b ++ [Value.int .u64 (n : Int)]))) := Lib.hid hA0
  have HR0 : Hid (((w.alloc (.cells (stc v b n).toArray 53)).alloc (.cells zst.toArray 53)).rangeAt w.heap.size 0 (uv v.list)) := Lib.hid HA0.out.mid
  have HR1 : Hid (((w.alloc (.cells (stc v b n).toArray 53)).alloc (.cells zst.toArray 53)).rangeAt w.heap.size 8 (bv b)) := Lib.hid HA2.out.mid
  have HB := Lib.hid (bel2 w (.cells (stc v b n).toArray 53) (.cells zst.toArray 53))
  have HT := Lib.hid (hT.keep HB.out)
  have h50 : (Tryd.prog.info? 50).map (·.size) = some (uv v.list).length := size50
  have h51 : (Tryd.prog.info? 51).map (·.size) = some (bv b).length := by rw [size51, bv_len, h64]
  have H50 := Lib.hid h50
  have H51 := Lib.hid h51
  have H64 := Lib.hid h64
  have HOK := Lib.hid hok
  clear hA0 hA1 hT h50 h51 h64 hok
  go_enter Tryd.func47, Tryd.ntmps47
  have hz53 := zero53
  go_wp2_with (first | ((with_reducible refine arm_mid 50 w.heap.size 0 (uv v.list) HR0.out _ Tryd.underlying50 rfl H50.out rfl _ rfl ?_ ?_); focus rfl) | ((with_reducible refine arm_mid 51 w.heap.size 8 (bv b) HR1.out _ Tryd.underlying51 rfl H51.out rfl _ rfl ?_ ?_); focus rfl))
  refine (comp_any v b _ H64.out HOK.out HT.out).mono ?_
  rintro e w1 ⟨rfl, hb1⟩
  have HA3 := Lib.hid (HA0.out.keep hb1)
  have HA4 := Lib.hid (HA1.out.keep hb1)
  have HB1 := Lib.hid (bel_on HB.out hb1)
  have h8 : (uv v.list).length = (uv (comp v b).list).length := (uv8 v).trans (uv8 _).symm
  have h8b : (Tryd.prog.info? 50).map (·.size) = some (uv (comp v b).list).length := by rw [uv8]; exact size50
  have HO1 := Lib.hid (uv_one (comp v b).list)
  have HEQ : Hid (stc (comp v b) Z51 n = uv (comp v b).list ++ (bv Z51 ++ [Value.int .u64 (n : Int)])) := Lib.hid rfl
  have h8s : (uv (comp v b).list).length = 8 := uv8 _
  have h73 : (Tryd.prog.info? 53).map (·.size) = some (uv (comp v b).list ++ (bv Z51 ++ [Value.int .u64 (n : Int)])).length := by
    rw [size53, List.length_append, h8s]; rfl
  have hone : ∀ u ∈ uv (comp v b).list ++ (bv Z51 ++ [Value.int .u64 (n : Int)]), u.oneCell' = true := stc_one (comp v b) Z51 n
  have hz : zst.length = (uv (comp v b).list ++ (bv Z51 ++ [Value.int .u64 (n : Int)])).length := by
    rw [List.length_append, h8s]; rfl
  have h51b : (bv b).length = (bv Z51).length := by rw [bv_len, bv_len]; exact H64.out
  generalize uv (comp v b).list = S at *
  have H8 := Lib.hid h8
  have H8b := Lib.hid h8b
  have H8s := Lib.hid h8s
  have H73 := Lib.hid h73
  have HONE := Lib.hid hone
  have HZ := Lib.hid hz
  have H51B := Lib.hid h51b
  have HZ1 := Lib.hid (bv_one Z51)
  have H51Z := Lib.hid z51s
  clear HA0 HA1 HA2 HR0 HR1 HB HT hb1 H50 H51 HOK h8 h8b h8s h73 hone hz h51b
  go_wp2_with (first
    | ((with_reducible refine arm_part 50 w.heap.size 53 0 [] (uv v.list) (bv b ++ [Value.int .u64 (n : Int)]) S HA3.out ?_ H8.out H8b.out HO1.out rfl _ _ rfl ?_ ?_ ?_); (focus rfl); (focus rfl); (focus rfl); intro w2 hA5 hoth hbe; have HA5 : Hid (Arr w2 w.heap.size 53 (S ++ (bv b ++ [Value.int .u64 (n : Int)]))) := Lib.hid hA5; have HA6 : Hid (Arr w2 (w.heap.size + 1) 53 zst) := Lib.hid ((hoth _ (by simp)).trans HA4.out); have HB2 := Lib.hid (HB1.out.trans (hbe w.heap.size (Nat.le_refl _))); clear hA5 hoth hbe)
    | ((with_reducible refine arm_part 51 w.heap.size 53 8 S (bv b) [Value.int .u64 (n : Int)] (bv Z51) HA5.out H8s.out H51B.out H51Z.out HZ1.out rfl _ _ rfl ?_ ?_ ?_); (focus rfl); (focus rfl); intro w3 hA5 hoth hbe; have HA7 := Lib.hid hA5; have HA8 : Hid (Arr w3 (w.heap.size + 1) 53 zst) := Lib.hid ((hoth _ (by simp)).trans HA6.out); have HB3 := Lib.hid (HB2.out.trans (hbe w.heap.size (Nat.le_refl _))); clear hA5 hoth hbe)
    | ((with_reducible refine arm_row 53 w.heap.size 53 _ HA7.out _ Tryd.underlying53 rfl H73.out rfl _ rfl ?_ ?_); focus rfl)
    | ((with_reducible refine arm_put 53 (w.heap.size + 1) 53 zst (S ++ (bv Z51 ++ [Value.int .u64 (n : Int)])) HA8.out H73.out HZ.out HONE.out rfl _ _ rfl ?_ ?_ ?_); (focus rfl); (focus rfl)))
  exact bodyPost_ret (v := .agg (S ++ (bv Z51 ++ [Value.int .u64 (n : Int)])).toArray) (ret_row Tryd.results47 _ _ (w.heap.size + 1) 53 _ (HA8.out.row _) rfl _ Tryd.underlying53 rfl H73.out) rfl ⟨by rw [HEQ.out], bel_row HB3.out (by omega) _⟩
end Go.Proofs.YtkineafacekklaaDoor
