/- WireTruncated where its inputs hold too much: it answers what sanity answers. -/
import Derived.Test.YtgnhkhcfelmnhaaLawX
namespace Go.Proofs.Ytgnhkhcfelmnhaa
open Go.RowKit
set_option maxRecDepth 100000 in
set_option maxHeartbeats 4000000 in
theorem lawT_big (z : Int) (s : ByteArray) (A2 A3 A4 : Option Addr) (n2 c2 n3 c3 n4 c4 : Nat) (w : World) (hb : 400 < s.size + 10 * n2 + 16 * n4) (hs : s.size ≤ 140737488351232) (h2 : n2 ≤ 17592186044416) (h4 : n4 ≤ 17592186044416) :
    Calls Try.prog 9 #[.int .i64 z, .string s, .slice A2 n2 c2, .slice A3 n3 c3, .slice A4 n4 c4] w fun e w' => e = .returned (.bool true) ∧ Below w.heap.size w w' := by
  go_enter Try.func9, Try.ntmps9
  go_wp2_with (go_at_call 12; refine (sanity_any w).mono ?_; rintro e w1 ⟨rfl, hb1⟩)
  go_ret
  exact ⟨rfl, hb1⟩
set_option maxRecDepth 100000 in
set_option maxHeartbeats 4000000 in
theorem lawT_wide (z : Int) (s : ByteArray) (A2 A3 A4 : Option Addr) (n2 c2 n3 c3 n4 c4 : Nat) (w : World) (hb : s.size + 10 * n2 + 16 * n4 ≤ 400) (h3 : 40 < n3) :
    Calls Try.prog 9 #[.int .i64 z, .string s, .slice A2 n2 c2, .slice A3 n3 c3, .slice A4 n4 c4] w fun e w' => e = .returned (.bool true) ∧ Below w.heap.size w w' := by
  go_enter Try.func9, Try.ntmps9
  go_wp2_with (go_at_call 12; refine (sanity_any w).mono ?_; rintro e w1 ⟨rfl, hb1⟩)
  go_ret
  exact ⟨rfl, hb1⟩
set_option maxRecDepth 100000 in
set_option maxHeartbeats 4000000 in
theorem lawT_many (z : Int) (s : ByteArray) (A2 A3 A4 : Option Addr) (n2 c2 c3 n4 c4 : Nat) (ss : List ByteArray) (w : World) (hb : s.size + 10 * n2 + 16 * n4 ≤ 400) (h3 : ss.length ≤ 40) (hr : RV w A3 (sv ss)) (ht : ss.length + total (ss.map fun s => s.data.toList) ≤ 9000000000000000000) (hm : ¬ ss.length + total (ss.map fun s => s.data.toList) ≤ 2000) :
    Calls Try.prog 9 #[.int .i64 z, .string s, .slice A2 n2 c2, .slice A3 ss.length c3, .slice A4 n4 c4] w fun e w' => e = .returned (.bool true) ∧ Below w.heap.size w w' := by
  have hf := few_any A3 c3 ss.length (ss.map fun s => s.data.toList) w (by simp) (by rw [sv_tv]; exact hr) ht
  rw [decide_eq_false hm] at hf
  have HF := Lib.hid hf
  clear hf hr ht hm
  go_enter Try.func9, Try.ntmps9
  go_wp2_with fail
  refine HF.out.mono ?_
  rintro e w0 ⟨rfl, rfl⟩
  go_wp2_with (go_at_call 12; refine (sanity_any w).mono ?_; rintro e w1 ⟨rfl, hb1⟩)
  go_ret
  exact ⟨rfl, hb1⟩
end Go.Proofs.Ytgnhkhcfelmnhaa
