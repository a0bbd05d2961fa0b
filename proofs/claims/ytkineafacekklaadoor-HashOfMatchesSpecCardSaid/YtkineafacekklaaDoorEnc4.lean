/- Byte strings of the reference; the input of Of. -/
import Derived.Test.YtkineafacekklaaDoorEnc3
namespace Go.Proofs.YtkineafacekklaaDoor
open Go.RowKit
def encS (s : ByteArray) : List UInt8 := enc s.size ++ s.data.toList
theorem size_toList (s : ByteArray) : s.data.toList.length = s.size := by rw [Array.length_toList]; rfl
theorem encS_len (s : ByteArray) : (encS s).length ≤ 10 + s.size := by
  have := enc_len s.size
  have := size_toList s
  unfold encS
  simp only [List.length_append]; omega
set_option maxHeartbeats 400000 in
theorem wrbytes_any (s : ByteArray) (w : World) (hl : (10 + s.size) ≤ 140737488355328) :
    Calls Tryd.prog 50 #[.string s] w (Ext w.heap.size w (encS s)) := by
  have hel := enc_len s.size
  go_enter Tryd.func50, Tryd.ntmps50
  go_wp2_with (first | (go_at_call 54; refine (rint_any s.size _ (by unfold I64; omega)).mono ?_; rintro e w1 ⟨v1, rfl, ho1, hb1⟩; have hz1 := hb1.size) | (at_builtin; go_loud (refine arm_str (by rfl) _ _ (by rfl) w.heap.size v1 _ (by rfl) ho1 s (by rfl) (by omega) (by omega) ?_); intro v2 w2 ho2 hb2))
  go_ret
  exact ⟨v2, rfl, ho2, hb1.trans hb2⟩
def tagB (tag : Int) : UInt8 := UInt8.ofNat (tag % 256).toNat
theorem tagB_nat (tag : Int) : ((tagB tag).toNat : Int) = tag % 256 := by
  unfold tagB
  have h1 := Int.emod_nonneg tag (show (256 : Int) ≠ 0 by decide)
  have h2 := Int.emod_lt_of_pos tag (show (0 : Int) < 256 by decide)
  generalize tag % 256 = t at *
  simp
  omega
def input (tag : Int) (ss : List ByteArray) : List UInt8 := tagB tag :: ss.flatMap encS
theorem flat_le (ss : List ByteArray) (h : ∀ s ∈ ss, s.size ≤ 400) : (ss.flatMap encS).length ≤ 410 * ss.length :=
  flat_len encS 410 ss fun s hs => by have := encS_len s; have := h s hs; omega
end Go.Proofs.YtkineafacekklaaDoor
