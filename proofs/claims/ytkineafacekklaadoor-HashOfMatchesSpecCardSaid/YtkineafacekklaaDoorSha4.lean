/- A message as a stream holds it. -/
import Derived.Test.YtkineafacekklaaDoorArr2
namespace Go.Proofs.YtkineafacekklaaDoor
theorem hashN_prefix (m t : List UInt8) (n : Nat) (h : 64 * n ≤ m.length) : hashN (m ++ t) n = hashN m n := by
  induction n with
  | zero => rfl
  | succ n ih =>
    show comp (hashN (m ++ t) n) _ = comp (hashN m n) _
    rw [ih (by omega), List.drop_append_of_le_length (by omega), List.take_append_of_le_length (by rw [List.length_drop]; omega)]
/-- The block of a stream. -/
def blk (m : List UInt8) : List UInt8 := m.drop (64 * (m.length / 64)) ++ List.replicate (64 - m.length % 64) 0
theorem blk_len (m : List UInt8) : (blk m).length = 64 := by
  unfold blk
  rw [List.length_append, List.length_drop, List.length_replicate]
  omega
/-- The cells of the stream of a message. -/
def stm (m : List UInt8) : List Value := stc (hashN m (m.length / 64)) (blk m) m.length
theorem stm_nil : stm [] = stc IV Z51 0 := rfl
theorem stm_len (m : List UInt8) : (stm m).length = 73 := stc_len _ _ _ (blk_len m)
theorem blk_take (m : List UInt8) : (blk m).take (m.length % 64) = m.drop (64 * (m.length / 64)) := by
  unfold blk
  rw [List.take_append_of_le_length (by rw [List.length_drop]; omega), List.take_of_length_le (by rw [List.length_drop]; omega)]
theorem blk_drop (m : List UInt8) (n : Nat) (h : m.length % 64 + n ≤ 64) : (blk m).drop (m.length % 64 + n) = List.replicate (64 - (m.length % 64 + n)) 0 := by
  unfold blk
  have hl : (m.drop (64 * (m.length / 64))).length = m.length % 64 := by rw [List.length_drop]; omega
  rw [List.drop_append, List.drop_of_length_le (by omega), List.nil_append, hl, List.drop_replicate]
  congr 1
  omega
/-- A piece that doesn't fill the block. -/
theorem blk_part (m p : List UInt8) (h : m.length % 64 + p.length < 64) : blk (m ++ p) = (blk m).take (m.length % 64) ++ (p ++ (blk m).drop (m.length % 64 + p.length)) := by
  rw [blk_take, blk_drop m p.length (by omega)]
  unfold blk
  rw [List.length_append, show (m.length + p.length) / 64 = m.length / 64 by omega, show (m.length + p.length) % 64 = m.length % 64 + p.length by omega, List.drop_append_of_le_length (by omega), List.append_assoc]
theorem hash_part (m p : List UInt8) (h : m.length % 64 + p.length < 64) : hashN (m ++ p) ((m ++ p).length / 64) = hashN m (m.length / 64) := by
  rw [List.length_append, show (m.length + p.length) / 64 = m.length / 64 by omega]
  exact hashN_prefix m p _ (by omega)
/-- A piece that fills the block. -/
theorem blk_full (m p : List UInt8) (h : m.length % 64 + p.length = 64) : (blk m).take (m.length % 64) ++ (p ++ (blk m).drop (m.length % 64 + p.length)) = ((m ++ p).drop (64 * (m.length / 64))).take 64 := by
  have hl : (m.drop (64 * (m.length / 64))).length = m.length % 64 := by rw [List.length_drop]; omega
  rw [blk_take, blk_drop m p.length (by omega), h, Nat.sub_self, List.replicate_zero, List.append_nil, List.drop_append_of_le_length (by omega), List.take_of_length_le (by rw [List.length_append, hl]; omega)]
theorem hash_full (m p : List UInt8) (h : m.length % 64 + p.length = 64) : hashN (m ++ p) ((m ++ p).length / 64) = comp (hashN m (m.length / 64)) ((blk m).take (m.length % 64) ++ (p ++ (blk m).drop (m.length % 64 + p.length))) := by
  rw [List.length_append, show (m.length + p.length) / 64 = m.length / 64 + 1 by omega, blk_full m p h]
  show comp (hashN (m ++ p) _) _ = _
  rw [hashN_prefix m p _ (by omega)]
theorem blk_empty (m p : List UInt8) (h : m.length % 64 + p.length = 64) : blk (m ++ p) = Z51 := by
  unfold blk
  have e : (m ++ p).length % 64 = 0 := by rw [List.length_append]; omega
  rw [e, List.drop_of_length_le (by omega)]
  rfl
end Go.Proofs.YtkineafacekklaaDoor
