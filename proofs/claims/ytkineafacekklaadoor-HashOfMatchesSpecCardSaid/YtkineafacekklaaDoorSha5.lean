/- The padding, as the end of a stream writes it. -/
import Derived.Test.YtkineafacekklaaDoorAdd
namespace Go.Proofs.YtkineafacekklaaDoor
open Go.RowKit
def lens (n : Nat) : List UInt8 := (List.range 8).map fun i => UInt8.ofNat (8 * n / 2 ^ (56 - 8 * i))
theorem lens_len (n : Nat) : (lens n).length = 8 := by simp [lens]
def b1 (m : List UInt8) : List UInt8 := (blk m).set (m.length % 64) 128
theorem b1_len (m : List UInt8) : (b1 m).length = 64 := by unfold b1; rw [List.length_set, blk_len]
theorem b1_eq (m : List UInt8) : b1 m = m.drop (64 * (m.length / 64)) ++ (128 :: List.replicate (63 - m.length % 64) 0) := by
  unfold b1 blk
  have hl : (m.drop (64 * (m.length / 64))).length = m.length % 64 := by rw [List.length_drop]; omega
  rw [List.set_append_right _ _ (by omega), hl, Nat.sub_self, show 64 - m.length % 64 = 63 - m.length % 64 + 1 by omega, List.replicate_succ, List.set_cons_zero]
/-- The state before the lengths are written. -/
def vEnd (m : List UInt8) : V8 := if m.length % 64 < 56 then hashN m (m.length / 64) else comp (hashN m (m.length / 64)) (b1 m)
def bEnd (m : List UInt8) : List UInt8 := if m.length % 64 < 56 then b1 m else Z51
def lastB (b : List UInt8) (n : Nat) : List UInt8 := b.take 56 ++ lens n
theorem bEnd_len (m : List UInt8) : (bEnd m).length = 64 := by unfold bEnd; split; exact b1_len m; rfl
theorem lastB_len (b : List UInt8) (n : Nat) (h : b.length = 64) : (lastB b n).length = 64 := by unfold lastB; rw [List.length_append, List.length_take, lens_len, h]; rfl
theorem pad_len (m : List UInt8) : (pad m).length = 64 * (m.length / 64 + if m.length % 64 < 56 then 1 else 2) := by
  unfold pad padOf
  rw [List.length_append, List.length_cons, List.length_append, List.length_replicate]
  simp only [List.length_map, List.length_range]
  split <;> omega
theorem hashN1 (M : List UInt8) (q : Nat) : hashN M (q + 1) = comp (hashN M q) ((M.drop (64 * q)).take 64) := rfl
theorem hashN2 (M : List UInt8) (q : Nat) : hashN M (q + 2) = comp (comp (hashN M q) ((M.drop (64 * q)).take 64)) ((M.drop (64 * (q + 1))).take 64) := rfl
set_option maxRecDepth 20000 in
theorem hash_end (m : List UInt8) : hashN (pad m) ((pad m).length / 64) = comp (vEnd m) (lastB (bEnd m) m.length) := by
  have hl : (m.drop (64 * (m.length / 64))).length = m.length % 64 := by rw [List.length_drop]; omega
  rw [pad_len, Nat.mul_div_cancel_left _ (by decide)]
  have hp : pad m = m ++ (128 :: (List.replicate ((119 - m.length % 64) % 64) 0 ++ lens m.length)) := rfl
  unfold vEnd bEnd lastB
  by_cases h : m.length % 64 < 56
  · rw [if_pos h, if_pos h, if_pos h, hp, hashN1, hashN_prefix m _ _ (by omega), List.drop_append_of_le_length (by omega), b1_eq]
    congr 1
    rw [List.take_of_length_le (by rw [List.length_append, hl, List.length_cons, List.length_append, List.length_replicate, lens_len]; omega)]
    rw [List.take_append, hl, List.take_of_length_le (l := m.drop _) (by omega), List.append_assoc]
    rw [show 56 - m.length % 64 = 55 - m.length % 64 + 1 by omega, List.take_succ_cons, List.take_replicate, List.cons_append, show (119 - m.length % 64) % 64 = 55 - m.length % 64 by omega, show min (55 - m.length % 64) (63 - m.length % 64) = 55 - m.length % 64 by omega]
  · rw [if_neg h, if_neg h, if_neg h, hp, hashN2, hashN_prefix m _ _ (by omega), List.drop_append_of_le_length (by omega)]
    have e1 : List.take 64 (List.drop (64 * (m.length / 64)) m ++ 128 :: (List.replicate ((119 - m.length % 64) % 64) 0 ++ lens m.length)) = b1 m := by
      rw [b1_eq, List.take_append, hl, List.take_of_length_le (l := m.drop _) (by omega)]
      rw [show 64 - m.length % 64 = 63 - m.length % 64 + 1 by omega, List.take_succ_cons, List.take_append_of_le_length (by rw [List.length_replicate]; omega), List.take_replicate, show min (63 - m.length % 64) ((119 - m.length % 64) % 64) = 63 - m.length % 64 by omega]
    have e : (m ++ (128 :: (List.replicate ((119 - m.length % 64) % 64) 0 ++ lens m.length))) = (m ++ (128 :: List.replicate (63 - m.length % 64) 0)) ++ (List.replicate 56 0 ++ lens m.length) := by
      rw [List.append_assoc, List.cons_append, ← List.append_assoc (List.replicate _ 0), List.replicate_append_replicate, show 63 - m.length % 64 + 56 = (119 - m.length % 64) % 64 by omega]
    have e2 : (m ++ (128 :: List.replicate (63 - m.length % 64) 0)).length = 64 * (m.length / 64 + 1) := by
      rw [List.length_append, List.length_cons, List.length_replicate]; omega
    have e3 : List.take 64 (List.drop (64 * (m.length / 64 + 1)) (m ++ (128 :: (List.replicate ((119 - m.length % 64) % 64) 0 ++ lens m.length)))) = List.replicate 56 0 ++ lens m.length := by
      rw [e, List.drop_append_of_le_length (by omega), List.drop_of_length_le (by omega), List.nil_append, List.take_of_length_le (by rw [List.length_append, List.length_replicate, lens_len]; exact Nat.le_refl _)]
    have e4 : Z51.take 56 = List.replicate 56 0 := rfl
    rw [e1, e3, e4]
theorem sha_end (m : List UInt8) : sha m = out (comp (vEnd m) (lastB (bEnd m) m.length)) := by unfold sha; rw [hash_end]
theorem vEnd_ok (m : List UInt8) : (vEnd m).Ok := by unfold vEnd; split; exact hashN_ok _ _; exact comp_ok _ _
theorem stc_bset {w : World} {g t : Nat} {v : V8} {b : List UInt8} {n : Nat} (h : Arr w g t (stc v b n)) (j : Nat) (hj : j < b.length) (c : UInt8) (z : Int) (hz : z = (c.toNat : Int)) (k : Nat) (hk : k = 8 + j) :
    Arr (w.setCell ⟨g, k, none⟩ (.int .u8 z)) g t (stc v (b.set j c) n) := by
  subst hz hk
  have e : stc v (b.set j c) n = (stc v b n).set (8 + j) (.int .u8 (c.toNat : Int)) := by
    unfold stc
    rw [List.set_append_right _ _ (by rw [uv8]; omega), uv8, show 8 + j - 8 = j by omega, List.set_append_left _ _ (by rw [bv_len]; exact hj), bv_set]
  rw [e]
  exact h.set _ _
theorem stc_byte {w : World} {g t : Nat} {v : V8} {b : List UInt8} {n : Nat} (h : Arr w g t (stc v b n)) (j : Nat) (hj : j < b.length) : w.cell? ⟨g, 8 + j, none⟩ = some (.int .u8 ((b.getD j 0).toNat : Int)) := by
  refine h.cell ?_
  unfold stc
  rw [List.getElem?_append_right (by rw [uv8]; omega), uv8, show 8 + j - 8 = j by omega, List.getElem?_append_left (by rw [bv_len]; exact hj), bv_at hj]
  simp [List.getD_eq_getElem?_getD, hj]
theorem stc_word {w : World} {g t : Nat} {v : V8} {b : List UInt8} {n : Nat} (h : Arr w g t (stc v b n)) (j : Nat) (hj : j < 8) : w.cell? ⟨g, j, none⟩ = some (.int .u32 (v.list.getD j 0 : Nat)) := by
  refine h.cell ?_
  unfold stc
  rw [List.getElem?_append_left (by rw [uv8]; exact hj), uv_at (by rw [list_len]; exact hj)]
theorem lens_get (n i : Nat) (h : i < 8) : (lens n)[i]'(by rw [lens_len]; exact h) = UInt8.ofNat (8 * n / 2 ^ (56 - 8 * i)) := by simp [lens]
theorem lens_arg (n i : Nat) : ((n : Int) * 8 / 2 ^ (56 - 8 * i)) % 256 = ((UInt8.ofNat (8 * n / 2 ^ (56 - 8 * i))).toNat : Int) := by
  have e : (n : Int) * 8 / 2 ^ (56 - 8 * i) = ((8 * n / 2 ^ (56 - 8 * i) : Nat) : Int) := by
    rw [show ((2 : Int) ^ (56 - 8 * i)) = ((2 ^ (56 - 8 * i) : Nat) : Int) by simp, show (n : Int) * 8 = ((8 * n : Nat) : Int) by omega]
    rfl
  rw [e]
  simp
/-- The block after k bytes of the length. -/
def lb (B : List UInt8) (n k : Nat) : List UInt8 := (lastB B n).take (56 + k) ++ B.drop (56 + k)
theorem lb_len (B : List UInt8) (n k : Nat) (hB : B.length = 64) (hk : k ≤ 8) : (lb B n k).length = 64 := by
  unfold lb
  rw [List.length_append, List.length_take, List.length_drop, lastB_len B n hB, hB]; omega
theorem lb_zero (B : List UInt8) (n : Nat) (hB : B.length = 64) : lb B n 0 = B := by
  unfold lb
  rw [show (lastB B n).take (56 + 0) = B.take 56 by unfold lastB; rw [List.take_append_of_le_length (by rw [List.length_take, hB]; decide), List.take_take]; rfl, List.take_append_drop]
theorem lb_end (B : List UInt8) (n : Nat) (hB : B.length = 64) : lb B n 8 = lastB B n := by
  unfold lb
  rw [List.take_of_length_le (by rw [lastB_len B n hB]; decide), List.drop_of_length_le (by rw [hB]; decide), List.append_nil]
theorem lb_step (B : List UInt8) (n k : Nat) (hB : B.length = 64) (hk : k < 8) : lb B n (k + 1) = (lb B n k).set (56 + k) (UInt8.ofNat (8 * n / 2 ^ (56 - 8 * k))) := by
  have hml := lastB_len B n hB
  have HM := mix_set (lastB B n) B (by rw [hml, hB]) (56 + k) (by rw [hml]; omega)
  have HG : (lastB B n)[56 + k]'(by rw [hml]; omega) = UInt8.ofNat (8 * n / 2 ^ (56 - 8 * k)) := by
    have h56 : (B.take 56).length = 56 := by rw [List.length_take, hB]; rfl
    unfold lastB
    rw [List.getElem_append_right (by omega), ← lens_get n k hk]
    congr 1
    omega
  rw [HG] at HM
  exact HM.symm
theorem out_len (v : V8) : (out v).length = 32 := by simp [out]
theorem out_get (v : V8) (i : Nat) (h : i < 32) : (out v)[i]'(by rw [out_len]; exact h) = UInt8.ofNat (v.list.getD (i / 4) 0 / 2 ^ (24 - 8 * (i % 4))) := by simp [out]
theorem out_arg (x k : Nat) : ((x : Int) / 2 ^ k) % 256 = ((UInt8.ofNat (x / 2 ^ k)).toNat : Int) := by
  have e : (x : Int) / 2 ^ k = ((x / 2 ^ k : Nat) : Int) := by
    rw [show ((2 : Int) ^ k) = ((2 ^ k : Nat) : Int) by simp]
    rfl
  rw [e]
  simp
def ob (v : V8) (k : Nat) : List UInt8 := (out v).take k ++ (List.replicate 32 0).drop k
theorem ob_len (v : V8) (k : Nat) (hk : k ≤ 32) : (ob v k).length = 32 := by
  unfold ob
  rw [List.length_append, List.length_take, List.length_drop, out_len, List.length_replicate]; omega
theorem ob_end (v : V8) : ob v 32 = out v := by
  unfold ob
  rw [List.take_of_length_le (by rw [out_len]; decide), List.drop_of_length_le (by rw [List.length_replicate]; decide), List.append_nil]
theorem ob_step (v : V8) (k : Nat) (hk : k < 32) : ob v (k + 1) = (ob v k).set k (UInt8.ofNat (v.list.getD (k / 4) 0 / 2 ^ (24 - 8 * (k % 4)))) := by
  have HM := mix_set (out v) (List.replicate 32 0) (by rw [out_len, List.length_replicate]) k (by rw [out_len]; exact hk)
  rw [out_get v k hk] at HM
  exact HM.symm
end Go.Proofs.YtkineafacekklaaDoor
