/- SHA-256: what the loops of the schedule come to. -/
import Derived.Test.YtkineafacekklaaDoorSha
namespace Go.Proofs.YtkineafacekklaaDoor
/-- Word i after the first k bytes of a block. -/
def pval (b : List UInt8) (k i : Nat) : Nat := (((b.take k).drop (4 * i)).take 4).foldl (fun a c => a * 256 + c.toNat) 0
def pw (b : List UInt8) (k : Nat) : List Nat := (List.range 64).map (pval b k)
theorem pw_len (b : List UInt8) (k : Nat) : (pw b k).length = 64 := by simp [pw]
theorem fold_lt (l : List UInt8) : ∀ a n, a < n → l.foldl (fun a c => a * 256 + c.toNat) a < n * 256 ^ l.length := by
  induction l with
  | nil => intro a n h; simpa using h
  | cons c l ih =>
    intro a n h
    have hc := c.toNat_lt
    have := ih (a * 256 + c.toNat) (n * 256) (by omega)
    simp only [List.foldl_cons, List.length_cons, Nat.pow_succ]
    rwa [Nat.mul_assoc, Nat.mul_comm 256] at this
theorem pval_lt (b : List UInt8) (k i m : Nat) (h : (((b.take k).drop (4 * i)).take 4).length ≤ m) : pval b k i < 256 ^ m := by
  have h1 := fold_lt (((b.take k).drop (4 * i)).take 4) 0 1 (by decide)
  rw [Nat.one_mul] at h1
  exact Nat.lt_of_lt_of_le h1 (Nat.pow_le_pow_right (by decide) h)
theorem pval_lt32 (b : List UInt8) (k i : Nat) : pval b k i < 4294967296 := pval_lt b k i 4 (List.length_take_le _ _)
theorem pval_zero (b : List UInt8) (k i : Nat) (h : k ≤ 4 * i) : pval b k i = 0 := by
  unfold pval
  rw [List.drop_eq_nil_of_le (by rw [List.length_take]; omega)]
  rfl
theorem pval_here (b : List UInt8) (k : Nat) (h : k < b.length) : pval b (k + 1) (k / 4) = pval b k (k / 4) * 256 + b[k].toNat ∧ pval b k (k / 4) < 16777216 := by
  have hl : (((b.take k).drop (4 * (k / 4)))).length = k % 4 := by rw [List.length_drop, List.length_take]; omega
  constructor
  · unfold pval
    rw [List.take_succ_eq_append_getElem h, List.drop_append_of_le_length (by rw [List.length_take]; omega), List.take_of_length_le (l := _ ++ _) (by rw [List.length_append, hl]; simp only [List.length_singleton]; omega), List.take_of_length_le (l := (b.take k).drop _) (by omega), List.foldl_append]
    simp only [List.foldl_cons, List.foldl_nil]
  · exact pval_lt b k (k / 4) 3 (by rw [List.length_take, hl]; omega)
theorem pval_other (b : List UInt8) (k i : Nat) (h : k < b.length) (hi : i ≠ k / 4) : pval b (k + 1) i = pval b k i := by
  rcases Nat.lt_or_ge (4 * i) (k + 1) with h1 | h1
  · unfold pval
    rw [List.take_succ_eq_append_getElem h, List.drop_append_of_le_length (by rw [List.length_take]; omega), List.take_append_of_le_length (by rw [List.length_drop, List.length_take]; omega)]
  · rw [pval_zero b (k + 1) i h1, pval_zero b k i (by omega)]
theorem pw_step (b : List UInt8) (k : Nat) (h : k < b.length) : pw b (k + 1) = (pw b k).set (k / 4) (pval b k (k / 4) * 256 + b[k].toNat) := by
  apply List.ext_getElem
  · simp [pw]
  · intro i h1 h2
    rw [List.getElem_set]
    simp only [pw, List.getElem_map, List.getElem_range]
    split
    · rename_i e; rw [← e]; exact (pval_here b k h).1
    · rename_i e; exact pval_other b k i h (fun e' => e e'.symm)
theorem pw_zero (b : List UInt8) : pw b 0 = List.replicate 64 0 := by
  apply List.ext_getElem
  · simp [pw]
  · intro i h1 h2
    rw [List.getElem_replicate]
    simp [pw, pval_zero]
theorem pval_word (b : List UInt8) (h64 : b.length = 64) (i : Nat) (hi : i < 16) : pval b 64 i = word b i := by
  unfold pval word be4
  rw [List.take_of_length_le (l := b) (by omega)]
  have e : b.drop (4 * i) = b.getD (4 * i) 0 :: b.getD (4 * i + 1) 0 :: b.getD (4 * i + 2) 0 :: b.getD (4 * i + 3) 0 :: b.drop (4 * i + 4) := by
    rw [List.drop_eq_getElem_cons (by omega), List.drop_eq_getElem_cons (show 4 * i + 1 < b.length by omega), List.drop_eq_getElem_cons (show 4 * i + 1 + 1 < b.length by omega), List.drop_eq_getElem_cons (show 4 * i + 1 + 1 + 1 < b.length by omega)]
    simp [show 4 * i < b.length by omega, show 4 * i + 1 < b.length by omega, show 4 * i + 2 < b.length by omega, show 4 * i + 3 < b.length by omega]
  rw [e]
  simp
/-- The array while the schedule is extended. -/
def sw (b : List UInt8) (k : Nat) : List Nat := extW (words16 b) k ++ List.replicate (48 - k) 0
theorem sw_len (b : List UInt8) (k : Nat) (hk : k ≤ 48) : (sw b k).length = 64 := by
  unfold sw
  rw [List.length_append, extW_len, words16_len, List.length_replicate]
  omega
theorem pw_end (b : List UInt8) (h64 : b.length = 64) : pw b 64 = sw b 0 := by
  apply List.ext_getElem
  · rw [pw_len, sw_len b 0 (by decide)]
  · intro i h1 h2
    rw [pw_len] at h1
    simp only [pw, List.getElem_map, List.getElem_range, sw, extW, words16]
    rcases Nat.lt_or_ge i 16 with h | h
    · rw [List.getElem_append_left (by simpa using h), pval_word b h64 i h]
      simp
    · rw [List.getElem_append_right (by simpa using h), pval_zero b 64 i (by omega), List.getElem_replicate]
theorem getD_left {α : Type} (a b : List α) (i : Nat) (d : α) (h : i < a.length) : (a ++ b).getD i d = a.getD i d := by
  rw [List.getD_eq_getElem?_getD, List.getD_eq_getElem?_getD, List.getElem?_append_left h]
theorem extW_getD (l : List Nat) (k i : Nat) (h : i < l.length + k) (m : Nat) : (extW l (k + m)).getD i 0 = (extW l k).getD i 0 := by
  induction m with
  | zero => rfl
  | succ m ih =>
    rw [← ih]
    show (extW l (k + m) ++ _).getD i 0 = _
    rw [getD_left]
    rw [extW_len]; omega
theorem sw_getD (b : List UInt8) (k i : Nat) (h : i < 16 + k) : (sw b k).getD i 0 = (extW (words16 b) k).getD i 0 := by
  unfold sw
  rw [getD_left]
  rw [extW_len, words16_len]; omega
theorem sw_step (b : List UInt8) (k : Nat) (hk : k < 48) : sw b (k + 1) = (sw b k).set (16 + k) (nextW (sw b k) (16 + k)) := by
  have e : nextW (sw b k) (16 + k) = nextW (extW (words16 b) k) (16 + k) := by
    unfold nextW
    rw [sw_getD _ _ _ (by omega), sw_getD _ _ _ (by omega), sw_getD _ _ _ (by omega), sw_getD _ _ _ (by omega)]
  rw [e]
  unfold sw
  have hl : (extW (words16 b) k).length = 16 + k := by rw [extW_len, words16_len]
  rw [List.set_append_right _ _ (by omega), hl, Nat.sub_self, show 48 - k = 48 - (k + 1) + 1 by omega, List.replicate_succ, List.set_cons_zero]
  show (extW (words16 b) k ++ [_]) ++ _ = _
  rw [List.append_assoc]
  rfl
theorem sw_end (b : List UInt8) : sw b 48 = sched b := by unfold sw sched; simp
theorem add_lt (a b : Nat) : add a b < 4294967296 := Nat.mod_lt _ (by decide)
theorem word_lt (b : List UInt8) (i : Nat) : word b i < 4294967296 := by
  unfold word be4
  have h1 := (b.getD (4 * i) 0).toNat_lt
  have h2 := (b.getD (4 * i + 1) 0).toNat_lt
  have h3 := (b.getD (4 * i + 2) 0).toNat_lt
  have h4 := (b.getD (4 * i + 3) 0).toNat_lt
  omega
theorem extW_lt (b : List UInt8) (k : Nat) : ∀ x ∈ extW (words16 b) k, x < 4294967296 := by
  induction k with
  | zero =>
    intro x hx
    obtain ⟨i, _, rfl⟩ := List.mem_map.1 hx
    exact word_lt b i
  | succ k ih =>
    intro x hx
    rcases List.mem_append.1 hx with h | h
    · exact ih x h
    · rw [List.mem_singleton.1 h]; exact add_lt _ _
theorem sw_lt (b : List UInt8) (k i : Nat) : (sw b k).getD i 0 < 4294967296 := by
  rcases Nat.lt_or_ge i (sw b k).length with h | h
  · rw [List.getD_eq_getElem?_getD, List.getElem?_eq_getElem h]
    show (sw b k)[i] < _
    rcases List.mem_append.1 (List.getElem_mem h) with h1 | h1
    · exact extW_lt b k _ h1
    · rw [(List.mem_replicate.1 h1).2]; decide
  · rw [List.getD_eq_getElem?_getD, List.getElem?_eq_none h]; decide
theorem sched_lt (b : List UInt8) (i : Nat) : (sched b).getD i 0 < 4294967296 := by rw [← sw_end]; exact sw_lt b 48 i
theorem KS_lt (i : Nat) : KS.getD i 0 < 4294967296 := by
  rcases Nat.lt_or_ge i 64 with h | h
  · have : ∀ i, i < 64 → KS.getD i 0 < 4294967296 := by decide +kernel
    exact this i h
  · rw [List.getD_eq_getElem?_getD, List.getElem?_eq_none (by exact h)]; decide
end Go.Proofs.YtkineafacekklaaDoor
