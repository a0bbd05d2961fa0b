/- Plain facts: what is encoded is decoded; what is decoded is what it encodes; lengths; beginnings. -/
import Derived.Test.YtgnhkhcfelmnhaaMath2
namespace Go.Proofs.Ytgnhkhcfelmnhaa
/-- The shape of a digit list: all but the last from 128 on, the last below 128 and not 0 unless alone. -/
theorem digs_shape (f : Nat) : ∀ m, m < 128 ^ (f + 1) → (digs (f + 1) m).length ≥ 1 ∧ (digs (f + 1) m).length ≤ f + 1 ∧
    (∀ j, j + 1 < (digs (f + 1) m).length → 128 ≤ ((digs (f + 1) m).getD j 0).toNat) ∧ ((digs (f + 1) m).getD ((digs (f + 1) m).length - 1) 0).toNat < 128 ∧
    (1 < (digs (f + 1) m).length → ((digs (f + 1) m).getD ((digs (f + 1) m).length - 1) 0).toNat ≠ 0) ∧ vl (digs (f + 1) m) = m := by
  induction f with
  | zero =>
    intro m hm
    have hm' : m < 128 := by omega
    have e : digs (0 + 1) m = [lo8 m] := by rw [digs, if_pos hm']
    rw [e]
    refine ⟨by simp, by simp, by simp, by simp [lo8_toNat hm']; omega, by simp, ?_⟩
    simp only [vl, lo8_toNat hm']
    omega
  | succ f ih =>
    intro m hm
    by_cases h : m < 128
    · have e : digs (f + 1 + 1) m = [lo8 m] := by rw [digs, if_pos h]
      rw [e]
      refine ⟨by simp, by simp, by simp, by simp [lo8_toNat h]; omega, by simp, ?_⟩
      simp only [vl, lo8_toNat h]
      omega
    · have e : digs (f + 1 + 1) m = hi8 m :: digs (f + 1) (m / 128) := by rw [digs, if_neg h]
      have hlt : m / 128 < 128 ^ (f + 1) := by rw [Nat.div_lt_iff_lt_mul (by decide), ← Nat.pow_succ]; exact hm
      obtain ⟨h1, h2, h3, h4, h5, h6⟩ := ih (m / 128) hlt
      rw [e]
      generalize hg : digs (f + 1) (m / 128) = d at *
      refine ⟨by simp, by simp; omega, ?_, ?_, ?_, ?_⟩
      · intro j hj
        cases j with
        | zero => simp [hi8_toNat]
        | succ j => simpa using h3 j (by simpa using hj)
      · have : (hi8 m :: d).length - 1 = (d.length - 1) + 1 := by simp; omega
        rw [this, List.getD_cons_succ]
        exact h4
      · intro _
        have e2 : (hi8 m :: d).length - 1 = (d.length - 1) + 1 := by simp; omega
        rw [e2, List.getD_cons_succ]
        by_cases hl : 1 < d.length
        · exact h5 hl
        · obtain ⟨c, rfl⟩ : ∃ c, d = [c] := by
            match d, h1, hl with
            | [c], _, _ => exact ⟨c, rfl⟩
            | a :: b :: r, _, h => simp at h
          simp only [List.length_singleton, Nat.sub_self, List.getD_cons_zero]
          simp only [vl] at h6
          have : c.toNat < 128 := by simpa using h4
          omega
      · simp only [vl, hi8_toNat, h6]
        omega
theorem enc_shape {z : Int} (hz : I64 z) : (enc z).length ≥ 1 ∧ (enc z).length ≤ 10 ∧ (∀ j, j + 1 < (enc z).length → 128 ≤ ((enc z).getD j 0).toNat) ∧ ((enc z).getD ((enc z).length - 1) 0).toNat < 128 ∧
    (1 < (enc z).length → ((enc z).getD ((enc z).length - 1) 0).toNat ≠ 0) ∧ vl (enc z) = zig z :=
  digs_shape 9 (zig z) (by have := zig_lt hz; omega)
theorem enc_last9 {z : Int} (hz : I64 z) (h : (enc z).length = 10) : ((enc z).getD 9 0).toNat ≤ 1 := by
  obtain ⟨h1, h2, h3, h4, h5, h6⟩ := enc_shape hz
  have hlt := zig_lt hz
  rw [← h6] at hlt
  have e : enc z = (enc z).take 9 ++ [(enc z)[9]'(by omega)] := by
    rw [← List.take_succ_eq_append_getElem (by omega), List.take_of_length_le (by omega)]
  rw [h] at h4
  rw [getD_get _ 9 (by omega)] at h4 ⊢
  have hv : vl (enc z) = vl ((enc z).take 9) + 128 ^ 9 * ((enc z)[9]'(by omega)).toNat := by
    have := congrArg vl e
    rw [vl_append, List.length_take, Nat.min_eq_left (by omega)] at this
    rw [this]
    simp only [vl]
    rw [show ((enc z)[9]'(by omega)).toNat % 128 + 128 * 0 = ((enc z)[9]'(by omega)).toNat from by omega]
  have e9 : (128 : Nat) ^ 9 = 9223372036854775808 := by decide
  rw [e9] at hv
  omega
/-- What is encoded is decoded, whatever follows. -/
theorem getI_enc {z : Int} (hz : I64 z) (t : List UInt8) : getI (enc z ++ t) = (z, (enc z).length, 0) := by
  obtain ⟨h1, h2, h3, h4, h5, h6⟩ := enc_shape hz
  obtain ⟨k, hk⟩ : ∃ k, (enc z).length = k + 1 := ⟨(enc z).length - 1, by omega⟩
  have hget : ∀ j, j < k + 1 → (enc z ++ t).getD j 0 = (enc z).getD j 0 := fun j hj => by
    simp [List.getD, List.getElem?_append_left (show j < (enc z).length by omega)]
  have hb : bad k ((enc z ++ t).getD k 0) = false := by
    rw [hget k (by omega)]
    unfold bad
    simp only [Bool.or_eq_false_iff, Bool.and_eq_false_iff, decide_eq_false_iff_not]
    constructor
    · by_cases h9 : k = 9
      · right
        subst h9
        have := enc_last9 hz hk
        omega
      · exact .inl h9
    · by_cases h0 : 0 < k
      · right
        have := h5 (by omega)
        rw [hk] at this
        exact this
      · exact .inl h0
  have hok := getI_ok (enc z ++ t) k (by simp; omega) (by omega) (fun j hj => by rw [hget j (by omega)]; exact h3 j (by omega)) hb (by rw [hget k (by omega)]; rw [hk] at h4; exact h4)
  rw [hok, ← hk, List.take_left, h6, zag_zig]
/-- A proper beginning of an encoding is cut short. -/
theorem getI_short {z : Int} (hz : I64 z) (i : Nat) (hi : i < (enc z).length) : getI ((enc z).take i) = (0, 0, 10) := by
  obtain ⟨h1, h2, h3, h4, h5, h6⟩ := enc_shape hz
  have hl : ((enc z).take i).length = i := by rw [List.length_take]; omega
  refine getI_end _ (by omega) (fun j hj => ?_)
  rw [hl] at hj
  have e : ((enc z).take i).getD j 0 = (enc z).getD j 0 := by simp [List.getD, hj]
  rw [e]
  exact h3 j (by omega)
/-- A list of digits is what its number has. -/
theorem digs_vl (f : Nat) : ∀ l : List UInt8, l.length ≥ 1 → l.length ≤ f → (∀ j, j + 1 < l.length → 128 ≤ (l.getD j 0).toNat) → (l.getD (l.length - 1) 0).toNat < 128 → (1 < l.length → (l.getD (l.length - 1) 0).toNat ≠ 0) → digs f (vl l) = l := by
  induction f with
  | zero => intro l h1 h2; omega
  | succ f ih =>
    intro l h1 h2 h3 h4 h5
    match l, h1 with
    | [c], _ =>
      have hc : c.toNat < 128 := by simpa using h4
      have e : vl [c] = c.toNat := by simp only [vl]; omega
      rw [e, digs, if_pos hc]
      unfold lo8
      simp
    | c :: d :: r, _ =>
      have hc : 128 ≤ c.toNat := by simpa using h3 0 (by simp)
      have hcl := c.toNat_lt
      have hlen : (c :: d :: r).length - 1 = (d :: r).length - 1 + 1 := by simp
      have h4' : ((d :: r).getD ((d :: r).length - 1) 0).toNat < 128 := by rw [hlen, List.getD_cons_succ] at h4; exact h4
      have h5' : ((d :: r).getD ((d :: r).length - 1) 0).toNat ≠ 0 := by have := h5 (by simp); rw [hlen, List.getD_cons_succ] at this; exact this
      have hih := ih (d :: r) (by simp) (by simpa using h2) (fun j hj => by simpa using h3 (j + 1) (by simpa using hj)) h4' (fun _ => h5')
      have hv : vl (c :: d :: r) = c.toNat % 128 + 128 * vl (d :: r) := rfl
      have hpos : 1 ≤ vl (d :: r) := by
        rcases Nat.eq_zero_or_pos (vl (d :: r)) with h0 | h0
        · exfalso
          rw [h0] at hih
          cases f with
          | zero => simp [digs] at hih
          | succ f =>
            have e : digs (f + 1) 0 = [lo8 0] := by rw [digs, if_pos (by decide)]
            rw [e] at hih
            rw [← hih] at h5'
            exact h5' (by decide)
        · exact h0
      have e2 : vl (c :: d :: r) / 128 = vl (d :: r) := by rw [hv]; omega
      have e3 : hi8 (vl (c :: d :: r)) = c := by
        apply UInt8.toNat_inj.1
        rw [hi8_toNat, hv]
        omega
      rw [digs, if_neg (by rw [hv]; omega), e2, e3, hih]
/-- What is decoded is what it encodes. -/
theorem enc_getI {l : List UInt8} {z : Int} {u : Nat} (h : getI l = (z, u, 0)) : enc z = l.take u := by
  obtain ⟨h1, h2, h3, h4⟩ := cont_spec 10 l
  unfold getI at h
  split at h
  · cases h
  · rename_i hn
    split at h
    · cases h
    · rename_i hl
      split at h
      · cases h
      · rename_i hb
        injection h with hz h
        injection h with hu _
        have hlt : cont 10 l < l.length := by omega
        have hlast : (l.getD (cont 10 l) 0).toNat < 128 := by omega
        have hg := good_of (k := cont 10 l) (c := l.getD (cont 10 l) 0) (by simpa using hb)
        generalize cont 10 l = k at *
        subst hz hu
        have hlen : (l.take (k + 1)).length = k + 1 := by rw [List.length_take]; omega
        have hget : ∀ j, j < k + 1 → (l.take (k + 1)).getD j 0 = l.getD j 0 := fun j hj => by simp [List.getD, hj]
        unfold enc
        rw [zig_zag]
        refine digs_vl 10 _ (by omega) (by omega) (fun j hj => ?_) ?_ ?_
        · rw [hget j (by omega)]; exact h3 j (by omega)
        · rw [hlen, Nat.add_sub_cancel, hget k (by omega)]; exact hlast
        · intro h0
          rw [hlen, Nat.add_sub_cancel, hget k (by omega)]
          have := hg.2 (by omega)
          omega
end Go.Proofs.Ytgnhkhcfelmnhaa
