/- What the reference's Input does, and that it separates. -/
import Derived.Test.YtkineafacekklaaDoorEnc4
import Derived.Test.YtkineafacekklaaDoorRef2
namespace Go.Proofs.YtkineafacekklaaDoor
open Go.RowKit
theorem own_one (w : World) (B : Nat) (hB : B ≤ w.heap.size) (b : UInt8) : Own (w.alloc (.cells #[.int .u8 (b.toNat : Int)] 5)) B (.slice (some ⟨w.heap.size, 0, none⟩) 1 1) [b] :=
  ⟨rfl, .inr ⟨w.heap.size, 1, #[.int .u8 (b.toNat : Int)], rfl, hB, heap_alloc_last w _, Nat.le_refl _, by decide, rfl, rfl⟩⟩
theorem digs_pf : ∀ (f m m' : Nat) (x y : List UInt8), m < 128 ^ f → m' < 128 ^ f → digs f m ++ x = digs f m' ++ y → m = m' ∧ x = y
  | 0, m, m', x, y, h1, h2, h => by
    rw [Nat.pow_zero] at h1 h2
    exact ⟨by omega, h⟩
  | f + 1, m, m', x, y, h1, h2, h => by
    rw [Nat.pow_succ] at h1 h2
    rw [digs, digs] at h
    by_cases a : m < 128
    · by_cases b : m' < 128
      · rw [if_pos a, if_pos b] at h
        have h3 := List.cons.inj h
        have h4 := congrArg UInt8.toNat h3.1
        rw [lo8_toNat a, lo8_toNat b] at h4
        exact ⟨h4, h3.2⟩
      · rw [if_pos a, if_neg b] at h
        have h4 := congrArg UInt8.toNat (List.cons.inj h).1
        rw [lo8_toNat a, hi8_toNat] at h4
        omega
    · by_cases b : m' < 128
      · rw [if_neg a, if_pos b] at h
        have h4 := congrArg UInt8.toNat (List.cons.inj h).1
        rw [lo8_toNat b, hi8_toNat] at h4
        omega
      · rw [if_neg a, if_neg b] at h
        have h3 := List.cons.inj h
        have h4 := congrArg UInt8.toNat h3.1
        rw [hi8_toNat, hi8_toNat] at h4
        have h5 := digs_pf f (m / 128) (m' / 128) x y (by omega) (by omega) h3.2
        exact ⟨by omega, h5.2⟩
theorem enc_pf (a b : Nat) (x y : List UInt8) (ha : a ≤ 400) (hb : b ≤ 400) (h : enc (a : Int) ++ x = enc (b : Int) ++ y) : a = b ∧ x = y := by
  have e : ∀ c : Nat, zig (c : Int) = c * 2 := fun c => by unfold zig; rw [if_neg (by omega)]; omega
  unfold enc at h
  have h1 := digs_pf 10 _ _ x y (by rw [e]; omega) (by rw [e]; omega) h
  rw [e, e] at h1
  exact ⟨by omega, h1.2⟩
theorem enc_pos (z : Int) : 1 ≤ (enc z).length := by
  unfold enc
  rw [digs]
  split <;> simp
theorem encS_pf (s s' : ByteArray) (x y : List UInt8) (hs : s.size ≤ 400) (hs' : s'.size ≤ 400) (h : encS s ++ x = encS s' ++ y) : s = s' ∧ x = y := by
  unfold encS at h
  rw [List.append_assoc, List.append_assoc] at h
  have h1 := enc_pf _ _ _ _ hs hs' h
  have h2 := List.append_inj h1.2 (by rw [size_toList, size_toList]; exact h1.1)
  refine ⟨?_, h2.2⟩
  have h3 : s.data = s'.data := Array.toList_inj.1 h2.1
  cases s; cases s'
  simp_all
theorem encS_pos (s : ByteArray) : 1 ≤ (encS s).length := by
  unfold encS
  have := enc_pos s.size
  rw [List.length_append]
  omega
theorem flat_inj : ∀ (a b : List ByteArray), (∀ s ∈ a, s.size ≤ 400) → (∀ s ∈ b, s.size ≤ 400) → a.flatMap encS = b.flatMap encS → a = b
  | [], [], _, _, _ => rfl
  | [], s :: r, _, _, h => by
    exfalso
    have h1 := encS_pos s
    have h2 := congrArg List.length h
    rw [List.flatMap_nil, List.flatMap_cons, List.length_append, List.length_nil] at h2
    omega
  | s :: r, [], _, _, h => by
    exfalso
    have h1 := encS_pos s
    have h2 := congrArg List.length h
    rw [List.flatMap_nil, List.flatMap_cons, List.length_append, List.length_nil] at h2
    omega
  | s :: r, s' :: r', ha, hb, h => by
    rw [List.flatMap_cons, List.flatMap_cons] at h
    obtain ⟨e1, e2⟩ := encS_pf s s' _ _ (ha s (by simp)) (hb s' (by simp)) h
    rw [e1, flat_inj r r' (fun x hx => ha x (by simp [hx])) (fun x hx => hb x (by simp [hx])) e2]
theorem input_inj {t t' : Int} {a b : List ByteArray} (ha : ∀ s ∈ a, s.size ≤ 400) (hb : ∀ s ∈ b, s.size ≤ 400) (h : input t a = input t' b) : tagB t = tagB t' ∧ a = b := by
  unfold input at h
  have h1 := List.cons.inj h
  exact ⟨h1.1, flat_inj a b ha hb h1.2⟩
theorem tag_nat (x : UInt8) : tagB (x.toNat : Int) = x := by
  have h := tagB_nat (x.toNat : Int)
  have hx := x.toNat_lt
  exact UInt8.toNat_inj.1 (by omega)
set_option maxRecDepth 100000 in
set_option maxHeartbeats 400000 in
theorem input_any (tag : Int) (A : Option Addr) (n cap : Nat) (ss : List ByteArray) (w : World) (hn : ss.length = n) (hr : RV w A (sv ss)) (hl : n ≤ 12) (h4 : ∀ s ∈ ss, s.size ≤ 400) :
    Calls Tryd.prog 36 #[.int .i64 tag, .slice A n cap] w (Ext w.heap.size w (input tag ss)) := by
  have HN := Lib.hid hn
  have HR := Lib.hid hr
  have H4 := Lib.hid h4
  have hw : IntKind.u8.wrap tag = ((tagB tag).toNat : Int) := by rw [IntKind.wrap_u8', ← tagB_nat]
  have HO := Lib.hid (own_one w w.heap.size (Nat.le_refl _) (tagB tag))
  have HB0 := Lib.hid (bel_new w (.cells #[.int .u8 ((tagB tag).toNat : Int)] 5))
  clear hn hr h4
  go_enter Tryd.func36, Tryd.ntmps36
  go_wp2
  go_loopw [5, 6] (fun v i wr => ∃ k : Nat, i = .int .i64 k ∧ k ≤ n ∧ Own wr w.heap.size v (tagB tag :: (ss.take k).flatMap encS) ∧ Below w.heap.size w wr) (fun _ i _ => n - (intOf i).toNat)
  case atStart => exact ⟨0, rfl, by omega, by simpa using HO.out, HB0.out⟩
  case round =>
    obtain ⟨k, rfl, hk, ho, hb⟩ := hrel
    have hhs := hb.size
    by_cases hlt : k < n
    · have hkl : k < ss.length := by rw [HN.out]; exact hlt
      obtain ⟨b, o, rfl, hc⟩ := HR.out.at_ (w' := wr) hb (k := k) (sv_at hkl)
      have hs4 := H4.out _ (List.getElem_mem hkl)
      have HTK : Hid (tagB tag :: (ss.take (k + 1)).flatMap encS = (tagB tag :: (ss.take k).flatMap encS) ++ encS ss[k]) := Lib.hid (by rw [List.take_succ_eq_append_getElem hkl, List.flatMap_append]; simp)
      have hml : (tagB tag :: (ss.take k).flatMap encS).length ≤ 5000 := by
        have := flat_le (ss.take k) (fun s hs => H4.out s (List.mem_of_mem_take hs))
        rw [List.length_take] at this
        rw [List.length_cons]
        omega
      have hel := encS_len ss[k]
      generalize ss[k] = s at *
      generalize hM : tagB tag :: (ss.take k).flatMap encS = m at *
      clear hM
      go_wp2_with fail
      refine (wrbytes_any s wr (by omega)).mono ?_
      rintro e w1 ⟨v1, rfl, ho1, hb1⟩
      have hz1 := hb1.size
      obtain ⟨A1, c1, rfl, hc1, _, hR1⟩ := ho1.form
      go_wp2_with (at_builtin; go_loud (refine arm_bytes (w := w1) (by rfl) _ _ (by rfl) w.heap.size u5 m (by rfl) (ho.below hb1) A1 c1 (encS s) (by rfl) hR1 (by omega) (by omega) ?_); intro v' w2 ho2 hb2)
      go_roundw
      case rel => exact ⟨k + 1, by go_num, by omega, by rw [HTK.out]; exact ho2, (bel_on hb hb1).trans hb2⟩
      case measure => simp [intOf]; omega
    · obtain rfl : k = n := by omega
      have HE : Hid (tagB tag :: (ss.take k).flatMap encS = input tag ss) := Lib.hid (by rw [List.take_of_length_le (by rw [HN.out]; exact Nat.le_refl _)]; rfl)
      rw [HE.out] at ho
      go_wp2
      go_ret
      exact ⟨_, rfl, ho, hb⟩
end Go.Proofs.YtkineafacekklaaDoor
