/- The calls that the laws' examples make, at lists that lie written out in a new block; few. -/
import Derived.Test.YtgnhkhcfelmnhaaTop1
import Derived.Test.YtgnhkhcfelmnhaaEnc3
import Derived.Test.YtgnhkhcfelmnhaaSame2
namespace Go.Proofs.Ytgnhkhcfelmnhaa
open Go.RowKit
theorem RV.lit (W : World) (cs : Array Value) (xs : List Value) (t : TypeId) (h : cs = xs.toArray) : RV (W.alloc (.cells cs t)) (some ⟨W.heap.size, 0, none⟩) xs := by
  subst h
  exact RV.new W xs t
theorem bel_new (W : World) (o : Obj) : Below W.heap.size W (W.alloc o) := (Below.refl _ _).alloc (Nat.le_refl _) _
theorem bel_on {W w1 w' : World} (h : Below W.heap.size W w1) (h2 : Below w1.heap.size w1 w') : Below W.heap.size W w' := h.trans (h2.mono h.size)
section
variable (W : World) (cs : Array Value) (n : Nat)
theorem s_getInt (bs : List UInt8) (hcs : cs = (bv bs).toArray) (hn : bs.length = n) (hl : n ≤ 1000) (z : Int) (u f : Nat) (hr : getI bs = (z, u, f)) :
    Calls Try.prog 24 #[.slice (some ⟨W.heap.size, 0, none⟩) n n] (W.alloc (.cells cs 5)) fun e w' => e = .returned (.tuple #[.int .i64 z, .int .i64 (u : Int), .int .i64 (f : Int)]) ∧ Below W.heap.size W w' := by
  refine (getInt_at _ n n bs _ hn (RV.lit W cs _ 5 hcs) (by omega)).mono ?_
  rintro e w' ⟨rfl, rfl⟩
  rw [hr]
  exact ⟨rfl, bel_new _ _⟩
theorem s_getBytes (bs r : List UInt8) (hcs : cs = (bv bs).toArray) (hn : bs.length = n) (hl : n ≤ 1000) (u f : Nat) (hr : getB bs = (r, u, f)) :
    Calls Try.prog 26 #[.slice (some ⟨W.heap.size, 0, none⟩) n n] (W.alloc (.cells cs 5)) fun e w' => e = .returned (.tuple #[.string ⟨r.toArray⟩, .int .i64 (u : Int), .int .i64 (f : Int)]) ∧ Below W.heap.size W w' := by
  refine (getBytes_at _ n n bs _ hn (Nat.le_refl _) (RV.lit W cs _ 5 hcs) (by omega)).mono ?_
  rintro e w' ⟨rfl, rfl⟩
  rw [hr]
  exact ⟨rfl, bel_new _ _⟩
theorem s_getInts (bs : List UInt8) (r : List Int) (hcs : cs = (bv bs).toArray) (hn : bs.length = n) (hl : n ≤ 1000) (u f : Nat) (hr : getS getI 1 bs = (r, u, f)) :
    Calls Try.prog 28 #[.slice (some ⟨W.heap.size, 0, none⟩) n n] (W.alloc (.cells cs 5)) fun e w' => ∃ v, e = .returned (.tuple #[v, .int .i64 (u : Int), .int .i64 (f : Int)]) ∧ OI w' W.heap.size v r ∧ Below W.heap.size W w' := by
  subst hn
  refine (getInts_any _ _ bs _ (Nat.le_refl _) (RV.lit W cs _ 5 hcs) (by omega)).mono ?_
  rintro e w' ⟨v, rfl, ho, hb⟩
  rw [hr] at ho ⊢
  exact ⟨v, rfl, ⟨ho.1, ho.2.imp id fun ⟨g, c, cu, h1, h2, h3⟩ => ⟨g, c, cu, h1, by simp at h2; omega, h3⟩⟩, bel_on (bel_new _ _) hb⟩
theorem s_getStrings (bs : List UInt8) (r : List (List UInt8)) (hcs : cs = (bv bs).toArray) (hn : bs.length = n) (hl : n ≤ 1000) (u f : Nat) (hr : getS getB 1 bs = (r, u, f)) :
    Calls Try.prog 31 #[.slice (some ⟨W.heap.size, 0, none⟩) n n] (W.alloc (.cells cs 5)) fun e w' => ∃ v, e = .returned (.tuple #[v, .int .i64 (u : Int), .int .i64 (f : Int)]) ∧ OS w' W.heap.size v r ∧ Below W.heap.size W w' := by
  subst hn
  refine (getStrings_any _ _ bs _ (Nat.le_refl _) (RV.lit W cs _ 5 hcs) (by omega)).mono ?_
  rintro e w' ⟨v, rfl, ho, hb⟩
  rw [hr] at ho ⊢
  exact ⟨v, rfl, ⟨ho.1, ho.2.imp id fun ⟨g, c, cu, h1, h2, h3⟩ => ⟨g, c, cu, h1, by simp at h2; omega, h3⟩⟩, bel_on (bel_new _ _) hb⟩
theorem s_same {B : Nat} {v : Value} {l : List UInt8} (bs : List UInt8) (ho : Own W B v l) (hcs : cs = (bv bs).toArray) (hn : bs.length = n) (h : l = bs) :
    Calls Try.prog 13 #[v, .slice (some ⟨W.heap.size, 0, none⟩) n n] (W.alloc (.cells cs 5)) fun e w' => e = .returned (.bool true) ∧ Below W.heap.size W w' := by
  obtain ⟨A, c, rfl, _, _, hR⟩ := ho.form
  refine (same_any _ _ _ n _ _ l bs _ rfl hn (hR.below (bel_new _ _)) (RV.lit W cs _ 5 hcs)).mono ?_
  rintro e w' ⟨rfl, rfl⟩
  exact ⟨ret_bool (by simp [h]), bel_new _ _⟩
theorem s_sameInts {B : Nat} {v : Value} {l : List Int} (bs : List Int) (ho : OI W B v l) (hcs : cs = (iv bs).toArray) (hn : bs.length = n) (hl : n ≤ 1000) (h : l = bs) :
    Calls Try.prog 30 #[v, .slice (some ⟨W.heap.size, 0, none⟩) n n] (W.alloc (.cells cs 3)) fun e w' => e = .returned (.bool true) ∧ Below W.heap.size W w' := by
  obtain ⟨A, c, rfl, _, _, hR⟩ := row_form ho
  refine (sameInts_any _ _ _ n _ _ l bs _ rfl hn (hR.below (bel_new _ _)) (RV.lit W cs _ 3 hcs) (by rw [h, hn]; omega) (by omega)).mono ?_
  rintro e w' ⟨rfl, hb⟩
  exact ⟨ret_bool (by simp [h]), bel_on (bel_new _ _) hb⟩
theorem s_sameTexts {B : Nat} {v : Value} {l : List (List UInt8)} (bs : List (List UInt8)) (ho : OS W B v l) (hcs : cs = (tv bs).toArray) (hn : bs.length = n) (hl : n ≤ 1000) (h : l = bs) :
    Calls Try.prog 33 #[v, .slice (some ⟨W.heap.size, 0, none⟩) n n] (W.alloc (.cells cs 9)) fun e w' => e = .returned (.bool true) ∧ Below W.heap.size W w' := by
  obtain ⟨A, c, rfl, _, _, hR⟩ := row_form ho
  refine (sameTexts_any _ _ _ n _ _ l bs _ rfl hn (hR.below (bel_new _ _)) (RV.lit W cs _ 9 hcs) (by rw [h, hn]; omega) (by omega)).mono ?_
  rintro e w' ⟨rfl, hb⟩
  exact ⟨ret_bool (by simp [h]), bel_on (bel_new _ _) hb⟩
theorem s_sameDigests {B : Nat} {v : Value} {l : List (List UInt8)} (bs : List (List UInt8)) (ho : OD W B v l) (hcs : cs = (dv bs).toArray) (hd : ∀ d ∈ bs, d.length = 16) (hn : bs.length = n) (hl : n ≤ 1000) (h : l = bs) :
    Calls Try.prog 36 #[v, .slice (some ⟨W.heap.size, 0, none⟩) n n] (W.alloc (.cells cs 57)) fun e w' => e = .returned (.bool true) ∧ Below W.heap.size W w' := by
  obtain ⟨A, c, rfl, _, _, hR⟩ := row_form ho
  refine (sameDigests_any _ _ _ n _ _ l bs _ rfl hn (hR.below (bel_new _ _)) (RV.lit W cs _ 57 hcs) (by rw [h]; exact hd) hd (by rw [h, hn]; omega) (by omega)).mono ?_
  rintro e w' ⟨rfl, hb⟩
  exact ⟨ret_bool (by simp [h]), bel_on (bel_new _ _) hb⟩
theorem s_ints (bs : List Int) (hcs : cs = (iv bs).toArray) (hz : ∀ z ∈ bs, I64 z) (hn : bs.length = n) (hl : n ≤ 1000) :
    Calls Try.prog 18 #[.slice (some ⟨W.heap.size, 0, none⟩) n n] (W.alloc (.cells cs 3)) (Ext W.heap.size W (encL enc bs)) := by
  subst hn
  refine (ints_any _ _ bs _ hz (RV.lit W cs _ 3 hcs) (by omega)).mono ?_
  rintro e w' ⟨v, rfl, ho, hb⟩
  exact ⟨v, rfl, ho.mono (by simp), bel_on (bel_new _ _) hb⟩
theorem s_digests (bs : List (List UInt8)) (hcs : cs = (dv bs).toArray) (hd : ∀ d ∈ bs, d.length = 16) (hn : bs.length = n) (hl : n ≤ 1000) :
    Calls Try.prog 22 #[.slice (some ⟨W.heap.size, 0, none⟩) n n] (W.alloc (.cells cs 57)) (Ext W.heap.size W (encL id bs)) := by
  subst hn
  refine (digests_any _ _ bs _ (RV.lit W cs _ 57 hcs) hd (by omega)).mono ?_
  rintro e w' ⟨v, rfl, ho, hb⟩
  exact ⟨v, rfl, ho.mono (by simp), bel_on (bel_new _ _) hb⟩
theorem s_strings (bs : List ByteArray) (hcs : cs = (sv bs).toArray) (hn : bs.length = n) (hl : n ≤ 1000) (hb : (encL encS bs).length ≤ 1000) :
    Calls Try.prog 20 #[.slice (some ⟨W.heap.size, 0, none⟩) n n] (W.alloc (.cells cs 9)) (Ext W.heap.size W (encL encS bs)) := by
  subst hn
  refine (strings_any _ _ bs _ (RV.lit W cs _ 9 hcs) (by omega) (by omega)).mono ?_
  rintro e w' ⟨v, rfl, ho, hb⟩
  exact ⟨v, rfl, ho.mono (by simp), bel_on (bel_new _ _) hb⟩
end
end Go.Proofs.Ytgnhkhcfelmnhaa
