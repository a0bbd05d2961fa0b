/- SHA-256: rounds and sums, as the loops meet them. -/
import Derived.Test.YtkineafacekklaaDoorSched
namespace Go.Proofs.YtkineafacekklaaDoor
open Go.RowKit
/-- All words fit 32 bits. -/
def V8.Ok (v : V8) : Prop := v.a < 4294967296 ∧ v.b < 4294967296 ∧ v.c < 4294967296 ∧ v.d < 4294967296 ∧ v.e < 4294967296 ∧ v.f < 4294967296 ∧ v.g < 4294967296 ∧ v.h < 4294967296
theorem IV_ok : V8.Ok IV := by unfold V8.Ok IV; decide
theorem rnd_ok (v : V8) (k w : Nat) (h : v.Ok) : (rnd v k w).Ok := by
  obtain ⟨h1, h2, h3, h4, h5, h6, h7, h8⟩ := h
  exact ⟨add_lt _ _, h1, h2, h3, add_lt _ _, h5, h6, h7⟩
theorem addV_ok (v u : V8) : (addV v u).Ok := ⟨add_lt _ _, add_lt _ _, add_lt _ _, add_lt _ _, add_lt _ _, add_lt _ _, add_lt _ _, add_lt _ _⟩
theorem comp_ok (v : V8) (b : List UInt8) : (comp v b).Ok := addV_ok _ _
theorem hashN_ok (m : List UInt8) (n : Nat) : (hashN m n).Ok := by
  cases n with
  | zero => exact IV_ok
  | succ n => exact comp_ok _ _
theorem list_len (v : V8) : v.list.length = 8 := rfl
theorem bs_lt {a b c : Nat} (ha : a < 4294967296) (hb : b < 4294967296) (hc : c < 4294967296) : a ^^^ b ^^^ c < 4294967296 := Nat.xor_lt_two_pow (n := 32) (Nat.xor_lt_two_pow (n := 32) ha hb) hc
theorem bs1_lt (x : Nat) (h : x < 4294967296) : bs1 x < 4294967296 := bs_lt (rot_lt _ _ h) (rot_lt _ _ h) (rot_lt _ _ h)
theorem bs0_lt (x : Nat) (h : x < 4294967296) : bs0 x < 4294967296 := bs_lt (rot_lt _ _ h) (rot_lt _ _ h) (rot_lt _ _ h)
theorem and_lt (a b : Nat) (h : b < 4294967296) : a &&& b < 4294967296 := Nat.and_lt_two_pow (n := 32) _ h
theorem not32 (e : Nat) (h : e < 4294967296) : e ^^^ 4294967295 = 4294967295 - e := by
  have h1 := u32_andNot_nat 4294967295 e (by decide) h
  have e2 : BitVec.ofNat 32 e ^^^ BitVec.allOnes 32 = ~~~ BitVec.ofNat 32 e := BitVec.xor_allOnes
  have e3 := congrArg BitVec.toNat e2
  rw [BitVec.toNat_xor, BitVec.toNat_not, BitVec.toNat_ofNat, BitVec.toNat_allOnes, Nat.mod_eq_of_lt (by omega)] at e3
  simpa using e3
/-- The fourth choice: (e and f) xor (not e and g). -/
theorem ch_bits (e f g : Nat) (he : e < 4294967296) (hf : f < 4294967296) (hg : g < 4294967296) :
    bits .xor .u32 (bits .and .u32 (e : Int) (f : Int)) (bits .and .u32 ((4294967295 - e : Nat) : Int) (g : Int)) = (((e &&& f) ^^^ ((e ^^^ 4294967295) &&& g) : Nat) : Int) := by
  rw [not32 e he, u32_and_nat _ _ he hf, u32_and_nat _ _ (by omega) hg, u32_xor_nat _ _ (and_lt _ _ hf) (and_lt _ _ hg)]
theorem ch_bits' (e f g : Nat) (he : e < 4294967296) (hf : f < 4294967296) (hg : g < 4294967296) :
    bits .xor .u32 (bits .and .u32 (e : Int) (f : Int)) (bits .and .u32 (bits .xor .u32 (e : Int) 4294967295) (g : Int)) = (((e &&& f) ^^^ ((e ^^^ 4294967295) &&& g) : Nat) : Int) := by
  rw [← ch_bits e f g he hf hg, show (4294967295 : Int) = ((4294967295 : Nat) : Int) from rfl, u32_xor_nat _ _ he (by decide), not32 e he]
theorem maj_bits (a b c : Nat) (ha : a < 4294967296) (hb : b < 4294967296) (hc : c < 4294967296) :
    bits .xor .u32 (bits .xor .u32 (bits .and .u32 (a : Int) (b : Int)) (bits .and .u32 (a : Int) (c : Int))) (bits .and .u32 (b : Int) (c : Int)) = (((a &&& b) ^^^ (a &&& c) ^^^ (b &&& c) : Nat) : Int) := by
  rw [u32_and_nat _ _ ha hb, u32_and_nat _ _ ha hc, u32_and_nat _ _ hb hc, u32_xor_nat _ _ (and_lt _ _ hb) (and_lt _ _ hc), u32_xor_nat _ _ (Nat.xor_lt_two_pow (n := 32) (and_lt _ _ hb) (and_lt _ _ hc)) (and_lt _ _ hc)]
theorem not_bits (e : Nat) (he : e < 4294967296) : bits .xor .u32 (if IntKind.u32.signed = true then -1 else IntKind.u32.max) (e : Int) = ((4294967295 - e : Nat) : Int) := by
  have h : (if IntKind.u32.signed = true then -1 else IntKind.u32.max) = ((4294967295 : Nat) : Int) := rfl
  rw [h, u32_xor_nat _ _ (by decide) he, Nat.xor_comm, not32 e he]
theorem bs1_bits (e : Nat) (he : e < 4294967296) : bits .xor .u32 (bits .xor .u32 ((rot 6 e : Nat) : Int) ((rot 11 e : Nat) : Int)) ((rot 25 e : Nat) : Int) = ((bs1 e : Nat) : Int) := sg_bits _ _ _ (rot_lt _ _ he) (rot_lt _ _ he) (rot_lt _ _ he)
theorem bs0_bits (e : Nat) (he : e < 4294967296) : bits .xor .u32 (bits .xor .u32 ((rot 2 e : Nat) : Int) ((rot 13 e : Nat) : Int)) ((rot 22 e : Nat) : Int) = ((bs0 e : Nat) : Int) := sg_bits _ _ _ (rot_lt _ _ he) (rot_lt _ _ he) (rot_lt _ _ he)
theorem tx_bits (v : V8) (k w : Nat) (he : v.e < 4294967296) (hf : v.f < 4294967296) (hg : v.g < 4294967296) :
    ((((v.h : Int) + bits .xor .u32 (bits .xor .u32 ((rot 6 v.e : Nat) : Int) ((rot 11 v.e : Nat) : Int)) ((rot 25 v.e : Nat) : Int) + bits .xor .u32 (bits .and .u32 (v.e : Int) (v.f : Int)) (bits .and .u32 (bits .xor .u32 (if IntKind.u32.signed = true then -1 else IntKind.u32.max) (v.e : Int)) (v.g : Int)) + (k : Int)) % 4294967296 + (w : Int)) % 4294967296) = ((tx v k w : Nat) : Int) := by
  rw [bs1_bits _ he, not_bits _ he, ch_bits _ _ _ he hf hg]
  unfold tx add
  omega
theorem tx_bits' (v : V8) (k w : Nat) (he : v.e < 4294967296) (hf : v.f < 4294967296) (hg : v.g < 4294967296) :
    ((((v.h : Int) + bits .xor .u32 (bits .xor .u32 ((rot 6 v.e : Nat) : Int) ((rot 11 v.e : Nat) : Int)) ((rot 25 v.e : Nat) : Int) + bits .xor .u32 (bits .and .u32 (v.e : Int) (v.f : Int)) (bits .and .u32 (bits .xor .u32 (v.e : Int) 4294967295) (v.g : Int)) + (k : Int)) % 4294967296 + (w : Int)) % 4294967296) = ((tx v k w : Nat) : Int) := by
  rw [bs1_bits _ he, ch_bits' _ _ _ he hf hg]
  unfold tx add
  omega
theorem ty_bits (v : V8) (ha : v.a < 4294967296) (hb : v.b < 4294967296) (hc : v.c < 4294967296) :
    (bits .xor .u32 (bits .xor .u32 ((rot 2 v.a : Nat) : Int) ((rot 13 v.a : Nat) : Int)) ((rot 22 v.a : Nat) : Int) + bits .xor .u32 (bits .xor .u32 (bits .and .u32 (v.a : Int) (v.b : Int)) (bits .and .u32 (v.a : Int) (v.c : Int))) (bits .and .u32 (v.b : Int) (v.c : Int))) % 4294967296 = ((ty v : Nat) : Int) := by
  rw [bs0_bits _ ha, maj_bits _ _ _ ha hb hc]
  unfold ty add
  omega
theorem tx_lt (v : V8) (k w : Nat) : tx v k w < 4294967296 := add_lt _ _
theorem ty_lt (v : V8) : ty v < 4294967296 := add_lt _ _
theorem add_mod (x y : Nat) : ((x : Int) + (y : Int)) % 4294967296 = ((add x y : Nat) : Int) := by unfold add; omega
/-- The table of the rounds. -/
def Tab (w : World) (g : Nat) : Prop := ∀ i, i < 64 → w.cell? ⟨g, i, none⟩ = some (.int .u32 (KS.getD i 0 : Nat))
theorem Tab.lt {w : World} {g : Nat} (h : Tab w g) : g < w.heap.size := block_lt_of_cell (h 0 (by decide))
theorem Tab.keep {w w2 : World} {g : Nat} (h : Tab w g) (hb : Below w.heap.size w w2) : Tab w2 g := fun i hi => by
  rw [hb.cell (p := ⟨g, i, none⟩) h.lt]
  exact h i hi
theorem mix_set {α : Type} (A B : List α) (h : A.length = B.length) (k : Nat) (hk : k < A.length) : (A.take k ++ B.drop k).set k A[k] = A.take (k + 1) ++ B.drop (k + 1) := by
  have h1 : (A.take k).length = k := by rw [List.length_take]; omega
  rw [List.set_append_right _ _ (by omega), h1, Nat.sub_self, List.drop_eq_getElem_cons (by omega), List.set_cons_zero, List.take_succ_eq_append_getElem hk, List.append_assoc]
  rfl
theorem mix_get {α : Type} (A B : List α) (h : A.length = B.length) (k : Nat) (hk : k < A.length) (d : α) : (A.take k ++ B.drop k).getD k d = B.getD k d := by
  have h1 : (A.take k).length = k := by rw [List.length_take]; omega
  rw [List.getD_eq_getElem?_getD, List.getD_eq_getElem?_getD, List.getElem?_append_right (by omega), h1, Nat.sub_self, List.getElem?_drop]
  rfl
theorem addV_get (v u : V8) (k : Nat) (h : k < 8) : (addV v u).list.getD k 0 = add (v.list.getD k 0) (u.list.getD k 0) := by
  have h8 : k = 0 ∨ k = 1 ∨ k = 2 ∨ k = 3 ∨ k = 4 ∨ k = 5 ∨ k = 6 ∨ k = 7 := by omega
  rcases h8 with rfl | rfl | rfl | rfl | rfl | rfl | rfl | rfl <;> rfl
end Go.Proofs.YtkineafacekklaaDoor
