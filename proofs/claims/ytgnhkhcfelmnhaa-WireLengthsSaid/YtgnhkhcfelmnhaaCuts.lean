/- The decoders of wire at the first bytes of an encoding: each answers ErrTruncated. -/
import Derived.Test.YtgnhkhcfelmnhaaLawC
import Derived.Test.YtgnhkhcfelmnhaaTop1
import Derived.Test.YtgnhkhcfelmnhaaMath6
import Derived.Test.YtgnhkhcfelmnhaaEnc4
namespace Go.Proofs.Ytgnhkhcfelmnhaa
open Go.RowKit
/-- What came back is error 10. -/
def Short (w : World) (e : Ending) (w' : World) : Prop := ∃ v n, e = .returned (.tuple #[v, n, .int .i64 10]) ∧ Below w.heap.size w w'
theorem RV.fst {w : World} {A : Option Addr} {l : List UInt8} (h : RV w A (bv l)) (i : Nat) : RV w A (bv (l.take i)) := by
  have h1 := RV.take h i
  have e : (bv l).take i = bv (l.take i) := by simp [bv]
  rw [e] at h1
  exact h1
theorem fst_len {l : List UInt8} {i : Nat} (h : i < l.length) : (l.take i).length = i := by rw [List.length_take]; omega
theorem cut_int (A : Option Addr) (i cap : Nat) (z : Int) (hz : I64 z) (w : World) (hi : i < (enc z).length) (hr : RV w A (bv (enc z))) :
    Calls Try.prog 24 #[.slice A i cap] w (Short w) := by
  have h := getInt_any A cap ((enc z).take i) w (hr.fst i) (by have := enc_len z; rw [fst_len hi]; omega)
  rw [fst_len hi, getI_short hz i hi] at h
  exact h.mono fun e w' ⟨he, hw⟩ => ⟨_, _, he, hw ▸ Below.refl _ _⟩
theorem cut_bytes (A : Option Addr) (i cap : Nat) (s : List UInt8) (w : World) (hc : i ≤ cap) (hs : s.length ≤ 100000) (hi : i < (encB s).length) (hr : RV w A (bv (encB s))) :
    Calls Try.prog 26 #[.slice A i cap] w (Short w) := by
  have hl : (encB s).length ≤ 10 + s.length := by have := enc_len s.length; unfold encB; rw [List.length_append]; omega
  have h := getBytes_any A cap ((encB s).take i) w (by rw [fst_len hi]; exact hc) (hr.fst i) (by rw [fst_len hi]; omega)
  have hE := getB_short s (by omega) i hi
  rw [fst_len hi] at h
  refine h.mono fun e w' ⟨he, hw⟩ => ⟨.string ⟨(getB ((encB s).take i)).1.toArray⟩, .int .i64 ((getB ((encB s).take i)).2.1 : Int), ?_, hw ▸ Below.refl _ _⟩
  rw [he]
  unfold btri
  rw [hE]
  rfl
theorem cut_ints (A : Option Addr) (i cap : Nat) (l : List Int) (w : World) (hl : ∀ z ∈ l, I64 z) (hn : l.length ≤ 100000) (hc : i ≤ cap) (hi : i < (encL enc l).length) (hr : RV w A (bv (encL enc l))) :
    Calls Try.prog 28 #[.slice A i cap] w (Short w) := by
  have hk : (encL enc l).length ≤ 10 + 10 * l.length := by
    have h1 := flat_len enc 10 l (fun z _ => enc_len z)
    have h2 := enc_len l.length
    unfold encL
    rw [List.length_append]
    omega
  have h := getInts_any A cap ((encL enc l).take i) w (by rw [fst_len hi]; exact hc) (hr.fst i) (by rw [fst_len hi]; omega)
  have hE := getInts_short l (by omega) hl i hi
  rw [fst_len hi] at h
  refine h.mono fun e w' ⟨v, he, _, hb⟩ => ⟨v, .int .i64 ((getS getI 1 ((encL enc l).take i)).2.1 : Int), ?_, hb⟩
  rw [he, hE]
  rfl
theorem cut_texts (A : Option Addr) (i cap : Nat) (ss : List (List UInt8)) (w : World) (hs : ∀ s ∈ ss, s.length ≤ 100000) (hn : ss.length ≤ 100000) (hc : i ≤ cap) (hk : (encL encB ss).length ≤ 1073741824) (hi : i < (encL encB ss).length) (hr : RV w A (bv (encL encB ss))) :
    Calls Try.prog 31 #[.slice A i cap] w (Short w) := by
  have h := getStrings_any A cap ((encL encB ss).take i) w (by rw [fst_len hi]; exact hc) (hr.fst i) (by rw [fst_len hi]; omega)
  have hE := getTexts_short ss (by omega) (fun s h => by have := hs s h; omega) i hi
  rw [fst_len hi] at h
  refine h.mono fun e w' ⟨v, he, _, hb⟩ => ⟨v, .int .i64 ((getS getB 1 ((encL encB ss).take i)).2.1 : Int), ?_, hb⟩
  rw [he, hE]
  rfl
theorem cut_digests (A : Option Addr) (i cap : Nat) (ds : List (List UInt8)) (w : World) (hd : ∀ d ∈ ds, d.length = 16) (hn : ds.length ≤ 100000) (hc : i ≤ cap) (hi : i < (encL id ds).length) (hr : RV w A (bv (encL id ds))) :
    Calls Try.prog 34 #[.slice A i cap] w (Short w) := by
  have hk : (encL id ds).length ≤ 10 + 16 * ds.length := by
    have h1 := flat_len id 16 ds (fun d h => Nat.le_of_eq (hd d h))
    have h2 := enc_len ds.length
    unfold encL
    rw [List.length_append]
    omega
  have h := getDigests_any A cap ((encL id ds).take i) w (by rw [fst_len hi]; exact hc) (hr.fst i) (by rw [fst_len hi]; omega)
  have hE := getDigests_short ds (by omega) hd i hi
  rw [fst_len hi] at h
  refine h.mono fun e w' ⟨v, he, _, hb⟩ => ⟨v, .int .i64 ((getS getD16 16 ((encL id ds).take i)).2.1 : Int), ?_, hb⟩
  rw [he, hE]
  rfl
end Go.Proofs.Ytgnhkhcfelmnhaa
