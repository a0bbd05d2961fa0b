/- What the reference's Few and Joined do. -/
import Derived.Test.YtkineafacekklaaDoorRef2
namespace Go.Proofs.YtkineafacekklaaDoor
open Go.RowKit
def fewB (ss : List ByteArray) : Bool := decide (ss.length ≤ 12) && ss.all fun s => decide (s.size ≤ 400)
theorem fewB_true {ss : List ByteArray} (h1 : ss.length ≤ 12) (h2 : ∀ s ∈ ss, s.size ≤ 400) : fewB ss = true := by
  unfold fewB
  rw [Bool.and_eq_true]
  exact ⟨decide_eq_true h1, List.all_eq_true.2 fun s hs => decide_eq_true (h2 s hs)⟩
theorem fewB_false {ss : List ByteArray} (h : ¬ (ss.length ≤ 12 ∧ ∀ s ∈ ss, s.size ≤ 400)) : fewB ss = false := by
  rw [Bool.eq_false_iff]
  intro he
  unfold fewB at he
  rw [Bool.and_eq_true] at he
  exact h ⟨of_decide_eq_true he.1, fun s hs => of_decide_eq_true (List.all_eq_true.1 he.2 s hs)⟩
theorem fewB_of {ss : List ByteArray} (h : fewB ss = true) : ss.length ≤ 12 ∧ ∀ s ∈ ss, s.size ≤ 400 := by
  unfold fewB at h
  rw [Bool.and_eq_true] at h
  exact ⟨of_decide_eq_true h.1, fun s hs => of_decide_eq_true (List.all_eq_true.1 h.2 s hs)⟩
set_option maxRecDepth 100000 in
set_option maxHeartbeats 400000 in
theorem few_any (A : Option Addr) (n cap : Nat) (ss : List ByteArray) (w : World) (hn : ss.length = n) (hr : RV w A (sv ss)) :
    Calls Tryd.prog 18 #[.slice A n cap] w fun e w' => e = .returned (.bool (fewB ss)) ∧ w = w' := by
  have HN := Lib.hid hn
  have HR := Lib.hid hr
  clear hn hr
  go_enter Tryd.func18, Tryd.ntmps18
  by_cases h12 : 12 < n
  · have hi12 : (12 : Int) < (n : Int) := by omega
    have hf : Hid (fewB ss = false) := Lib.hid (fewB_false fun h => by have := HN.out; omega)
    go_wp2
    go_ret
    exact ⟨by rw [hf.out]; rfl, rfl⟩
  · have hi12 : (n : Int) ≤ 12 := by omega
    go_wp2
    go_loopw [3] (fun i wr => ∃ k : Nat, i = .int .i64 k ∧ k ≤ n ∧ Hid (∀ s ∈ ss.take k, s.size ≤ 400) ∧ w = wr) (fun i _ => n - (intOf i).toNat)
    case atStart => exact ⟨0, rfl, by omega, Lib.hid (by simp), rfl⟩
    case round =>
      obtain ⟨k, rfl, hk, HS, rfl⟩ := hrel
      by_cases hlt : k < n
      · have hkl : k < ss.length := by rw [HN.out]; exact hlt
        obtain ⟨b, o, rfl, hc⟩ := HR.out.at_ (w' := w) (Below.refl _ _) (k := k) (sv_at hkl)
        have HM := Lib.hid (List.getElem_mem hkl)
        have HTK := Lib.hid (List.take_succ_eq_append_getElem hkl)
        generalize ss[k] = s at *
        by_cases h4 : 400 < s.size
        · have hi4 : (400 : Int) < (s.size : Int) := by omega
          have hf : Hid (fewB ss = false) := Lib.hid (fewB_false fun h => by have := h.2 s HM.out; omega)
          go_wp2
          go_ret
          exact ⟨by rw [hf.out]; rfl, rfl⟩
        · have hi4 : (s.size : Int) ≤ 400 := by omega
          go_wp2
          go_roundw
          case rel => exact ⟨k + 1, by go_num, by omega, Lib.hid (by rw [HTK.out]; intro x hx; rcases List.mem_append.1 hx with hx | hx; exact HS.out x hx; rw [List.mem_singleton.1 hx]; omega), trivial⟩
          case measure => simp [intOf]; omega
      · obtain rfl : k = n := by omega
        have hf : Hid (fewB ss = true) := Lib.hid (fewB_true (by have := HN.out; omega) (by have := HS.out; rwa [List.take_of_length_le (by rw [HN.out]; exact Nat.le_refl _)] at this))
        go_wp2
        go_ret
        exact ⟨by rw [hf.out]; rfl, rfl⟩
/-- The strings one behind the other. -/
def cat (ss : List ByteArray) : List UInt8 := ss.flatMap fun s => s.data.toList
set_option maxRecDepth 100000 in
set_option maxHeartbeats 400000 in
theorem joined_any (A : Option Addr) (n cap : Nat) (ss : List ByteArray) (w : World) (hn : ss.length = n) (hr : RV w A (sv ss)) (hl : n ≤ 12) (h4 : ∀ s ∈ ss, s.size ≤ 400) :
    Calls Tryd.prog 21 #[.slice A n cap] w fun e w' => (∃ X : ByteArray, e = .returned (.string X) ∧ X.data.toList = cat ss) ∧ w = w' := by
  have HN := Lib.hid hn
  have HR := Lib.hid hr
  have H4 := Lib.hid h4
  clear hn hr h4
  go_enter Tryd.func21, Tryd.ntmps21
  go_wp2
  go_loopw [3, 4] (fun t i wr => ∃ (k : Nat) (X : ByteArray), t = .string X ∧ i = .int .i64 k ∧ k ≤ n ∧ X.size ≤ 400 * k ∧ Hid (X.data.toList = cat (ss.take k)) ∧ w = wr) (fun _ i _ => n - (intOf i).toNat)
  case atStart => exact ⟨0, ⟨#[]⟩, rfl, rfl, by omega, Nat.le_refl _, Lib.hid rfl, rfl⟩
  case round =>
    obtain ⟨k, X, rfl, rfl, hk, hXs, HX, rfl⟩ := hrel
    by_cases hlt : k < n
    · have hkl : k < ss.length := by rw [HN.out]; exact hlt
      obtain ⟨b, o, rfl, hc⟩ := HR.out.at_ (w' := w) (Below.refl _ _) (k := k) (sv_at hkl)
      have h4 := H4.out _ (List.getElem_mem hkl)
      have HTK : Hid (cat (ss.take (k + 1)) = cat (ss.take k) ++ ss[k].data.toList) := Lib.hid (by unfold cat; exact flat_take _ ss k hkl)
      generalize ss[k] = s at *
      go_wp2
      go_roundw
      case rel => exact ⟨k + 1, X ++ s, rfl, by go_num, by omega, by rw [ByteArray.size_append]; omega, Lib.hid (by rw [HTK.out, ← HX.out]; simp), trivial⟩
      case measure => simp [intOf]; omega
    · obtain rfl : k = n := by omega
      have HE : Hid (X.data.toList = cat ss) := Lib.hid (by have := HX.out; rwa [List.take_of_length_le (by rw [HN.out]; exact Nat.le_refl _)] at this)
      go_wp2
      go_ret
      exact ⟨⟨X, rfl, HE.out⟩, rfl⟩
end Go.Proofs.YtkineafacekklaaDoor
