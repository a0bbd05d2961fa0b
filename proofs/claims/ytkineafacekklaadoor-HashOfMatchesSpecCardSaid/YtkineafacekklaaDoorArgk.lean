/- What the laws are told of their arguments, in the proofs' own words. -/
import Derived.Test.YtkineafacekklaaDoorLaid2
import Derived.ShutString
import Derived.ChangeOld
import Derived.WalkKit
namespace Go.Proofs.YtkineafacekklaaDoor
open Go.RowKit Go.ChangeShapes Go.WideShapes
def IsRow (k : IntKind) (w : World) (a : Option Addr) (len cap : Nat) (zs : List Int) : Prop :=
  (a = none ∧ len = 0 ∧ cap = 0 ∧ zs = []) ∨
  ∃ x, a = some x ∧ len ≤ cap ∧ cap ≤ maxLen ∧ zs.length = cap ∧ (∀ i, i < zs.length → w.cell? (x.add i) = some (.int k (zs.getD i 0))) ∧ ∀ n ∈ zs, (Lit.int k n).wf = true
theorem wf_u8 {z : Int} (h : (Lit.int .u8 z).wf = true) : 0 ≤ z ∧ z < 256 := by
  simp only [Lit.wf, IntKind.min, IntKind.max, IntKind.bits, IntKind.signed] at h
  simp at h
  omega
theorem wf_i64 {z : Int} (h : (Lit.int .i64 z).wf = true) : I64 z := by
  simp only [Lit.wf, IntKind.min, IntKind.max, IntKind.bits, IntKind.signed] at h
  simp at h
  unfold I64
  omega
theorem IsRow.bytes {w : World} {a : Option Addr} {len cap : Nat} {zs : List Int} (h : IsRow .u8 w a len cap zs) : ∃ l : List UInt8, l.length = len ∧ len ≤ cap ∧ RV w a (bv l) := by
  rcases h with ⟨rfl, rfl, rfl, rfl⟩ | ⟨x, rfl, hl, hm, hz, hc, hw⟩
  · exact ⟨[], rfl, Nat.le_refl _, RV.nil _ _⟩
  · refine ⟨(zs.take len).map fun z => UInt8.ofNat z.toNat, by simp; omega, hl, RV.of_add fun _ => ⟨x, rfl, fun j u hu => ?_⟩⟩
    have hj : j < (zs.take len).length := by
      have h1 := (List.getElem?_eq_some_iff.1 hu).1
      simpa [bv] using h1
    have hj2 : j < zs.length := by rw [List.length_take] at hj; omega
    rw [hc j hj2]
    have hz2 := wf_u8 (hw zs[j] (List.getElem_mem hj2))
    have hjl : j < len := by rw [List.length_take] at hj; omega
    simp [bv, hj2, hjl] at hu
    rw [← hu]
    simp [hj2]
    omega
theorem IsRow.ints {w : World} {a : Option Addr} {len cap : Nat} {zs : List Int} (h : IsRow .i64 w a len cap zs) : ∃ l : List Int, l.length = len ∧ len ≤ cap ∧ (∀ z ∈ l, I64 z) ∧ RV w a (iv l) := by
  rcases h with ⟨rfl, rfl, rfl, rfl⟩ | ⟨x, rfl, hl, hm, hz, hc, hw⟩
  · exact ⟨[], rfl, Nat.le_refl _, by simp, RV.nil _ _⟩
  · refine ⟨zs.take len, by simp; omega, hl, fun z hz => wf_i64 (hw z (List.mem_of_mem_take hz)), RV.of_add fun _ => ⟨x, rfl, fun j u hu => ?_⟩⟩
    have hj : j < (zs.take len).length := by
      have h1 := (List.getElem?_eq_some_iff.1 hu).1
      simpa [iv] using h1
    have hj2 : j < zs.length := by rw [List.length_take] at hj; omega
    rw [hc j hj2]
    have hjl : j < len := by rw [List.length_take] at hj; omega
    simp [iv, hj2, hjl] at hu
    rw [← hu]
    simp [hj2]
section
variable {H : Type} {enc : TypeId × Value → H} {W : World} {base : Nat} {sp : Nat → Bool} {held : Bool}
theorem open_bytes {a : Option Addr} {len cap : Nat} {d : DataW H} {p : List MemPlace} (h : DataW.Trod enc Tryd.prog W base (fun _ => true) held 22 (.slice a len cap) d p) :
    ∃ l : List UInt8, l.length = len ∧ RV W a (bv l) := by
  obtain ⟨zs, hrow⟩ : ∃ zs, IsRow .u8 W a len cap zs := by
    obtain ⟨fuel, hf⟩ := h
    rcases open_ints Tryd.underlying22 Tryd.underlying5 (by kernel_rfl) hf with ⟨hcs, _⟩ | ⟨x, l, c, zs, hcs, _, hl, hm, hz, _, hcell, hwz⟩
    · simp [Value.cells] at hcs
      obtain ⟨rfl, rfl, rfl⟩ := hcs
      exact ⟨[], .inl ⟨rfl, rfl, rfl, rfl⟩⟩
    · simp [Value.cells] at hcs
      obtain ⟨rfl, rfl, rfl⟩ := hcs
      exact ⟨zs, .inr ⟨_, rfl, hl, hm, by simpa using hz, hcell, hwz⟩⟩
  obtain ⟨t, e1, _, e2⟩ := hrow.bytes
  exact ⟨t, e1, e2⟩
theorem open_numbers {a : Option Addr} {len cap : Nat} {d : DataW H} {p : List MemPlace} (h : DataW.Trod enc Tryd.prog W base (fun _ => true) held 36 (.slice a len cap) d p) :
    ∃ l : List Int, l.length = len ∧ (∀ z ∈ l, I64 z) ∧ RV W a (iv l) := by
  obtain ⟨zs, hrow⟩ : ∃ zs, IsRow .i64 W a len cap zs := by
    obtain ⟨fuel, hf⟩ := h
    rcases open_ints Tryd.underlying36 Tryd.underlying3 (by kernel_rfl) hf with ⟨hcs, _⟩ | ⟨x, l, c, zs, hcs, _, hl, hm, hz, _, hcell, hwz⟩
    · simp [Value.cells] at hcs
      obtain ⟨rfl, rfl, rfl⟩ := hcs
      exact ⟨[], .inl ⟨rfl, rfl, rfl, rfl⟩⟩
    · simp [Value.cells] at hcs
      obtain ⟨rfl, rfl, rfl⟩ := hcs
      exact ⟨zs, .inr ⟨_, rfl, hl, hm, by simpa using hz, hcell, hwz⟩⟩
  obtain ⟨l, e1, _, e2, e3⟩ := hrow.ints
  exact ⟨l, e1, e2, e3⟩
theorem open_texts {a : Option Addr} {len cap : Nat} {d : DataW H} {p : List MemPlace} (h : DataW.Trod enc Tryd.prog W base sp held 26 (.slice a len cap) d p) :
    ∃ ss : List ByteArray, ss.length = len ∧ RV W a (sv ss) := by
  obtain ⟨fuel, hf⟩ := h
  rcases open_strings Tryd.underlying26 Tryd.underlying9 (by kernel_rfl) hf with ⟨hcs, _⟩ | ⟨x, l, c, ss, hcs, _, hl, hm, hz, hx, hc, _⟩
  · simp [Value.cells] at hcs
    obtain ⟨rfl, rfl, rfl⟩ := hcs
    exact ⟨[], rfl, RV.nil _ _⟩
  · simp [Value.cells] at hcs
    obtain ⟨rfl, rfl, rfl⟩ := hcs
    have hle : len ≤ ss.length := by rw [hz]; split <;> omega
    refine ⟨ss.take len, by rw [List.length_take]; omega, RV.of_add fun _ => ⟨x, rfl, fun j u hu => ?_⟩⟩
    have hj : j < (ss.take len).length := by
      have h1 := (List.getElem?_eq_some_iff.1 hu).1
      simpa [sv] using h1
    have hjl : j < len := by rw [List.length_take] at hj; omega
    have hj2 : j < ss.length := by omega
    rw [hc j hj2]
    simp [sv, hj2, hjl] at hu
    rw [← hu]
    simp [hj2]
end
end Go.Proofs.YtkineafacekklaaDoor
