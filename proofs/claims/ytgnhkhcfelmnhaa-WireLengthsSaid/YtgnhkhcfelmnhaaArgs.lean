/- What the laws are told of their arguments, in the proofs' own words. -/
import Derived.Test.YtgnhkhcfelmnhaaLits
namespace Go.Proofs.Ytgnhkhcfelmnhaa
open Go.RowKit
/-- A slice of integers that came in: nil, or a row of cap cells, the numbers zs. -/
def IsRow (k : IntKind) (w : World) (a : Option Addr) (len cap : Nat) (zs : List Int) : Prop :=
  (a = none ∧ len = 0 ∧ cap = 0 ∧ zs = []) ∨
  ∃ x, a = some x ∧ len ≤ cap ∧ cap ≤ maxLen ∧ zs.length = cap ∧ (∀ i, i < zs.length → w.cell? (x.add i) = some (.int k (zs.getD i 0))) ∧ ∀ n ∈ zs, (Lit.int k n).wf = true
theorem wf_u8 {z : Int} (h : (Lit.int .u8 z).wf = true) : 0 ≤ z ∧ z < 256 := by
  simp only [Lit.wf, IntKind.min, IntKind.max, IntKind.bits, IntKind.signed] at h
  simp at h
  omega
theorem wf_i64 {z : Int} (h : (Lit.int .i64 z).wf = true) : I64 z := by
  simp only [Lit.wf, IntKind.min, IntKind.max, IntKind.bits, IntKind.signed] at h
  simp at h
  unfold I64
  omega
theorem IsRow.bytes {w : World} {a : Option Addr} {len cap : Nat} {zs : List Int} (h : IsRow .u8 w a len cap zs) : ∃ l : List UInt8, l.length = len ∧ len ≤ cap ∧ RV w a (bv l) := by
  rcases h with ⟨rfl, rfl, rfl, rfl⟩ | ⟨x, rfl, hl, hm, hz, hc, hw⟩
  · exact ⟨[], rfl, Nat.le_refl _, RV.nil _ _⟩
  · refine ⟨(zs.take len).map fun z => UInt8.ofNat z.toNat, by simp; omega, hl, RV.of_add fun _ => ⟨x, rfl, fun j u hu => ?_⟩⟩
    have hj : j < (zs.take len).length := by
      have h1 := (List.getElem?_eq_some_iff.1 hu).1
      simpa [bv] using h1
    have hj2 : j < zs.length := by rw [List.length_take] at hj; omega
    rw [hc j hj2]
    have hz2 := wf_u8 (hw zs[j] (List.getElem_mem hj2))
    have hjl : j < len := by rw [List.length_take] at hj; omega
    simp [bv, hj2, hjl] at hu
    rw [← hu]
    simp [hj2]
    omega
theorem IsRow.ints {w : World} {a : Option Addr} {len cap : Nat} {zs : List Int} (h : IsRow .i64 w a len cap zs) : ∃ l : List Int, l.length = len ∧ len ≤ cap ∧ (∀ z ∈ l, I64 z) ∧ RV w a (iv l) := by
  rcases h with ⟨rfl, rfl, rfl, rfl⟩ | ⟨x, rfl, hl, hm, hz, hc, hw⟩
  · exact ⟨[], rfl, Nat.le_refl _, by simp, RV.nil _ _⟩
  · refine ⟨zs.take len, by simp; omega, hl, fun z hz => wf_i64 (hw z (List.mem_of_mem_take hz)), RV.of_add fun _ => ⟨x, rfl, fun j u hu => ?_⟩⟩
    have hj : j < (zs.take len).length := by
      have h1 := (List.getElem?_eq_some_iff.1 hu).1
      simpa [iv] using h1
    have hj2 : j < zs.length := by rw [List.length_take] at hj; omega
    rw [hc j hj2]
    have hjl : j < len := by rw [List.length_take] at hj; omega
    simp [iv, hj2, hjl] at hu
    rw [← hu]
    simp [hj2]
end Go.Proofs.Ytgnhkhcfelmnhaa
