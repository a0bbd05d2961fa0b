/- Lists of strings and of digests that came in, and how much they hold together. -/
import Derived.Test.YtgnhkhcfelmnhaaRows
import Derived.Test.YtgnhkhcfelmnhaaFew
import Derived.OpenShut
namespace Go.Proofs.Ytgnhkhcfelmnhaa
open Go.RowKit Go.ChangeShapes Go.WideShapes
section
variable {H : Type} {enc : TypeId × Value → H} {W : World} {base : Nat} {sp : Nat → Bool} {held : Bool}
theorem open_texts {a : Option Addr} {len cap : Nat} {d : DataW H} {p : List MemPlace} (h : DataW.Trod enc Try.prog W base sp held 23 (.slice a len cap) d p) :
    ∃ ss : List ByteArray, ss.length = len ∧ RV W a (sv ss) ∧ (ss = [] ∨ ∃ spare, d = .slice (strs ss) spare) := by
  obtain ⟨fuel, hf⟩ := h
  rcases open_strings Try.underlying23 Try.underlying9 (by kernel_rfl) hf with ⟨hcs, _⟩ | ⟨x, l, c, ss, hcs, _, hl, hm, hz, hx, hc, _⟩
  · simp [Value.cells] at hcs
    obtain ⟨rfl, rfl, rfl⟩ := hcs
    exact ⟨[], rfl, RV.nil _ _, .inl rfl⟩
  · simp [Value.cells] at hcs
    obtain ⟨rfl, rfl, rfl⟩ := hcs
    simp only [Prod.mk.injEq] at hx
    have hle : len ≤ ss.length := by rw [hz]; split <;> omega
    refine ⟨ss.take len, by rw [List.length_take]; omega, RV.of_add fun _ => ⟨x, rfl, fun j u hu => ?_⟩, .inr ⟨_, hx.1⟩⟩
    have hj : j < (ss.take len).length := by
      have h1 := (List.getElem?_eq_some_iff.1 hu).1
      simpa [sv] using h1
    have hjl : j < len := by rw [List.length_take] at hj; omega
    have hj2 : j < ss.length := by omega
    rw [hc j hj2]
    simp [sv, hj2, hjl] at hu
    rw [← hu]
    simp [hj2]
theorem open_digests {a : Option Addr} {len cap : Nat} {d : DataW H} {p : List MemPlace} (h : DataW.Trod enc Try.prog W base sp held 24 (.slice a len cap) d p) :
    ∃ ds : List (List UInt8), ds.length = len ∧ (∀ x ∈ ds, x.length = 16) ∧ RV W a (dv ds) := by
  obtain ⟨fuel, hf⟩ := h
  rcases Go.Deep.open_slice Try.underlying24 hf with ⟨hcs, _⟩ | ⟨x, l, c, m, n, D, Pl, hcs, _, hl, _, hm, _, hi⟩
  · simp [Value.cells] at hcs
    obtain ⟨rfl, rfl, rfl⟩ := hcs
    exact ⟨[], rfl, by simp, RV.nil _ _⟩
  · simp [Value.cells] at hcs
    obtain ⟨rfl, rfl, rfl⟩ := hcs
    have hle : len ≤ m := by rw [hm]; split <;> omega
    have c57 : Try.prog.cellsOf 57 = 16 := by kernel_rfl
    have c5 : Try.prog.cellsOf 5 = 1 := by kernel_rfl
    rw [c57] at hi
    have hone : ∀ i, i < len → ∃ e : List UInt8, e.length = 16 ∧ ∀ j, j < 16 → W.cell? (x.add (i * 16 + j)) = some (.int .u8 ((e.getD j 0).toNat : Int)) := by
      intro i hil
      obtain ⟨cs', hc, ht⟩ := hi i (by omega)
      obtain ⟨_, hlen, hcell⟩ := World.cells?_some hc
      obtain ⟨xs, q, _, _, _, hxs, hel⟩ := DataW.trod_array Try.underlying57 ht
      rw [c5] at hel
      have hb : ∀ j, j < 16 → ∃ b : UInt8, cs'[j]? = some (.int .u8 (b.toNat : Int)) := by
        intro j hj
        have h1 := hel j hj
        rw [List.getElem?_eq_getElem (by omega)] at h1
        obtain ⟨k, hk, _, hw⟩ := DataW.trod_int Try.underlying5 h1
        have hw2 := wf_u8 hw
        refine ⟨UInt8.ofNat k.toNat, ?_⟩
        have h2 : cs'[j]? = ((cs'.drop (j * 1)).take 1)[0]? := by simp
        rw [h2, hk]
        have : ((UInt8.ofNat k.toNat).toNat : Int) = k := by simp; omega
        rw [this]
        rfl
      obtain ⟨g, hg⟩ := Go.Deep.choose_lt hb
      refine ⟨(List.range 16).map g, by simp, fun j hj => ?_⟩
      rw [← Go.Deep.add_add, hcell j hj, hg j hj]
      simp [hj]
    obtain ⟨E, hE⟩ := Go.Deep.choose_lt hone
    have hall : ∀ y ∈ (List.range len).map E, y.length = 16 := by
      intro y hy
      obtain ⟨i, hir, rfl⟩ := List.mem_map.1 hy
      exact (hE i (List.mem_range.1 hir)).1
    refine ⟨(List.range len).map E, by simp, hall, RV.of_add fun _ => ⟨x, rfl, fun j u hu => ?_⟩⟩
    have hjl : j < len * 16 := by
      have h1 := (List.getElem?_eq_some_iff.1 hu).1
      rw [dv_len hall] at h1
      simpa using h1
    have hdiv : j / 16 < len := by omega
    have e1 : j = j / 16 * 16 + j % 16 := by omega
    have h2 := dv_at hall (k := j / 16) (j := j % 16) (by simpa using hdiv) (by omega)
    rw [← e1, hu] at h2
    rw [e1, (hE (j / 16) hdiv).2 (j % 16) (by omega), h2]
    have h16 := (hE (j / 16) hdiv).1
    rw [getD_get _ _ (by omega)]
    have h17 : j % 16 < (E (j / 16)).length := by omega
    simp [bv, List.getElem?_eq_getElem h17]
end
theorem bulk_one {H : Type} (d : DataW H) : 1 ≤ Rows.uptoBulk d := by
  rcases d with (_ | _ | _ | _ | _ | _) | _ | _ | _ | _ | _ | _ | _ <;> simp [Rows.uptoBulk]
theorem bulk_len {H : Type} (l : List (DataW H)) : l.length ≤ Rows.uptoBulkAll l := by
  induction l with
  | nil => simp
  | cons x r ih =>
    have := bulk_one x
    simp only [Rows.uptoBulkAll, List.length_cons]
    omega
/-- What a list of strings holds. -/
theorem bulk_strs {H : Type} (ss : List ByteArray) : Rows.uptoBulkAll (strs (H := H) ss) = ss.length + total (ss.map fun s => s.data.toList) := by
  induction ss with
  | nil => rfl
  | cons s r ih =>
    have e : total ((s :: r).map fun s => s.data.toList) = s.data.toList.length + total (r.map fun s => s.data.toList) := rfl
    rw [e]
    show Rows.uptoBulk (DataW.lit (H := H) (.string s.data.toList)) + Rows.uptoBulkAll (strs r) = _
    rw [ih]
    simp only [Rows.uptoBulk, List.length_cons]
    omega
end Go.Proofs.Ytgnhkhcfelmnhaa
