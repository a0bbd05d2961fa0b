/-
  WireTruncated answers true for every integer, string and lists.
-/
import Derived.Test.YtgnhkhcfelmnhaaRows
import Derived.WalkKit
import Derived.ProofKit
import Derived.OpenShut
import Derived.ShutString
import Derived.ChangeOld
import Derived.Below
import Derived.JoinedCond
import Derived.Test.YtgnhkhcfelmnhaaLawT
import Derived.Test.YtgnhkhcfelmnhaaLawU
import Derived.Test.YtgnhkhcfelmnhaaArgs2
import Derived.Test.YtgnhkhcfelmnhaaArgs3
namespace Go.Proofs.Ytgnhkhcfelmnhaa.wireTruncated
open Go.ChangeShapes Go.WideShapes Go.ChangeAt Go.RowKit
open Go.ChangeMaps (open_string shut_string)
set_option linter.unusedVariables false

theorem own : ownKnob Try.prog.godebug = none := by kernel_rfl
theorem laidOut : laidOutB Try.prog = true := by kernel_rfl

theorem strs_weights {H : Type} (P : Program) (e : TypeId) : ∀ (ss : List ByteArray) (s : ByteArray), s ∈ ss → s.data.toList.length ∈ DataW.weightsAll P e (strs (H := H) ss)
  | [], _, h => by cases h
  | x :: r, s, h => by
    show _ ∈ DataW.weights P e (DataW.lit (H := H) (.string x.data.toList)) ++ DataW.weightsAll P e (strs r)
    rw [List.mem_append]
    rcases List.mem_cons.1 h with h | h
    · rw [h]; left; simp [DataW.weights]
    · exact .inr (strs_weights P e r s h)
theorem sized_strs {H : Type} {P : Program} {ts : List TypeId} {ds : List (DataW H)} (h : (DataW.weightsEach P ts ds).all (· ≤ reachBytes) = true) {j : Nat} {t e : TypeId} {ss : List ByteArray} {spare : List (DataW H)} (ht : ts[j]? = some t) (hd : ds[j]? = some (.slice (strs ss) spare)) (hu : P.underlying t = some (.slice e))
    (s : ByteArray) (hs : s ∈ ss) : s.data.toList.length ≤ reachBytes := by
  have := List.all_eq_true.1 h _ (DataW.weights_mem_each ht hd s.data.toList.length (by
    simp only [DataW.weights, hu]
    exact List.mem_cons_of_mem _ (List.mem_append_left _ (strs_weights P e ss s hs))))
  simpa using this
theorem total_le (M : Nat) : ∀ ss : List ByteArray, (∀ s ∈ ss, s.size ≤ M) → total (ss.map fun s => s.data.toList) ≤ ss.length * M
  | [], _ => Nat.zero_le _
  | s :: r, h => by
    have e : total ((s :: r).map fun s => s.data.toList) = s.data.toList.length + total (r.map fun s => s.data.toList) := rfl
    have h1 := total_le M r fun x hx => h x (List.mem_cons_of_mem _ hx)
    have h2 := h s (List.mem_cons_self ..)
    rw [e, size_toList, List.length_cons, Nat.succ_mul]
    omega
theorem walk (a0 : Int) (a1 : ByteArray) (a2 : Option Addr) (len2 cap2 : Nat) (a3 : Option Addr) (len3 cap3 : Nat) (a4 : Option Addr) (len4 cap4 : Nat) (l : List Int) (ss : List ByteArray) (ds : List (List UInt8)) (w : World) (w0 : (Lit.int .i64 a0).wf = true)
    (hl : ∀ z ∈ l, I64 z) (hll : l.length = len2) (hr2 : RV w a2 (iv l)) (hsl : ss.length = len3) (hr3 : RV w a3 (sv ss)) (hss : ∀ s ∈ ss, s.size ≤ 140737488351232) (hd : ∀ d ∈ ds, d.length = 16) (hdl : ds.length = len4) (hr4 : RV w a4 (dv ds))
    (b1 : a1.size ≤ 140737488351232) (b2 : len2 ≤ 17592186044416) (b4 : len4 ≤ 17592186044416) :
    Calls Try.prog 9 #[.int .i64 a0, .string a1, .slice a2 len2 cap2, .slice a3 len3 cap3, .slice a4 len4 cap4] w fun e w' => e = .returned (.bool true) ∧ Below w.heap.size w w' := by
  subst hll hsl hdl
  by_cases hb : a1.size + 10 * l.length + 16 * ds.length ≤ 400
  · by_cases h3 : ss.length ≤ 40
    · have ht := total_le 140737488351232 ss hss
      have ht2 : ss.length * 140737488351232 ≤ 40 * 140737488351232 := Nat.mul_le_mul_right _ h3
      by_cases hm : ss.length + total (ss.map fun s => s.data.toList) ≤ 2000
      · exact lawT_small a0 (wf_i64 w0) a1 a2 a3 a4 cap2 cap3 cap4 l ss ds w hl hd hr2 hr3 hr4 hb h3 hm
      · exact lawT_many a0 a1 a2 a3 a4 l.length cap2 cap3 ds.length cap4 ss w hb h3 hr3 (by omega) hm
    · exact lawT_wide a0 a1 a2 a3 a4 l.length cap2 ss.length cap3 ds.length cap4 w hb (by omega)
  · exact lawT_big a0 a1 a2 a3 a4 l.length cap2 ss.length cap3 ds.length cap4 w (by omega) b1 b2 b4

set_option maxRecDepth 100000 in
theorem lifted (os : Os) (started : os.Started) (H : Type) (enc : TypeId × Value → H) :
    ReturnsInHanded {} Try.checked os 9 .any (Rows.wireTruncatedSpec.pre6 enc Try.prog Try.f9 Rows.wireTruncatedRow.domain false) (Rows.wireTruncatedSpec.post enc Try.prog Try.f9 false true false false) := by
  refine returnsInHanded_of_change_sized (C := Try.checked) own started (by kernel_rfl) Try.func9
    (ChangeSpec.witness6 (enc := enc) (C := Try.checked) false ⟨#[], #[.int .i64 0, .string ByteArray.empty, .slice none 0 0, .slice none 0 0, .slice none 0 0], []⟩ 8 (by kernel_rfl) (by kernel_rfl) (by kernel_rfl) (by kernel_rfl)) ?_
  intro W base args ds gs before hval0 hW hcnd hsz0 _
  have hval : ∀ (j : Nat) t v, Try.f9.params[j]? = some t → args[j]? = some v → Value.okWide Try.prog W .any base t v := hval0
  have hW' := hW
  obtain ⟨p, q, hA0, hV, rfl, hfz, hnd⟩ := hW
  have hA : DataW.TrodAll enc Try.prog W 0 (fun _ => true) true Try.f9.params.toList args.toList ds p := hA0
  have hsz : (DataW.weightsEach Try.prog (Try.f9.params.toList ++ Rows.wireTruncatedSpec.plain.varTypes Try.prog) (ds ++ gs)).all (· ≤ reachBytes) = true := hsz0
  rw [Try.params9] at hA hval hsz
  obtain ⟨v0, vs0, d0, ds0, p0, q0, hargs, rfl, rfl, h0, r0⟩ := trodAll_cons hA
  obtain ⟨v1, vs1, d1, ds1, p1, q1, rfl, rfl, rfl, h1, r1⟩ := trodAll_cons r0
  obtain ⟨v2, vs2, d2, ds2, p2, q2, rfl, rfl, rfl, h2, r2⟩ := trodAll_cons r1
  obtain ⟨v3, vs3, d3, ds3, p3, q3, rfl, rfl, rfl, h3, r3⟩ := trodAll_cons r2
  obtain ⟨v4, vs4, d4, ds4, p4, q4, rfl, rfl, rfl, h4, r4⟩ := trodAll_cons r3
  obtain ⟨rfl, rfl, rfl⟩ := trodAll_nil r4
  obtain rfl : args = #[v0, v1, v2, v3, v4] := by cases args; simp_all
  obtain ⟨rfl, rfl⟩ := trodVars_none hV
  obtain ⟨a0, rfl, rfl, rfl, w0⟩ := open_int Try.underlying3 (hval 0 3 v0 rfl rfl) h0
  obtain ⟨a1, rfl, rfl, rfl, w1⟩ := open_string Try.underlying9 (hval 1 9 v1 rfl rfl) h1
  obtain ⟨a2, len2, cap2, rfl⟩ := okWide_slice Try.underlying22 (hval 2 22 v2 rfl rfl)
  obtain ⟨a3, len3, cap3, rfl⟩ := okWide_slice Try.underlying23 (hval 3 23 v3 rfl rfl)
  obtain ⟨a4, len4, cap4, rfl⟩ := okWide_slice Try.underlying24 (hval 4 24 v4 rfl rfl)
  have lt2 : ∀ x ∈ p2, x.block < W.heap.size := by obtain ⟨m, hm⟩ := h2; exact DataW.trod_lt m _ _ _ hm
  have lt3 : ∀ x ∈ p3, x.block < W.heap.size := by obtain ⟨m, hm⟩ := h3; exact DataW.trod_lt m _ _ _ hm
  have lt4 : ∀ x ∈ p4, x.block < W.heap.size := by obtain ⟨m, hm⟩ := h4; exact DataW.trod_lt m _ _ _ hm
  obtain ⟨l, hll, hl, hr2⟩ : ∃ l : List Int, l.length = len2 ∧ (∀ z ∈ l, I64 z) ∧ RV W a2 (iv l) := by
    obtain ⟨zs, hrow⟩ : ∃ zs, IsRow .i64 W a2 len2 cap2 zs := by
      obtain ⟨fuel, hf⟩ := h2
      rcases open_ints Try.underlying22 Try.underlying3 (by kernel_rfl) hf with ⟨hcs, _⟩ | ⟨x, l, c, zs, hcs, _, hl, hm, hz, _, hcell, hwz⟩
      · simp [Value.cells] at hcs
        obtain ⟨rfl, rfl, rfl⟩ := hcs
        exact ⟨[], .inl ⟨rfl, rfl, rfl, rfl⟩⟩
      · simp [Value.cells] at hcs
        obtain ⟨rfl, rfl, rfl⟩ := hcs
        exact ⟨zs, .inr ⟨_, rfl, hl, hm, by simpa using hz, hcell, hwz⟩⟩
    obtain ⟨l, e1, _, e2, e3⟩ := hrow.ints
    exact ⟨l, e1, e2, e3⟩
  obtain ⟨ss, hsl, hr3, hsd⟩ := open_texts h3
  obtain ⟨es, hdl, hd, hr4⟩ := open_digests h4
  have b1 : a1.size ≤ 140737488351232 := by
    have h := sized_string hsz (j := 1) (t := 9) rfl rfl
    rw [size_toList] at h
    exact h
  have b2 : len2 ≤ 17592186044416 := by
    rcases slice_datum Try.underlying22 h2 with h | ⟨el, sp, rfl, hl⟩
    · omega
    · have h := sized_slice hsz (j := 2) (t := 22) (e := 3) rfl rfl Try.underlying22
      rw [show Try.prog.bytesOf 3 = 8 from by kernel_rfl] at h
      simp only [reachBytes] at h
      omega
  have hss : ∀ s ∈ ss, s.size ≤ 140737488351232 := by
    rcases hsd with rfl | ⟨sp, rfl⟩
    · simp
    · intro s hs
      have h := sized_strs hsz (j := 3) (t := 23) (e := 9) rfl rfl Try.underlying23 s hs
      rw [size_toList] at h
      exact h
  have b4 : len4 ≤ 17592186044416 := by
    rcases slice_datum Try.underlying24 h4 with h | ⟨el, sp, rfl, hl⟩
    · omega
    · have h := sized_slice hsz (j := 4) (t := 24) (e := 57) rfl rfl Try.underlying24
      rw [show Try.prog.bytesOf 57 = 16 from by kernel_rfl] at h
      simp only [reachBytes] at h
      omega
  clear hA0 hval0
  refine (walk a0 a1 a2 len2 cap2 a3 len3 cap3 a4 len4 cap4 l ss es W w0 hl hll hr2 hsl hr3 hss hd hdl hr4 b1 b2 b4).mono fun e W' ⟨he, bel⟩ => ?_
  subst he
  exact ⟨_, rfl, _, _, _, [], _, [], hW', trodAll_mk1 (shut_bool Try.underlying4 _), (trodAll_cons_mk (shut_int Try.underlying3 w0) (trodAll_cons_mk (shut_string Try.underlying9 w1) (trodAll_cons_mk (Below.trod laidOut (by kernel_rfl) (of_decide_eq_true (by kernel_rfl)) h2 bel lt2) (trodAll_cons_mk (Below.trod laidOut (by kernel_rfl) (of_decide_eq_true (by kernel_rfl)) h3 bel lt3) (trodAll_cons_mk (Below.trod laidOut (by kernel_rfl) (of_decide_eq_true (by kernel_rfl)) h4 bel lt4) trodAll_mk0))))), rfl, bel.frame _, fun h => by cases h⟩

theorem over : Rows.wireTruncatedRow.holds Try.pinned (OpenSpec.ofChange Rows.wireTruncatedSpec) :=
  OpenClaim.holds_of_wide 9 Try.f9 rfl rfl rfl rfl rfl rfl rfl ⟨rfl, rfl, rfl, rfl, rfl⟩ rfl rfl rfl rfl rfl (by kernel_rfl) Try.func9 (by kernel_rfl)
    (of_decide_eq_true (by kernel_rfl)) (by unfold Func.isWrapper; first | (rw [if_pos (by decide +kernel)]; kernel_rfl) | (rw [if_neg (by decide +kernel)]; exact ⟨rfl, rfl⟩))
    (fun os started H enc _ => lifted os started H enc)

end Go.Proofs.Ytgnhkhcfelmnhaa.wireTruncated
namespace Go.Proofs.Ytgnhkhcfelmnhaa
theorem wireTruncated_holds : Rows.WireTruncatedSaid := wireTruncated.over
#print axioms wireTruncated_holds
end Go.Proofs.Ytgnhkhcfelmnhaa

