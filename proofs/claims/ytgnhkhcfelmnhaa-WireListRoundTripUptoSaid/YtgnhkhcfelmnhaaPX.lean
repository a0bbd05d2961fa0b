/-
  WireListRoundTrip answers true for every string, lists and tail, where what they hold together is of bulk at most 1048576.
-/
import Derived.Test.YtgnhkhcfelmnhaaRows
import Derived.WalkKit
import Derived.ProofKit
import Derived.OpenShut
import Derived.ShutString
import Derived.ChangeOld
import Derived.Below
import Derived.JoinedCond
import Derived.Test.YtgnhkhcfelmnhaaLawX
import Derived.Test.YtgnhkhcfelmnhaaArgs3
namespace Go.Proofs.Ytgnhkhcfelmnhaa.wireList
open Go.ChangeShapes Go.WideShapes Go.ChangeAt Go.RowKit
open Go.ChangeMaps (open_string shut_string)
set_option linter.unusedVariables false

theorem own : ownKnob Try.prog.godebug = none := by kernel_rfl
theorem laidOut : laidOutB Try.prog = true := by kernel_rfl

theorem walk (a0 : ByteArray) (a1 : Option Addr) (len1 cap1 : Nat) (a2 : Option Addr) (len2 cap2 : Nat) (a3 : Option Addr) (len3 cap3 : Nat) (a4 : Option Addr) (len4 cap4 : Nat) (l : List Int) (ss : List ByteArray) (ds : List (List UInt8)) (t : List UInt8) (w : World)
    (hl : ∀ z ∈ l, I64 z) (hll : l.length = len1) (hr1 : RV w a1 (iv l)) (hsl : ss.length = len2) (hr2 : RV w a2 (sv ss)) (hd : ∀ d ∈ ds, d.length = 16) (hdl : ds.length = len3) (hr3 : RV w a3 (dv ds)) (htl : t.length = len4) (hr4 : RV w a4 (bv t))
    (b0 : a0.size ≤ 1048576) (b1 : len1 ≤ 1048576) (b2 : len2 + total (ss.map fun s => s.data.toList) ≤ 1048576) (b3 : len3 ≤ 1048576) (b4 : len4 ≤ 1048576) :
    Calls Try.prog 8 #[.string a0, .slice a1 len1 cap1, .slice a2 len2 cap2, .slice a3 len3 cap3, .slice a4 len4 cap4] w fun e w' => e = .returned (.bool true) ∧ Below w.heap.size w w' := by
  subst hll hsl hdl htl
  by_cases hb : a0.size + l.length + ds.length + t.length ≤ 2000
  · by_cases hm : ss.length + total (ss.map fun s => s.data.toList) ≤ 2000
    · exact lawX_small a0 a1 a2 a3 a4 cap1 cap2 cap3 cap4 l ss ds t w hl hd hr1 hr2 hr3 hr4 hb hm
    · exact lawX_many a0 a1 a2 a3 a4 l.length cap1 cap2 ds.length cap3 t.length cap4 ss w hb hr2 (by omega) hm
  · exact lawX_big a0 a1 a2 a3 a4 l.length cap1 ss.length cap2 ds.length cap3 t.length cap4 w (by omega) (by omega) (by omega) (by omega) (by omega)

theorem contract (H : Type) (enc : TypeId × Value → H) (W : World) (base : Nat) (args : Array Value) (ds gs : List (DataW H)) (before : List MemPlace)
    (hval : ∀ (j : Nat) t v, Try.f8.params[j]? = some t → args[j]? = some v → Value.okWide Try.prog W .any base t v)
    (hW : DataW.Whole enc Try.prog Try.f8.params.toList Rows.wireListRoundTripSpec.vars false W args.toList ds gs before) (hk : Rows.uptoSmall H (ds ++ gs) = true) :
    Calls Try.prog 8 args W fun e W' => ∃ v, e = .returned v ∧ Rows.wireListRoundTripSpec.post enc Try.prog Try.f8 false true false false W args v W' := by
  have hW' := hW
  obtain ⟨p, q, hA0, hV, rfl, hfz, hnd⟩ := hW
  have hA : DataW.TrodAll enc Try.prog W 0 (fun _ => true) true Try.f8.params.toList args.toList ds p := hA0
  rw [Try.params8] at hA hval
  obtain ⟨v0, vs0, d0, ds0, p0, q0, hargs, rfl, rfl, h0, r0⟩ := trodAll_cons hA
  obtain ⟨v1, vs1, d1, ds1, p1, q1, rfl, rfl, rfl, h1, r1⟩ := trodAll_cons r0
  obtain ⟨v2, vs2, d2, ds2, p2, q2, rfl, rfl, rfl, h2, r2⟩ := trodAll_cons r1
  obtain ⟨v3, vs3, d3, ds3, p3, q3, rfl, rfl, rfl, h3, r3⟩ := trodAll_cons r2
  obtain ⟨v4, vs4, d4, ds4, p4, q4, rfl, rfl, rfl, h4, r4⟩ := trodAll_cons r3
  obtain ⟨rfl, rfl, rfl⟩ := trodAll_nil r4
  obtain rfl : args = #[v0, v1, v2, v3, v4] := by cases args; simp_all
  obtain ⟨rfl, rfl⟩ := trodVars_none hV
  obtain ⟨a0, rfl, rfl, rfl, w0⟩ := open_string Try.underlying9 (hval 0 9 v0 rfl rfl) h0
  obtain ⟨a1, len1, cap1, rfl⟩ := okWide_slice Try.underlying22 (hval 1 22 v1 rfl rfl)
  obtain ⟨a2, len2, cap2, rfl⟩ := okWide_slice Try.underlying23 (hval 2 23 v2 rfl rfl)
  obtain ⟨a3, len3, cap3, rfl⟩ := okWide_slice Try.underlying24 (hval 3 24 v3 rfl rfl)
  obtain ⟨a4, len4, cap4, rfl⟩ := okWide_slice Try.underlying28 (hval 4 28 v4 rfl rfl)
  have lt1 : ∀ x ∈ p1, x.block < W.heap.size := by obtain ⟨m, hm⟩ := h1; exact DataW.trod_lt m _ _ _ hm
  have lt2 : ∀ x ∈ p2, x.block < W.heap.size := by obtain ⟨m, hm⟩ := h2; exact DataW.trod_lt m _ _ _ hm
  have lt3 : ∀ x ∈ p3, x.block < W.heap.size := by obtain ⟨m, hm⟩ := h3; exact DataW.trod_lt m _ _ _ hm
  have lt4 : ∀ x ∈ p4, x.block < W.heap.size := by obtain ⟨m, hm⟩ := h4; exact DataW.trod_lt m _ _ _ hm
  obtain ⟨l, hll, hl, hr1⟩ : ∃ l : List Int, l.length = len1 ∧ (∀ z ∈ l, I64 z) ∧ RV W a1 (iv l) := by
    obtain ⟨zs, hrow⟩ : ∃ zs, IsRow .i64 W a1 len1 cap1 zs := by
      obtain ⟨fuel, hf⟩ := h1
      rcases open_ints Try.underlying22 Try.underlying3 (by kernel_rfl) hf with ⟨hcs, _⟩ | ⟨x, l, c, zs, hcs, _, hl, hm, hz, _, hcell, hwz⟩
      · simp [Value.cells] at hcs
        obtain ⟨rfl, rfl, rfl⟩ := hcs
        exact ⟨[], .inl ⟨rfl, rfl, rfl, rfl⟩⟩
      · simp [Value.cells] at hcs
        obtain ⟨rfl, rfl, rfl⟩ := hcs
        exact ⟨zs, .inr ⟨_, rfl, hl, hm, by simpa using hz, hcell, hwz⟩⟩
    obtain ⟨l, e1, _, e2, e3⟩ := hrow.ints
    exact ⟨l, e1, e2, e3⟩
  obtain ⟨ss, hsl, hr2, hsd⟩ := open_texts h2
  obtain ⟨es, hdl, hd, hr3⟩ := open_digests h3
  obtain ⟨t, htl, hr4⟩ : ∃ t : List UInt8, t.length = len4 ∧ RV W a4 (bv t) := by
    obtain ⟨zs, hrow⟩ : ∃ zs, IsRow .u8 W a4 len4 cap4 zs := by
      obtain ⟨fuel, hf⟩ := h4
      rcases open_ints Try.underlying28 Try.underlying5 (by kernel_rfl) hf with ⟨hcs, _⟩ | ⟨x, l, c, zs, hcs, _, hl, hm, hz, _, hcell, hwz⟩
      · simp [Value.cells] at hcs
        obtain ⟨rfl, rfl, rfl⟩ := hcs
        exact ⟨[], .inl ⟨rfl, rfl, rfl, rfl⟩⟩
      · simp [Value.cells] at hcs
        obtain ⟨rfl, rfl, rfl⟩ := hcs
        exact ⟨zs, .inr ⟨_, rfl, hl, hm, by simpa using hz, hcell, hwz⟩⟩
    obtain ⟨t, e1, _, e2⟩ := hrow.bytes
    exact ⟨t, e1, e2⟩
  have hB : Rows.uptoBulkAll ([.lit (.string a0.data.toList), d1, d2, d3, d4] ++ ([] : List (DataW H))) ≤ 1048576 := of_decide_eq_true hk
  simp only [List.append_nil, Rows.uptoBulkAll, Rows.uptoBulk] at hB
  have b0 : a0.size ≤ 1048576 := by rw [← size_toList]; omega
  have b1 : len1 ≤ 1048576 := by
    rcases slice_datum Try.underlying22 h1 with h | ⟨el, sp, rfl, hl⟩
    · omega
    · have h5 := bulk_len el
      simp only [Rows.uptoBulk] at hB
      omega
  have b2 : len2 + total (ss.map fun s => s.data.toList) ≤ 1048576 := by
    rcases hsd with rfl | ⟨sp, rfl⟩
    · rw [← hsl]; simp [total]
    · simp only [Rows.uptoBulk] at hB
      rw [bulk_strs] at hB
      omega
  have b3 : len3 ≤ 1048576 := by
    rcases slice_datum Try.underlying24 h3 with h | ⟨el, sp, rfl, hl⟩
    · omega
    · have h5 := bulk_len el
      simp only [Rows.uptoBulk] at hB
      omega
  have b4 : len4 ≤ 1048576 := by
    rcases slice_datum Try.underlying28 h4 with h | ⟨el, sp, rfl, hl⟩
    · omega
    · have h5 := bulk_len el
      simp only [Rows.uptoBulk] at hB
      omega
  clear hA0
  refine (walk a0 a1 len1 cap1 a2 len2 cap2 a3 len3 cap3 a4 len4 cap4 l ss es t W hl hll hr1 hsl hr2 hd hdl hr3 htl hr4 b0 b1 b2 b3 b4).mono fun e W' ⟨he, bel⟩ => ?_
  subst he
  exact ⟨_, rfl, _, _, _, [], _, [], hW', trodAll_mk1 (shut_bool Try.underlying4 _), (trodAll_cons_mk (shut_string Try.underlying9 w0) (trodAll_cons_mk (Below.trod laidOut (by kernel_rfl) (of_decide_eq_true (by kernel_rfl)) h1 bel lt1) (trodAll_cons_mk (Below.trod laidOut (by kernel_rfl) (of_decide_eq_true (by kernel_rfl)) h2 bel lt2) (trodAll_cons_mk (Below.trod laidOut (by kernel_rfl) (of_decide_eq_true (by kernel_rfl)) h3 bel lt3) (trodAll_cons_mk (Below.trod laidOut (by kernel_rfl) (of_decide_eq_true (by kernel_rfl)) h4 bel lt4) trodAll_mk0))))), rfl, bel.frame _, fun h => by cases h⟩

set_option maxRecDepth 100000 in
theorem lifted (os : Os) (started : os.Started) (H : Type) (enc : TypeId × Value → H) (F : Stop.Interp) :
    ReturnsInHanded {} Try.checked os 8 .any ((Rows.OpenSpec.upto Rows.wireListRoundTripSpec).pre6 enc Try.prog Try.f8 Rows.wireListRoundTripUptoRow.domain false) (((Rows.OpenSpec.upto Rows.wireListRoundTripSpec).at F).post enc Try.prog Try.f8 false true false false) := by
  refine returnsInHanded_of_cond (C := Try.checked) (s := Rows.OpenSpec.upto Rows.wireListRoundTripSpec) (k := Rows.uptoSmall) rfl own started (by kernel_rfl) Try.func8
    (OpenSpec.witness (enc := enc) (C := Try.checked) (s := Rows.OpenSpec.upto Rows.wireListRoundTripSpec) (k := Rows.uptoSmall) rfl false ⟨#[], #[.string ByteArray.empty, .slice none 0 0, .slice none 0 0, .slice none 0 0, .slice none 0 0], []⟩ 8 (by kernel_rfl) (by kernel_rfl) (by kernel_rfl)
      (x := ([.lit (.string []), .nil, .nil, .nil, .nil], [], [])) (by kernel_rfl) rfl (by kernel_rfl)) ?_
  intro W base args ds gs before hval hW _ hk _
  exact contract H enc W base args ds gs before hval hW hk

theorem over : Rows.wireListRoundTripUptoRow.holds Try.pinned (Rows.OpenSpec.upto Rows.wireListRoundTripSpec) :=
  OpenClaim.holds_of_cond 8 Try.f8 rfl rfl rfl rfl rfl rfl rfl ⟨rfl, rfl, rfl, rfl, rfl⟩ rfl rfl rfl rfl rfl (by kernel_rfl) Try.func8 (by kernel_rfl)
    (of_decide_eq_true (by kernel_rfl)) (by unfold Func.isWrapper; first | (rw [if_pos (by decide +kernel)]; kernel_rfl) | (rw [if_neg (by decide +kernel)]; exact ⟨rfl, rfl⟩))
    (fun os started H enc _ F => lifted os started H enc F)
end Go.Proofs.Ytgnhkhcfelmnhaa.wireList
namespace Go.Proofs.Ytgnhkhcfelmnhaa
theorem wireListRoundTripUpto_holds : Rows.WireListRoundTripUptoSaid := wireList.over
#print axioms wireListRoundTripUpto_holds
end Go.Proofs.Ytgnhkhcfelmnhaa
