/-
  What the listed variables give at the door of alumlaw05's statements.
-/
import Derived.Test.YtpojhplnhppcpaaGreatDoorRows
import Derived.Test.YtpojhplnhppcpaaGreatDoorTie
import Derived.Test.YtpojhplnhppcpaaGreatDoorQX4
import Derived.ProofKit
import Derived.LaidMore
import Derived.OpenShut
import Derived.Stop.Joined
import Derived.Stop.LaidErr
import Derived.ShutString
import Derived.ChangeOld
import Derived.Shelf.Vars
import Derived.Handed
namespace Go.Proofs.YtpojhplnhppcpaaGreatDoor
open Go.ChangeShapes Go.WideShapes Go.ChangeAt Go.RowKit
theorem own : ownKnob Tryz.prog.godebug = none := by kernel_rfl
theorem laidOut : laidOutB Tryz.prog = true := by kernel_rfl
theorem g64 : Tryz.prog.globalNamed "math/bits.deBruijn64tab" = some 6 := by kernel_rfl
theorem t64 : (Tryz.prog.globals[6]?).map (·.type) = some 243 := by kernel_rfl
theorem gWords : Tryz.prog.globalNamed "alum/trace.words" = some 0 := by kernel_rfl
theorem tWords : (Tryz.prog.globals[0]?).map (·.type) = some 160 := by kernel_rfl
theorem gPow : Tryz.prog.globalNamed "internal/strconv.uint64pow10" = some 4 := by kernel_rfl
theorem tPow : (Tryz.prog.globals[4]?).map (·.type) = some 237 := by kernel_rfl
theorem gErrR : Tryz.prog.globalNamed "strconv.ErrRange" = some 3 := by kernel_rfl
theorem tErrR : (Tryz.prog.globals[3]?).map (·.type) = some 140 := by kernel_rfl
theorem gErrS : Tryz.prog.globalNamed "strconv.ErrSyntax" = some 2 := by kernel_rfl
theorem tErrS : (Tryz.prog.globals[2]?).map (·.type) = some 140 := by kernel_rfl
theorem starE : "*" ++ "errors.errorString" = "*errors.errorString" := by decide
theorem rowE (u : TypeId) (h : Tryz.prog.typeName? 3 u = some "*errors.errorString") : u = 228 :=
  typeName_ptr_named (nm := "errors.errorString") (by rw [starE]; kernel_rfl) (by kernel_rfl) (by decide) u (by rw [starE]; exact h)
def ks {H : Type} : List (DataW H) := Lib.deBruijn64tab.map fun k : Nat => .lit (.int .u8 (k : Int))
theorem tab_of {W : World} {r : List (String × DataW Unit)} (h : laidMet Tryz.prog (("math/bits.deBruijn64tab", .agg ks) :: r) W) : Tab W := by
  obtain ⟨ps, ⟨g0, t0, cs, f0, p0, q0, hg0, ht0, hv, hd0, _, _⟩, _⟩ := h
  obtain rfl := Option.some.inj (g64.symm.trans hg0)
  obtain rfl := Option.some.inj (t64.symm.trans ht0)
  obtain ⟨xs, m1, _, hx1, hlen, hn, hel⟩ := DataW.trod_array Tryz.underlying243 hd0
  have c4 : Tryz.prog.cellsOf 5 = 1 := by kernel_rfl
  simp only [Prod.mk.injEq, DataW.agg.injEq] at hx1
  intro i hi
  have hxi : i < xs.length := by omega
  have h0 := hel i hi
  rw [c4, Nat.mul_one, List.getElem?_eq_getElem hxi] at h0
  obtain ⟨k, e1, e2, _⟩ := DataW.trod_int Tryz.underlying5 h0
  have hk : (xs.map (·.1))[i]? = some (.lit (.int .u8 k)) := by simp [hxi, e2]
  rw [← hx1.1] at hk
  have hki : Lib.deBruijn64tab[i]? = some (Lib.deBruijn64tab.getD i 0) := by
    have : i < Lib.deBruijn64tab.length := hi
    simp [this]
  have hk2 : k = (Lib.deBruijn64tab.getD i 0 : Nat) := by
    unfold ks at hk
    rw [List.getElem?_map, hki] at hk
    simpa using hk.symm
  have hc := World.var?_cell g64 hv i
  rw [hc, hk2.symm]
  have : cs.toList[i]? = some (.int .u8 k) := by
    have h2 : ((cs.toList.drop i).take 1)[0]? = some (.int .u8 k) := by rw [e1]; rfl
    simpa using h2
  simpa using this
theorem words_of {W : World} {r : List (String × DataW Unit)} (h : laidMet Tryz.prog (("alum/trace.words", .agg (wordsT.map fun s => .lit (.string s))) :: r) W) : TabW W := by
  obtain ⟨ps, ⟨g0, t0, cs, f0, p0, q0, hg0, ht0, hv, hd0, _, _⟩, _⟩ := h
  obtain rfl := Option.some.inj (gWords.symm.trans hg0)
  obtain rfl := Option.some.inj (tWords.symm.trans ht0)
  obtain ⟨xs, m1, _, hx1, hlen, hn, hel⟩ := DataW.trod_array Tryz.underlying160 hd0
  have c4 : Tryz.prog.cellsOf 9 = 1 := by kernel_rfl
  simp only [Prod.mk.injEq, DataW.agg.injEq] at hx1
  intro i v hi0
  have hi : i < 8 := (List.getElem?_eq_some_iff.1 hi0).1
  have hxi : i < xs.length := by omega
  have h0 := hel i hi
  rw [c4, Nat.mul_one, List.getElem?_eq_getElem hxi] at h0
  obtain ⟨s, e1, e2, _⟩ := DataW.trod_string Tryz.underlying9 h0
  have hk : (xs.map (·.1))[i]? = some (.lit (.string s.data.toList)) := by simp [hxi, e2]
  rw [← hx1.1, List.getElem?_map] at hk
  rw [List.getElem?_map] at hi0
  cases hq : wordsT[i]? with
  | none => rw [hq] at hi0; cases hi0
  | some t =>
    rw [hq] at hi0 hk
    simp only [Option.map_some, Option.some.injEq, DataW.lit.injEq, Lit.string.injEq] at hi0 hk
    subst hi0
    have hc := World.var?_cell gWords hv i
    rw [Nat.zero_add, hc]
    have h2 : ((cs.toList.drop i).take 1)[0]? = some (.string s) := by rw [e1]; rfl
    have h3 : cs.toList[i]? = some (.string s) := by simpa using h2
    have h4 : strV t = .string s := by
      unfold strV
      rw [hk]
    rw [h4]
    simpa using h3
def laidA {H : Type} : List (String × DataW H) := [("math/bits.deBruijn32tab", Rows.laid_math_bits_deBruijn32tab), ("math/bits.deBruijn64tab", Rows.laid_math_bits_deBruijn64tab), ("internal/strconv.uint64pow10", Rows.laid_internal_strconv_uint64pow10), ("strconv.ErrRange", Rows.laid_strconv_ErrRange), ("strconv.ErrSyntax", Rows.laid_strconv_ErrSyntax), ("alum/trace.words", Rows.laid_alum_trace_words)]
theorem door_metA (os : Os) (args : Array Value) : laidMetH Tryz.prog laidA ((World.doorLaid Tryz.prog 59 os).forCall (fun _ _ => 0) ⟨#[], args, []⟩).memory :=
  laidMetH_of_parts3 (fuel := 8) (laidMet_of_run' 8 (by kernel_rfl) (by kernel_rfl)) (by kernel_rfl) (by kernel_rfl)
theorem maxLen_of {W : World} (h : W.ShapedOpen Tryz.prog) : ∃ m, W.cell? ⟨1, 0, none⟩ = some (.int .i64 m) :=
  cell_of_shapedOpen_int (t := 3) (zero := #[.int .i64 0]) h (of_decide_eq_true (by kernel_rfl)) (by kernel_rfl) rfl (by kernel_rfl) (by kernel_rfl) Tryz.underlying3
theorem plainA {W : World} (h : laidMetH Tryz.prog laidA W) : laidMet Tryz.prog laidA W := by
  rw [MakeChecks.laidMetH_plain _ _ _ (by kernel_rfl)] at h
  exact h
theorem tabT_of {W : World} (h : laidMetH Tryz.prog laidA W) : TabT W :=
  have h := plainA h
  ⟨words_of h.tail.tail.tail.tail.tail, Lib.tabIs_of_head gPow tPow Tryz.underlying237 Tryz.underlying183 (by kernel_rfl) (by kernel_rfl) h.tail.tail⟩
theorem tabE_of {W : World} (h : laidMetH Tryz.prog laidA W) (hsh : W.ShapedOpen Tryz.prog) : TabE W := by
  have h := plainA h
  obtain ⟨a0, s0, hv0, _⟩ := laid_sentinel h.tail.tail.tail gErrR tErrR Tryz.underlying140 rowE Tryz.underlying228 Tryz.underlying230 rfl rfl Tryz.underlying9 (by kernel_rfl) (by kernel_rfl)
  obtain ⟨a1, s1, hv1, _⟩ := laid_sentinel h.tail.tail.tail.tail gErrS tErrS Tryz.underlying140 rowE Tryz.underlying228 Tryz.underlying230 rfl rfl Tryz.underlying9 (by kernel_rfl) (by kernel_rfl)
  exact ⟨maxLen_of hsh, ⟨_, _, hv1⟩, ⟨_, _, hv0⟩⟩
theorem tab_of_laid {W : World} (h : laidMetH Tryz.prog laidA W) : Tab W := tab_of (plainA h).tail
section
variable {H : Type} {enc : TypeId × Value → H}
/-- The wrap with the listed variables and with the shape of the world. -/
theorem handed_shaped {a : Assume} {C : Checked} {os : Os} {f : FuncId} {fn : Func} {s : ChangeSpec} {conds : List PathCond} {apart fresh handsOn again : Bool} {X : World → Array Value → Prop}
    (hX : ∀ (w w' : World) (args : Array Value), w.heap = w'.heap → X w args → X w' args)
    (own : ownKnob C.prog.godebug = none) (started : os.Started) (noInit : C.prog.inits.idxOf? f = none) (hfn : C.prog.funcs[f]? = some fn)
    (witness : ∃ (w : World) (tape : Tape) (i : Input), w.os = os ∧ (w.forCall tape i).Shaped C.prog ∧ i.vars = [] ∧ Input.okWide C.prog (w.forCall tape i) .any w.heap.size f i ∧
      ((s.pre enc C.prog fn conds apart (w.forCall tape i).memory i.args ∧ X (w.forCall tape i).memory i.args) ∧ sizedMet enc C.prog fn (OpenSpec.ofChange s) apart (w.forCall tape i).memory i.args) ∧ a.holds C.prog (lone (Frame.enter C.prog f i.args .normal) [] (w.forCall tape i)))
    (contract : ∀ (W : World) (base : Nat) (args : Array Value) (ds gs : List (DataW H)) (before : List MemPlace),
      (∀ (j : Nat) t v, fn.params[j]? = some t → args[j]? = some v → Value.okWide C.prog W .any base t v) →
      DataW.Whole enc C.prog fn.params.toList s.vars apart W args.toList ds gs before →
      (DataW.weightsEach C.prog (fn.params.toList ++ s.plain.varTypes C.prog) (ds ++ gs)).all (· ≤ reachBytes) = true → X W args → W.ShapedOpen C.prog →
      Calls C.prog f args W fun e W' => ∃ v, e = .returned v ∧ s.post enc C.prog fn apart fresh handsOn again W args v W') :
    ReturnsInHanded a C os f .any (fun w args => (s.pre enc C.prog fn conds apart w args ∧ X w args) ∧ sizedMet enc C.prog fn (OpenSpec.ofChange s) apart w args) (s.post enc C.prog fn apart fresh handsOn again) := by
  refine returnsInHanded_of_calls own started noInit witness ?_
  intro w tape i _ hsh _ hok hpre _
  obtain ⟨_, _, _, fn', hfn', _, _, _, _, hval⟩ := hok
  have e : fn' = fn := Option.some.inj (hfn'.symm.trans hfn)
  subst e
  obtain ⟨⟨⟨ds, gs, before, hw, _⟩, hx⟩, hz⟩ := hpre
  have hw' := DataW.Whole.of_heap (w' := w.forCall tape i) (by rfl) hw
  refine (contract (w.forCall tape i) w.heap.size i.args ds gs before hval hw' (hz.weights hw) (hX _ _ _ (by rfl) hx) hsh).mono fun e W' ⟨v, he, hp⟩ => ?_
  subst he
  exact ChangeSpec.post_blind hp
end
end Go.Proofs.YtpojhplnhppcpaaGreatDoor
