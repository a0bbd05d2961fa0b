/-
  What the listed variables give: the table of trailing zeros; the listed variables at the door; lines as arguments.
-/
import Derived.Test.YtmnncbgibngmiaaDoorRows
import Derived.Test.YtmnncbgibngmiaaDoorTie
import Derived.Test.YtmnncbgibngmiaaDoorQB1
import Derived.ProofKit
import Derived.LaidMore
import Derived.OpenShut
import Derived.Stop.Joined
import Derived.ShutString
import Derived.ChangeOld
namespace Go.Proofs.YtmnncbgibngmiaaDoor
open Go.ChangeShapes Go.WideShapes Go.ChangeAt Go.RowKit
theorem own : ownKnob Tryd.prog.godebug = none := by kernel_rfl
theorem laidOut : laidOutB Tryd.prog = true := by kernel_rfl
theorem g64 : Tryd.prog.globalNamed "math/bits.deBruijn64tab" = some 1 := by kernel_rfl
theorem t64 : (Tryd.prog.globals[1]?).map (·.type) = some 133 := by kernel_rfl
def ks {H : Type} : List (DataW H) := Lib.deBruijn64tab.map fun k : Nat => .lit (.int .u8 (k : Int))
theorem laid_ks {H : Type} : (Rows.laid_math_bits_deBruijn64tab : DataW H) = .agg ks := rfl
theorem tab_of {H : Type} {enc : TypeId × Value → H} {W : World} {cs : Array Value} {sp : Nat → Bool} {hd : Bool} {m : Nat} {p : List MemPlace} {s : String} (hg : Tryd.prog.globalNamed s = some 1) (hv : W.var? Tryd.prog s = some cs)
    (h : DataW.trod enc Tryd.prog W 0 sp hd m 133 cs.toList = some (.agg ks, p)) : Tab W := by
  obtain ⟨xs, m1, rfl, hx1, hlen, hn, hel⟩ := DataW.trod_array Tryd.underlying133 h
  have c4 : Tryd.prog.cellsOf 5 = 1 := by kernel_rfl
  simp only [Prod.mk.injEq, DataW.agg.injEq] at hx1
  intro i hi
  have hxi : i < xs.length := by omega
  have h0 := hel i hi
  rw [c4, Nat.mul_one, List.getElem?_eq_getElem hxi] at h0
  obtain ⟨k, e1, e2, _⟩ := DataW.trod_int Tryd.underlying5 h0
  have hk : (xs.map (·.1))[i]? = some (.lit (.int .u8 k)) := by simp [hxi, e2]
  rw [← hx1.1] at hk
  have hki : Lib.deBruijn64tab[i]? = some (Lib.deBruijn64tab.getD i 0) := by
    have : i < Lib.deBruijn64tab.length := hi
    simp [this]
  have hk2 : k = (Lib.deBruijn64tab.getD i 0 : Nat) := by
    unfold ks at hk
    rw [List.getElem?_map, hki] at hk
    simpa using hk.symm
  have hc := World.var?_cell hg hv i
  rw [hc, hk2.symm]
  have : cs.toList[i]? = some (.int .u8 k) := by
    have h2 : ((cs.toList.drop i).take 1)[0]? = some (.int .u8 k) := by rw [e1]; rfl
    simpa using h2
  simpa using this
def laidB : List (String × DataW Unit) := [("math/bits.deBruijn32tab", Rows.laid_math_bits_deBruijn32tab), ("math/bits.deBruijn64tab", Rows.laid_math_bits_deBruijn64tab)]
theorem door_metB (os : Os) (args : Array Value) : laidMetH Tryd.prog laidB ((World.doorLaid Tryd.prog 19 os).forCall (fun _ _ => 0) ⟨#[], args, []⟩).memory :=
  laidMetH_of_parts3 (fuel := 8) (laidMet_of_run' 8 (by kernel_rfl) (by kernel_rfl)) (by kernel_rfl) (by kernel_rfl)
theorem of_laidB {W : World} (h : laidMetH Tryd.prog laidB W) : Tab W := by
  rw [MakeChecks.laidMetH_plain _ _ _ (by kernel_rfl)] at h
  obtain ⟨ps, ⟨g0, t0, cs0, f0, p0, q0, hg0, ht0, hv0, hd0, ⟨g1, t1, cs1, f1, p1, q1, hg1, ht1, hv1, hd1, _⟩, _⟩, _, _⟩ := h
  obtain rfl := Option.some.inj (g64.symm.trans hg1)
  obtain rfl := Option.some.inj (t64.symm.trans ht1)
  exact tab_of hg1 hv1 hd1
theorem wf_u16 {z : Int} (h : (Lit.int .u16 z).wf = true) : 0 ≤ z ∧ z < 65536 := by
  simp only [Lit.wf, IntKind.min, IntKind.max, IntKind.bits, IntKind.signed] at h
  simp at h
  omega
section
variable {H : Type} {enc : TypeId × Value → H} {W : World} {sp : Nat → Bool} {held : Bool}
def valI : Value → Int
  | .int _ z => z
  | _ => 0
set_option maxRecDepth 100000 in
/-- What comes in as a line. -/
theorem open_line {v : Value} {d : DataW H} {p : List MemPlace} (h : DataW.Trod enc Tryd.prog W 0 sp held 47 v d p) : ∃ L : List Int, L.length = 8 ∧ v = .agg (iv L).toArray := by
  obtain ⟨fuel, hf⟩ := h
  obtain ⟨xs, q, _, _, hlen, hxs, hel⟩ := DataW.trod_array Tryd.underlying47 hf
  have c3 : Tryd.prog.cellsOf 3 = 1 := by kernel_rfl
  have c22 : Tryd.prog.cellsOf 47 = 8 := by kernel_rfl
  rw [c22] at hlen
  rw [c3] at hel
  have hk : ∀ j, j < 8 → ∃ k : Int, (v.cells.toList.drop j).take 1 = [.int .i64 k] := by
    intro j hj
    have h0 := hel j hj
    rw [List.getElem?_eq_getElem (by omega), Nat.mul_one] at h0
    obtain ⟨k, e, _, _⟩ := DataW.trod_int Tryd.underlying3 h0
    exact ⟨k, e⟩
  cases v with
  | agg cs =>
    simp only [Value.cells] at hlen hk
    obtain ⟨l⟩ := cs
    have hl : l.length = 8 := by simpa using hlen
    refine ⟨l.map valI, by simp [hl], ?_⟩
    congr 2
    refine List.ext_getElem (by simp [iv]) fun j h1 h2 => ?_
    obtain ⟨k, e⟩ := hk j (by omega)
    have e2 : l[j] = .int .i64 k := by
      have h3 : ((l.drop j).take 1)[0]? = some (.int .i64 k) := by
        have : (l.drop j).take 1 = [.int .i64 k] := by simpa using e
        rw [this]
        rfl
      simpa [h1] using h3
    simp [iv, e2, valI]
  | _ => simp [Value.cells] at hlen
end
end Go.Proofs.YtmnncbgibngmiaaDoor
