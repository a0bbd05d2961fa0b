/- What the listed variables give: the constants' table. -/
import Derived.Test.YtkineafacekklaaDoorRows
import Derived.Test.YtkineafacekklaaDoorTie
import Derived.Test.YtkineafacekklaaDoorSan
import Derived.ProofKit
import Derived.LaidMore
import Derived.OpenShut
import Derived.Stop.Joined
namespace Go.Proofs.YtkineafacekklaaDoor
open Go.ChangeShapes Go.WideShapes Go.ChangeAt Go.RowKit
theorem own : ownKnob Tryd.prog.godebug = none := by kernel_rfl
theorem laidOut : laidOutB Tryd.prog = true := by kernel_rfl
theorem gRounds : Tryd.prog.globalNamed "alum/hash.rounds" = some 1 := by kernel_rfl
theorem gConsts : Tryd.prog.globalNamed "alum/alumref02.constants" = some 0 := by kernel_rfl
theorem tRounds : (Tryd.prog.globals[1]?).map (·.type) = some 73 := by kernel_rfl
theorem tConsts : (Tryd.prog.globals[0]?).map (·.type) = some 73 := by kernel_rfl
def ks {H : Type} : List (DataW H) := KS.map fun k : Nat => .lit (.int .u32 (k : Int))
theorem laid_ks {H : Type} : (Rows.laid_alum_hash_rounds : DataW H) = .agg ks := rfl
theorem laid_ks0 {H : Type} : (Rows.laid_alum_alumref02_constants : DataW H) = .agg ks := rfl
theorem tab_of {H : Type} {enc : TypeId × Value → H} {W : World} {g : Nat} {cs : Array Value} {sp : Nat → Bool} {hd : Bool} {m : Nat} {p : List MemPlace} {s : String} (hg : Tryd.prog.globalNamed s = some g) (hv : W.var? Tryd.prog s = some cs)
    (h : DataW.trod enc Tryd.prog W 0 sp hd m 73 cs.toList = some (.agg ks, p)) : Tab W g := by
  obtain ⟨xs, m1, rfl, hx1, hlen, hn, hel⟩ := DataW.trod_array Tryd.underlying73 h
  have c4 : Tryd.prog.cellsOf 49 = 1 := by kernel_rfl
  simp only [Prod.mk.injEq, DataW.agg.injEq] at hx1
  intro i hi
  have hxi : i < xs.length := by omega
  have h0 := hel i hi
  rw [c4, Nat.mul_one, List.getElem?_eq_getElem hxi] at h0
  obtain ⟨k, e1, e2, _⟩ := DataW.trod_int Tryd.underlying49 h0
  have hk : (xs.map (·.1))[i]? = some (.lit (.int .u32 k)) := by simp [hxi, e2]
  rw [← hx1.1] at hk
  have hki : KS[i]? = some (KS.getD i 0) := by
    have : i < KS.length := hi
    simp [this]
  have hk2 : k = (KS.getD i 0 : Nat) := by
    unfold ks at hk
    rw [List.getElem?_map, hki] at hk
    simpa using hk.symm
  have hc := World.var?_cell hg hv i
  rw [hc, hk2.symm]
  have : cs.toList[i]? = some (.int .u32 k) := by
    have h2 : ((cs.toList.drop i).take 1)[0]? = some (.int .u32 k) := by rw [e1]; rfl
    simpa using h2
  simpa using this
end Go.Proofs.YtkineafacekklaaDoor
