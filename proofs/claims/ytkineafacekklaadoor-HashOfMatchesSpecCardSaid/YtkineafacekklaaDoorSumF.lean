/- What hash.Sum does. -/
import Derived.Test.YtkineafacekklaaDoorSumM2
import Derived.Deep.RegionHeld3
namespace Go.Proofs.YtkineafacekklaaDoor
open Go.RowKit
theorem conv_at {w : World} {A : Option Addr} {l : List UInt8} {n : Nat} (hr : RV w A (bv l)) (hn : l.length = n) (c : Nat) : (convert 22 9 (.slice A n c)).run Tryd.prog w = .ok (.string ⟨l.toArray⟩) w := by
  subst hn
  exact conv_str hr c
theorem there_of {w : World} {g t : Nat} {cs : List Value} {n : Nat} (h : Arr w g t cs) (hn : cs.length = n) : w.there g 0 n := fun j hj => by
  rw [Nat.zero_add]
  exact ⟨by rw [h.cell (List.getElem?_eq_getElem (by omega))]; rfl, h.free j⟩
theorem arr_over {w : World} {g t : Nat} {cs ds : List Value} (h : Arr w g t cs) (hl : cs.length = ds.length) : Arr (w.setCells g 0 ds) g t ds := by
  have h1 := arr_setCells (t := t) ds 0 w cs h
  have h2 := setAll_mid [] ds cs [] hl
  rw [List.append_nil, List.append_nil] at h2
  have h3 : setAll cs 0 ds = ds := h2
  rw [h3] at h1
  exact h1
theorem sha_len (m : List UInt8) : (sha m).length = 32 := by rw [sha_end]; exact out_len _
set_option maxRecDepth 100000 in
set_option maxHeartbeats 1000000 in
theorem sum_any (A : Option Addr) (n cap : Nat) (l : List UInt8) (w : World) (hn : l.length = n) (hr : RV w A (bv l)) (hl : n ≤ 140737488355328) (hT : Tab w 1) :
    Calls Tryd.prog 29 #[.slice A n cap] w fun e w' => e = .returned (.agg (bv (sha l)).toArray) ∧ Below w.heap.size w w' := by
  have HN := Lib.hid hn
  have HT := Lib.hid hT
  have HR := Lib.hid hr
  have hlen : l.length ≤ 140737488355328 := by omega
  clear hn hT hr
  go_enter Tryd.func29, Tryd.ntmps29
  go_upto_region 1 with (fail)
  refine name_world ?_
  intro W hW
  have hO : Arr W w.heap.size 47 (bv Z47) := by rw [hW]; exact Arr.new _ _ _
  have hB : Below w.heap.size w W := by rw [hW]; exact bel_new _ _
  clear hW
  have HO := Lib.hid hO
  have HB := Lib.hid hB
  have hq := conv_at (HR.out.below (bel_on hB (bel_drew W))) HN.out cap
  have hX : ∃ X : ByteArray, X = ⟨l.toArray⟩ := ⟨_, rfl⟩
  obtain ⟨X, hX⟩ := hX
  rw [← hX] at hq
  have HXL : Hid (X.data.toList = l) := Lib.hid (by rw [hX])
  have HX := Lib.hid hX
  have hXs : X.size = n := by rw [hX]; show l.toArray.size = n; rw [List.size_toArray]; exact HN.out
  have HXS := Lib.hid hXs
  have hi47 : (Tryd.prog.info? 47).map (·.size) = some (bv (sha l)).length := size47' (sha_len l)
  have hl47 : (bv (sha l)).length = 32 := by rw [bv_len, sha_len]
  have hone := bv_one (sha l)
  have HI47 := Lib.hid hi47
  have HL47 := Lib.hid hl47
  clear hX hXs hO hB hi47 hl47
  generalize hS : bv (sha l) = S at *
  have HS := Lib.hid hS
  clear hS
  go_region_held3 (fun W' => (convert 22 9 (.slice A n cap)).run Tryd.prog W' = .ok (.string X) W')
    (first | exact hq | (rw [HX.out]; exact conv_at (HR.out.below hbk) HN.out cap))
    (first
      | (go_at_call 31; (refine (begins_any W.drew).mono ?_; rintro e w2 ⟨rfl, hb2⟩; have HB2 := Lib.hid (bel_on (bel_on HB.out (bel_drew W)) hb2); have HO2 := Lib.hid ((HO.out.keep (bel_drew W)).keep hb2); replace hq := conv_at (HR.out.below HB2.out) HN.out cap; rw [← HX.out] at hq; rw [← stm_nil]))
      | (go_at_call 32; (refine (adds_any [] X w2 (by rw [HXS.out]; simpa using hl) (HT.out.keep HB2.out)).mono ?_; rintro e w3 ⟨rfl, hb3⟩; have HB3 := Lib.hid (bel_on HB2.out hb3); have HO3 := Lib.hid (HO2.out.keep hb3); replace hq := conv_at (HR.out.below HB3.out) HN.out cap; rw [← HX.out] at hq; rw [HXL.out, List.nil_append]))
      | (go_at_call 33; (refine (summ_any l w3 hlen (HT.out.keep HB3.out)).mono ?_; rintro e w4 ⟨rfl, hb4⟩; have HB4 := Lib.hid (bel_on HB3.out hb4); have HO4 := Lib.hid (HO3.out.keep hb4); replace hq := conv_at (HR.out.below HB4.out) HN.out cap; rw [← HX.out] at hq; rw [HS.out]; have hth := there_of HO4.out (by rw [bv_len]; rfl : (bv Z47).length = 32); have hi47 := HI47.out; have hl47 := HL47.out; have hbk := HB4.out.trans (bel_setCells (Nat.le_refl _) S 0 w4 (Below.refl _ _)))))
  go_wp2_with fail
  have hR4 := arr_over HO4.out (by rw [HL47.out, bv_len]; rfl : (bv Z47).length = S.length)
  exact bodyPost_ret (v := .agg S.toArray) (ret_row Tryd.results29 _ _ w.heap.size 47 _ hR4 rfl _ Tryd.underlying47 rfl HI47.out) rfl ⟨by rw [HS.out], hbk⟩
end Go.Proofs.YtkineafacekklaaDoor
