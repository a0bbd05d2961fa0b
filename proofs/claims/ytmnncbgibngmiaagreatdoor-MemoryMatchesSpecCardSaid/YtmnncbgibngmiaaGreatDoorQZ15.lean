/-
  What the reference's New does. What the reference's Do does.
-/
import Derived.Test.YtmnncbgibngmiaaGreatDoorQZ14
namespace Go.Proofs.YtmnncbgibngmiaaGreatDoor
open Go.RowKit Go.Maps
theorem infoRefLine : (Tryz.prog.info? 51).map (fun i => (i.zero, i.size, i.bytes)) = some (some (.agg #[Value.int .i64 0, Value.int .i64 0, Value.int .i64 0, Value.int .i64 0, Value.int .i64 0, Value.int .i64 0, Value.int .i64 0, Value.int .i64 0, Value.int .i64 0, Value.slice none 0 0, Value.int .i64 0]), 11, 104) := by kernel_rfl
def zeroX : PL × Value := (PL.zero, .slice none 0 0)
theorem zeroX_cells : lnR zeroX = [Value.int .i64 0, Value.int .i64 0, Value.int .i64 0, Value.int .i64 0, Value.int .i64 0, Value.int .i64 0, Value.int .i64 0, Value.int .i64 0, Value.int .i64 0, Value.slice none 0 0, Value.int .i64 0] := rfl
def RNewPost (w : World) (z : Int) (e : Ending) (w' : World) : Prop :=
  (∃ n : Nat, z = n ∧ 1 ≤ n ∧ n ≤ 4096 ∧ ∃ p, e = .returned (.pointer (some ⟨p, 0, none⟩)) ∧ Ref w' p (newP n) (New w w')) ∨
  (¬ (1 ≤ z ∧ z ≤ 4096) ∧ ∃ p, e = .returned (.pointer (some ⟨p, 0, none⟩)) ∧ w.heap.size ≤ p ∧ w'.cell? ⟨p, 0, none⟩ = some (.slice none 0 0))
set_option maxRecDepth 100000 in
set_option maxHeartbeats 8000000 in
set_option linter.unusedSimpArgs false in
theorem rNew_any (z : Int) (w : World) :
    Calls Tryz.prog 5 #[.int .i64 z] w fun e w' => RNewPost w z e w' ∧ Below w.heap.size w w' := by
  have hA := Arr.new w [.slice none 0 0, .int .i64 0, .slice none 0 0] 31
  have HB0 := Lib.hid (bel_new w (.cells #[.slice none 0 0, .int .i64 0, .slice none 0 0] 31))
  have HA0 := Lib.hid hA
  have hc0 := hA.cell (j := 0) rfl
  by_cases h1 : (4096 : Int) < z
  · have HP : Hid (RNewPost w z (.returned (.pointer (some ⟨w.heap.size, 0, none⟩))) (w.alloc (.cells #[.slice none 0 0, .int .i64 0, .slice none 0 0] 31))) := Lib.hid (.inr ⟨by omega, _, rfl, Nat.le_refl _, hc0⟩)
    clear hA hc0
    go_enter Tryz.func5, Tryz.ntmps5
    go_wp2_with fail
    go_ret
    exact ⟨HP.out, HB0.out⟩
  · have HENC := Lib.hid fun W => rEncode_any Z8 W rfl
    rw [enc_z8] at HENC
    rw [show (iv Z8).toArray = #[.int .i64 0, .int .i64 0, .int .i64 0, .int .i64 0, .int .i64 0, .int .i64 0, .int .i64 0, .int .i64 0] from rfl] at HENC
    obtain ⟨N, hN⟩ : ∃ N : Nat, z.toNat = N := ⟨_, rfl⟩
    have HNZ : Hid (∀ k : Nat, (k : Int) < z ↔ k < N) := Lib.hid fun k => by omega
    have HN := Lib.hid hN
    have hN2 : N ≤ 4096 := by omega
    obtain ⟨i0, his, hz0, hz1, hz2⟩ := info_parts infoRefLine
    have HIS := Lib.hid his
    have HZ0 := Lib.hid hz0
    have HZ1 := Lib.hid hz1
    have HZ2 := Lib.hid hz2
    clear his hz0 hz1 hz2 hA hc0 hN
    go_enter Tryz.func5, Tryz.ntmps5
    go_wp2_with fail
    refine (HENC.out _).mono ?_
    rintro e w1 ⟨rfl, hb⟩
    have HB1 : Hid (Below w.heap.size w w1) := Lib.hid (bel_on HB0.out hb)
    have HA1 : Hid (Arr w1 w.heap.size 31 [.slice none 0 0, .int .i64 0, .slice none 0 0]) := Lib.hid (HA0.out.keep hb)
    have HS1 : Hid (Sl w1 51 11 (.slice none 0 0) 0 (List.replicate 0 (lnR zeroX)).flatten) := Lib.hid (Sl.nil _ _ _)
    have HO1 : Hid (∀ q, (Value.slice none 0 0).ownBlock = some q → w.heap.size ≤ q) := Lib.hid (fun q hq => by cases hq)
    clear hb HB0 HA0 HENC
    go_wp2_with fail
    go_loopw [5] (fun i wr => ∃ (k : Nat) (u : Value), i = .int .i64 (k : Int) ∧ k ≤ N ∧ Hid (Arr wr w.heap.size 31 [u, .int .i64 0, .slice none 0 0]) ∧ Hid (Sl wr 51 11 u k (List.replicate k (lnR zeroX)).flatten) ∧ Hid (∀ q, u.ownBlock = some q → w.heap.size ≤ q) ∧ Hid (Below w.heap.size w wr) ∧ Hid (k = 0 → u = .slice none 0 0)) (fun i _ => N - (intOf i).toNat)
    case atStart => exact ⟨0, _, rfl, by omega, HA1, HS1, HO1, HB1, Lib.hid fun _ => rfl⟩
    case round =>
      clear HA1 HS1 HO1 HB1
      obtain ⟨k, u, rfl, hk, HA, HS, HO, HB, HU⟩ := hrel
      have hm0 := HA.out.cell (j := 0) rfl
      have hf0 := HA.out.free 0
      obtain ⟨UA, ucap, rfl, _⟩ := HS.out.shape
      by_cases hlt : k < N
      · have hkI : (k : Int) < z := (HNZ.out k).2 hlt
        have HS2 := Lib.hid (HS.out.keep (w' := wr.alloc (.cells #[Value.int .i64 0, Value.int .i64 0, Value.int .i64 0, Value.int .i64 0, Value.int .i64 0, Value.int .i64 0, Value.int .i64 0, Value.int .i64 0, Value.int .i64 0, Value.slice none 0 0, Value.int .i64 0] 51)) fun q hq => (bel_new wr _).block q (HS.out.lt hq))
        have HNW : Hid (∀ j x, [Value.int .i64 0, Value.int .i64 0, Value.int .i64 0, Value.int .i64 0, Value.int .i64 0, Value.int .i64 0, Value.int .i64 0, Value.int .i64 0, Value.int .i64 0, Value.slice none 0 0, Value.int .i64 0][j]? = some x → (wr.alloc (.cells #[Value.int .i64 0, Value.int .i64 0, Value.int .i64 0, Value.int .i64 0, Value.int .i64 0, Value.int .i64 0, Value.int .i64 0, Value.int .i64 0, Value.int .i64 0, Value.slice none 0 0, Value.int .i64 0] 51)).cell? ((⟨wr.heap.size, 0, none⟩ : Addr).add j) = some x) := Lib.hid (fun j x hx => by
          rw [Addr.add_lit, Nat.zero_add]
          exact (Arr.new wr [Value.int .i64 0, Value.int .i64 0, Value.int .i64 0, Value.int .i64 0, Value.int .i64 0, Value.int .i64 0, Value.int .i64 0, Value.int .i64 0, Value.int .i64 0, Value.slice none 0 0, Value.int .i64 0] 51).cell hx)
        have HONE : Hid (∀ x ∈ [Value.int .i64 0, Value.int .i64 0, Value.int .i64 0, Value.int .i64 0, Value.int .i64 0, Value.int .i64 0, Value.int .i64 0, Value.int .i64 0, Value.int .i64 0, Value.slice none 0 0, Value.int .i64 0], x.oneCell' = true) := Lib.hid (by
          have := lnR_one (x := zeroX) rfl
          rw [zeroX_cells] at this
          exact this)
        have HFIN : Hid (∀ (v' : Value) (w5 : World), Sl w5 51 11 v' (k + 1) ((List.replicate k (lnR zeroX)).flatten ++ [Value.int .i64 0, Value.int .i64 0, Value.int .i64 0, Value.int .i64 0, Value.int .i64 0, Value.int .i64 0, Value.int .i64 0, Value.int .i64 0, Value.int .i64 0, Value.slice none 0 0, Value.int .i64 0]) → (wr.alloc (.cells #[Value.int .i64 0, Value.int .i64 0, Value.int .i64 0, Value.int .i64 0, Value.int .i64 0, Value.int .i64 0, Value.int .i64 0, Value.int .i64 0, Value.int .i64 0, Value.slice none 0 0, Value.int .i64 0] 51)).grownBy w5 (Value.slice UA k ucap).ownBlock → (v'.ownBlock = (Value.slice UA k ucap).ownBlock ∨ v'.ownBlock = some (wr.alloc (.cells #[Value.int .i64 0, Value.int .i64 0, Value.int .i64 0, Value.int .i64 0, Value.int .i64 0, Value.int .i64 0, Value.int .i64 0, Value.int .i64 0, Value.int .i64 0, Value.slice none 0 0, Value.int .i64 0] 51)).heap.size) →
            (w5.cell? ⟨w.heap.size, 0, none⟩ = some (.slice UA k ucap) ∧ w5.frozen? ⟨w.heap.size, 0, none⟩ = false) ∧ Arr (w5.setCell ⟨w.heap.size, 0, none⟩ v') w.heap.size 31 [v', .int .i64 0, .slice none 0 0] ∧ Sl (w5.setCell ⟨w.heap.size, 0, none⟩ v') 51 11 v' (k + 1) (List.replicate (k + 1) (lnR zeroX)).flatten ∧ (∀ q, v'.ownBlock = some q → w.heap.size ≤ q) ∧ Below w.heap.size w (w5.setCell ⟨w.heap.size, 0, none⟩ v')) := Lib.hid fun v' w5 h5 h6 h7 => by
          have hne : some w.heap.size ≠ (Value.slice UA k ucap).ownBlock := fun e => HS.out.ne_of e.symm HA.out (by decide) rfl
          have hb4 := bel_on HB.out (bel_new wr (.cells #[Value.int .i64 0, Value.int .i64 0, Value.int .i64 0, Value.int .i64 0, Value.int .i64 0, Value.int .i64 0, Value.int .i64 0, Value.int .i64 0, Value.int .i64 0, Value.slice none 0 0, Value.int .i64 0] 51))
          have hA5 : Arr w5 w.heap.size 31 [.slice UA k ucap, .int .i64 0, .slice none 0 0] := (h6.block _ (Nat.lt_of_lt_of_le HA.out.lt (by simp)) hne).trans (HA.out.keep (bel_new wr _))
          have hs5 : Sl w5 51 11 v' (k + 1) (List.replicate (k + 1) (lnR zeroX)).flatten := by
            rw [List.replicate_succ', List.flatten_append, zeroX_cells]
            rw [zeroX_cells] at h5
            simpa using h5
          refine ⟨⟨hA5.cell rfl, hA5.free 0⟩, hA5.set 0 v', hs5.keep fun q hq => heap_setCell_other w5 _ q _ (hs5.ne_of hq hA5 (by decide)), own_of (by have := hb4.size; exact this) HO.out h7, (hb4.grown h6 hb4.size (fun q hq => HO.out q hq)).setCell (Nat.le_refl _) _⟩
        clear HS HA
        go_wp2_with (at_builtin; refine wpList_append_sl _ rfl _ _ 28 rfl 51 i0 _ 11 104 Tryz.underlying28 HIS.out HZ0.out HZ1.out HZ2.out rfl (by decide) _ k (List.replicate k (lnR zeroX)).flatten rfl HS2.out ⟨wr.heap.size, 0, none⟩ 1 1 [Value.int .i64 0, Value.int .i64 0, Value.int .i64 0, Value.int .i64 0, Value.int .i64 0, Value.int .i64 0, Value.int .i64 0, Value.int .i64 0, Value.int .i64 0, Value.slice none 0 0, Value.int .i64 0] rfl rfl HNW.out HONE.out (by unfold maxLen; omega) (by omega) ?_; intro v' w5 hs5 hg5 ho5; obtain ⟨⟨g1, g2⟩, g3, g4, g5, g6⟩ := HFIN.out _ _ hs5 hg5 ho5; have G3 := Lib.hid g3; have G4 := Lib.hid g4; have G5 := Lib.hid g5; have G6 := Lib.hid g6; obtain ⟨VA, vcap, rfl, _⟩ := hs5.shape; clear hs5 hg5 ho5 g3 g4 g5 g6)
        go_roundw
        case rel => exact ⟨k + 1, _, by simp, by omega, G3, G4, G5, G6, Lib.hid fun h => by omega⟩
        case measure => simp [intOf]; omega
      · obtain rfl : k = N := by omega
        have hkI : ¬ (k : Int) < z := fun h => hlt ((HNZ.out k).1 h)
        have HP : Hid (RNewPost w z (.returned (.pointer (some ⟨w.heap.size, 0, none⟩))) wr) := Lib.hid (by
          by_cases hz1 : 1 ≤ z
          · have hkz : z = (k : Int) := by have := HN.out; omega
            have hk1 : 1 ≤ k := by omega
            refine .inl ⟨k, hkz, hk1, hN2, _, rfl, ?_⟩
            rcases HS.out.2 with ⟨_, h9⟩ | ⟨g, o, cap, cur, hv, hb, _⟩
            · omega
            · simp only [Value.slice.injEq, true_and] at hv
              obtain ⟨rfl, rfl⟩ := hv
              have hlen : (newP k).L.length = k := List.length_replicate ..
              have hgw := HO.out g rfl
              have hgs := HS.out.lt (g := g) rfl
              refine ⟨g, o, ucap, .slice none 0 0, List.replicate k zeroX, ?_⟩
              exact {
                mem := by rw [hlen]; exact HA.out
                lst := by rw [List.map_replicate]; rfl
                lin := by rw [hlen, List.map_replicate]; exact HS.out
                evs := Sl.nil _ _ _
                pend := fun x hx => by rw [(List.mem_replicate.1 hx).2]; exact Sl.nil _ _ _
                ownP := ⟨Nat.le_refl _, HA.out.lt⟩
                ownD := ⟨hgw, hgs⟩
                ownE := fun q hq => by cases hq
                ownG := fun x hx q hq => by rw [(List.mem_replicate.1 hx).2] at hq; cases hq
                lt := fun q hq => hq.2 }
          · have hk0 : k = 0 := by have := HN.out; omega
            refine .inr ⟨by omega, _, rfl, Nat.le_refl _, ?_⟩
            have h9 := HU.out hk0
            rw [h9] at hm0
            exact hm0)
        clear HS HA HO hlt
        go_wp2_with fail
        go_ret
        exact ⟨HP.out, HB.out⟩
end Go.Proofs.YtmnncbgibngmiaaGreatDoor
namespace Go.Proofs.YtmnncbgibngmiaaGreatDoor
open Go.RowKit Go.Maps
/-- The events are dropped. -/
theorem RefAt.forget {w : World} {p d o cap : Nat} {m : PM} {F : Nat → Prop} {ev : Value} {X : List (PL × Value)} (h : RefAt w p m F d o cap ev X) : RStep F w p (forgetP m) (w.setCell ⟨p, 2, none⟩ (.slice none 0 0)) := by
  have h2 := h.setEv (w' := w) (fun _ _ _ => rfl) (Nat.le_refl _) (ev' := .slice none 0 0) (evs := []) (Sl.nil _ _ _) (fun q hq => by cases hq)
  refine ⟨⟨_, _, _, _, _, h2.keep (fun _ _ => rfl) (fun q hq => ?_) (fun q hq => ?_)⟩, Kept.setCell w (a := ⟨p, 2, none⟩) _ h.ownP⟩
  · rcases hq with h5 | h5
    · exact .inl h5
    · exact .inr (by obtain ⟨q1, q2⟩ := h5; simp; omega)
  · rcases hq with h5 | h5
    · simpa using h.lt q h5
    · exact h5.2
set_option maxRecDepth 100000 in
set_option maxHeartbeats 8000000 in
theorem rDo_any (p : Nat) (x : POp) (cv : Value) (m : PM) (F : Nat → Prop) (w : World) (hx : x.Ok) (hm : m.Ok) (hs : m.Small 1000) (h : Ref w p m F)
    (hcs : Rd w cv x.cs.length (iv (flatS x.cs))) (hcv : ∀ q, 0 < x.cs.length → cv.ownBlock = some q → ¬ F q) :
    Calls Tryz.prog 12 #[.pointer (some ⟨p, 0, none⟩), .agg (opV x cv).toArray] w fun e w' => e = .returned (.tuple #[.int .i64 (doP m x).1.1, .int .i64 (doP m x).1.2]) ∧ RStep F w p (doP m x).2 w' := by
  have hb := bel_new w (.cells (opV x cv).toArray 42)
  have hA := Arr.new w (opV x cv) 42
  have hi := size61 (opV_len hx cv)
  have HST := Lib.hid fun (m' : PM) (w' : World) (s : RStep F (w.alloc (.cells (opV x cv).toArray 42)) p m' w') => RStep.after (Kept.of_below hb) s
  have hr := h.below hb
  have hcs1 := hcs.below hb
  obtain ⟨A, cap, rfl, _⟩ := hcs
  obtain ⟨k, a, b, ws, cs⟩ := x
  have h8 : ws.length = 8 := hx.len
  have e0 := hA.cell (j := 0) (u := .int .i64 k) rfl
  have e1 := hA.cell (j := 1) (u := .int .i64 a) rfl
  have e2 := hA.cell (j := 2) (u := .int .i64 b) rfl
  have e3 : (w.alloc (.cells (opV ⟨k, a, b, ws, cs⟩ (.slice A cs.length cap)).toArray 42)).rangeAt w.heap.size 3 (iv ws) := fun j v hv => by
    refine hA.cell ?_
    have hj := (List.getElem?_eq_some_iff.1 hv).1
    rw [iv_len] at hj
    unfold opV
    rw [List.getElem?_append_left (by rw [iv_len, List.length_append]; simp; omega)]
    unfold iv at hv ⊢
    rw [List.map_append, List.getElem?_append_right (by simp)]
    simpa [Nat.add_comm 3 j] using hv
  have e11 : (w.alloc (.cells (opV ⟨k, a, b, ws, cs⟩ (.slice A cs.length cap)).toArray 42)).cell? ⟨w.heap.size, 11, none⟩ = some (.slice A cs.length cap) := hA.cell (by
    unfold opV
    rw [List.getElem?_append_right (by rw [iv_len, List.length_append, h8]; exact Nat.le_refl _), iv_len, List.length_append, h8]
    rfl)
  have hi8 := size22' h8
  have hu22 := Tryz.underlying39
  have ha : I64 a := hx.a
  have hbI : I64 b := hx.b
  have HCS := Lib.hid hx.cs
  simp only at hcs1 hcv
  obtain ⟨R, hR⟩ : ∃ R, doP m ⟨k, a, b, ws, cs⟩ = R := ⟨_, rfl⟩
  rw [hR]
  generalize (opV ⟨k, a, b, ws, cs⟩ (.slice A cs.length cap)) = OV at *
  clear hA hb h
  by_cases q0 : k = 0
  · rw [doP_0 (show (POp.mk k a b ws cs).k = 0 from q0)] at hR
    subst q0
    have HC := Lib.hid (rStore_any p a b m F _ hm hs ha hr)
    subst hR
    clear hs hm hr hcs1 hcv hx
    go_enter Tryz.func12, Tryz.ntmps12
    go_wp2_with fail
    refine HC.out.mono ?_
    rintro e w2 ⟨rfl, hst⟩
    have HS := Lib.hid (HST.out _ _ hst)
    clear hst HST HC
    go_wp2_with fail
    refine bodyPost_ret (results_tmp2 rfl _ _ _) rfl ?_
    exact ⟨rfl, HS.out⟩
  by_cases q1 : k = 1
  · rw [doP_1 (show (POp.mk k a b ws cs).k = 1 from q1)] at hR
    subst q1
    have HC := Lib.hid (rPublish_any p a b m F _ hm hs ha hr)
    subst hR
    clear hs hm hr hcs1 hcv hx
    go_enter Tryz.func12, Tryz.ntmps12
    go_wp2_with fail
    refine HC.out.mono ?_
    rintro e w2 ⟨rfl, hst⟩
    have HS := Lib.hid (HST.out _ _ hst)
    clear hst HST HC
    go_wp2_with fail
    refine bodyPost_ret (results_tmp2 rfl _ _ _) rfl ?_
    exact ⟨rfl, HS.out⟩
  by_cases q2 : k = 2
  · rw [doP_2 (show (POp.mk k a b ws cs).k = 2 from q2)] at hR
    subst q2
    have HC := Lib.hid (rSet_any p a m F _ hr)
    subst hR
    clear hs hm hr hcs1 hcv hx
    go_enter Tryz.func12, Tryz.ntmps12
    go_wp2_with fail
    refine HC.out.mono ?_
    rintro e w2 ⟨rfl, hst⟩
    have HS := Lib.hid (HST.out _ _ hst)
    clear hst HST HC
    go_wp2_with fail
    refine bodyPost_ret (results_tmp2 rfl _ _ _) rfl ?_
    exact ⟨rfl, HS.out⟩
  by_cases q3 : k = 3
  · rw [doP_3 (show (POp.mk k a b ws cs).k = 3 from q3)] at hR
    subst q3
    have HC := Lib.hid (rFlush_any p a m F _ hm hs hr)
    subst hR
    clear hs hm hr hcs1 hcv hx
    go_enter Tryz.func12, Tryz.ntmps12
    go_wp2_with fail
    refine HC.out.mono ?_
    rintro e w2 ⟨rfl, hst⟩
    have HS := Lib.hid (HST.out _ _ hst)
    clear hst HST HC
    go_wp2_with fail
    refine bodyPost_ret (results_tmp2 rfl _ _ _) rfl ?_
    exact ⟨rfl, HS.out⟩
  by_cases q4 : k = 4
  · rw [doP_4 (show (POp.mk k a b ws cs).k = 4 from q4)] at hR
    subst q4
    have HC := Lib.hid (rFence_any p m F _ hm hs hr)
    subst hR
    clear hs hm hr hcs1 hcv hx
    go_enter Tryz.func12, Tryz.ntmps12
    go_wp2_with fail
    refine HC.out.mono ?_
    rintro e w2 ⟨rfl, hst⟩
    have HS := Lib.hid (HST.out _ _ hst)
    clear hst HST HC
    go_wp2_with fail
    refine bodyPost_ret (results_tmp2 rfl _ _ _) rfl ?_
    exact ⟨rfl, HS.out⟩
  by_cases q5 : k = 5
  · rw [doP_5 (show (POp.mk k a b ws cs).k = 5 from q5)] at hR
    subst q5
    have HC := Lib.hid (rEvict_any p a b m F _ hm hs hr)
    subst hR
    clear hs hm hr hcs1 hcv hx
    go_enter Tryz.func12, Tryz.ntmps12
    go_wp2_with fail
    refine HC.out.mono ?_
    rintro e w2 ⟨rfl, hst⟩
    have HS := Lib.hid (HST.out _ _ hst)
    clear hst HST HC
    go_wp2_with fail
    refine bodyPost_ret (results_tmp2 rfl _ _ _) rfl ?_
    exact ⟨rfl, HS.out⟩
  by_cases q6 : k = 6
  · rw [doP_6 (show (POp.mk k a b ws cs).k = 6 from q6)] at hR
    subst q6
    have HC := Lib.hid (rHeal_any p a ws m F _ hm hs h8 hr)
    subst hR
    clear hs hm hr hcs1 hcv hx
    go_enter Tryz.func12, Tryz.ntmps12
    go_wp2_with ((with_reducible refine arm_range 39 w.heap.size 3 (iv ws) e3 _ hu22 rfl hi8 rfl _ rfl ?_ ?_); focus rfl)
    refine HC.out.mono ?_
    rintro e w2 ⟨rfl, hst⟩
    have HS := Lib.hid (HST.out _ _ hst)
    clear hst HST HC
    go_wp2_with fail
    refine bodyPost_ret (results_tmp2 rfl _ _ _) rfl ?_
    exact ⟨rfl, HS.out⟩
  by_cases q7 : k = 7
  · rw [doP_7 (show (POp.mk k a b ws cs).k = 7 from q7)] at hR
    subst q7
    have HC := Lib.hid (rRot_any p a b ws m F _ hm hs h8 hr)
    subst hR
    clear hs hm hr hcs1 hcv hx
    go_enter Tryz.func12, Tryz.ntmps12
    go_wp2_with ((with_reducible refine arm_range 39 w.heap.size 3 (iv ws) e3 _ hu22 rfl hi8 rfl _ rfl ?_ ?_); focus rfl)
    refine HC.out.mono ?_
    rintro e w2 ⟨rfl, hst⟩
    have HS := Lib.hid (HST.out _ _ hst)
    clear hst HST HC
    go_wp2_with fail
    refine bodyPost_ret (results_tmp2 rfl _ _ _) rfl ?_
    exact ⟨rfl, HS.out⟩
  by_cases q8 : k = 8
  · rw [doP_8 (show (POp.mk k a b ws cs).k = 8 from q8)] at hR
    subst q8
    have HC := Lib.hid (rCrash_any p cs _ m F _ hm hs hr hcs1 hcv hx.cs)
    subst hR
    clear hs hm hr hcs1 hcv hx
    go_enter Tryz.func12, Tryz.ntmps12
    go_wp2_with fail
    refine HC.out.mono ?_
    rintro e w2 ⟨rfl, hst⟩
    have HS := Lib.hid (HST.out _ _ hst)
    clear hst HST HC
    go_wp2_with fail
    refine bodyPost_ret (results_tmp2 rfl _ _ _) rfl ?_
    exact ⟨rfl, HS.out⟩
  by_cases q9 : k = 9
  · rw [doP_9 (show (POp.mk k a b ws cs).k = 9 from q9)] at hR
    subst q9
    obtain ⟨d, o, cap9, ev, X, hat⟩ := hr
    have c2 := hat.c2
    have f2 := hat.mem.free 2
    have HS := Lib.hid (HST.out _ _ hat.forget)
    subst hR
    clear hs hm hcs1 hcv hx hat HST
    go_enter Tryz.func12, Tryz.ntmps12
    go_wp2_with fail
    refine bodyPost_ret (results_tmp2 rfl _ _ _) rfl ?_
    exact ⟨rfl, HS.out⟩
  rw [doP_d (x := ⟨k, a, b, ws, cs⟩) q0 q1 q2 q3 q4 q5 q6 q7 q8 q9] at hR
  have HC := Lib.hid (rLoad_any p a m F _ ha hm hr)
  have HS := Lib.hid (RStep.refl (F := F) hr)
  subst hR
  clear hs hm hr hcs1 hcv hx
  go_enter Tryz.func12, Tryz.ntmps12
  go_wp2_with fail
  refine HC.out.mono ?_
  rintro e w2 ⟨rfl, hb2⟩
  have HS2 := Lib.hid (HST.out _ _ (HS.out.then_below hb2))
  clear hb2
  go_wp2_with fail
  refine bodyPost_ret (results_tmp2 rfl _ _ _) rfl ?_
  exact ⟨rfl, HS2.out⟩
end Go.Proofs.YtmnncbgibngmiaaGreatDoor
