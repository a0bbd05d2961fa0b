/-
  What the law's cuts makes.
-/
import Derived.Test.YtmnncbgibngmiaaDoorQN29
namespace Go.Proofs.YtmnncbgibngmiaaDoor
open Go.RowKit Go.Maps
theorem cutsTo_congr {m : PM} {K : Nat} {g h : Nat → Int} : ∀ n, (∀ j, j < n → g j = h j) → cutsTo m K g n = cutsTo m K h n
  | 0, _ => rfl
  | n + 1, e => by
    unfold cutsTo
    rw [cutsTo_congr n (fun j hj => e j (by omega)), e n (by omega)]
theorem cutsTo_len (m : PM) (K : Nat) (g : Nat → Int) : ∀ n, (cutsTo m K g n).length ≤ n
  | 0 => Nat.le_refl _
  | n + 1 => by
    unfold cutsTo
    have := cutsTo_len m K g n
    rw [List.length_append]
    split <;> simp <;> omega
theorem infoCut : (Tryd.prog.info? 52).map (fun i => (i.zero, i.size, i.bytes)) = some (some (.agg #[.int .i64 0, .int .i64 0]), 2, 16) := by kernel_rfl
def withG (g : Nat → Int) (k : Nat) (r : Int) : Nat → Int := fun j => if j = k then r else g j
theorem withG_old {m : PM} {K : Nat} {g : Nat → Int} {k : Nat} {r : Int} : cutsTo m K (withG g k r) k = cutsTo m K g k :=
  cutsTo_congr k fun j hj => by unfold withG; rw [if_neg (by omega)]
theorem withG_bound {m : PM} {g : Nat → Int} {k : Nat} {r : Int} (h : ∀ j, j < k → 0 ≤ g j ∧ g j ≤ ((m.line j).pend.length : Int)) (hr : 0 ≤ r ∧ r ≤ ((m.line k).pend.length : Int)) :
    ∀ j, j < k + 1 → 0 ≤ withG g k r j ∧ withG g k r j ≤ ((m.line j).pend.length : Int) := fun j hj => by
  unfold withG
  split
  · rename_i e
    subst e
    exact hr
  · exact h j (by omega)
set_option maxRecDepth 100000 in
set_option maxHeartbeats 8000000 in
set_option linter.unusedSimpArgs false in
theorem cuts_any (p : Nat) (ks : List Int) (v : Value) (m : PM) (F : Nat → Prop) (w : World) (hm : m.Ok) (hs : m.Small 1000) (h : Rep w p m F) (hv : Rd w v ks.length (iv ks)) :
    Calls Tryd.prog 24 #[.pointer (some ⟨p, 0, none⟩), v] w fun e w' => ∃ (v' : Value) (g : Nat → Int), e = .returned v' ∧ (∀ j, j < m.L.length → 0 ≤ g j ∧ g j ≤ ((m.line j).pend.length : Int)) ∧
      Sl w' 52 2 v' (cutsTo m ks.length g m.L.length).length (iv (flatS (cutsTo m ks.length g m.L.length))) ∧ (∀ k, v'.ownBlock = some k → w.heap.size ≤ k) ∧ Below w.heap.size w w' := by
  have HV := Lib.hid hv
  obtain ⟨A, cap, rfl, hcap, hcm, _⟩ := hv
  have hfew := hm.few
  have hlc := fun wr h => lines_any p m F wr h
  have HLC := Lib.hid hlc
  have HPN := Lib.hid fun (k : Nat) (hk : k < m.L.length) (wr : World) (h : Rep wr p m F) => pending_any p (k : Int) m F wr (by have h1 := hk; unfold I64; omega) hfew (by rw [pend_k hk]; have := hs.pend _ (PM.line_mem hk); omega) h
  have HPK := Lib.hid fun (k : Nat) (hk : k < m.L.length) => pend_k (m := m) hk
  have HPL := Lib.hid fun (k : Nat) (hk : k < m.L.length) => hs.pend _ (PM.line_mem hk)
  have HRP := Lib.hid h
  have HB0 : Hid (Below w.heap.size w w) := Lib.hid (Below.refl _ _)
  have HS0 : Hid (Sl w 52 2 (.slice none 0 0) 0 []) := Lib.hid (Sl.nil _ _ _)
  obtain ⟨i0, hi, hz0, hz1, hz2⟩ := info_parts infoCut
  have HI0 := Lib.hid hi
  have HZ0 := Lib.hid hz0
  have HZ1 := Lib.hid hz1
  have HZ2 := Lib.hid hz2
  clear h hs hm hlc hi hz0 hz1 hz2
  generalize hn : m.L.length = n at *
  generalize hK : ks.length = K at *
  clear hn
  go_enter Tryd.func24, Tryd.ntmps24
  go_wp2_with fail
  go_loopw [5, 6] (fun u i wr => ∃ (g : Nat → Int) (k : Nat), i = .int .i64 (k : Int) ∧ k ≤ n ∧ Hid (∀ j, j < k → 0 ≤ g j ∧ g j ≤ ((m.line j).pend.length : Int)) ∧ Hid (Sl wr 52 2 u (cutsTo m K g k).length (iv (flatS (cutsTo m K g k)))) ∧ Hid (∀ q, u.ownBlock = some q → w.heap.size ≤ q) ∧ Hid (Below w.heap.size w wr)) (fun u i _ => n - (intOf i).toNat)
  case atStart => exact ⟨fun _ => 0, 0, rfl, by omega, Lib.hid (fun j hj => by omega), HS0, Lib.hid (fun q hq => by cases hq), HB0⟩
  case round =>
    obtain ⟨g, k, rfl, hk, HG, HS, HO, HB⟩ := hrel
    have HL1 := Lib.hid (HLC.out _ (HRP.out.below HB.out))
    by_cases hlt : k < n
    · have hkI : (k : Int) < (n : Int) := by omega
      have hpn := HPN.out k hlt _ (HRP.out.below HB.out)
      rw [HPK.out k hlt] at hpn
      have hpl := HPL.out k hlt
      have HPNk := Lib.hid hpn
      clear hpn
      go_wp2_with (go_at_call 13; refine HL1.out.mono ?_; rintro e w' ⟨rfl, hw'⟩; obtain rfl := hw'.symm)
      refine HPNk.out.mono ?_
      rintro e w2 ⟨pv, rfl, hs2, _, hb⟩
      obtain ⟨A2, cap2, rfl, _⟩ := hs2.shape
      have HS2 := Lib.hid (HS.out.keep fun q hq => hb.block q (HS.out.lt hq))
      have HB2 := Lib.hid (bel_on HB.out hb)
      have HV2 := Lib.hid (HV.out.below HB2.out)
      clear hs2 hb HS HB HL1 HPNk
      by_cases hz : (m.line k).pend.length = 0
      · have hcb : cutB m K k = false := by unfold cutB; rw [hz]; rfl
        have HCB : Hid (cutsTo m K (withG g k 0) (k + 1) = cutsTo m K g k) := Lib.hid (by
          show cutsTo m K (withG g k 0) k ++ (if cutB m K k then _ else []) = _
          rw [hcb, withG_old]
          exact List.append_nil _)
        have HG2 := Lib.hid (withG_bound HG.out (r := 0) ⟨by omega, by omega⟩)
        rw [← HCB.out] at HS2
        rw [hz]
        clear HG HCB
        go_wp2_with fail
        go_roundw
        case rel => exact ⟨withG g k 0, k + 1, by simp, by omega, HG2, HS2, HO, HB2⟩
        case measure => simp [intOf]; omega
      · by_cases hkK : k < K
        · have hcb : cutB m K k = true := by unfold cutB; rw [decide_eq_true (show 0 < (m.line k).pend.length by omega), decide_eq_true hkK]; rfl
          have HCB : Hid (∀ r, cutsTo m K (withG g k r) (k + 1) = cutsTo m K g k ++ [((k : Int), r)]) := Lib.hid (fun r => by
            show cutsTo m K (withG g k r) k ++ (if cutB m K k then [((k : Int), withG g k r k)] else []) = _
            rw [hcb, withG_old, if_pos rfl]
            unfold withG
            rw [if_pos rfl])
          have HG2 := Lib.hid fun (r : Int) h => withG_bound HG.out (r := r) h
          have HLN := Lib.hid (cutsTo_len m K g k)
          obtain ⟨A', cap', he, _, _, hc⟩ := HV2.out
          simp only [Value.slice.injEq] at he
          obtain ⟨rfl, -, rfl⟩ := he
          obtain ⟨b0, o0, rfl, hbl, hcells⟩ := hc (by omega)
          have hcell : w2.cell? ⟨b0, o0 + k, none⟩ = some (.int .i64 (ks[k]'(by omega))) := hcells k _ (iv_get (List.getElem?_eq_getElem (by omega)))
          generalize ks[k]'(by omega) = z at hcell
          have hpI : 0 < ((m.line k).pend.length : Int) := by omega
          have hkKI : (k : Int) < (K : Int) := by omega
          obtain ⟨pl, hple⟩ : ∃ pl, (m.line k).pend.length = pl := ⟨_, rfl⟩
          rw [hple] at hpl hpI hz HG2 ⊢
          have HLE := Lib.hid (least_any z ((pl : Int) + 1) w2 ⟨by omega, by omega⟩)
          have HKF := Lib.hid hfew
          clear hc hcells HG hple hcb
          go_wp2_with fail
          refine HLE.out.mono ?_
          rintro e w' ⟨⟨r, rfl, hr0, hr1⟩, hw'⟩
          obtain rfl := hw'.symm
          have HR := Lib.hid (show 0 ≤ r ∧ r ≤ (pl : Int) by omega)
          have HS4 := Lib.hid (HS2.out.keep (w' := w2.alloc (.cells #[.int .i64 (k : Int), .int .i64 r] 52)) fun q hq => (bel_new w2 _).block q (HS2.out.lt hq))
          have HNW : Hid (∀ j x, [Value.int .i64 (k : Int), .int .i64 r][j]? = some x → (w2.alloc (.cells #[.int .i64 (k : Int), .int .i64 r] 52)).cell? ((⟨w2.heap.size, 0, none⟩ : Addr).add j) = some x) := Lib.hid (fun j x hx => by
            rw [Addr.add_lit, Nat.zero_add]
            exact (Arr.new w2 [.int .i64 (k : Int), .int .i64 r] 52).cell hx)
          clear hcell hr0 hr1 HLE
          go_wp2_with (at_builtin; refine wpList_append_sl _ rfl _ _ 45 rfl 52 i0 _ 2 16 Tryd.underlying45 HI0.out HZ0.out HZ1.out HZ2.out rfl (by decide) _ (cutsTo m K g k).length (iv (flatS (cutsTo m K g k))) rfl HS4.out ⟨w2.heap.size, 0, none⟩ 1 1 [.int .i64 (k : Int), .int .i64 r] rfl rfl HNW.out (by simp [Value.oneCell']) (by have := HLN.out; have := HKF.out; unfold maxLen; omega) (by have := HLN.out; have := HKF.out; omega) ?_)
          intro v' w5 hs5 hg5 ho5
          have hB4 := bel_on HB2.out (bel_new w2 (.cells #[.int .i64 (k : Int), .int .i64 r] 52))
          have HB5 := Lib.hid (hB4.grown hg5 hB4.size (fun q hq => HO.out q hq))
          have HO5 : Hid (∀ q, v'.ownBlock = some q → w.heap.size ≤ q) := Lib.hid fun q hq => by
            rcases ho5 with h5 | h5
            · exact HO.out q (h5 ▸ hq)
            · have h6 := hB4.size
              rw [h5] at hq
              simp at hq h6
              omega
          have HS5 : Hid (Sl w5 52 2 v' (cutsTo m K (withG g k r) (k + 1)).length (iv (flatS (cutsTo m K (withG g k r) (k + 1))))) := Lib.hid (by
            rw [HCB.out, List.length_append, show iv (flatS (cutsTo m K g k ++ [((k : Int), r)])) = iv (flatS (cutsTo m K g k)) ++ [.int .i64 (k : Int), .int .i64 r] by unfold iv flatS; simp]
            exact hs5)
          have HG5 := Lib.hid (HG2.out r HR.out)
          clear hs5 hg5 ho5 hB4 HS4 HNW HCB HG2 HS2 HB2 HO HV2
          go_wp2_with fail
          go_roundw
          case rel => exact ⟨withG g k r, k + 1, by simp, by omega, HG5, HS5, HO5, HB5⟩
          case measure => simp [intOf]; omega
        · have hcb : cutB m K k = false := by unfold cutB; rw [decide_eq_false hkK, Bool.and_false]
          have HCB : Hid (cutsTo m K (withG g k 0) (k + 1) = cutsTo m K g k) := Lib.hid (by
            show cutsTo m K (withG g k 0) k ++ (if cutB m K k then _ else []) = _
            rw [hcb, withG_old]
            exact List.append_nil _)
          have HG2 := Lib.hid (withG_bound HG.out (r := 0) ⟨by omega, by omega⟩)
          rw [← HCB.out] at HS2
          have hpI : 0 < ((m.line k).pend.length : Int) := by omega
          have hkKI : ¬ (k : Int) < (K : Int) := by omega
          clear HG HCB
          go_wp2_with fail
          go_roundw
          case rel => exact ⟨withG g k 0, k + 1, by simp, by omega, HG2, HS2, HO, HB2⟩
          case measure => simp [intOf]; omega
    · obtain rfl : k = n := by omega
      go_wp2_with (go_at_call 13; refine HL1.out.mono ?_; rintro e w' ⟨rfl, hw'⟩; obtain rfl := hw'.symm)
      go_ret
      exact ⟨_, g, rfl, HG.out, HS.out, HO.out, HB.out⟩
end Go.Proofs.YtmnncbgibngmiaaDoor
