/-
  What the law's lineOf and alumref04's SameStores do; calls of different lines.
-/
import Derived.Test.YtmnncbgibngmiaaDoorQN30
namespace Go.Proofs.YtmnncbgibngmiaaDoor
open Go.RowKit Go.Maps
/-! ### calls of different lines -/
def lineK (x : POp) : Int := if x.k = 0 ∨ x.k = 1 then (if 0 ≤ x.a then x.a / 8 else -1) else if x.k = 3 ∨ x.k = 5 ∨ x.k = 6 ∨ x.k = 7 then x.a else -1
def lineP (x : POp) (n : Nat) : Int := if (n : Int) ≤ lineK x then -1 else lineK x
theorem rec_fst (r : Int × PM) (e : List Int) : (rec_ r e).1 = r.1 := by
  unfold rec_
  split
  · rename_i h; exact h.symm
  · rfl
theorem rec_L (r : Int × PM) (e : List Int) : (rec_ r e).2.L = r.2.L := by
  unfold rec_
  split <;> rfl
theorem PM.set_self {m : PM} {p : Nat} (h : p < m.L.length) : m.L = m.L.set p (m.line p) := by
  rw [PM.line_eq h, List.set_getElem_self]
theorem local_of {x : POp} {n p : Nat} (h : lineP x n = (p : Int)) :
    p < n ∧ ∃ (r : PL → Int) (g : PL → PL), ∀ m : PM, m.L.length = n → (doP m x).1.2 = r (m.line p) ∧ (doP m x).2.L = m.L.set p (g (m.line p)) := by
  unfold lineP at h
  split at h
  · omega
  rename_i hlt
  refine ⟨by omega, ?_⟩
  unfold lineK at h hlt
  by_cases h0 : x.k = 0 ∨ x.k = 1
  · rw [if_pos h0] at h hlt
    split at h
    case isFalse => omega
    rename_i ha
    rw [if_pos ha] at hlt
    have hp : (x.a / 8).toNat = p := by omega
    refine ⟨fun l => if okW x.b = false then 1 else if l.state = 2 then 9 else 0, fun l => if okW x.b = false then l else if l.state = 2 then l else l.push (x.a % 8, x.b), fun m hm => ?_⟩
    have hA : m.hasA x.a = true := by unfold PM.hasA; rw [hm]; simp; omega
    have hb : p < m.L.length := by omega
    have hput : (putP m x.a x.b).1 = (if okW x.b = false then 1 else if (m.line p).state = 2 then 9 else 0) ∧ (putP m x.a x.b).2.L = m.L.set p (if okW x.b = false then m.line p else if (m.line p).state = 2 then m.line p else (m.line p).push (x.a % 8, x.b)) := by
      unfold putP
      rw [hA, if_neg (by simp), hp]
      split
      · exact ⟨rfl, PM.set_self hb⟩
      · split
        · exact ⟨rfl, PM.set_self hb⟩
        · exact ⟨rfl, rfl⟩
    rcases h0 with h0 | h0
    · rw [doP_0 h0]
      unfold storeP
      rw [rec_fst, rec_L]
      exact hput
    · rw [doP_1 h0]
      unfold storeP
      rw [rec_fst, rec_L]
      exact hput
  · rw [if_neg h0] at h hlt
    split at h
    case isFalse => omega
    rename_i h1
    rw [if_pos h1] at hlt
    have hp : x.a.toNat = p := by omega
    have hA : ∀ m : PM, m.L.length = n → m.has x.a = true := fun m hm => by unfold PM.has; rw [hm]; simp; omega
    rcases h1 with h1 | h1 | h1 | h1
    · refine ⟨fun _ => 0, fun l => l.flushed, fun m hm => ?_⟩
      rw [doP_3 h1, rec_fst, rec_L]
      unfold flushP
      rw [hA m hm, if_neg (by simp), hp]
      exact ⟨rfl, rfl⟩
    · refine ⟨fun l => if x.b < 1 ∨ (l.pend.length : Int) < x.b then 1 else 0, fun l => if x.b < 1 ∨ (l.pend.length : Int) < x.b then l else l.settle x.b.toNat, fun m hm => ?_⟩
      rw [doP_5 h1, rec_fst, rec_L]
      unfold evictP
      rw [hA m hm, if_neg (by simp), hp]
      have hb : p < m.L.length := by omega
      simp only
      split
      · exact ⟨rfl, PM.set_self hb⟩
      · exact ⟨rfl, rfl⟩
    · refine ⟨fun l => if x.ws.all okW = false then 1 else 0, fun l => if x.ws.all okW = false then l else PL.made x.ws, fun m hm => ?_⟩
      rw [doP_6 h1, rec_fst, rec_L]
      unfold healP
      rw [hA m hm, if_neg (by simp), hp]
      have hb : p < m.L.length := by omega
      simp only
      split
      · exact ⟨rfl, PM.set_self hb⟩
      · exact ⟨rfl, rfl⟩
    · refine ⟨fun l => if validB x.ws x.b = false then 1 else if l.pend ≠ [] then 4 else 0, fun l => if validB x.ws x.b = false then l else if l.pend ≠ [] then l else l.rotted x.ws x.b, fun m hm => ?_⟩
      rw [doP_7 h1, rec_fst, rec_L]
      unfold rotP
      rw [hA m hm, if_neg (by simp), hp]
      have hb : p < m.L.length := by omega
      simp only
      split
      · exact ⟨rfl, PM.set_self hb⟩
      · split
        · exact ⟨rfl, PM.set_self hb⟩
        · exact ⟨rfl, rfl⟩
theorem line_other {m m' : PM} {p q : Nat} {l : PL} (h : m'.L = m.L.set p l) (hpq : p ≠ q) : m'.line q = m.line q := by
  unfold PM.line
  rw [h, List.getD_eq_getElem?_getD, List.getD_eq_getElem?_getD, List.getElem?_set_ne hpq]
/-- In either order they come to the same. -/
theorem apart {m : PM} {x y : POp} {p q : Nat} (hp : lineP x m.L.length = (p : Int)) (hq : lineP y m.L.length = (q : Int)) (hpq : p ≠ q) :
    (doP m x).1.2 = (doP (doP m y).2 x).1.2 ∧ (doP (doP m x).2 y).1.2 = (doP m y).1.2 ∧ (doP (doP m x).2 y).2.L = (doP (doP m y).2 x).2.L := by
  obtain ⟨_, rx, gx, hx⟩ := local_of hp
  obtain ⟨_, ry, gy, hy⟩ := local_of hq
  obtain ⟨x1, x2⟩ := hx m rfl
  obtain ⟨y1, y2⟩ := hy m rfl
  obtain ⟨y3, y4⟩ := hy (doP m x).2 (by rw [x2, List.length_set])
  obtain ⟨x3, x4⟩ := hx (doP m y).2 (by rw [y2, List.length_set])
  rw [line_other x2 hpq] at y3 y4
  rw [line_other y2 (Ne.symm hpq)] at x3 x4
  exact ⟨by rw [x1, x3], by rw [y3, y1], by rw [y4, x4, x2, y2, List.set_comm _ _ hpq]⟩
/-! ### the walks -/
set_option maxRecDepth 100000 in
set_option maxHeartbeats 4000000 in
set_option linter.unusedSimpArgs false in
theorem lineOf_any (x : POp) (cv : Value) (n : Nat) (w : World) (hx : x.Ok) (hn : n ≤ 4096) :
    Calls Tryd.prog 29 #[.agg (opV x cv).toArray, .int .i64 (n : Int)] w fun e w' => e = .returned (.int .i64 (lineP x n)) ∧ Below w.heap.size w w' := by
  have hb := bel_new w (.cells (opV x cv).toArray 61)
  have hA := Arr.new w (opV x cv) 61
  have hi := size61 (opV_len hx cv)
  have e0 := hA.cell (j := 0) (u := .int .i64 x.k) rfl
  have e1 := hA.cell (j := 1) (u := .int .i64 x.a) rfl
  have HB := Lib.hid hb
  have ha6 := hx.a
  have HL : Hid (lineP x n = if (n : Int) ≤ lineK x then -1 else lineK x) := Lib.hid rfl
  obtain ⟨R, hR⟩ : ∃ R, lineP x n = R := ⟨_, rfl⟩
  rw [hR] at HL ⊢
  have HK : Hid (lineK x = if x.k = 0 ∨ x.k = 1 then (if 0 ≤ x.a then x.a / 8 else -1) else if x.k = 3 ∨ x.k = 5 ∨ x.k = 6 ∨ x.k = 7 then x.a else -1) := Lib.hid rfl
  obtain ⟨k0, hk0⟩ : ∃ k, lineK x = k := ⟨_, rfl⟩
  rw [hk0] at HK HL
  generalize (opV x cv) = OV at *
  generalize x.k = k at *
  generalize x.a = a at *
  clear hA hb hR hk0 hx
  by_cases hk : k = 0 ∨ k = 1
  · by_cases ha : 0 ≤ a
    · have hq : wrap64 (Int.tdiv a 8) = a / 8 := by
        have h1 : Int.tdiv a 8 = a / 8 := Int.tdiv_eq_ediv_of_nonneg ha
        unfold I64 at ha6
        rw [h1, w64 _ (by omega) (by omega)]
      have hk0 : k0 = a / 8 := by rw [HK.out, if_pos hk, if_pos ha]
      rw [hk0] at HL
      rw [← hq] at HL
      obtain ⟨d, hde⟩ : ∃ d, wrap64 (Int.tdiv a 8) = d := ⟨_, rfl⟩
      rw [hde] at HL hq
      clear HK hk0 hq
      by_cases hd : (n : Int) ≤ d
      · have hr := HL.out
        rw [if_pos hd] at hr
        subst hr
        clear HL
        rcases hk with rfl | rfl
        · go_enter Tryd.func29, Tryd.ntmps29
          go_wp2_with fail
          go_ret
          exact ⟨rfl, HB.out⟩
        · go_enter Tryd.func29, Tryd.ntmps29
          go_wp2_with fail
          go_ret
          exact ⟨rfl, HB.out⟩
      · have hr := HL.out
        rw [if_neg hd] at hr
        subst hr
        clear HL
        rcases hk with rfl | rfl
        · go_enter Tryd.func29, Tryd.ntmps29
          go_wp2_with fail
          go_ret
          exact ⟨rfl, HB.out⟩
        · go_enter Tryd.func29, Tryd.ntmps29
          go_wp2_with fail
          go_ret
          exact ⟨rfl, HB.out⟩
    · have hk0 : k0 = -1 := by rw [HK.out, if_pos hk, if_neg ha]
      have hr := HL.out
      rw [hk0, if_neg (by omega)] at hr
      subst hr
      have hd : ¬ (n : Int) ≤ -1 := by omega
      clear HL HK hk0
      rcases hk with rfl | rfl
      · go_enter Tryd.func29, Tryd.ntmps29
        go_wp2_with fail
        go_ret
        exact ⟨rfl, HB.out⟩
      · go_enter Tryd.func29, Tryd.ntmps29
        go_wp2_with fail
        go_ret
        exact ⟨rfl, HB.out⟩
  · by_cases hk2 : k = 3 ∨ k = 5 ∨ k = 6 ∨ k = 7
    · have hk0 : k0 = a := by rw [HK.out, if_neg hk, if_pos hk2]
      rw [hk0] at HL
      clear HK hk0
      by_cases hd : (n : Int) ≤ a
      · have hr := HL.out
        rw [if_pos hd] at hr
        subst hr
        clear HL hk
        rcases hk2 with rfl | rfl | rfl | rfl
        · go_enter Tryd.func29, Tryd.ntmps29
          go_wp2_with fail
          go_ret
          exact ⟨rfl, HB.out⟩
        · go_enter Tryd.func29, Tryd.ntmps29
          go_wp2_with fail
          go_ret
          exact ⟨rfl, HB.out⟩
        · go_enter Tryd.func29, Tryd.ntmps29
          go_wp2_with fail
          go_ret
          exact ⟨rfl, HB.out⟩
        · go_enter Tryd.func29, Tryd.ntmps29
          go_wp2_with fail
          go_ret
          exact ⟨rfl, HB.out⟩
      · have hr := HL.out
        rw [if_neg hd] at hr
        subst hr
        clear HL hk
        rcases hk2 with rfl | rfl | rfl | rfl
        · go_enter Tryd.func29, Tryd.ntmps29
          go_wp2_with fail
          go_ret
          exact ⟨rfl, HB.out⟩
        · go_enter Tryd.func29, Tryd.ntmps29
          go_wp2_with fail
          go_ret
          exact ⟨rfl, HB.out⟩
        · go_enter Tryd.func29, Tryd.ntmps29
          go_wp2_with fail
          go_ret
          exact ⟨rfl, HB.out⟩
        · go_enter Tryd.func29, Tryd.ntmps29
          go_wp2_with fail
          go_ret
          exact ⟨rfl, HB.out⟩
    · have hk0 : k0 = -1 := by rw [HK.out, if_neg hk, if_neg hk2]
      have hr := HL.out
      rw [hk0, if_neg (by omega)] at hr
      subst hr
      have hd : ¬ (n : Int) ≤ -1 := by omega
      have q0 : ¬ k = 0 := fun h => hk (.inl h)
      have q1 : ¬ k = 1 := fun h => hk (.inr h)
      have q3 : ¬ k = 3 := fun h => hk2 (.inl h)
      have q5 : ¬ k = 5 := fun h => hk2 (.inr (.inl h))
      have q6 : ¬ k = 6 := fun h => hk2 (.inr (.inr (.inl h)))
      have q7 : ¬ k = 7 := fun h => hk2 (.inr (.inr (.inr h)))
      clear HL HK hk0 hk hk2
      go_enter Tryd.func29, Tryd.ntmps29
      go_wp2_with fail
      go_ret
      exact ⟨rfl, HB.out⟩
theorem size54 : (Tryd.prog.info? 54).map (·.size) = some 2 := by kernel_rfl
/-- A store of a list. -/
theorem storeAt {w : World} {d o : Nat} {S : List (Int × Int)} (hs : ∀ j u, (iv (flatS S))[j]? = some u → w.cell? ⟨d, o + j, none⟩ = some u) {k : Nat} (hk : k < S.length) : w.rangeAt d (o + k * 2) [.int .i64 S[k].1, .int .i64 S[k].2] := fun j v hv => by
  have hj : j < 2 := (List.getElem?_eq_some_iff.1 hv).1
  have hb := flat_block (fun x : Int × Int => [x.1, x.2]) 2 S k j hk (fun _ _ => rfl) hj
  have := hs (k * 2 + j) v (by
    have e : [Value.int .i64 S[k].1, .int .i64 S[k].2] = iv [S[k].1, S[k].2] := rfl
    rw [e] at hv
    unfold iv at hv ⊢
    unfold flatS
    rw [List.getElem?_map] at hv ⊢
    rw [hb]
    exact hv)
  rw [← Nat.add_assoc] at this
  exact this
set_option maxRecDepth 100000 in
set_option maxHeartbeats 4000000 in
set_option linter.unusedSimpArgs false in
/-- Of two lists of stores that are the same. -/
theorem sameStores_any (S : List (Int × Int)) (v u : Value) (w : World) (hn : S.length ≤ 5000) (hv : Rd w v S.length (iv (flatS S))) (hu : Rd w u S.length (iv (flatS S))) :
    Calls Tryd.prog 31 #[v, u] w fun e w' => e = .returned (.bool true) ∧ Below w.heap.size w w' := by
  obtain ⟨A, cap, rfl, hcap, hcm, hrr⟩ := hv
  obtain ⟨A2, cap2, rfl, hcap2, hcm2, hrr2⟩ := hu
  have HRR := Lib.hid hrr
  have HRR2 := Lib.hid hrr2
  obtain ⟨N, hN⟩ : ∃ N, S.length = N := ⟨_, rfl⟩
  have HN := Lib.hid hN
  rw [hN] at hcap hcap2 hn ⊢
  have HB0 : Hid (Below w.heap.size w w) := Lib.hid (Below.refl _ _)
  have hu54 := Tryd.underlying54
  clear hrr hrr2 hN
  go_enter Tryd.func31, Tryd.ntmps31
  go_wp2_with fail
  go_loopw [5] (fun i wr => ∃ k : Nat, i = .int .i64 (k : Int) ∧ k ≤ N ∧ Hid (Below w.heap.size w wr)) (fun i _ => N - (intOf i).toNat)
  case atStart => exact ⟨0, rfl, by omega, HB0⟩
  case round =>
    clear HB0
    obtain ⟨k, rfl, hk, HB⟩ := hrel
    by_cases hlt : k < N
    · have hkc : k < S.length := by rw [HN.out]; exact hlt
      obtain ⟨bb, oo, rfl, hbl, hcells⟩ := HRR.out (by omega)
      obtain ⟨bb2, oo2, rfl, hbl2, hcells2⟩ := HRR2.out (by omega)
      have r1 : wr.drew.rangeAt bb (oo + k * 2) _ := storeAt (fun j u hj => (HB.out.cell (p := ⟨bb, oo + j, none⟩) hbl).trans (hcells j u hj)) hkc
      have r2 : wr.drew.rangeAt bb2 (oo2 + k * 2) _ := storeAt (fun j u hj => (HB.out.cell (p := ⟨bb2, oo2 + j, none⟩) hbl2).trans (hcells2 j u hj)) hkc
      generalize S[k].1 = a at *
      generalize S[k].2 = b at *
      have hi2 : (Tryd.prog.info? 54).map (·.size) = some [Value.int .i64 a, .int .i64 b].length := size54
      have hkI : (k : Int) < (N : Int) := by omega
      have HBD := Lib.hid HB.out.drew
      clear hcells hcells2
      go_wp2_with fail
      refine wp_region_held_drew (S := fun W => W.rangeAt bb (oo + k * 2) [.int .i64 a, .int .i64 b] ∧ W.rangeAt bb2 (oo2 + k * 2) [.int .i64 a, .int .i64 b]) (by kernel_rfl) ⟨r1, r2⟩ (fun hHeld => ?_)
      generalize wr.drew = w2 at *
      refine wpAnyH_take (i := 0) (v := .slice (some ⟨bb, oo, none⟩) N cap) rfl (by kernel_rfl) (by kernel_rfl) (by kernel_rfl) (fun _ _ _ h => h) (Or.inl ⟨by rfl, fun w hSw => by obtain ⟨h1, h2⟩ := hSw; go_simp⟩) (by assumption) ?_
      change wpAnyH _ _ _ _ _ _ _ (Act.put _ (some 17) _) _
      simp only [Act.put, List.setIfInBounds_toArray, List.set_cons_zero, List.set_cons_succ]
      refine wpAnyH_take (i := 1) (v := .int .i64 (k : Int)) rfl (by kernel_rfl) (by kernel_rfl) (by kernel_rfl) (fun _ _ _ h => h) (Or.inl ⟨by rfl, fun w hSw => by obtain ⟨h1, h2⟩ := hSw; go_simp⟩) (by assumption) ?_
      change wpAnyH _ _ _ _ _ _ _ (Act.put _ (some 18) _) _
      simp only [Act.put, List.setIfInBounds_toArray, List.set_cons_zero, List.set_cons_succ]
      refine wpAnyH_take (i := 2) (v := .pointer (some ⟨bb, oo + k * 2, none⟩)) rfl (by kernel_rfl) (by kernel_rfl) (by kernel_rfl) (fun _ _ _ h => h) (Or.inl ⟨by rfl, fun w hSw => by obtain ⟨h1, h2⟩ := hSw; go_simp⟩) (by assumption) ?_
      change wpAnyH _ _ _ _ _ _ _ (Act.put _ (some 19) _) _
      simp only [Act.put, List.setIfInBounds_toArray, List.set_cons_zero, List.set_cons_succ]
      refine wpAnyH_take (i := 3) (v := .agg #[.int .i64 a, .int .i64 b]) rfl (by kernel_rfl) (by kernel_rfl) (by kernel_rfl) (fun _ _ _ h => h) (yieldsIf_load_mid (by rfl) _ _ rfl _ _ rfl _ _ (fun w h => h.1) hu54 rfl hi2) (by assumption) ?_
      change wpAnyH _ _ _ _ _ _ _ (Act.put _ (some 20) _) _
      simp only [Act.put, List.setIfInBounds_toArray, List.set_cons_zero, List.set_cons_succ]
      refine wpAnyH_take (i := 4) (v := .slice (some ⟨bb2, oo2, none⟩) N cap2) rfl (by kernel_rfl) (by kernel_rfl) (by kernel_rfl) (fun _ _ _ h => h) (Or.inl ⟨by rfl, fun w hSw => by obtain ⟨h1, h2⟩ := hSw; go_simp⟩) (by assumption) ?_
      change wpAnyH _ _ _ _ _ _ _ (Act.put _ (some 21) _) _
      simp only [Act.put, List.setIfInBounds_toArray, List.set_cons_zero, List.set_cons_succ]
      refine wpAnyH_take (i := 5) (v := .int .i64 (k : Int)) rfl (by kernel_rfl) (by kernel_rfl) (by kernel_rfl) (fun _ _ _ h => h) (Or.inl ⟨by rfl, fun w hSw => by obtain ⟨h1, h2⟩ := hSw; go_simp⟩) (by assumption) ?_
      change wpAnyH _ _ _ _ _ _ _ (Act.put _ (some 22) _) _
      simp only [Act.put, List.setIfInBounds_toArray, List.set_cons_zero, List.set_cons_succ]
      refine wpAnyH_take (i := 6) (v := .pointer (some ⟨bb2, oo2 + k * 2, none⟩)) rfl (by kernel_rfl) (by kernel_rfl) (by kernel_rfl) (fun _ _ _ h => h) (Or.inl ⟨by rfl, fun w hSw => by obtain ⟨h1, h2⟩ := hSw; go_simp⟩) (by assumption) ?_
      change wpAnyH _ _ _ _ _ _ _ (Act.put _ (some 23) _) _
      simp only [Act.put, List.setIfInBounds_toArray, List.set_cons_zero, List.set_cons_succ]
      refine wpAnyH_take (i := 7) (v := .agg #[.int .i64 a, .int .i64 b]) rfl (by kernel_rfl) (by kernel_rfl) (by kernel_rfl) (fun _ _ _ h => h) (yieldsIf_load_mid (by rfl) _ _ rfl _ _ rfl _ _ (fun w h => h.2) hu54 rfl hi2) (by assumption) ?_
      change wpAnyH _ _ _ _ _ _ _ (Act.put _ (some 24) _) _
      simp only [Act.put, List.setIfInBounds_toArray, List.set_cons_zero, List.set_cons_succ]
      refine wpAnyH_take (i := 8) (v := .bool false) rfl (by kernel_rfl) (by kernel_rfl) (by kernel_rfl) (fun _ _ _ h => h) (Or.inl ⟨by rfl, fun w hSw => by obtain ⟨h1, h2⟩ := hSw; go_simp⟩) (by assumption) ?_
      change wpAnyH _ _ _ _ _ _ _ (Act.put _ (some 25) _) _
      simp only [Act.put, List.setIfInBounds_toArray, List.set_cons_zero, List.set_cons_succ]
      refine wpAnyH_done (by kernel_rfl) ?_ _
      go_wp2_with fail
      go_roundw
      case rel => exact ⟨k + 1, by simp, by omega, HBD⟩
      case measure => simp [intOf]; omega
    · obtain rfl : k = N := by omega
      go_wp2_with fail
      go_ret
      exact ⟨rfl, HB.out⟩
end Go.Proofs.YtmnncbgibngmiaaDoor
