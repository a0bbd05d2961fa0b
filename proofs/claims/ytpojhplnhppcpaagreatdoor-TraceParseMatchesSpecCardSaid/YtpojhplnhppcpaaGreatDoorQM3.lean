/-
  Where a line lies; what memory's State does. What memory's after does: the corrected words of a line behind its first pending stores.
-/
import Derived.Test.YtpojhplnhppcpaaGreatDoorQMem
import Derived.Deep.RegionHeld3
import Derived.StillTailTactics
import Derived.Deep.Cut
namespace Go.Proofs.YtpojhplnhppcpaaGreatDoor
open Go.RowKit
theorem flat_block {α : Type} (f : α → List Int) (n : Nat) : ∀ (L : List α) (i j : Nat) (h : i < L.length), (∀ x ∈ L, (f x).length = n) → j < n → (L.flatMap f)[i * n + j]? = (f L[i])[j]? := by
  intro L
  induction L with
  | nil => intro i j h; simp at h
  | cons x r ih =>
    intro i j h hall hj
    rw [List.flatMap_cons]
    have hx := hall x (by simp)
    cases i with
    | zero =>
      rw [Nat.zero_mul, Nat.zero_add, List.getElem?_append_left (by omega)]
      rfl
    | succ i =>
      have e : (i + 1) * n + j = n + (i * n + j) := by rw [Nat.add_mul]; omega
      rw [e, List.getElem?_append_right (by omega), hx, Nat.add_sub_cancel_left, ih i j (by simpa using h) (fun y hy => hall y (by simp [hy])) hj]
      rfl
theorem flatMap_len {α : Type} (f : α → List Int) (n : Nat) : ∀ (L : List α), (∀ x ∈ L, (f x).length = n) → (L.flatMap f).length = L.length * n := by
  intro L
  induction L with
  | nil => intro _; simp
  | cons x r ih =>
    intro hall
    rw [List.flatMap_cons, List.length_append, hall x (by simp), ih fun y hy => hall y (by simp [hy]), List.length_cons, Nat.add_mul]
    omega
def PL.flat (l : PL) : List Int := l.ws ++ [l.code]
theorem PM.line_eq {m : PM} {i : Nat} (h : i < m.L.length) : m.line i = m.L[i] := by
  unfold PM.line
  rw [List.getD_eq_getElem?_getD, List.getElem?_eq_getElem h]
  rfl
theorem PM.Ok.flat_len {m : PM} (h : m.Ok) : ∀ l ∈ m.L, (l.ws ++ [l.code]).length = 9 := fun l hl => by
  rw [List.length_append, (h.lines l hl).len]
  rfl
/-- The cells of a line. -/
theorem flatL_at {m : PM} (h : m.Ok) {i j : Nat} (hi : i < m.L.length) (hj : j < 9) : (flatL m.L)[i * 9 + j]? = ((m.line i).ws ++ [(m.line i).code])[j]? := by
  rw [PM.line_eq hi]
  exact flat_block (fun l : PL => l.ws ++ [l.code]) 9 m.L i j hi h.flat_len hj
section
variable {w : World} {p b : Nat} {m : PM} {F : Nat → Prop} {dv ev : Value} {D : DataW Value} {G : Nat → Value}
/-- Where a line lies. -/
theorem RepAt.where_ (h : RepAt w p m F dv b ev D G) (hm : m.Ok) : ∃ d o cap, dv = .slice (some ⟨d, o, none⟩) m.L.length cap ∧ m.L.length ≤ cap ∧ cap ≤ maxLen ∧ F d ∧
    ∀ i, i < m.L.length → w.rangeAt d (o + i * 9) (iv (m.line i).ws) ∧ w.cell? ⟨d, o + i * 9 + 8, none⟩ = some (.int .i64 (m.line i).code) := by
  obtain ⟨A, cap, hv, h1, h2, hn, hs⟩ := h.dur.shape
  have hp := hm.pos
  cases A with
  | none => have := (hn rfl).1; omega
  | some ad =>
    obtain ⟨hsp, hob, hc⟩ := hs ad rfl
    obtain ⟨d, o, sp⟩ := ad
    obtain rfl : sp = none := hsp
    refine ⟨d, o, cap, hv, h1, h2, h.ownD d hob, fun i hi => ⟨fun j u hu => ?_, ?_⟩⟩
    · have hj : j < 8 := by
        have := (List.getElem?_eq_some_iff.1 hu).1
        rw [iv_len, (hm.line hi).len] at this
        exact this
      have := hc (i * 9 + j) u (by
        unfold iv
        rw [List.getElem?_map, flatL_at hm hi (by omega), List.getElem?_append_left (by rw [(hm.line hi).len]; exact hj)]
        unfold iv at hu
        rw [List.getElem?_map] at hu
        exact hu)
      rw [← Nat.add_assoc] at this
      exact this
    · have := hc (i * 9 + 8) (.int .i64 (m.line i).code) (by
        unfold iv
        rw [List.getElem?_map, flatL_at hm hi (by omega), List.getElem?_append_right (by rw [(hm.line hi).len]; exact Nat.le_refl _), (hm.line hi).len]
        rfl)
      rw [← Nat.add_assoc] at this
      exact this
end
theorem cell_below {w w' : World} {a : Addr} {v : Value} (hb : Below w.heap.size w w') (h : w.cell? a = some v) : w'.cell? a = some v := by
  rw [hb.cell (block_lt_of_cell h)]
  exact h
theorem range_below {w w' : World} {b o : Nat} {cs : List Value} (hb : Below w.heap.size w w') (h : w.rangeAt b o cs) : w'.rangeAt b o cs := fun j v hv => cell_below hb (h j v hv)
set_option maxRecDepth 100000 in
set_option maxHeartbeats 1000000 in
theorem state_any (p : Nat) (z : Int) (m : PM) (F : Nat → Prop) (w : World) (hz : I64 z) (hm : m.Ok) (h : Rep w p m F) (hT : Tab w) :
    Calls Tryz.prog 127 #[.pointer (some ⟨p, 0, none⟩), .int .i64 z] w fun e w' => e = .returned (.int .i64 (stateP m z)) ∧ Below w.heap.size w w' := by
  have hc := hasLine_any p z m F w hm h
  cases hh : m.has z with
  | false =>
    rw [hh] at hc
    have HE : Hid (stateP m z = -1) := Lib.hid (by unfold stateP; rw [hh]; rfl)
    have HC := Lib.hid hc
    clear hc h
    go_enter Tryz.func127, Tryz.ntmps127
    go_wp2_with (go_at_call 65; refine HC.out.mono ?_; rintro e w' ⟨rfl, rfl⟩)
    go_ret
    exact ⟨by rw [HE.out]; rfl, Below.refl _ _⟩
  | true =>
    rw [hh] at hc
    have hr : 0 ≤ z ∧ z < m.L.length := by unfold PM.has at hh; simpa using hh
    obtain ⟨i, rfl⟩ : ∃ i : Nat, z = i := ⟨z.toNat, by omega⟩
    have hi : i < m.L.length := by omega
    have HE : Hid (stateP m i = (((m.line i).state : Nat) : Int)) := Lib.hid (by unfold stateP; rw [hh]; rfl)
    obtain ⟨dv, b, ev, D, G, h⟩ := h
    have c0 := h.c0
    obtain ⟨d, o, cap, rfl, hcap, _, _, hl⟩ := h.where_ hm
    obtain ⟨l1, l2⟩ := hl i hi
    have h8 := (hm.line hi).len
    have hck := fun w hT => check_any (m.line i).ws (m.line i).code w h8 hT
    unfold t3 at hck
    have hst : (m.line i).state = (chkZ (m.line i).ws (m.line i).code).1 := rfl
    have hf := hm.few
    generalize (m.line i).state = st at *
    subst hst
    have HI := Lib.hid (size22' h8)
    generalize (m.line i).ws = ws at *
    generalize (m.line i).code = c at *
    generalize m.L.length = n at *
    have HT := Lib.hid hT
    have HC := Lib.hid hc
    have HK := Lib.hid hck
    have hnI : (i : Int) < (n : Int) := by omega
    clear hc h hl hck hh hm hT hr
    generalize hq : chkZ ws c = q at *
    clear hq
    go_enter Tryz.func127, Tryz.ntmps127
    go_wp2_with (go_at_call 65; refine HC.out.mono ?_; rintro e w' ⟨rfl, rfl⟩)
    have hu22 := Tryz.underlying66
    have hi22 := HI.out
    refine wp_region_held_drew (S := fun W => W.cell? ⟨p, 0, none⟩ = some (.slice (some ⟨d, o, none⟩) n cap) ∧ W.cell? ⟨d, o + i * 9 + 8, none⟩ = some (.int .i64 c) ∧ W.rangeAt d (o + i * 9) (iv ws)) (by kernel_rfl) ⟨c0, l2, l1⟩ (fun hHeld => ?_)
    refine wpAnyH_take (i := 0) (v := .pointer (some ⟨p, 0, none⟩)) rfl (by kernel_rfl) (by kernel_rfl) (by kernel_rfl) (fun _ _ _ h => h) (Or.inl ⟨by rfl, fun w hSw => by obtain ⟨h1, h2, h3⟩ := hSw; go_simp⟩) (by assumption) ?_
    change wpAnyH _ _ _ _ _ _ _ (Act.put _ (some 13) _) _
    simp only [Act.put, List.setIfInBounds_toArray, List.set_cons_zero, List.set_cons_succ]
    refine wpAnyH_take (i := 1) (v := .pointer (some ⟨p, 0, none⟩)) rfl (by kernel_rfl) (by kernel_rfl) (by kernel_rfl) (fun _ _ _ h => h) (Or.inl ⟨by rfl, fun w hSw => by obtain ⟨h1, h2, h3⟩ := hSw; go_simp⟩) (by assumption) ?_
    change wpAnyH _ _ _ _ _ _ _ (Act.put _ (some 14) _) _
    simp only [Act.put, List.setIfInBounds_toArray, List.set_cons_zero, List.set_cons_succ]
    refine wpAnyH_take (i := 2) (v := .pointer (some ⟨p, 0, none⟩)) rfl (by kernel_rfl) (by kernel_rfl) (by kernel_rfl) (fun _ _ _ h => h) (Or.inl ⟨by rfl, fun w hSw => by obtain ⟨h1, h2, h3⟩ := hSw; go_simp⟩) (by assumption) ?_
    change wpAnyH _ _ _ _ _ _ _ (Act.put _ (some 15) _) _
    simp only [Act.put, List.setIfInBounds_toArray, List.set_cons_zero, List.set_cons_succ]
    refine wpAnyH_take (i := 3) (v := .slice (some ⟨d, o, none⟩) n cap) rfl (by kernel_rfl) (by kernel_rfl) (by kernel_rfl) (fun _ _ _ h => h) (Or.inl ⟨by rfl, fun w hSw => by obtain ⟨h1, h2, h3⟩ := hSw; go_simp⟩) (by assumption) ?_
    change wpAnyH _ _ _ _ _ _ _ (Act.put _ (some 16) _) _
    simp only [Act.put, List.setIfInBounds_toArray, List.set_cons_zero, List.set_cons_succ]
    refine wpAnyH_take (i := 4) (v := .int .i64 (i : Int)) rfl (by kernel_rfl) (by kernel_rfl) (by kernel_rfl) (fun _ _ _ h => h) (Or.inl ⟨by rfl, fun w hSw => by obtain ⟨h1, h2, h3⟩ := hSw; go_simp⟩) (by assumption) ?_
    change wpAnyH _ _ _ _ _ _ _ (Act.put _ (some 17) _) _
    simp only [Act.put, List.setIfInBounds_toArray, List.set_cons_zero, List.set_cons_succ]
    refine wpAnyH_take (i := 5) (v := .pointer (some ⟨d, o + i * 9, none⟩)) rfl (by kernel_rfl) (by kernel_rfl) (by kernel_rfl) (fun _ _ _ h => h) (Or.inl ⟨by rfl, fun w hSw => by obtain ⟨h1, h2, h3⟩ := hSw; go_simp⟩) (by assumption) ?_
    change wpAnyH _ _ _ _ _ _ _ (Act.put _ (some 18) _) _
    simp only [Act.put, List.setIfInBounds_toArray, List.set_cons_zero, List.set_cons_succ]
    refine wpAnyH_take (i := 6) (v := .pointer (some ⟨d, o + i * 9, none⟩)) rfl (by kernel_rfl) (by kernel_rfl) (by kernel_rfl) (fun _ _ _ h => h) (Or.inl ⟨by rfl, fun w hSw => by obtain ⟨h1, h2, h3⟩ := hSw; go_simp⟩) (by assumption) ?_
    change wpAnyH _ _ _ _ _ _ _ (Act.put _ (some 19) _) _
    simp only [Act.put, List.setIfInBounds_toArray, List.set_cons_zero, List.set_cons_succ]
    refine wpAnyH_take (i := 7) (v := .agg (iv ws).toArray) rfl (by kernel_rfl) (by kernel_rfl) (by kernel_rfl) (fun _ _ _ h => h) (yieldsIf_load_mid (by rfl) _ _ rfl _ _ rfl _ _ (fun w h => h.2.2) hu22 rfl hi22) (by assumption) ?_
    change wpAnyH _ _ _ _ _ _ _ (Act.put _ (some 20) _) _
    simp only [Act.put, List.setIfInBounds_toArray, List.set_cons_zero, List.set_cons_succ]
    refine wpAnyH_take (i := 8) (v := .pointer (some ⟨p, 0, none⟩)) rfl (by kernel_rfl) (by kernel_rfl) (by kernel_rfl) (fun _ _ _ h => h) (Or.inl ⟨by rfl, fun w hSw => by obtain ⟨h1, h2, h3⟩ := hSw; go_simp⟩) (by assumption) ?_
    change wpAnyH _ _ _ _ _ _ _ (Act.put _ (some 21) _) _
    simp only [Act.put, List.setIfInBounds_toArray, List.set_cons_zero, List.set_cons_succ]
    refine wpAnyH_take (i := 9) (v := .pointer (some ⟨p, 0, none⟩)) rfl (by kernel_rfl) (by kernel_rfl) (by kernel_rfl) (fun _ _ _ h => h) (Or.inl ⟨by rfl, fun w hSw => by obtain ⟨h1, h2, h3⟩ := hSw; go_simp⟩) (by assumption) ?_
    change wpAnyH _ _ _ _ _ _ _ (Act.put _ (some 22) _) _
    simp only [Act.put, List.setIfInBounds_toArray, List.set_cons_zero, List.set_cons_succ]
    refine wpAnyH_take (i := 10) (v := .pointer (some ⟨p, 0, none⟩)) rfl (by kernel_rfl) (by kernel_rfl) (by kernel_rfl) (fun _ _ _ h => h) (Or.inl ⟨by rfl, fun w hSw => by obtain ⟨h1, h2, h3⟩ := hSw; go_simp⟩) (by assumption) ?_
    change wpAnyH _ _ _ _ _ _ _ (Act.put _ (some 23) _) _
    simp only [Act.put, List.setIfInBounds_toArray, List.set_cons_zero, List.set_cons_succ]
    refine wpAnyH_take (i := 11) (v := .slice (some ⟨d, o, none⟩) n cap) rfl (by kernel_rfl) (by kernel_rfl) (by kernel_rfl) (fun _ _ _ h => h) (Or.inl ⟨by rfl, fun w hSw => by obtain ⟨h1, h2, h3⟩ := hSw; go_simp⟩) (by assumption) ?_
    change wpAnyH _ _ _ _ _ _ _ (Act.put _ (some 24) _) _
    simp only [Act.put, List.setIfInBounds_toArray, List.set_cons_zero, List.set_cons_succ]
    refine wpAnyH_take (i := 12) (v := .int .i64 (i : Int)) rfl (by kernel_rfl) (by kernel_rfl) (by kernel_rfl) (fun _ _ _ h => h) (Or.inl ⟨by rfl, fun w hSw => by obtain ⟨h1, h2, h3⟩ := hSw; go_simp⟩) (by assumption) ?_
    change wpAnyH _ _ _ _ _ _ _ (Act.put _ (some 25) _) _
    simp only [Act.put, List.setIfInBounds_toArray, List.set_cons_zero, List.set_cons_succ]
    refine wpAnyH_take (i := 13) (v := .pointer (some ⟨d, o + i * 9, none⟩)) rfl (by kernel_rfl) (by kernel_rfl) (by kernel_rfl) (fun _ _ _ h => h) (Or.inl ⟨by rfl, fun w hSw => by obtain ⟨h1, h2, h3⟩ := hSw; go_simp⟩) (by assumption) ?_
    change wpAnyH _ _ _ _ _ _ _ (Act.put _ (some 26) _) _
    simp only [Act.put, List.setIfInBounds_toArray, List.set_cons_zero, List.set_cons_succ]
    refine wpAnyH_take (i := 14) (v := .pointer (some ⟨d, o + i * 9 + 8, none⟩)) rfl (by kernel_rfl) (by kernel_rfl) (by kernel_rfl) (fun _ _ _ h => h) (Or.inl ⟨by rfl, fun w hSw => by obtain ⟨h1, h2, h3⟩ := hSw; go_simp⟩) (by assumption) ?_
    change wpAnyH _ _ _ _ _ _ _ (Act.put _ (some 27) _) _
    simp only [Act.put, List.setIfInBounds_toArray, List.set_cons_zero, List.set_cons_succ]
    refine wpAnyH_take (i := 15) (v := .int .i64 c) rfl (by kernel_rfl) (by kernel_rfl) (by kernel_rfl) (fun _ _ _ h => h) (Or.inl ⟨by rfl, fun w hSw => by obtain ⟨h1, h2, h3⟩ := hSw; go_simp⟩) (by assumption) ?_
    change wpAnyH _ _ _ _ _ _ _ (Act.put _ (some 28) _) _
    simp only [Act.put, List.setIfInBounds_toArray, List.set_cons_zero, List.set_cons_succ]
    refine wpAnyH_ready (rs := [16]) (by kernel_rfl) (by simp) ?_
    refine AllReadyH.cons rfl (fun K hK => ?_) AllReadyH.nil
    go_simp
    refine (HK.out _ (HT.out.keep (bel_drew _))).mono ?_
    rintro e w1 ⟨rfl, hb⟩
    refine hK.out _ _ ⟨cell_below hb c0, cell_below hb l2, range_below hb l1⟩ (fun hHeld1 => ?_)
    clear hK K hHeld
    refine wpAnyH_take (i := 17) (v := .tuple #[.int .i64 (q.1 : Int), .int .i64 (q.2.1 : Int), .int .i64 (q.2.2 : Int)]) rfl (by kernel_rfl) (by kernel_rfl) (by kernel_rfl) (fun _ _ _ h => h) (Or.inl ⟨by rfl, fun w hSw => by obtain ⟨h1, h2, h3⟩ := hSw; go_simp⟩) (by assumption) ?_
    change wpAnyH _ _ _ _ _ _ _ (Act.put _ (some 12) _) _
    simp only [Act.put, List.setIfInBounds_toArray, List.set_cons_zero, List.set_cons_succ]
    refine wpAnyH_take (i := 18) (v := .int .i64 (q.1 : Int)) rfl (by kernel_rfl) (by kernel_rfl) (by kernel_rfl) (fun _ _ _ h => h) (Or.inl ⟨by rfl, fun w hSw => by obtain ⟨h1, h2, h3⟩ := hSw; go_simp⟩) (by assumption) ?_
    change wpAnyH _ _ _ _ _ _ _ (Act.put _ (some 30) _) _
    simp only [Act.put, List.setIfInBounds_toArray, List.set_cons_zero, List.set_cons_succ]
    refine wpAnyH_take (i := 19) (v := .int .i64 (q.2.1 : Int)) rfl (by kernel_rfl) (by kernel_rfl) (by kernel_rfl) (fun _ _ _ h => h) (Or.inl ⟨by rfl, fun w hSw => by obtain ⟨h1, h2, h3⟩ := hSw; go_simp⟩) (by assumption) ?_
    change wpAnyH _ _ _ _ _ _ _ (Act.put _ (some 31) _) _
    simp only [Act.put, List.setIfInBounds_toArray, List.set_cons_zero, List.set_cons_succ]
    refine wpAnyH_take (i := 20) (v := .int .i64 (q.2.2 : Int)) rfl (by kernel_rfl) (by kernel_rfl) (by kernel_rfl) (fun _ _ _ h => h) (Or.inl ⟨by rfl, fun w hSw => by obtain ⟨h1, h2, h3⟩ := hSw; go_simp⟩) (by assumption) ?_
    change wpAnyH _ _ _ _ _ _ _ (Act.put _ (some 32) _) _
    simp only [Act.put, List.setIfInBounds_toArray, List.set_cons_zero, List.set_cons_succ]
    refine wpAnyH_take (i := 21) (v := .int .i64 (q.1 : Int)) rfl (by kernel_rfl) (by kernel_rfl) (by kernel_rfl) (fun _ _ _ h => h) (Or.inl ⟨by rfl, fun w hSw => by obtain ⟨h1, h2, h3⟩ := hSw; go_simp⟩) (by assumption) ?_
    change wpAnyH _ _ _ _ _ _ _ (Act.put _ (some 5) _) _
    simp only [Act.put, List.setIfInBounds_toArray, List.set_cons_zero, List.set_cons_succ]
    refine wpAnyH_take (i := 22) (v := .int .i64 (q.2.1 : Int)) rfl (by kernel_rfl) (by kernel_rfl) (by kernel_rfl) (fun _ _ _ h => h) (Or.inl ⟨by rfl, fun w hSw => by obtain ⟨h1, h2, h3⟩ := hSw; go_simp⟩) (by assumption) ?_
    change wpAnyH _ _ _ _ _ _ _ (Act.put _ (some 6) _) _
    simp only [Act.put, List.setIfInBounds_toArray, List.set_cons_zero, List.set_cons_succ]
    refine wpAnyH_take (i := 23) (v := .int .i64 (q.2.2 : Int)) rfl (by kernel_rfl) (by kernel_rfl) (by kernel_rfl) (fun _ _ _ h => h) (Or.inl ⟨by rfl, fun w hSw => by obtain ⟨h1, h2, h3⟩ := hSw; go_simp⟩) (by assumption) ?_
    change wpAnyH _ _ _ _ _ _ _ (Act.put _ (some 7) _) _
    simp only [Act.put, List.setIfInBounds_toArray, List.set_cons_zero, List.set_cons_succ]
    refine wpAnyH_done (by kernel_rfl) ?_ _
    have HB := Lib.hid (bel_on (bel_drew _) hb)
    clear hb
    go_wp2_with fail
    go_ret
    exact ⟨by rw [HE.out]; rfl, HB.out⟩
end Go.Proofs.YtpojhplnhppcpaaGreatDoor
namespace Go.Proofs.YtpojhplnhppcpaaGreatDoor
open Go.RowKit
theorem flatS_len (ss : List (Int × Int)) : (flatS ss).length = ss.length * 2 := flatMap_len (fun s : Int × Int => [s.1, s.2]) 2 ss fun _ _ => rfl
theorem flatS_at {ss : List (Int × Int)} {k : Nat} (h : k < ss.length) : (iv (flatS ss))[k * 2]? = some (.int .i64 ss[k].1) ∧ (iv (flatS ss))[k * 2 + 1]? = some (.int .i64 ss[k].2) := by
  have h0 := flat_block (fun s : Int × Int => [s.1, s.2]) 2 ss k 0 h (fun _ _ => rfl) (by decide)
  have h1 := flat_block (fun s : Int × Int => [s.1, s.2]) 2 ss k 1 h (fun _ _ => rfl) (by decide)
  unfold iv
  rw [List.getElem?_map, List.getElem?_map]
  unfold flatS
  rw [show k * 2 = k * 2 + 0 from rfl, h0, h1]
  exact ⟨rfl, rfl⟩
theorem size47 : (Tryz.prog.info? 66).map (fun i => (i.zero, i.size)) = some (some (.agg #[.int .i64 0, .int .i64 0, .int .i64 0, .int .i64 0, .int .i64 0, .int .i64 0, .int .i64 0, .int .i64 0]), 8) := by kernel_rfl
theorem z8_cells : (iv Z8).toArray = #[.int .i64 0, .int .i64 0, .int .i64 0, .int .i64 0, .int .i64 0, .int .i64 0, .int .i64 0, .int .i64 0] := rfl
/-- A whole block is written, where the operation stands alone. -/
theorem oper_new {o : Oper} {a : Act} {K : Act → World → Prop} {Q : Exit → Act → World → Prop} {w : World} (ty : Nat) (ds : List Value) (n : Nat) (hn : ds.length = n) (hi : (Tryz.prog.info? ty).map (·.size) = some n) (h1 : ∀ v ∈ ds, v.oneCell' = true) (c : Array Value) (hc : c.size = n)
    (x y : Operand) (ho : o.op = .store ty x y) (hx : a.eval x = .pointer (some ⟨w.heap.size, 0, none⟩)) (hy : a.eval y = .agg ds.toArray)
    (h : K (a.put o.dst undef) (w.alloc (.cells ds.toArray ty))) : o.wp Tryz.prog a (w.alloc (.cells c ty)) K Q := by
  have hrun := run_storeAt_new (P := Tryz.prog) w ty c ds.toArray (by rw [hi, ← hn]; simp) (by rw [hc, ← hn]; simp) (all_oneCell_toArray h1)
  unfold Oper.wp execOp
  simp only [ho, hx, hy, hrun, Sem.run_bind, Sem.run_pure, Result.andThen_ok]
  exact h
theorem field_b0 (G : Value) (m : Int) (w : World) : (Instr.field 108 (.agg #[G, .int .i64 m]) 0).run Tryz.prog w = .ok G w := by kernel_rfl
theorem field_b1 (G : Value) (m : Int) (w : World) : (Instr.field 108 (.agg #[G, .int .i64 m]) 1).run Tryz.prog w = .ok (.int .i64 m) w := by kernel_rfl
theorem slice_to (A : Option Addr) (n len cap : Nat) (h : n ≤ cap) (w : World) : (Instr.slice 44 (.slice A len cap) none (some (.int .i64 (n : Int))) none).run Tryz.prog w = .ok (.slice A n cap) w := by
  obtain ⟨i0, hi, hz0, hz1, hz2⟩ := info_parts infoStore
  have e : Option.map (fun x : Addr => x.add 0) A = A := by cases A <;> rfl
  simp [Instr.slice, run_underlying Tryz.underlying44, Instr.sliceBounds, Instr.sliceBound, asIntOf, sizeOf, typeInfo, hi, h, e]
set_option maxRecDepth 100000 in
set_option maxHeartbeats 4000000 in
set_option linter.unusedSimpArgs false in
theorem after_any (p i n : Nat) (m : PM) (F : Nat → Prop) (w : World) (hi : i < m.L.length) (hn : n ≤ (m.line i).pend.length) (hm : m.Ok) (h : Rep w p m F) (hT : Tab w) :
    Calls Tryz.prog 99 #[.pointer (some ⟨p, 0, none⟩), .int .i64 (i : Int), .int .i64 (n : Int)] w fun e w' =>
      e = .returned (.tuple #[.agg (iv ((m.line i).after n)).toArray, .int .i64 (m.line i).err]) ∧ Below w.heap.size w w' := by
  obtain ⟨dv, b, ev, D, G, h⟩ := h
  have c0 := h.c0
  have c1 := h.c1
  obtain ⟨d, o, cap, rfl, hcap, _, _, hl⟩ := h.where_ hm
  obtain ⟨l1, l2⟩ := hl i hi
  have hlo := hm.line hi
  have h8 := hlo.len
  have hfx := fun w hT => fix_any (m.line i).ws (m.line i).code w h8 hT
  unfold fr at hfx
  have hf8 := hlo.fixW.1
  have hf := hm.few
  have hps := hlo.pend
  have hsl := h.pend i hi
  have hat := h.at_ i hi
  have hmap := h.map
  have hHE : (m.line i).after n = applyS (fixZ (m.line i).ws (m.line i).code).1 ((m.line i).pend.take n) := rfl
  have hHR : (m.line i).err = (fixZ (m.line i).ws (m.line i).code).2.2 := rfl
  unfold PL.fixW at hf8
  have hnI : (i : Int) < (m.L.length : Int) := by omega
  have HI := Lib.hid (size22' h8)
  clear h hl hlo hm
  generalize (m.line i).after n = AFT at *
  generalize (m.line i).err = ERR at *
  generalize (m.line i).ws = ws at *
  generalize (m.line i).code = c at *
  generalize (m.line i).pend = ss at *
  generalize (m.line i).mark = mk at *
  generalize m.L.length = N at *
  generalize hfz : fixZ ws c = fz at *
  obtain ⟨fw, fc, fe⟩ := fz
  have HE := Lib.hid hHE
  have HR := Lib.hid hHR
  have HK := Lib.hid hfx
  have HT := Lib.hid hT
  have HP := Lib.hid hps
  have HS := Lib.hid hsl
  have HM := Lib.hid (And.intro hmap hat)
  have HF8 := Lib.hid hf8
  have HIF := Lib.hid (size22' (l := fw) hf8)
  clear hHE hHR hfx hT hps hsl hat hmap hfz hf8 h8
  go_enter Tryz.func99, Tryz.ntmps99
  go_wp2_with fail
  obtain ⟨W0, hW0⟩ : ∃ W, w.alloc (.cells #[.int .i64 0, .int .i64 0, .int .i64 0, .int .i64 0, .int .i64 0, .int .i64 0, .int .i64 0, .int .i64 0] 66) = W := ⟨_, rfl⟩
  have HB0 : Hid (Below w.heap.size w W0.drew) := Lib.hid (by rw [← hW0]; exact (bel_new w _).drew)
  have HZ0 : Hid (Arr W0.drew w.heap.size 66 (iv Z8)) := Lib.hid (by rw [← hW0]; exact Arr.new w (iv Z8) 66)
  have HT0 : Hid (Tab W0.drew) := Lib.hid (HT.out.keep HB0.out)
  have a0 := cell_below HB0.out c0
  have a2 := cell_below HB0.out l2
  have a1 := range_below HB0.out l1
  rw [hW0]
  clear hW0
  have hu22 := Tryz.underlying66
  have hi22 := HI.out
  refine wp_cut (fun a' w' => ∃ g : Nat, a' = { tmps := #[.pointer (some ⟨p, 0, none⟩), .int .i64 (i : Int), .int .i64 (n : Int), undef, undef, undef, .pointer (some ⟨w.heap.size, 0, none⟩), .int .i64 0, .pointer (some ⟨g, 0, none⟩), .int .i64 fc, .int .i64 fe, undef, undef, .tuple #[.agg (iv fw).toArray, .int .i64 fc, .int .i64 fe], .pointer (some ⟨p, 0, none⟩), .pointer (some ⟨p, 0, none⟩), .pointer (some ⟨p, 0, none⟩), .slice (some ⟨d, o, none⟩) N cap, .int .i64 (i : Int), .pointer (some ⟨d, o + i * 9, none⟩), .pointer (some ⟨d, o + i * 9, none⟩), .agg (iv ws).toArray, .pointer (some ⟨p, 0, none⟩), .pointer (some ⟨p, 0, none⟩), .pointer (some ⟨p, 0, none⟩), .slice (some ⟨d, o, none⟩) N cap, .int .i64 (i : Int), .pointer (some ⟨d, o + i * 9, none⟩), .pointer (some ⟨d, o + i * 9 + 8, none⟩), .int .i64 c, .tuple #[.agg (iv fw).toArray, .int .i64 fc, .int .i64 fe], .agg (iv fw).toArray, .int .i64 fc, .int .i64 fe, undef, undef, undef, undef, undef, undef, undef, undef, undef, undef, undef, undef, undef, undef, undef, undef, undef, undef, undef, undef, undef, undef], defers := [] } ∧ w.heap.size < g ∧ Hid (Arr w' g 66 (iv fw)) ∧ Hid (Arr w' w.heap.size 66 (iv Z8)) ∧ Hid (Below w.heap.size w w')) ?rest ?first
  case first =>
    intro J K' hJ hK'
    refine wp_region_held_drew (S := fun W => W.cell? ⟨p, 0, none⟩ = some (.slice (some ⟨d, o, none⟩) N cap) ∧ W.cell? ⟨d, o + i * 9 + 8, none⟩ = some (.int .i64 c) ∧ W.rangeAt d (o + i * 9) (iv ws)) (by kernel_rfl) ⟨a0, a2, a1⟩ (fun hHeld => ?_)
    generalize W0.drew = W1 at *
    refine wpAnyH_take (i := 0) (v := .pointer (some ⟨p, 0, none⟩)) rfl (by kernel_rfl) (by kernel_rfl) (by kernel_rfl) (fun _ _ _ h => h) (Or.inl ⟨by rfl, fun w hSw => by obtain ⟨h1, h2, h3⟩ := hSw; go_simp⟩) (by assumption) ?_
    change wpAnyH _ _ _ _ _ _ _ (Act.put _ (some 14) _) _
    simp only [Act.put, List.setIfInBounds_toArray, List.set_cons_zero, List.set_cons_succ]
    refine wpAnyH_take (i := 1) (v := .pointer (some ⟨p, 0, none⟩)) rfl (by kernel_rfl) (by kernel_rfl) (by kernel_rfl) (fun _ _ _ h => h) (Or.inl ⟨by rfl, fun w hSw => by obtain ⟨h1, h2, h3⟩ := hSw; go_simp⟩) (by assumption) ?_
    change wpAnyH _ _ _ _ _ _ _ (Act.put _ (some 15) _) _
    simp only [Act.put, List.setIfInBounds_toArray, List.set_cons_zero, List.set_cons_succ]
    refine wpAnyH_take (i := 2) (v := .pointer (some ⟨p, 0, none⟩)) rfl (by kernel_rfl) (by kernel_rfl) (by kernel_rfl) (fun _ _ _ h => h) (Or.inl ⟨by rfl, fun w hSw => by obtain ⟨h1, h2, h3⟩ := hSw; go_simp⟩) (by assumption) ?_
    change wpAnyH _ _ _ _ _ _ _ (Act.put _ (some 16) _) _
    simp only [Act.put, List.setIfInBounds_toArray, List.set_cons_zero, List.set_cons_succ]
    refine wpAnyH_take (i := 3) (v := .slice (some ⟨d, o, none⟩) N cap) rfl (by kernel_rfl) (by kernel_rfl) (by kernel_rfl) (fun _ _ _ h => h) (Or.inl ⟨by rfl, fun w hSw => by obtain ⟨h1, h2, h3⟩ := hSw; go_simp⟩) (by assumption) ?_
    change wpAnyH _ _ _ _ _ _ _ (Act.put _ (some 17) _) _
    simp only [Act.put, List.setIfInBounds_toArray, List.set_cons_zero, List.set_cons_succ]
    refine wpAnyH_take (i := 4) (v := .int .i64 (i : Int)) rfl (by kernel_rfl) (by kernel_rfl) (by kernel_rfl) (fun _ _ _ h => h) (Or.inl ⟨by rfl, fun w hSw => by obtain ⟨h1, h2, h3⟩ := hSw; go_simp⟩) (by assumption) ?_
    change wpAnyH _ _ _ _ _ _ _ (Act.put _ (some 18) _) _
    simp only [Act.put, List.setIfInBounds_toArray, List.set_cons_zero, List.set_cons_succ]
    refine wpAnyH_take (i := 5) (v := .pointer (some ⟨d, o + i * 9, none⟩)) rfl (by kernel_rfl) (by kernel_rfl) (by kernel_rfl) (fun _ _ _ h => h) (Or.inl ⟨by rfl, fun w hSw => by obtain ⟨h1, h2, h3⟩ := hSw; go_simp⟩) (by assumption) ?_
    change wpAnyH _ _ _ _ _ _ _ (Act.put _ (some 19) _) _
    simp only [Act.put, List.setIfInBounds_toArray, List.set_cons_zero, List.set_cons_succ]
    refine wpAnyH_take (i := 6) (v := .pointer (some ⟨d, o + i * 9, none⟩)) rfl (by kernel_rfl) (by kernel_rfl) (by kernel_rfl) (fun _ _ _ h => h) (Or.inl ⟨by rfl, fun w hSw => by obtain ⟨h1, h2, h3⟩ := hSw; go_simp⟩) (by assumption) ?_
    change wpAnyH _ _ _ _ _ _ _ (Act.put _ (some 20) _) _
    simp only [Act.put, List.setIfInBounds_toArray, List.set_cons_zero, List.set_cons_succ]
    refine wpAnyH_take (i := 7) (v := .agg (iv ws).toArray) rfl (by kernel_rfl) (by kernel_rfl) (by kernel_rfl) (fun _ _ _ h => h) (yieldsIf_load_mid (by rfl) _ _ rfl _ _ rfl _ _ (fun w h => h.2.2) hu22 rfl hi22) (by assumption) ?_
    change wpAnyH _ _ _ _ _ _ _ (Act.put _ (some 21) _) _
    simp only [Act.put, List.setIfInBounds_toArray, List.set_cons_zero, List.set_cons_succ]
    refine wpAnyH_take (i := 8) (v := .pointer (some ⟨p, 0, none⟩)) rfl (by kernel_rfl) (by kernel_rfl) (by kernel_rfl) (fun _ _ _ h => h) (Or.inl ⟨by rfl, fun w hSw => by obtain ⟨h1, h2, h3⟩ := hSw; go_simp⟩) (by assumption) ?_
    change wpAnyH _ _ _ _ _ _ _ (Act.put _ (some 22) _) _
    simp only [Act.put, List.setIfInBounds_toArray, List.set_cons_zero, List.set_cons_succ]
    refine wpAnyH_take (i := 9) (v := .pointer (some ⟨p, 0, none⟩)) rfl (by kernel_rfl) (by kernel_rfl) (by kernel_rfl) (fun _ _ _ h => h) (Or.inl ⟨by rfl, fun w hSw => by obtain ⟨h1, h2, h3⟩ := hSw; go_simp⟩) (by assumption) ?_
    change wpAnyH _ _ _ _ _ _ _ (Act.put _ (some 23) _) _
    simp only [Act.put, List.setIfInBounds_toArray, List.set_cons_zero, List.set_cons_succ]
    refine wpAnyH_take (i := 10) (v := .pointer (some ⟨p, 0, none⟩)) rfl (by kernel_rfl) (by kernel_rfl) (by kernel_rfl) (fun _ _ _ h => h) (Or.inl ⟨by rfl, fun w hSw => by obtain ⟨h1, h2, h3⟩ := hSw; go_simp⟩) (by assumption) ?_
    change wpAnyH _ _ _ _ _ _ _ (Act.put _ (some 24) _) _
    simp only [Act.put, List.setIfInBounds_toArray, List.set_cons_zero, List.set_cons_succ]
    refine wpAnyH_take (i := 11) (v := .slice (some ⟨d, o, none⟩) N cap) rfl (by kernel_rfl) (by kernel_rfl) (by kernel_rfl) (fun _ _ _ h => h) (Or.inl ⟨by rfl, fun w hSw => by obtain ⟨h1, h2, h3⟩ := hSw; go_simp⟩) (by assumption) ?_
    change wpAnyH _ _ _ _ _ _ _ (Act.put _ (some 25) _) _
    simp only [Act.put, List.setIfInBounds_toArray, List.set_cons_zero, List.set_cons_succ]
    refine wpAnyH_take (i := 12) (v := .int .i64 (i : Int)) rfl (by kernel_rfl) (by kernel_rfl) (by kernel_rfl) (fun _ _ _ h => h) (Or.inl ⟨by rfl, fun w hSw => by obtain ⟨h1, h2, h3⟩ := hSw; go_simp⟩) (by assumption) ?_
    change wpAnyH _ _ _ _ _ _ _ (Act.put _ (some 26) _) _
    simp only [Act.put, List.setIfInBounds_toArray, List.set_cons_zero, List.set_cons_succ]
    refine wpAnyH_take (i := 13) (v := .pointer (some ⟨d, o + i * 9, none⟩)) rfl (by kernel_rfl) (by kernel_rfl) (by kernel_rfl) (fun _ _ _ h => h) (Or.inl ⟨by rfl, fun w hSw => by obtain ⟨h1, h2, h3⟩ := hSw; go_simp⟩) (by assumption) ?_
    change wpAnyH _ _ _ _ _ _ _ (Act.put _ (some 27) _) _
    simp only [Act.put, List.setIfInBounds_toArray, List.set_cons_zero, List.set_cons_succ]
    refine wpAnyH_take (i := 14) (v := .pointer (some ⟨d, o + i * 9 + 8, none⟩)) rfl (by kernel_rfl) (by kernel_rfl) (by kernel_rfl) (fun _ _ _ h => h) (Or.inl ⟨by rfl, fun w hSw => by obtain ⟨h1, h2, h3⟩ := hSw; go_simp⟩) (by assumption) ?_
    change wpAnyH _ _ _ _ _ _ _ (Act.put _ (some 28) _) _
    simp only [Act.put, List.setIfInBounds_toArray, List.set_cons_zero, List.set_cons_succ]
    refine wpAnyH_take (i := 15) (v := .int .i64 c) rfl (by kernel_rfl) (by kernel_rfl) (by kernel_rfl) (fun _ _ _ h => h) (Or.inl ⟨by rfl, fun w hSw => by obtain ⟨h1, h2, h3⟩ := hSw; go_simp⟩) (by assumption) ?_
    change wpAnyH _ _ _ _ _ _ _ (Act.put _ (some 29) _) _
    simp only [Act.put, List.setIfInBounds_toArray, List.set_cons_zero, List.set_cons_succ]
    refine wpAnyH_ready (rs := [16, 21]) (by kernel_rfl) (by simp) ?_
    refine AllReadyH.cons rfl (fun K hK => ?_) (AllReadyH.cons rfl (fun K hK => ?_) (AllReadyH.nil))
    · go_simp
      refine (HK.out _ HT0.out).mono ?_
      rintro e w1 ⟨rfl, hb⟩
      have b0 := cell_below hb a0
      have b2 := cell_below hb a2
      have b1 := range_below hb a1
      refine hK.out _ _ ⟨b0, b2, b1⟩ (fun hHeld1 => ?_)
      clear hK K hHeld
      have HB1 := Lib.hid (bel_on HB0.out hb)
      have HZ1 := Lib.hid (HZ0.out.keep hb)
      clear hb
      refine wpAnyH_take (i := 17) (v := .tuple #[.agg (iv fw).toArray, .int .i64 fc, .int .i64 fe]) rfl (by kernel_rfl) (by kernel_rfl) (by kernel_rfl) (fun _ _ _ h => h) (Or.inl ⟨by rfl, fun w hSw => by obtain ⟨h1, h2, h3⟩ := hSw; go_simp⟩) (by assumption) ?_
      change wpAnyH _ _ _ _ _ _ _ (Act.put _ (some 13) _) _
      simp only [Act.put, List.setIfInBounds_toArray, List.set_cons_zero, List.set_cons_succ]
      refine wpAnyH_take (i := 18) (v := .agg (iv fw).toArray) rfl (by kernel_rfl) (by kernel_rfl) (by kernel_rfl) (fun _ _ _ h => h) (Or.inl ⟨by rfl, fun w hSw => by obtain ⟨h1, h2, h3⟩ := hSw; go_simp⟩) (by assumption) ?_
      change wpAnyH _ _ _ _ _ _ _ (Act.put _ (some 31) _) _
      simp only [Act.put, List.setIfInBounds_toArray, List.set_cons_zero, List.set_cons_succ]
      refine wpAnyH_take (i := 19) (v := .int .i64 fc) rfl (by kernel_rfl) (by kernel_rfl) (by kernel_rfl) (fun _ _ _ h => h) (Or.inl ⟨by rfl, fun w hSw => by obtain ⟨h1, h2, h3⟩ := hSw; go_simp⟩) (by assumption) ?_
      change wpAnyH _ _ _ _ _ _ _ (Act.put _ (some 32) _) _
      simp only [Act.put, List.setIfInBounds_toArray, List.set_cons_zero, List.set_cons_succ]
      refine wpAnyH_take (i := 20) (v := .int .i64 fe) rfl (by kernel_rfl) (by kernel_rfl) (by kernel_rfl) (fun _ _ _ h => h) (Or.inl ⟨by rfl, fun w hSw => by obtain ⟨h1, h2, h3⟩ := hSw; go_simp⟩) (by assumption) ?_
      change wpAnyH _ _ _ _ _ _ _ (Act.put _ (some 33) _) _
      simp only [Act.put, List.setIfInBounds_toArray, List.set_cons_zero, List.set_cons_succ]
      refine wpAnyH_ready (rs := [21]) (by kernel_rfl) (by simp) ?_
      refine AllReadyH.cons rfl (fun K hK => ?_) AllReadyH.nil
      go_simp
      refine hK.out _ _ ⟨cell_below (bel_new _ _) b0, cell_below (bel_new _ _) b2, range_below (bel_new _ _) b1⟩ (fun hHeld2 => ?_)
      clear hK K hHeld1
      refine wpAnyH_ready (rs := [22]) (by kernel_rfl) (by simp) ?_
      refine AllReadyH.cons rfl (fun K hK => ?_) AllReadyH.nil
      refine oper_new 66 (iv fw) 8 (by rw [iv_len, HF8.out]) size22 (iv_one _) _ rfl _ _ rfl rfl rfl ?_
      refine hK.out _ _ ⟨cell_below (bel_new _ _) b0, cell_below (bel_new _ _) b2, range_below (bel_new _ _) b1⟩ (fun hHeld3 => ?_)
      clear hK K hHeld2
      refine wpAnyH_take (i := 23) (v := .int .i64 fc) rfl (by kernel_rfl) (by kernel_rfl) (by kernel_rfl) (fun _ _ _ h => h) (Or.inl ⟨by rfl, fun w hSw => by obtain ⟨h1, h2, h3⟩ := hSw; go_simp⟩) (by assumption) ?_
      change wpAnyH _ _ _ _ _ _ _ (Act.put _ (some 9) _) _
      simp only [Act.put, List.setIfInBounds_toArray, List.set_cons_zero, List.set_cons_succ]
      refine wpAnyH_take (i := 24) (v := .int .i64 fe) rfl (by kernel_rfl) (by kernel_rfl) (by kernel_rfl) (fun _ _ _ h => h) (Or.inl ⟨by rfl, fun w hSw => by obtain ⟨h1, h2, h3⟩ := hSw; go_simp⟩) (by assumption) ?_
      change wpAnyH _ _ _ _ _ _ _ (Act.put _ (some 10) _) _
      simp only [Act.put, List.setIfInBounds_toArray, List.set_cons_zero, List.set_cons_succ]
      refine wpAnyH_done (by kernel_rfl) ?_ _
      exact hK' _ _ (Met.intro (hJ _ _ ⟨w1.heap.size, rfl, HZ1.out.lt, Lib.hid (Arr.new w1 (iv fw) _), Lib.hid (HZ1.out.keep (bel_new _ _)), Lib.hid (bel_on HB1.out (bel_new _ _))⟩))
    · go_simp
      have b0 := cell_below (bel_new W1 (.cells #[.int .i64 0, .int .i64 0, .int .i64 0, .int .i64 0, .int .i64 0, .int .i64 0, .int .i64 0, .int .i64 0] 66)) a0
      have b2 := cell_below (bel_new W1 (.cells #[.int .i64 0, .int .i64 0, .int .i64 0, .int .i64 0, .int .i64 0, .int .i64 0, .int .i64 0, .int .i64 0] 66)) a2
      have b1 := range_below (bel_new W1 (.cells #[.int .i64 0, .int .i64 0, .int .i64 0, .int .i64 0, .int .i64 0, .int .i64 0, .int .i64 0, .int .i64 0] 66)) a1
      refine hK.out _ _ ⟨b0, b2, b1⟩ (fun hHeld1 => ?_)
      clear hK K hHeld
      have HB1 := Lib.hid (bel_on HB0.out (bel_new W1 (.cells #[.int .i64 0, .int .i64 0, .int .i64 0, .int .i64 0, .int .i64 0, .int .i64 0, .int .i64 0, .int .i64 0] 66)))
      have HZ1 := Lib.hid (HZ0.out.keep (bel_new W1 (.cells #[.int .i64 0, .int .i64 0, .int .i64 0, .int .i64 0, .int .i64 0, .int .i64 0, .int .i64 0, .int .i64 0] 66)))
      have HG1 : Hid (Arr (W1.alloc (.cells #[.int .i64 0, .int .i64 0, .int .i64 0, .int .i64 0, .int .i64 0, .int .i64 0, .int .i64 0, .int .i64 0] 66)) W1.heap.size 66 (iv Z8)) := Lib.hid (Arr.new W1 (iv Z8) _)
      have hgw : w.heap.size < W1.heap.size := HZ0.out.lt
      generalize W1.heap.size = g at *
      generalize W1.alloc (.cells #[.int .i64 0, .int .i64 0, .int .i64 0, .int .i64 0, .int .i64 0, .int .i64 0, .int .i64 0, .int .i64 0] 66) = W2 at *
      refine wpAnyH_ready (rs := [16]) (by kernel_rfl) (by simp) ?_
      refine AllReadyH.cons rfl (fun K hK => ?_) AllReadyH.nil
      go_simp
      refine (HK.out _ (HT.out.keep HB1.out)).mono ?_
      rintro e w1 ⟨rfl, hb⟩
      refine hK.out _ _ ⟨cell_below hb b0, cell_below hb b2, range_below hb b1⟩ (fun hHeld2 => ?_)
      clear hK K hHeld1
      have HB3 := Lib.hid (bel_on HB1.out hb)
      have HZ3 := Lib.hid (HZ1.out.keep hb)
      have HG3 := Lib.hid (HG1.out.keep hb)
      clear hb
      refine wpAnyH_take (i := 17) (v := .tuple #[.agg (iv fw).toArray, .int .i64 fc, .int .i64 fe]) rfl (by kernel_rfl) (by kernel_rfl) (by kernel_rfl) (fun _ _ _ h => h) (Or.inl ⟨by rfl, fun w hSw => by obtain ⟨h1, h2, h3⟩ := hSw; go_simp⟩) (by assumption) ?_
      change wpAnyH _ _ _ _ _ _ _ (Act.put _ (some 13) _) _
      simp only [Act.put, List.setIfInBounds_toArray, List.set_cons_zero, List.set_cons_succ]
      refine wpAnyH_take (i := 18) (v := .agg (iv fw).toArray) rfl (by kernel_rfl) (by kernel_rfl) (by kernel_rfl) (fun _ _ _ h => h) (Or.inl ⟨by rfl, fun w hSw => by obtain ⟨h1, h2, h3⟩ := hSw; go_simp⟩) (by assumption) ?_
      change wpAnyH _ _ _ _ _ _ _ (Act.put _ (some 31) _) _
      simp only [Act.put, List.setIfInBounds_toArray, List.set_cons_zero, List.set_cons_succ]
      refine wpAnyH_take (i := 19) (v := .int .i64 fc) rfl (by kernel_rfl) (by kernel_rfl) (by kernel_rfl) (fun _ _ _ h => h) (Or.inl ⟨by rfl, fun w hSw => by obtain ⟨h1, h2, h3⟩ := hSw; go_simp⟩) (by assumption) ?_
      change wpAnyH _ _ _ _ _ _ _ (Act.put _ (some 32) _) _
      simp only [Act.put, List.setIfInBounds_toArray, List.set_cons_zero, List.set_cons_succ]
      refine wpAnyH_take (i := 20) (v := .int .i64 fe) rfl (by kernel_rfl) (by kernel_rfl) (by kernel_rfl) (fun _ _ _ h => h) (Or.inl ⟨by rfl, fun w hSw => by obtain ⟨h1, h2, h3⟩ := hSw; go_simp⟩) (by assumption) ?_
      change wpAnyH _ _ _ _ _ _ _ (Act.put _ (some 33) _) _
      simp only [Act.put, List.setIfInBounds_toArray, List.set_cons_zero, List.set_cons_succ]
      refine wpAnyH_ready (rs := [22]) (by kernel_rfl) (by simp) ?_
      refine AllReadyH.cons rfl (fun K hK => ?_) AllReadyH.nil
      refine wp_store_row 66 _ _ rfl g (iv fw).toArray rfl rfl 66 (iv Z8).toArray HG3.out (by simpa using HIF.out) (by rw [List.size_toArray, List.size_toArray, iv_len, iv_len, HF8.out]; rfl) (all_oneCell_toArray (iv_one _)) ?_
      refine hK.out _ _ ⟨(cell_setRow_other _ _ _ _ (by have := block_lt_of_cell c0; show p ≠ g; simp at this; omega)).trans (hHeld2.1), (cell_setRow_other _ _ _ _ (by have := block_lt_of_cell l2; show d ≠ g; simp at this; omega)).trans (hHeld2.2.1), fun j v hv => (cell_setRow_other _ _ _ _ (by have := block_lt_of_cell l2; show d ≠ g; simp at this; omega)).trans (hHeld2.2.2 j v hv)⟩ (fun hHeld3 => ?_)
      clear hK K hHeld2
      refine wpAnyH_take (i := 23) (v := .int .i64 fc) rfl (by kernel_rfl) (by kernel_rfl) (by kernel_rfl) (fun _ _ _ h => h) (Or.inl ⟨by rfl, fun w hSw => by obtain ⟨h1, h2, h3⟩ := hSw; go_simp⟩) (by assumption) ?_
      change wpAnyH _ _ _ _ _ _ _ (Act.put _ (some 9) _) _
      simp only [Act.put, List.setIfInBounds_toArray, List.set_cons_zero, List.set_cons_succ]
      refine wpAnyH_take (i := 24) (v := .int .i64 fe) rfl (by kernel_rfl) (by kernel_rfl) (by kernel_rfl) (fun _ _ _ h => h) (Or.inl ⟨by rfl, fun w hSw => by obtain ⟨h1, h2, h3⟩ := hSw; go_simp⟩) (by assumption) ?_
      change wpAnyH _ _ _ _ _ _ _ (Act.put _ (some 10) _) _
      simp only [Act.put, List.setIfInBounds_toArray, List.set_cons_zero, List.set_cons_succ]
      refine wpAnyH_done (by kernel_rfl) ?_ _
      exact hK' _ _ (Met.intro (hJ _ _ ⟨g, rfl, hgw, Lib.hid (HG3.out.row _), Lib.hid (HZ3.out.row_other (by omega) _), Lib.hid (bel_row HB3.out (by omega) _)⟩))
  case rest =>
    rintro a' w1 ⟨g, rfl, hg, HG, HZ1, HB1⟩
    clear HB0 HZ0 HT0 a0 a1 a2
    have c1' := cell_below HB1.out c1
    have hbk := HM.out.1.lt
    have hlk := look_run (ownsMap_keep HM.out.1 (HB1.out.block b hbk)) (i : Int) (by unfold I64; omega) HM.out.2
    unfold backV at hlk
    obtain ⟨A, gcap, hG, hgc1, hgc2, hGn, hGs⟩ := HS.out.shape
    have hgm : gcap ≤ 9223372036854775807 := by unfold maxLen at hgc2; omega
    rw [hG] at hlk
    have hnc : (n : Int) ≤ (gcap : Int) := by omega
    have hsl := slice_to A n ss.length gcap (by omega) w1
    have hfb := field_b0 (.slice A ss.length gcap) (mk : Int)
    have HGC := Lib.hid hGs
    have HOZ := Lib.hid (iv_one fw)
    have H22 := Lib.hid Tryz.underlying66
    clear hu22 hi22 hGs hbk c0 l1 l2 c1 hG hi hnI HI
    by_cases hn0 : n = 0
    · subst hn0
      have HA : Hid (AFT = fw) := Lib.hid (by rw [HE.out]; rfl)
      have HL : Hid ((iv Z8).length = (iv fw).length) := Lib.hid (by rw [iv_len, iv_len, HF8.out]; rfl)
      go_wp2_with fail
      refine wp_loop_rounds 1 ?_
      rw [rounds_succ]
      go_wp2_with (first
        | ((with_reducible refine arm_row 66 g 66 _ HG.out _ H22.out rfl HIF.out rfl _ rfl ?_ ?_); focus rfl)
        | ((with_reducible refine arm_put 66 w.heap.size 66 _ _ HZ1.out HIF.out HL.out HOZ.out rfl _ _ rfl ?_ ?_ ?_); (focus rfl); (focus rfl)))
      refine bodyPost_ret (v := .tuple #[.agg (iv fw).toArray, .int .i64 fe]) (ret_row2 Tryz.results99 _ _ w.heap.size 66 (iv fw) (HZ1.out.row _) rfl _ H22.out rfl HIF.out _ rfl) rfl ?_
      exact ⟨by rw [HA.out, HR.out], bel_row HB1.out (Nat.le_refl _) _⟩
    · cases A with
      | none => exact absurd (hGn rfl).1 (by omega)
      | some ad =>
        obtain ⟨hsp, _, hGc⟩ := HGC.out ad rfl
        obtain ⟨gp, op, sp⟩ := ad
        obtain rfl : sp = none := hsp
        have HGE := Lib.hid hGc
        have HP0 : Hid (AFT = applyS fw (ss.take n)) := HE
        have HF0 : Hid (Arr w1 g 66 (iv (applyS fw (ss.take 0)))) := HG
        clear hGc hGn HGC HE HG HK HS HM
        go_wp2_with fail
        go_loopw [44] (fun i wr => ∃ k : Nat, i = .int .i64 (k : Int) ∧ k ≤ n ∧ Hid (Arr wr g 66 (iv (applyS fw (ss.take k)))) ∧ Hid (Arr wr w.heap.size 66 (iv Z8)) ∧ Hid (Below w.heap.size w wr)) (fun i _ => n - (intOf i).toNat)
        case atStart => exact ⟨0, rfl, by omega, HF0, HZ1, HB1⟩
        case round =>
          clear HF0 HZ1 HB1 hlk hsl hfb
          obtain ⟨k, rfl, hk, HA, HZ, HB⟩ := hrel
          have hXl : (applyS fw (ss.take k)).length = 8 := by rw [applyS_len, HF8.out]
          by_cases hlt : k < n
          · have hks : k < ss.length := by omega
            obtain ⟨e0, e1⟩ := flatS_at hks
            have d0 := cell_below HB.out (HGE.out _ _ e0)
            have d1 := cell_below HB.out (HGE.out _ _ e1)
            rw [← Nat.add_assoc] at d1
            obtain ⟨s0, s8, _⟩ := HP.out ss[k] (List.getElem_mem hks)
            have hnext : applyS fw (ss.take (k + 1)) = (applyS fw (ss.take k)).set ss[k].1.toNat ss[k].2 := by
              rw [take_snoc' ss k hks, applyS_snoc]
              rfl
            obtain ⟨a, ha⟩ : ∃ a : Nat, ss[k].1 = a := ⟨ss[k].1.toNat, by omega⟩
            rw [ha] at d0 s8 hnext
            rw [Int.toNat_natCast] at hnext
            generalize ss[k].2 = v at *
            generalize applyS fw (ss.take k) = X at *
            have hcv := HA.out.cell (iv_at (l := X) (k := a) (by omega))
            have hfv := HA.out.free a
            generalize X.getD a 0 = x0 at *
            have hgn : g ≠ wr.heap.size := by have := HA.out.lt; omega
            have hpn : gp ≠ wr.heap.size := by have := block_lt_of_cell d0; simp at this; omega
            have hcA : ∀ o, (wr.alloc o).cell? ⟨g, a, none⟩ = some (.int .i64 x0) := fun o => (World.cell?_alloc_lt wr o ⟨g, a, none⟩ HA.out.lt).trans hcv
            have hfA : ∀ o, (wr.alloc o).frozen? ⟨g, a, none⟩ = false := fun o => ((HA.out.keep (bel_new wr o)).free a)
            have HN := Lib.hid hnext
            have hknI : (k : Int) < (n : Int) := by omega
            have ha8 : (a : Int) < 8 := by omega
            clear e0 e1 hnext s0 ha hks
            go_wp2_with fail
            have HA4 : ∀ o, Hid (Arr ((wr.alloc o).setCell ⟨g, a, none⟩ (.int .i64 v)) g 66 (iv (applyS fw (ss.take (k + 1))))) := fun o => Lib.hid (by
              rw [HN.out, ← iv_set]
              exact (HA.out.keep (bel_new wr o)).set a _)
            have HZ4 : ∀ o, Hid (Arr ((wr.alloc o).setCell ⟨g, a, none⟩ (.int .i64 v)) w.heap.size 66 (iv Z8)) := fun o => Lib.hid ((HZ.out.keep (bel_new wr o)).other (by show w.heap.size ≠ g; omega) _)
            have HB4 : ∀ o, Hid (Below w.heap.size w ((wr.alloc o).setCell ⟨g, a, none⟩ (.int .i64 v))) := fun o => Lib.hid ((bel_on HB.out (bel_new wr o)).setCell (by show w.heap.size ≤ g; omega) _)
            go_roundw
            case rel => exact ⟨k + 1, by simp, by omega, HA4 _, HZ4 _, HB4 _⟩
            case measure => simp [intOf]; omega
          · obtain rfl : k = n := by omega
            rw [← HP0.out] at HA hXl
            have HL : Hid ((iv Z8).length = (iv AFT).length) := Lib.hid (by rw [iv_len, iv_len, hXl]; rfl)
            have HI2 := Lib.hid (size22' (l := AFT) hXl)
            have HOA := Lib.hid (iv_one AFT)
            clear hXl
            go_wp2_with (first
              | ((with_reducible refine arm_row 66 g 66 _ HA.out _ H22.out rfl HI2.out rfl _ rfl ?_ ?_); focus rfl)
              | ((with_reducible refine arm_put 66 w.heap.size 66 _ _ HZ.out HI2.out HL.out HOA.out rfl _ _ rfl ?_ ?_ ?_); (focus rfl); (focus rfl)))
            refine bodyPost_ret (v := .tuple #[.agg (iv AFT).toArray, .int .i64 fe]) (ret_row2 Tryz.results99 _ _ w.heap.size 66 (iv AFT) (HZ.out.row _) rfl _ H22.out rfl HI2.out _ rfl) rfl ?_
            exact ⟨by rw [HR.out], bel_row HB.out (Nat.le_refl _) _⟩

end Go.Proofs.YtpojhplnhppcpaaGreatDoor
