/-
  What memory's small tests do: isWord, isCode, areWords, hasLine, hasAddress; Lines, Forget, Span. What slices.Clone does with lines, stores and events. Where a line lies; what memory's State does.
-/
import Derived.Test.YtmnncbgibngmiaaGreatDoorQMem
import Derived.Deep.RegionHeld3
import Derived.StillTailTactics
namespace Go.Proofs.YtmnncbgibngmiaaGreatDoor
open Go.RowKit
set_option maxRecDepth 100000 in
set_option maxHeartbeats 400000 in
theorem isWord_any (z : Int) (w : World) :
    Calls Tryz.prog 68 #[.int .i64 z] w fun e w' => e = .returned (.bool (okW z)) ∧ w' = w := by
  unfold okW
  go_enter Tryz.func68, Tryz.ntmps68
  by_cases h1 : 0 ≤ z
  · by_cases h2 : z ≤ 1099511627775
    · go_wp2_with fail
      go_ret
      exact ⟨ret_bool (by simp; try omega), rfl⟩
    · go_wp2_with fail
      go_ret
      exact ⟨ret_bool (by simp; try omega), rfl⟩
  · go_wp2_with fail
    go_ret
    exact ⟨ret_bool (by simp; try omega), rfl⟩
def okC (z : Int) : Bool := decide (0 ≤ z ∧ z ≤ 1023)
theorem validB_eq (L : List Int) (c : Int) : validB L c = (L.all okW && okC c) := rfl
set_option maxRecDepth 100000 in
set_option maxHeartbeats 400000 in
theorem isCodeM_any (z : Int) (w : World) :
    Calls Tryz.prog 54 #[.int .i64 z] w fun e w' => e = .returned (.bool (okC z)) ∧ w' = w := by
  unfold okC
  go_enter Tryz.func54, Tryz.ntmps54
  by_cases h1 : 0 ≤ z
  · by_cases h2 : z ≤ 1023
    · go_wp2_with fail
      go_ret
      exact ⟨ret_bool (by simp; try omega), rfl⟩
    · go_wp2_with fail
      go_ret
      exact ⟨ret_bool (by simp; try omega), rfl⟩
  · go_wp2_with fail
    go_ret
    exact ⟨ret_bool (by simp; try omega), rfl⟩
set_option maxRecDepth 100000 in
set_option maxHeartbeats 400000 in
theorem areWords_any (L : List Int) (w : World) (h8 : L.length = 8) :
    Calls Tryz.prog 53 #[.agg (iv L).toArray] w fun e w' => e = .returned (.bool (L.all okW)) ∧ Below w.heap.size w w' := by
  have HI := Lib.hid (size22' h8)
  have HB := Lib.hid (bel_new w (.cells (iv L).toArray 39))
  have HA := Lib.hid (Arr.new w (iv L) 39)
  obtain ⟨R, hR⟩ : ∃ R, L.all okW = R := ⟨_, rfl⟩
  rw [hR]
  have HR := Lib.hid hR
  clear hR
  go_enter Tryz.func53, Tryz.ntmps53
  go_wp2_with ((with_reducible refine arm_row 39 w.heap.size 39 _ HA.out _ Tryz.underlying39 rfl HI.out rfl _ rfl ?_ ?_); focus rfl)
  obtain ⟨W, hW⟩ : ∃ W, w.alloc (.cells (iv L).toArray 39) = W := ⟨_, rfl⟩
  rw [hW] at HB ⊢
  clear hW HA
  go_loopw [6] (fun i wr => ∃ k : Nat, i = .int .i64 (k : Int) ∧ k ≤ 8 ∧ (∀ j, j < k → okW (L.getD j 0) = true) ∧ wr = W) (fun i _ => 8 - (intOf i).toNat)
  case atStart => exact ⟨0, rfl, by omega, fun j hj => by omega, rfl⟩
  case round =>
    obtain ⟨k, rfl, hk, hall, rfl⟩ := hrel
    by_cases hlt : k < 8
    · have hidx := index22 L k hlt h8 wr
      have hnot := fun h => not_all (L := L) (k := k) (by omega) h
      have hstep : okW (L.getD k 0) = true → ∀ j, j < k + 1 → okW (L.getD j 0) = true := fun h j hj => by
        rcases Nat.lt_succ_iff_lt_or_eq.1 hj with h1 | h1
        · exact hall j h1
        · subst h1; exact h
      have hc := isWord_any (L.getD k 0) wr
      generalize L.getD k 0 = v at *
      cases hv : okW v with
      | false =>
        rw [hv] at hc
        have HN := Lib.hid (hnot hv)
        clear hstep hnot hall hv
        go_wp2_with (go_at_call 68; refine hc.mono ?_; rintro e w' ⟨rfl, rfl⟩)
        go_ret
        exact ⟨ret_bool (by rw [← HR.out, HN.out]), HB.out⟩
      | true =>
        rw [hv] at hc
        have HS := Lib.hid (hstep hv)
        clear hstep hnot hall hv
        go_wp2_with (go_at_call 68; refine hc.mono ?_; rintro e w' ⟨rfl, rfl⟩)
        go_roundw
        case rel => exact ⟨k + 1, by simp, by omega, HS.out, trivial⟩
        case measure => simp [intOf]; omega
    · obtain rfl : k = 8 := by omega
      have ha := all_of h8 hall
      have HV := Lib.hid ha
      clear hall ha
      go_wp2_with fail
      go_ret
      exact ⟨ret_bool (by rw [← HR.out, HV.out]), HB.out⟩
section
variable {w : World} {p b : Nat} {m : PM} {F : Nat → Prop} {dv ev : Value} {D : DataW Value} {G : Nat → Value}
theorem RepAt.c0 (h : RepAt w p m F dv b ev D G) : w.cell? ⟨p, 0, none⟩ = some dv := h.mem.cell rfl
theorem RepAt.c1 (h : RepAt w p m F dv b ev D G) : w.cell? ⟨p, 1, none⟩ = some (.map (some b)) := h.mem.cell rfl
theorem RepAt.c2 (h : RepAt w p m F dv b ev D G) : w.cell? ⟨p, 2, none⟩ = some (.int .i64 m.span) := h.mem.cell rfl
theorem RepAt.c3 (h : RepAt w p m F dv b ev D G) : w.cell? ⟨p, 3, none⟩ = some ev := h.mem.cell rfl
end
set_option maxRecDepth 100000 in
set_option maxHeartbeats 400000 in
theorem hasLine_any (p : Nat) (z : Int) (m : PM) (F : Nat → Prop) (w : World) (hm : m.Ok) (h : Rep w p m F) :
    Calls Tryz.prog 36 #[.pointer (some ⟨p, 0, none⟩), .int .i64 z] w fun e w' => e = .returned (.bool (m.has z)) ∧ w' = w := by
  obtain ⟨dv, b, ev, D, G, h⟩ := h
  have c0 := h.c0
  obtain ⟨A, cap, rfl, _, _, _, _⟩ := h.dur.shape
  have hf := hm.few
  unfold PM.has
  generalize m.L.length = n at *
  clear h hm
  go_enter Tryz.func36, Tryz.ntmps36
  by_cases h1 : 0 ≤ z
  · by_cases h2 : z < n
    · go_wp2_with fail
      go_ret
      exact ⟨ret_bool (by simp; try omega), rfl⟩
    · go_wp2_with fail
      go_ret
      exact ⟨ret_bool (by simp; try omega), rfl⟩
  · go_wp2_with fail
    go_ret
    exact ⟨ret_bool (by simp; try omega), rfl⟩
set_option maxRecDepth 100000 in
set_option maxHeartbeats 400000 in
theorem hasAddress_any (p : Nat) (z : Int) (m : PM) (F : Nat → Prop) (w : World) (hz : I64 z) (hm : m.Ok) (h : Rep w p m F) :
    Calls Tryz.prog 58 #[.pointer (some ⟨p, 0, none⟩), .int .i64 z] w fun e w' => e = .returned (.bool (m.hasA z)) ∧ w' = w := by
  have hc := hasLine_any p (z / 8) m F w hm h
  obtain ⟨hz1, hz2⟩ := hz
  unfold PM.hasA
  unfold PM.has at hc
  generalize m.L.length = n at *
  clear h hm
  by_cases h1 : 0 ≤ z
  · have e : decide (0 ≤ z / 8 ∧ z / 8 < (n : Int)) = decide (0 ≤ z ∧ z < 8 * (n : Int)) := by
      rw [decide_eq_decide]
      omega
    rw [e] at hc
    generalize decide (0 ≤ z ∧ z < 8 * (n : Int)) = r at *
    have HC := Lib.hid hc
    clear e hc
    go_enter Tryz.func58, Tryz.ntmps58
    go_wp2_with (go_at_call 36; refine HC.out.mono ?_; rintro e w' ⟨rfl, rfl⟩)
    go_ret
    exact ⟨rfl, rfl⟩
  · go_enter Tryz.func58, Tryz.ntmps58
    go_wp2_with fail
    go_ret
    exact ⟨ret_bool (by simp; try omega), rfl⟩
set_option maxRecDepth 100000 in
set_option maxHeartbeats 400000 in
theorem lines_any (p : Nat) (m : PM) (F : Nat → Prop) (w : World) (h : Rep w p m F) :
    Calls Tryz.prog 23 #[.pointer (some ⟨p, 0, none⟩)] w fun e w' => e = .returned (.int .i64 (m.L.length : Nat)) ∧ w' = w := by
  obtain ⟨dv, b, ev, D, G, h⟩ := h
  have c0 := h.c0
  obtain ⟨A, cap, rfl, _, _, _, _⟩ := h.dur.shape
  generalize m.L.length = n at *
  clear h
  go_enter Tryz.func23, Tryz.ntmps23
  go_wp2_with fail
  go_ret
  exact ⟨rfl, rfl⟩
end Go.Proofs.YtmnncbgibngmiaaGreatDoor
namespace Go.Proofs.YtmnncbgibngmiaaGreatDoor
open Go.RowKit
theorem Sl.own_bound {w : World} {B : Nat} {v v' : Value} (h : v'.ownBlock = v.ownBlock ∨ v'.ownBlock = some w.heap.size) (hv : ∀ k, v.ownBlock = some k → B ≤ k) (hB : B ≤ w.heap.size) : ∀ k, v'.ownBlock = some k → B ≤ k := by
  intro k hk
  rcases h with h | h
  · exact hv k (h ▸ hk)
  · rw [h] at hk
    cases hk
    exact hB
/-- A copy: the same cells in new blocks. -/
def Cloned (w : World) (e sz n : Nat) (xs : List Value) (en : Ending) (w' : World) : Prop :=
  ∃ v', en = .returned v' ∧ Sl w' e sz v' n xs ∧ (∀ k, v'.ownBlock = some k → w.heap.size ≤ k) ∧ Below w.heap.size w w'
theorem infoLine : (Tryz.prog.info? 57).map (fun i => (i.zero, i.size, i.bytes)) = some (some (.agg #[.int .i64 0, .int .i64 0, .int .i64 0, .int .i64 0, .int .i64 0, .int .i64 0, .int .i64 0, .int .i64 0, .int .i64 0]), 9, 72) := by kernel_rfl
set_option maxRecDepth 100000 in
set_option maxHeartbeats 1000000 in
theorem cloneLine_any (v : Value) (n : Nat) (xs : List Value) (w : World) (h : Sl w 57 9 v n xs) (h1 : ∀ u ∈ xs, u.oneCell' = true) (hn : n ≤ 1000000) :
    Calls Tryz.prog 55 #[v] w (Cloned w 57 9 n xs) := by
  obtain ⟨A, cap, rfl, _, _, hnone, hsome⟩ := h.shape
  obtain ⟨i0, hi, hz0, hz1, hz2⟩ := info_parts infoLine
  have hlen := h.1
  have q : ∀ (w : World) (a : Option Addr) (n c n' c' : Nat), (binOp .eql 47 (.slice a n c) (.slice none n' c')).run Tryz.prog w = .ok (.bool a.isNone) w := fun w a n c n' c' => Lib.run_eql_slice_nil w _ _ a n c n' c' Tryz.underlying47
  cases A with
  | none =>
    obtain ⟨rfl, rfl, rfl⟩ := hnone rfl
    clear h h1 hn hsome hnone hlen hi hz0 hz1 hz2
    go_enter Tryz.func55, Tryz.ntmps55
    go_wp2_with fail
    go_ret
    exact ⟨_, rfl, Sl.nil _ _ _, fun k hk => by simp [Value.ownBlock] at hk, Below.refl _ _⟩
  | some ad =>
    obtain ⟨hsp, hob, hc⟩ := hsome ad rfl
    obtain ⟨g, o, sp⟩ := ad
    obtain rfl : sp = none := hsp
    have HC := Lib.hid hc
    have H1 := Lib.hid h1
    have HL := Lib.hid hlen
    have HI := Lib.hid hi
    have HZ0 := Lib.hid hz0
    have HZ1 := Lib.hid hz1
    have HZ2 := Lib.hid hz2
    clear h hnone hsome hc h1 hob hlen hi hz0 hz1 hz2
    go_enter Tryz.func55, Tryz.ntmps55
    go_wp2_with (at_builtin; refine wpList_append_sl _ rfl _ _ 47 rfl 57 i0 _ 9 72 Tryz.underlying47 HI.out HZ0.out HZ1.out HZ2.out rfl (by decide) _ 0 [] rfl (Sl.of_row (World.ownsRow_made (base := 0) w #[] 0 (Nat.zero_le _) (Nat.zero_le _) (by simp))) ⟨g, o, none⟩ n cap xs rfl HL.out ?qc H1.out (by unfold maxLen; omega) (by omega) ?_)
    case qc =>
      intro j u hj
      have hcell := HC.out j u hj
      exact (World.cell?_alloc_lt w _ _ (block_lt_of_cell hcell)).trans hcell
    intro v' w1 hs hg ho
    have HS := Lib.hid hs
    have HB : Hid (Below w.heap.size w w1) := Lib.hid ((bel_new w _).grown hg (by simp) (by intro k hk; simp [Value.ownBlock] at hk; omega))
    have HO : Hid (∀ k, v'.ownBlock = some k → w.heap.size ≤ k) := Lib.hid (by
      intro k hk
      rcases ho with h | h
      · rw [hk] at h
        simp [Value.ownBlock] at h
        omega
      · rw [hk] at h
        simp at h
        omega)
    clear hs hg ho
    go_wp2_with fail
    go_ret
    exact ⟨_, rfl, by simpa using HS.out, HO.out, HB.out⟩
theorem infoStore : (Tryz.prog.info? 66).map (fun i => (i.zero, i.size, i.bytes)) = some (some (.agg #[.int .i64 0, .int .i64 0]), 2, 16) := by kernel_rfl
set_option maxRecDepth 100000 in
set_option maxHeartbeats 1000000 in
theorem cloneStore_any (v : Value) (n : Nat) (xs : List Value) (w : World) (h : Sl w 66 2 v n xs) (h1 : ∀ u ∈ xs, u.oneCell' = true) (hn : n ≤ 1000000) :
    Calls Tryz.prog 21 #[v] w (Cloned w 66 2 n xs) := by
  obtain ⟨A, cap, rfl, _, _, hnone, hsome⟩ := h.shape
  obtain ⟨i0, hi, hz0, hz1, hz2⟩ := info_parts infoStore
  have hlen := h.1
  have q : ∀ (w : World) (a : Option Addr) (n c n' c' : Nat), (binOp .eql 49 (.slice a n c) (.slice none n' c')).run Tryz.prog w = .ok (.bool a.isNone) w := fun w a n c n' c' => Lib.run_eql_slice_nil w _ _ a n c n' c' Tryz.underlying49
  cases A with
  | none =>
    obtain ⟨rfl, rfl, rfl⟩ := hnone rfl
    clear h h1 hn hsome hnone hlen hi hz0 hz1 hz2
    go_enter Tryz.func21, Tryz.ntmps21
    go_wp2_with fail
    go_ret
    exact ⟨_, rfl, Sl.nil _ _ _, fun k hk => by simp [Value.ownBlock] at hk, Below.refl _ _⟩
  | some ad =>
    obtain ⟨hsp, hob, hc⟩ := hsome ad rfl
    obtain ⟨g, o, sp⟩ := ad
    obtain rfl : sp = none := hsp
    have HC := Lib.hid hc
    have H1 := Lib.hid h1
    have HL := Lib.hid hlen
    have HI := Lib.hid hi
    have HZ0 := Lib.hid hz0
    have HZ1 := Lib.hid hz1
    have HZ2 := Lib.hid hz2
    clear h hnone hsome hc h1 hob hlen hi hz0 hz1 hz2
    go_enter Tryz.func21, Tryz.ntmps21
    go_wp2_with (at_builtin; refine wpList_append_sl _ rfl _ _ 49 rfl 66 i0 _ 2 16 Tryz.underlying49 HI.out HZ0.out HZ1.out HZ2.out rfl (by decide) _ 0 [] rfl (Sl.of_row (World.ownsRow_made (base := 0) w #[] 0 (Nat.zero_le _) (Nat.zero_le _) (by simp))) ⟨g, o, none⟩ n cap xs rfl HL.out ?qc H1.out (by unfold maxLen; omega) (by omega) ?_)
    case qc =>
      intro j u hj
      have hcell := HC.out j u hj
      exact (World.cell?_alloc_lt w _ _ (block_lt_of_cell hcell)).trans hcell
    intro v' w1 hs hg ho
    have HS := Lib.hid hs
    have HB : Hid (Below w.heap.size w w1) := Lib.hid ((bel_new w _).grown hg (by simp) (by intro k hk; simp [Value.ownBlock] at hk; omega))
    have HO : Hid (∀ k, v'.ownBlock = some k → w.heap.size ≤ k) := Lib.hid (by
      intro k hk
      rcases ho with h | h
      · rw [hk] at h
        simp [Value.ownBlock] at h
        omega
      · rw [hk] at h
        simp at h
        omega)
    clear hs hg ho
    go_wp2_with fail
    go_ret
    exact ⟨_, rfl, by simpa using HS.out, HO.out, HB.out⟩
theorem infoEvent : (Tryz.prog.info? 79).map (fun i => (i.zero, i.size, i.bytes)) = some (some (.agg #[.int .i64 0, .int .i64 0, .int .i64 0, .int .i64 0, .int .i64 0, .int .i64 0, .int .i64 0, .int .i64 0, .int .i64 0, .int .i64 0, .int .i64 0, .int .i64 0]), 12, 96) := by kernel_rfl
set_option maxRecDepth 100000 in
set_option maxHeartbeats 1000000 in
theorem cloneEvent_any (v : Value) (n : Nat) (xs : List Value) (w : World) (h : Sl w 79 12 v n xs) (h1 : ∀ u ∈ xs, u.oneCell' = true) (hn : n ≤ 1000000) :
    Calls Tryz.prog 64 #[v] w (Cloned w 79 12 n xs) := by
  obtain ⟨A, cap, rfl, _, _, hnone, hsome⟩ := h.shape
  obtain ⟨i0, hi, hz0, hz1, hz2⟩ := info_parts infoEvent
  have hlen := h.1
  have q : ∀ (w : World) (a : Option Addr) (n c n' c' : Nat), (binOp .eql 29 (.slice a n c) (.slice none n' c')).run Tryz.prog w = .ok (.bool a.isNone) w := fun w a n c n' c' => Lib.run_eql_slice_nil w _ _ a n c n' c' Tryz.underlying29
  cases A with
  | none =>
    obtain ⟨rfl, rfl, rfl⟩ := hnone rfl
    clear h h1 hn hsome hnone hlen hi hz0 hz1 hz2
    go_enter Tryz.func64, Tryz.ntmps64
    go_wp2_with fail
    go_ret
    exact ⟨_, rfl, Sl.nil _ _ _, fun k hk => by simp [Value.ownBlock] at hk, Below.refl _ _⟩
  | some ad =>
    obtain ⟨hsp, hob, hc⟩ := hsome ad rfl
    obtain ⟨g, o, sp⟩ := ad
    obtain rfl : sp = none := hsp
    have HC := Lib.hid hc
    have H1 := Lib.hid h1
    have HL := Lib.hid hlen
    have HI := Lib.hid hi
    have HZ0 := Lib.hid hz0
    have HZ1 := Lib.hid hz1
    have HZ2 := Lib.hid hz2
    clear h hnone hsome hc h1 hob hlen hi hz0 hz1 hz2
    go_enter Tryz.func64, Tryz.ntmps64
    go_wp2_with (at_builtin; refine wpList_append_sl _ rfl _ _ 29 rfl 79 i0 _ 12 96 Tryz.underlying29 HI.out HZ0.out HZ1.out HZ2.out rfl (by decide) _ 0 [] rfl (Sl.of_row (World.ownsRow_made (base := 0) w #[] 0 (Nat.zero_le _) (Nat.zero_le _) (by simp))) ⟨g, o, none⟩ n cap xs rfl HL.out ?qc H1.out (by unfold maxLen; omega) (by omega) ?_)
    case qc =>
      intro j u hj
      have hcell := HC.out j u hj
      exact (World.cell?_alloc_lt w _ _ (block_lt_of_cell hcell)).trans hcell
    intro v' w1 hs hg ho
    have HS := Lib.hid hs
    have HB : Hid (Below w.heap.size w w1) := Lib.hid ((bel_new w _).grown hg (by simp) (by intro k hk; simp [Value.ownBlock] at hk; omega))
    have HO : Hid (∀ k, v'.ownBlock = some k → w.heap.size ≤ k) := Lib.hid (by
      intro k hk
      rcases ho with h | h
      · rw [hk] at h
        simp [Value.ownBlock] at h
        omega
      · rw [hk] at h
        simp at h
        omega)
    clear hs hg ho
    go_wp2_with fail
    go_ret
    exact ⟨_, rfl, by simpa using HS.out, HO.out, HB.out⟩
end Go.Proofs.YtmnncbgibngmiaaGreatDoor
namespace Go.Proofs.YtmnncbgibngmiaaGreatDoor
open Go.RowKit
theorem flat_block {α : Type} (f : α → List Int) (n : Nat) : ∀ (L : List α) (i j : Nat) (h : i < L.length), (∀ x ∈ L, (f x).length = n) → j < n → (L.flatMap f)[i * n + j]? = (f L[i])[j]? := by
  intro L
  induction L with
  | nil => intro i j h; simp at h
  | cons x r ih =>
    intro i j h hall hj
    rw [List.flatMap_cons]
    have hx := hall x (by simp)
    cases i with
    | zero =>
      rw [Nat.zero_mul, Nat.zero_add, List.getElem?_append_left (by omega)]
      rfl
    | succ i =>
      have e : (i + 1) * n + j = n + (i * n + j) := by rw [Nat.add_mul]; omega
      rw [e, List.getElem?_append_right (by omega), hx, Nat.add_sub_cancel_left, ih i j (by simpa using h) (fun y hy => hall y (by simp [hy])) hj]
      rfl
theorem flatMap_len {α : Type} (f : α → List Int) (n : Nat) : ∀ (L : List α), (∀ x ∈ L, (f x).length = n) → (L.flatMap f).length = L.length * n := by
  intro L
  induction L with
  | nil => intro _; simp
  | cons x r ih =>
    intro hall
    rw [List.flatMap_cons, List.length_append, hall x (by simp), ih fun y hy => hall y (by simp [hy]), List.length_cons, Nat.add_mul]
    omega
def PL.flat (l : PL) : List Int := l.ws ++ [l.code]
theorem PM.line_eq {m : PM} {i : Nat} (h : i < m.L.length) : m.line i = m.L[i] := by
  unfold PM.line
  rw [List.getD_eq_getElem?_getD, List.getElem?_eq_getElem h]
  rfl
theorem PM.Ok.flat_len {m : PM} (h : m.Ok) : ∀ l ∈ m.L, (l.ws ++ [l.code]).length = 9 := fun l hl => by
  rw [List.length_append, (h.lines l hl).len]
  rfl
/-- The cells of a line. -/
theorem flatL_at {m : PM} (h : m.Ok) {i j : Nat} (hi : i < m.L.length) (hj : j < 9) : (flatL m.L)[i * 9 + j]? = ((m.line i).ws ++ [(m.line i).code])[j]? := by
  rw [PM.line_eq hi]
  exact flat_block (fun l : PL => l.ws ++ [l.code]) 9 m.L i j hi h.flat_len hj
section
variable {w : World} {p b : Nat} {m : PM} {F : Nat → Prop} {dv ev : Value} {D : DataW Value} {G : Nat → Value}
/-- Where a line lies. -/
theorem RepAt.where_ (h : RepAt w p m F dv b ev D G) (hm : m.Ok) : ∃ d o cap, dv = .slice (some ⟨d, o, none⟩) m.L.length cap ∧ m.L.length ≤ cap ∧ cap ≤ maxLen ∧ F d ∧
    ∀ i, i < m.L.length → w.rangeAt d (o + i * 9) (iv (m.line i).ws) ∧ w.cell? ⟨d, o + i * 9 + 8, none⟩ = some (.int .i64 (m.line i).code) := by
  obtain ⟨A, cap, hv, h1, h2, hn, hs⟩ := h.dur.shape
  have hp := hm.pos
  cases A with
  | none => have := (hn rfl).1; omega
  | some ad =>
    obtain ⟨hsp, hob, hc⟩ := hs ad rfl
    obtain ⟨d, o, sp⟩ := ad
    obtain rfl : sp = none := hsp
    refine ⟨d, o, cap, hv, h1, h2, h.ownD d hob, fun i hi => ⟨fun j u hu => ?_, ?_⟩⟩
    · have hj : j < 8 := by
        have := (List.getElem?_eq_some_iff.1 hu).1
        rw [iv_len, (hm.line hi).len] at this
        exact this
      have := hc (i * 9 + j) u (by
        unfold iv
        rw [List.getElem?_map, flatL_at hm hi (by omega), List.getElem?_append_left (by rw [(hm.line hi).len]; exact hj)]
        unfold iv at hu
        rw [List.getElem?_map] at hu
        exact hu)
      rw [← Nat.add_assoc] at this
      exact this
    · have := hc (i * 9 + 8) (.int .i64 (m.line i).code) (by
        unfold iv
        rw [List.getElem?_map, flatL_at hm hi (by omega), List.getElem?_append_right (by rw [(hm.line hi).len]; exact Nat.le_refl _), (hm.line hi).len]
        rfl)
      rw [← Nat.add_assoc] at this
      exact this
end
theorem cell_below {w w' : World} {a : Addr} {v : Value} (hb : Below w.heap.size w w') (h : w.cell? a = some v) : w'.cell? a = some v := by
  rw [hb.cell (block_lt_of_cell h)]
  exact h
theorem range_below {w w' : World} {b o : Nat} {cs : List Value} (hb : Below w.heap.size w w') (h : w.rangeAt b o cs) : w'.rangeAt b o cs := fun j v hv => cell_below hb (h j v hv)
set_option maxRecDepth 100000 in
set_option maxHeartbeats 1000000 in
theorem state_any (p : Nat) (z : Int) (m : PM) (F : Nat → Prop) (w : World) (hz : I64 z) (hm : m.Ok) (h : Rep w p m F) (hT : Tab w) :
    Calls Tryz.prog 20 #[.pointer (some ⟨p, 0, none⟩), .int .i64 z] w fun e w' => e = .returned (.int .i64 (stateP m z)) ∧ Below w.heap.size w w' := by
  have hc := hasLine_any p z m F w hm h
  cases hh : m.has z with
  | false =>
    rw [hh] at hc
    have HE : Hid (stateP m z = -1) := Lib.hid (by unfold stateP; rw [hh]; rfl)
    have HC := Lib.hid hc
    clear hc h
    go_enter Tryz.func20, Tryz.ntmps20
    go_wp2_with (go_at_call 36; refine HC.out.mono ?_; rintro e w' ⟨rfl, rfl⟩)
    go_ret
    exact ⟨by rw [HE.out]; rfl, Below.refl _ _⟩
  | true =>
    rw [hh] at hc
    have hr : 0 ≤ z ∧ z < m.L.length := by unfold PM.has at hh; simpa using hh
    obtain ⟨i, rfl⟩ : ∃ i : Nat, z = i := ⟨z.toNat, by omega⟩
    have hi : i < m.L.length := by omega
    have HE : Hid (stateP m i = (((m.line i).state : Nat) : Int)) := Lib.hid (by unfold stateP; rw [hh]; rfl)
    obtain ⟨dv, b, ev, D, G, h⟩ := h
    have c0 := h.c0
    obtain ⟨d, o, cap, rfl, hcap, _, _, hl⟩ := h.where_ hm
    obtain ⟨l1, l2⟩ := hl i hi
    have h8 := (hm.line hi).len
    have hck := fun w hT => check_any (m.line i).ws (m.line i).code w h8 hT
    unfold t3 at hck
    have hst : (m.line i).state = (chkZ (m.line i).ws (m.line i).code).1 := rfl
    have hf := hm.few
    generalize (m.line i).state = st at *
    subst hst
    have HI := Lib.hid (size22' h8)
    generalize (m.line i).ws = ws at *
    generalize (m.line i).code = c at *
    generalize m.L.length = n at *
    have HT := Lib.hid hT
    have HC := Lib.hid hc
    have HK := Lib.hid hck
    have hnI : (i : Int) < (n : Int) := by omega
    clear hc h hl hck hh hm hT hr
    generalize hq : chkZ ws c = q at *
    clear hq
    go_enter Tryz.func20, Tryz.ntmps20
    go_wp2_with (go_at_call 36; refine HC.out.mono ?_; rintro e w' ⟨rfl, rfl⟩)
    have hu22 := Tryz.underlying39
    have hi22 := HI.out
    refine wp_region_held_drew (S := fun W => W.cell? ⟨p, 0, none⟩ = some (.slice (some ⟨d, o, none⟩) n cap) ∧ W.cell? ⟨d, o + i * 9 + 8, none⟩ = some (.int .i64 c) ∧ W.rangeAt d (o + i * 9) (iv ws)) (by kernel_rfl) ⟨c0, l2, l1⟩ (fun hHeld => ?_)
    refine wpAnyH_take (i := 0) (v := .pointer (some ⟨p, 0, none⟩)) rfl (by kernel_rfl) (by kernel_rfl) (by kernel_rfl) (fun _ _ _ h => h) (Or.inl ⟨by rfl, fun w hSw => by obtain ⟨h1, h2, h3⟩ := hSw; go_simp⟩) (by assumption) ?_
    change wpAnyH _ _ _ _ _ _ _ (Act.put _ (some 13) _) _
    simp only [Act.put, List.setIfInBounds_toArray, List.set_cons_zero, List.set_cons_succ]
    refine wpAnyH_take (i := 1) (v := .pointer (some ⟨p, 0, none⟩)) rfl (by kernel_rfl) (by kernel_rfl) (by kernel_rfl) (fun _ _ _ h => h) (Or.inl ⟨by rfl, fun w hSw => by obtain ⟨h1, h2, h3⟩ := hSw; go_simp⟩) (by assumption) ?_
    change wpAnyH _ _ _ _ _ _ _ (Act.put _ (some 14) _) _
    simp only [Act.put, List.setIfInBounds_toArray, List.set_cons_zero, List.set_cons_succ]
    refine wpAnyH_take (i := 2) (v := .pointer (some ⟨p, 0, none⟩)) rfl (by kernel_rfl) (by kernel_rfl) (by kernel_rfl) (fun _ _ _ h => h) (Or.inl ⟨by rfl, fun w hSw => by obtain ⟨h1, h2, h3⟩ := hSw; go_simp⟩) (by assumption) ?_
    change wpAnyH _ _ _ _ _ _ _ (Act.put _ (some 15) _) _
    simp only [Act.put, List.setIfInBounds_toArray, List.set_cons_zero, List.set_cons_succ]
    refine wpAnyH_take (i := 3) (v := .slice (some ⟨d, o, none⟩) n cap) rfl (by kernel_rfl) (by kernel_rfl) (by kernel_rfl) (fun _ _ _ h => h) (Or.inl ⟨by rfl, fun w hSw => by obtain ⟨h1, h2, h3⟩ := hSw; go_simp⟩) (by assumption) ?_
    change wpAnyH _ _ _ _ _ _ _ (Act.put _ (some 16) _) _
    simp only [Act.put, List.setIfInBounds_toArray, List.set_cons_zero, List.set_cons_succ]
    refine wpAnyH_take (i := 4) (v := .int .i64 (i : Int)) rfl (by kernel_rfl) (by kernel_rfl) (by kernel_rfl) (fun _ _ _ h => h) (Or.inl ⟨by rfl, fun w hSw => by obtain ⟨h1, h2, h3⟩ := hSw; go_simp⟩) (by assumption) ?_
    change wpAnyH _ _ _ _ _ _ _ (Act.put _ (some 17) _) _
    simp only [Act.put, List.setIfInBounds_toArray, List.set_cons_zero, List.set_cons_succ]
    refine wpAnyH_take (i := 5) (v := .pointer (some ⟨d, o + i * 9, none⟩)) rfl (by kernel_rfl) (by kernel_rfl) (by kernel_rfl) (fun _ _ _ h => h) (Or.inl ⟨by rfl, fun w hSw => by obtain ⟨h1, h2, h3⟩ := hSw; go_simp⟩) (by assumption) ?_
    change wpAnyH _ _ _ _ _ _ _ (Act.put _ (some 18) _) _
    simp only [Act.put, List.setIfInBounds_toArray, List.set_cons_zero, List.set_cons_succ]
    refine wpAnyH_take (i := 6) (v := .pointer (some ⟨d, o + i * 9, none⟩)) rfl (by kernel_rfl) (by kernel_rfl) (by kernel_rfl) (fun _ _ _ h => h) (Or.inl ⟨by rfl, fun w hSw => by obtain ⟨h1, h2, h3⟩ := hSw; go_simp⟩) (by assumption) ?_
    change wpAnyH _ _ _ _ _ _ _ (Act.put _ (some 19) _) _
    simp only [Act.put, List.setIfInBounds_toArray, List.set_cons_zero, List.set_cons_succ]
    refine wpAnyH_take (i := 7) (v := .agg (iv ws).toArray) rfl (by kernel_rfl) (by kernel_rfl) (by kernel_rfl) (fun _ _ _ h => h) (yieldsIf_load_mid (by rfl) _ _ rfl _ _ rfl _ _ (fun w h => h.2.2) hu22 rfl hi22) (by assumption) ?_
    change wpAnyH _ _ _ _ _ _ _ (Act.put _ (some 20) _) _
    simp only [Act.put, List.setIfInBounds_toArray, List.set_cons_zero, List.set_cons_succ]
    refine wpAnyH_take (i := 8) (v := .pointer (some ⟨p, 0, none⟩)) rfl (by kernel_rfl) (by kernel_rfl) (by kernel_rfl) (fun _ _ _ h => h) (Or.inl ⟨by rfl, fun w hSw => by obtain ⟨h1, h2, h3⟩ := hSw; go_simp⟩) (by assumption) ?_
    change wpAnyH _ _ _ _ _ _ _ (Act.put _ (some 21) _) _
    simp only [Act.put, List.setIfInBounds_toArray, List.set_cons_zero, List.set_cons_succ]
    refine wpAnyH_take (i := 9) (v := .pointer (some ⟨p, 0, none⟩)) rfl (by kernel_rfl) (by kernel_rfl) (by kernel_rfl) (fun _ _ _ h => h) (Or.inl ⟨by rfl, fun w hSw => by obtain ⟨h1, h2, h3⟩ := hSw; go_simp⟩) (by assumption) ?_
    change wpAnyH _ _ _ _ _ _ _ (Act.put _ (some 22) _) _
    simp only [Act.put, List.setIfInBounds_toArray, List.set_cons_zero, List.set_cons_succ]
    refine wpAnyH_take (i := 10) (v := .pointer (some ⟨p, 0, none⟩)) rfl (by kernel_rfl) (by kernel_rfl) (by kernel_rfl) (fun _ _ _ h => h) (Or.inl ⟨by rfl, fun w hSw => by obtain ⟨h1, h2, h3⟩ := hSw; go_simp⟩) (by assumption) ?_
    change wpAnyH _ _ _ _ _ _ _ (Act.put _ (some 23) _) _
    simp only [Act.put, List.setIfInBounds_toArray, List.set_cons_zero, List.set_cons_succ]
    refine wpAnyH_take (i := 11) (v := .slice (some ⟨d, o, none⟩) n cap) rfl (by kernel_rfl) (by kernel_rfl) (by kernel_rfl) (fun _ _ _ h => h) (Or.inl ⟨by rfl, fun w hSw => by obtain ⟨h1, h2, h3⟩ := hSw; go_simp⟩) (by assumption) ?_
    change wpAnyH _ _ _ _ _ _ _ (Act.put _ (some 24) _) _
    simp only [Act.put, List.setIfInBounds_toArray, List.set_cons_zero, List.set_cons_succ]
    refine wpAnyH_take (i := 12) (v := .int .i64 (i : Int)) rfl (by kernel_rfl) (by kernel_rfl) (by kernel_rfl) (fun _ _ _ h => h) (Or.inl ⟨by rfl, fun w hSw => by obtain ⟨h1, h2, h3⟩ := hSw; go_simp⟩) (by assumption) ?_
    change wpAnyH _ _ _ _ _ _ _ (Act.put _ (some 25) _) _
    simp only [Act.put, List.setIfInBounds_toArray, List.set_cons_zero, List.set_cons_succ]
    refine wpAnyH_take (i := 13) (v := .pointer (some ⟨d, o + i * 9, none⟩)) rfl (by kernel_rfl) (by kernel_rfl) (by kernel_rfl) (fun _ _ _ h => h) (Or.inl ⟨by rfl, fun w hSw => by obtain ⟨h1, h2, h3⟩ := hSw; go_simp⟩) (by assumption) ?_
    change wpAnyH _ _ _ _ _ _ _ (Act.put _ (some 26) _) _
    simp only [Act.put, List.setIfInBounds_toArray, List.set_cons_zero, List.set_cons_succ]
    refine wpAnyH_take (i := 14) (v := .pointer (some ⟨d, o + i * 9 + 8, none⟩)) rfl (by kernel_rfl) (by kernel_rfl) (by kernel_rfl) (fun _ _ _ h => h) (Or.inl ⟨by rfl, fun w hSw => by obtain ⟨h1, h2, h3⟩ := hSw; go_simp⟩) (by assumption) ?_
    change wpAnyH _ _ _ _ _ _ _ (Act.put _ (some 27) _) _
    simp only [Act.put, List.setIfInBounds_toArray, List.set_cons_zero, List.set_cons_succ]
    refine wpAnyH_take (i := 15) (v := .int .i64 c) rfl (by kernel_rfl) (by kernel_rfl) (by kernel_rfl) (fun _ _ _ h => h) (Or.inl ⟨by rfl, fun w hSw => by obtain ⟨h1, h2, h3⟩ := hSw; go_simp⟩) (by assumption) ?_
    change wpAnyH _ _ _ _ _ _ _ (Act.put _ (some 28) _) _
    simp only [Act.put, List.setIfInBounds_toArray, List.set_cons_zero, List.set_cons_succ]
    refine wpAnyH_ready (rs := [16]) (by kernel_rfl) (by simp) ?_
    refine AllReadyH.cons rfl (fun K hK => ?_) AllReadyH.nil
    go_simp
    refine (HK.out _ (HT.out.keep (bel_drew _))).mono ?_
    rintro e w1 ⟨rfl, hb⟩
    refine hK.out _ _ ⟨cell_below hb c0, cell_below hb l2, range_below hb l1⟩ (fun hHeld1 => ?_)
    clear hK K hHeld
    refine wpAnyH_take (i := 17) (v := .tuple #[.int .i64 (q.1 : Int), .int .i64 (q.2.1 : Int), .int .i64 (q.2.2 : Int)]) rfl (by kernel_rfl) (by kernel_rfl) (by kernel_rfl) (fun _ _ _ h => h) (Or.inl ⟨by rfl, fun w hSw => by obtain ⟨h1, h2, h3⟩ := hSw; go_simp⟩) (by assumption) ?_
    change wpAnyH _ _ _ _ _ _ _ (Act.put _ (some 12) _) _
    simp only [Act.put, List.setIfInBounds_toArray, List.set_cons_zero, List.set_cons_succ]
    refine wpAnyH_take (i := 18) (v := .int .i64 (q.1 : Int)) rfl (by kernel_rfl) (by kernel_rfl) (by kernel_rfl) (fun _ _ _ h => h) (Or.inl ⟨by rfl, fun w hSw => by obtain ⟨h1, h2, h3⟩ := hSw; go_simp⟩) (by assumption) ?_
    change wpAnyH _ _ _ _ _ _ _ (Act.put _ (some 30) _) _
    simp only [Act.put, List.setIfInBounds_toArray, List.set_cons_zero, List.set_cons_succ]
    refine wpAnyH_take (i := 19) (v := .int .i64 (q.2.1 : Int)) rfl (by kernel_rfl) (by kernel_rfl) (by kernel_rfl) (fun _ _ _ h => h) (Or.inl ⟨by rfl, fun w hSw => by obtain ⟨h1, h2, h3⟩ := hSw; go_simp⟩) (by assumption) ?_
    change wpAnyH _ _ _ _ _ _ _ (Act.put _ (some 31) _) _
    simp only [Act.put, List.setIfInBounds_toArray, List.set_cons_zero, List.set_cons_succ]
    refine wpAnyH_take (i := 20) (v := .int .i64 (q.2.2 : Int)) rfl (by kernel_rfl) (by kernel_rfl) (by kernel_rfl) (fun _ _ _ h => h) (Or.inl ⟨by rfl, fun w hSw => by obtain ⟨h1, h2, h3⟩ := hSw; go_simp⟩) (by assumption) ?_
    change wpAnyH _ _ _ _ _ _ _ (Act.put _ (some 32) _) _
    simp only [Act.put, List.setIfInBounds_toArray, List.set_cons_zero, List.set_cons_succ]
    refine wpAnyH_take (i := 21) (v := .int .i64 (q.1 : Int)) rfl (by kernel_rfl) (by kernel_rfl) (by kernel_rfl) (fun _ _ _ h => h) (Or.inl ⟨by rfl, fun w hSw => by obtain ⟨h1, h2, h3⟩ := hSw; go_simp⟩) (by assumption) ?_
    change wpAnyH _ _ _ _ _ _ _ (Act.put _ (some 5) _) _
    simp only [Act.put, List.setIfInBounds_toArray, List.set_cons_zero, List.set_cons_succ]
    refine wpAnyH_take (i := 22) (v := .int .i64 (q.2.1 : Int)) rfl (by kernel_rfl) (by kernel_rfl) (by kernel_rfl) (fun _ _ _ h => h) (Or.inl ⟨by rfl, fun w hSw => by obtain ⟨h1, h2, h3⟩ := hSw; go_simp⟩) (by assumption) ?_
    change wpAnyH _ _ _ _ _ _ _ (Act.put _ (some 6) _) _
    simp only [Act.put, List.setIfInBounds_toArray, List.set_cons_zero, List.set_cons_succ]
    refine wpAnyH_take (i := 23) (v := .int .i64 (q.2.2 : Int)) rfl (by kernel_rfl) (by kernel_rfl) (by kernel_rfl) (fun _ _ _ h => h) (Or.inl ⟨by rfl, fun w hSw => by obtain ⟨h1, h2, h3⟩ := hSw; go_simp⟩) (by assumption) ?_
    change wpAnyH _ _ _ _ _ _ _ (Act.put _ (some 7) _) _
    simp only [Act.put, List.setIfInBounds_toArray, List.set_cons_zero, List.set_cons_succ]
    refine wpAnyH_done (by kernel_rfl) ?_ _
    have HB := Lib.hid (bel_on (bel_drew _) hb)
    clear hb
    go_wp2_with fail
    go_ret
    exact ⟨by rw [HE.out]; rfl, HB.out⟩
end Go.Proofs.YtmnncbgibngmiaaGreatDoor
