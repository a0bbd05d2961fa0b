/-
  What the reference's has, Check and State do. What the reference's Shows does. append of whatever slice; what the reference's Pending does. What the reference's Load and Set do. What alumref04's word, Words, Right and SameImage do. Lines whose cells are written, events that are recorded; what the reference's Flush does.
-/
import Derived.Test.YtpojhplnhppcpaaGreatDoorQR6
import Derived.StillTailTactics
import Derived.Test.YtpojhplnhppcpaaGreatDoorQN22z
import Derived.Test.YtpojhplnhppcpaaGreatDoorQC8
import Derived.Test.YtpojhplnhppcpaaGreatDoorQN17
namespace Go.Proofs.YtpojhplnhppcpaaGreatDoor
open Go.RowKit Go.Maps
set_option maxRecDepth 100000 in
set_option maxHeartbeats 8000000 in
set_option linter.unusedSimpArgs false in
theorem rHas_any (p : Nat) (z : Int) (m : PM) (F : Nat → Prop) (w : World) (h : Ref w p m F) :
    Calls Tryz.prog 134 #[.pointer (some ⟨p, 0, none⟩), .int .i64 z] w fun e w' => e = .returned (.bool (m.has z)) ∧ w' = w := by
  obtain ⟨d, o, cap, ev, X, h⟩ := h
  have c0 := h.c0
  obtain ⟨R, hR⟩ : ∃ R, m.has z = R := ⟨_, rfl⟩
  rw [hR]
  unfold PM.has at hR
  have HR := Lib.hid hR
  clear h hR
  generalize m.L.length = N at *
  have go : ∀ b, R = b → (b = true → 0 ≤ z ∧ z < (N : Int)) → (b = false → ¬ (0 ≤ z ∧ z < (N : Int))) → Calls Tryz.prog 134 #[.pointer (some ⟨p, 0, none⟩), .int .i64 z] w fun e w' => e = .returned (.bool b) ∧ w' = w := by
    intro b _ ht hf
    cases b with
    | true =>
      obtain ⟨h0, h1⟩ := ht rfl
      clear ht hf
      go_enter Tryz.func134, Tryz.ntmps134
      go_wp2_with fail
      go_ret
      exact ⟨rfl, rfl⟩
    | false =>
      have h2 := hf rfl
      clear ht hf
      by_cases h0 : 0 ≤ z
      · have h1 : ¬ z < (N : Int) := fun h => h2 ⟨h0, h⟩
        clear h2
        go_enter Tryz.func134, Tryz.ntmps134
        go_wp2_with fail
        go_ret
        exact ⟨rfl, rfl⟩
      · clear h2
        go_enter Tryz.func134, Tryz.ntmps134
        go_wp2_with fail
        go_ret
        exact ⟨rfl, rfl⟩
  exact go R rfl (fun h => by rw [← HR.out] at h; exact of_decide_eq_true h) (fun h => by rw [← HR.out] at h; exact of_decide_eq_false h)
set_option maxRecDepth 100000 in
set_option maxHeartbeats 8000000 in
set_option linter.unusedSimpArgs false in
theorem rCheck_any (L : List Int) (c : Int) (w : World) (h8 : L.length = 8) :
    Calls Tryz.prog 185 #[.agg (iv L).toArray, .int .i64 c] w fun e w' => e = .returned (.tuple #[.int .i64 ((chkZ L c).1 : Nat), .int .i64 ((chkZ L c).2.1 : Nat), .int .i64 ((chkZ L c).2.2 : Nat)]) ∧ Below w.heap.size w w' := by
  have hA := Arr.new w (iv L) 66
  have HA := Lib.hid hA
  have HB := Lib.hid (bel_new w (.cells (iv L).toArray 66))
  have HI := Lib.hid (size22' h8)
  have H22 := Lib.hid Tryz.underlying66
  have HC := Lib.hid fun w => rChecked_any L c w h8
  generalize chkZ L c = R at *
  obtain ⟨a, k, b⟩ := R
  have hst : stV (a, k, b) = .agg #[.int .i64 (a : Nat), .int .i64 (k : Nat), .int .i64 (b : Nat)] := rfl
  rw [hst] at HC
  clear hA hst
  go_enter Tryz.func185, Tryz.ntmps185
  go_wp2_with ((with_reducible refine arm_row 66 w.heap.size 66 _ HA.out _ H22.out rfl HI.out rfl _ rfl ?_ ?_); focus rfl)
  refine (HC.out _).mono ?_
  rintro e w1 ⟨rfl, hb⟩
  have HB1 := Lib.hid (bel_on HB.out hb)
  clear hb
  go_wp2_with fail
  go_quiet (fail)
  go_wp2_with fail
  refine bodyPost_ret (results_tmp3 rfl _ _ _) rfl ?_
  exact ⟨rfl, below_drewN (bel_on HB1.out (bel_new _ _)) _⟩
set_option maxRecDepth 100000 in
set_option maxHeartbeats 8000000 in
set_option linter.unusedSimpArgs false in
theorem rState_any (p : Nat) (z : Int) (m : PM) (F : Nat → Prop) (w : World) (hm : m.Ok) (h : Ref w p m F) :
    Calls Tryz.prog 156 #[.pointer (some ⟨p, 0, none⟩), .int .i64 z] w fun e w' => e = .returned (.int .i64 (stateP m z)) ∧ Below w.heap.size w w' := by
  have hha := rHas_any p z m F w h
  have hst : stateP m z = if m.has z then (((m.line z.toNat).state : Nat) : Int) else -1 := rfl
  cases hh : m.has z with
  | false =>
    rw [hh] at hha hst
    rw [hst, if_neg (by simp)]
    have HH := Lib.hid hha
    clear hha hst h hm
    go_enter Tryz.func156, Tryz.ntmps156
    go_wp2_with (go_at_call 134; refine HH.out.mono ?_; rintro e w' ⟨rfl, hw'⟩; obtain rfl := hw'.symm)
    go_ret
    exact ⟨rfl, Below.refl _ _⟩
  | true =>
    have hin : 0 ≤ z ∧ z < (m.L.length : Int) := by unfold PM.has at hh; simpa using hh
    obtain ⟨i, rfl⟩ : ∃ i : Nat, z = i := ⟨z.toNat, by omega⟩
    have hi : i < m.L.length := by omega
    rw [hh] at hha hst
    rw [hst, if_pos rfl, Int.toNat_natCast]
    obtain ⟨d, o, cap, ev, X, h⟩ := h
    have c0 := cell_below (bel_drew w) h.c0
    obtain ⟨v, _, _, hr, hc, _, _, _⟩ := h.at hm hi
    have r1 := range_below (bel_drew w) hr
    have r2 := cell_below (bel_drew w) hc
    have h8 := (hm.line hi).len
    have hi22 := size22' h8
    have hu22 := Tryz.underlying66
    have HCK := Lib.hid fun w => rCheck_any (m.line i).ws (m.line i).code w h8
    have HS : Hid ((m.line i).state = (chkZ (m.line i).ws (m.line i).code).1) := Lib.hid rfl
    have hcp := h.cap_
    generalize (m.line i).state = R at *
    generalize (m.line i).ws = ws at *
    generalize (m.line i).code = c at *
    obtain ⟨⟨sa, sk, sb⟩, hck⟩ : ∃ r, chkZ ws c = r := ⟨_, rfl⟩
    rw [hck] at HCK HS
    simp only at HCK
    have HH := Lib.hid hha
    generalize m.L.length = N at *
    have hiI : (i : Int) < (N : Int) := by omega
    clear hha hst h hm hh hr hc hck h8
    go_enter Tryz.func156, Tryz.ntmps156
    go_wp2_with (go_at_call 134; refine HH.out.mono ?_; rintro e w' ⟨rfl, hw'⟩; obtain rfl := hw'.symm)
    refine wp_region_held_drew (S := fun W => W.cell? ⟨p, 0, none⟩ = some (.slice (some ⟨d, o, none⟩) N cap) ∧ W.cell? ⟨d, o + i * 11 + 8, none⟩ = some (.int .i64 c) ∧ W.rangeAt d (o + i * 11) (iv ws)) (by kernel_rfl) ⟨c0, r2, r1⟩ (fun hHeld => ?_)
    refine wpAnyH_take (i := 0) (v := .pointer (some ⟨p, 0, none⟩)) rfl (by kernel_rfl) (by kernel_rfl) (by kernel_rfl) (fun _ _ _ h => h) (Or.inl ⟨by rfl, fun w hSw => by obtain ⟨h1, h2, h3⟩ := hSw; go_simp⟩) (by assumption) ?_
    change wpAnyH _ _ _ _ _ _ _ (Act.put _ (some 13) _) _
    simp only [Act.put, List.setIfInBounds_toArray, List.set_cons_zero, List.set_cons_succ]
    refine wpAnyH_take (i := 1) (v := .pointer (some ⟨p, 0, none⟩)) rfl (by kernel_rfl) (by kernel_rfl) (by kernel_rfl) (fun _ _ _ h => h) (Or.inl ⟨by rfl, fun w hSw => by obtain ⟨h1, h2, h3⟩ := hSw; go_simp⟩) (by assumption) ?_
    change wpAnyH _ _ _ _ _ _ _ (Act.put _ (some 14) _) _
    simp only [Act.put, List.setIfInBounds_toArray, List.set_cons_zero, List.set_cons_succ]
    refine wpAnyH_take (i := 2) (v := .pointer (some ⟨p, 0, none⟩)) rfl (by kernel_rfl) (by kernel_rfl) (by kernel_rfl) (fun _ _ _ h => h) (Or.inl ⟨by rfl, fun w hSw => by obtain ⟨h1, h2, h3⟩ := hSw; go_simp⟩) (by assumption) ?_
    change wpAnyH _ _ _ _ _ _ _ (Act.put _ (some 15) _) _
    simp only [Act.put, List.setIfInBounds_toArray, List.set_cons_zero, List.set_cons_succ]
    refine wpAnyH_take (i := 3) (v := .slice (some ⟨d, o, none⟩) N cap) rfl (by kernel_rfl) (by kernel_rfl) (by kernel_rfl) (fun _ _ _ h => h) (Or.inl ⟨by rfl, fun w hSw => by obtain ⟨h1, h2, h3⟩ := hSw; go_simp⟩) (by assumption) ?_
    change wpAnyH _ _ _ _ _ _ _ (Act.put _ (some 16) _) _
    simp only [Act.put, List.setIfInBounds_toArray, List.set_cons_zero, List.set_cons_succ]
    refine wpAnyH_take (i := 4) (v := .int .i64 (i : Int)) rfl (by kernel_rfl) (by kernel_rfl) (by kernel_rfl) (fun _ _ _ h => h) (Or.inl ⟨by rfl, fun w hSw => by obtain ⟨h1, h2, h3⟩ := hSw; go_simp⟩) (by assumption) ?_
    change wpAnyH _ _ _ _ _ _ _ (Act.put _ (some 17) _) _
    simp only [Act.put, List.setIfInBounds_toArray, List.set_cons_zero, List.set_cons_succ]
    refine wpAnyH_take (i := 5) (v := .pointer (some ⟨d, o + i * 11, none⟩)) rfl (by kernel_rfl) (by kernel_rfl) (by kernel_rfl) (fun _ _ _ h => h) (Or.inl ⟨by rfl, fun w hSw => by obtain ⟨h1, h2, h3⟩ := hSw; go_simp⟩) (by assumption) ?_
    change wpAnyH _ _ _ _ _ _ _ (Act.put _ (some 18) _) _
    simp only [Act.put, List.setIfInBounds_toArray, List.set_cons_zero, List.set_cons_succ]
    refine wpAnyH_take (i := 6) (v := .pointer (some ⟨d, o + i * 11, none⟩)) rfl (by kernel_rfl) (by kernel_rfl) (by kernel_rfl) (fun _ _ _ h => h) (Or.inl ⟨by rfl, fun w hSw => by obtain ⟨h1, h2, h3⟩ := hSw; go_simp⟩) (by assumption) ?_
    change wpAnyH _ _ _ _ _ _ _ (Act.put _ (some 19) _) _
    simp only [Act.put, List.setIfInBounds_toArray, List.set_cons_zero, List.set_cons_succ]
    refine wpAnyH_take (i := 7) (v := .agg (iv ws).toArray) rfl (by kernel_rfl) (by kernel_rfl) (by kernel_rfl) (fun _ _ _ h => h) (yieldsIf_load_mid (by rfl) _ _ rfl _ _ rfl _ _ (fun w h => h.2.2) hu22 rfl hi22) (by assumption) ?_
    change wpAnyH _ _ _ _ _ _ _ (Act.put _ (some 20) _) _
    simp only [Act.put, List.setIfInBounds_toArray, List.set_cons_zero, List.set_cons_succ]
    refine wpAnyH_take (i := 8) (v := .pointer (some ⟨p, 0, none⟩)) rfl (by kernel_rfl) (by kernel_rfl) (by kernel_rfl) (fun _ _ _ h => h) (Or.inl ⟨by rfl, fun w hSw => by obtain ⟨h1, h2, h3⟩ := hSw; go_simp⟩) (by assumption) ?_
    change wpAnyH _ _ _ _ _ _ _ (Act.put _ (some 21) _) _
    simp only [Act.put, List.setIfInBounds_toArray, List.set_cons_zero, List.set_cons_succ]
    refine wpAnyH_take (i := 9) (v := .pointer (some ⟨p, 0, none⟩)) rfl (by kernel_rfl) (by kernel_rfl) (by kernel_rfl) (fun _ _ _ h => h) (Or.inl ⟨by rfl, fun w hSw => by obtain ⟨h1, h2, h3⟩ := hSw; go_simp⟩) (by assumption) ?_
    change wpAnyH _ _ _ _ _ _ _ (Act.put _ (some 22) _) _
    simp only [Act.put, List.setIfInBounds_toArray, List.set_cons_zero, List.set_cons_succ]
    refine wpAnyH_take (i := 10) (v := .pointer (some ⟨p, 0, none⟩)) rfl (by kernel_rfl) (by kernel_rfl) (by kernel_rfl) (fun _ _ _ h => h) (Or.inl ⟨by rfl, fun w hSw => by obtain ⟨h1, h2, h3⟩ := hSw; go_simp⟩) (by assumption) ?_
    change wpAnyH _ _ _ _ _ _ _ (Act.put _ (some 23) _) _
    simp only [Act.put, List.setIfInBounds_toArray, List.set_cons_zero, List.set_cons_succ]
    refine wpAnyH_take (i := 11) (v := .slice (some ⟨d, o, none⟩) N cap) rfl (by kernel_rfl) (by kernel_rfl) (by kernel_rfl) (fun _ _ _ h => h) (Or.inl ⟨by rfl, fun w hSw => by obtain ⟨h1, h2, h3⟩ := hSw; go_simp⟩) (by assumption) ?_
    change wpAnyH _ _ _ _ _ _ _ (Act.put _ (some 24) _) _
    simp only [Act.put, List.setIfInBounds_toArray, List.set_cons_zero, List.set_cons_succ]
    refine wpAnyH_take (i := 12) (v := .int .i64 (i : Int)) rfl (by kernel_rfl) (by kernel_rfl) (by kernel_rfl) (fun _ _ _ h => h) (Or.inl ⟨by rfl, fun w hSw => by obtain ⟨h1, h2, h3⟩ := hSw; go_simp⟩) (by assumption) ?_
    change wpAnyH _ _ _ _ _ _ _ (Act.put _ (some 25) _) _
    simp only [Act.put, List.setIfInBounds_toArray, List.set_cons_zero, List.set_cons_succ]
    refine wpAnyH_take (i := 13) (v := .pointer (some ⟨d, o + i * 11, none⟩)) rfl (by kernel_rfl) (by kernel_rfl) (by kernel_rfl) (fun _ _ _ h => h) (Or.inl ⟨by rfl, fun w hSw => by obtain ⟨h1, h2, h3⟩ := hSw; go_simp⟩) (by assumption) ?_
    change wpAnyH _ _ _ _ _ _ _ (Act.put _ (some 26) _) _
    simp only [Act.put, List.setIfInBounds_toArray, List.set_cons_zero, List.set_cons_succ]
    refine wpAnyH_take (i := 14) (v := .pointer (some ⟨d, o + i * 11 + 8, none⟩)) rfl (by kernel_rfl) (by kernel_rfl) (by kernel_rfl) (fun _ _ _ h => h) (Or.inl ⟨by rfl, fun w hSw => by obtain ⟨h1, h2, h3⟩ := hSw; go_simp⟩) (by assumption) ?_
    change wpAnyH _ _ _ _ _ _ _ (Act.put _ (some 27) _) _
    simp only [Act.put, List.setIfInBounds_toArray, List.set_cons_zero, List.set_cons_succ]
    refine wpAnyH_take (i := 15) (v := .int .i64 c) rfl (by kernel_rfl) (by kernel_rfl) (by kernel_rfl) (fun _ _ _ h => h) (Or.inl ⟨by rfl, fun w hSw => by obtain ⟨h1, h2, h3⟩ := hSw; go_simp⟩) (by assumption) ?_
    change wpAnyH _ _ _ _ _ _ _ (Act.put _ (some 28) _) _
    simp only [Act.put, List.setIfInBounds_toArray, List.set_cons_zero, List.set_cons_succ]
    refine wpAnyH_ready (rs := [16]) (by kernel_rfl) (by simp) ?_
    refine AllReadyH.cons rfl (fun K hK => ?_) AllReadyH.nil
    go_simp
    refine (HCK.out _).mono ?_
    rintro e w1 ⟨rfl, hb⟩
    refine hK.out _ _ ⟨cell_below hb c0, cell_below hb r2, range_below hb r1⟩ (fun hHeld1 => ?_)
    clear hK K hHeld
    have HB := Lib.hid (bel_on (bel_drew w) hb)
    clear hb
    refine wpAnyH_take (i := 17) (v := .tuple #[.int .i64 (sa : Nat), .int .i64 (sk : Nat), .int .i64 (sb : Nat)]) rfl (by kernel_rfl) (by kernel_rfl) (by kernel_rfl) (fun _ _ _ h => h) (Or.inl ⟨by rfl, fun w hSw => by obtain ⟨h1, h2, h3⟩ := hSw; go_simp⟩) (by assumption) ?_
    change wpAnyH _ _ _ _ _ _ _ (Act.put _ (some 12) _) _
    simp only [Act.put, List.setIfInBounds_toArray, List.set_cons_zero, List.set_cons_succ]
    refine wpAnyH_take (i := 18) (v := .int .i64 (sa : Nat)) rfl (by kernel_rfl) (by kernel_rfl) (by kernel_rfl) (fun _ _ _ h => h) (Or.inl ⟨by rfl, fun w hSw => by obtain ⟨h1, h2, h3⟩ := hSw; go_simp⟩) (by assumption) ?_
    change wpAnyH _ _ _ _ _ _ _ (Act.put _ (some 30) _) _
    simp only [Act.put, List.setIfInBounds_toArray, List.set_cons_zero, List.set_cons_succ]
    refine wpAnyH_take (i := 19) (v := .int .i64 (sk : Nat)) rfl (by kernel_rfl) (by kernel_rfl) (by kernel_rfl) (fun _ _ _ h => h) (Or.inl ⟨by rfl, fun w hSw => by obtain ⟨h1, h2, h3⟩ := hSw; go_simp⟩) (by assumption) ?_
    change wpAnyH _ _ _ _ _ _ _ (Act.put _ (some 31) _) _
    simp only [Act.put, List.setIfInBounds_toArray, List.set_cons_zero, List.set_cons_succ]
    refine wpAnyH_take (i := 20) (v := .int .i64 (sb : Nat)) rfl (by kernel_rfl) (by kernel_rfl) (by kernel_rfl) (fun _ _ _ h => h) (Or.inl ⟨by rfl, fun w hSw => by obtain ⟨h1, h2, h3⟩ := hSw; go_simp⟩) (by assumption) ?_
    change wpAnyH _ _ _ _ _ _ _ (Act.put _ (some 32) _) _
    simp only [Act.put, List.setIfInBounds_toArray, List.set_cons_zero, List.set_cons_succ]
    refine wpAnyH_take (i := 21) (v := .int .i64 (sa : Nat)) rfl (by kernel_rfl) (by kernel_rfl) (by kernel_rfl) (fun _ _ _ h => h) (Or.inl ⟨by rfl, fun w hSw => by obtain ⟨h1, h2, h3⟩ := hSw; go_simp⟩) (by assumption) ?_
    change wpAnyH _ _ _ _ _ _ _ (Act.put _ (some 5) _) _
    simp only [Act.put, List.setIfInBounds_toArray, List.set_cons_zero, List.set_cons_succ]
    refine wpAnyH_take (i := 22) (v := .int .i64 (sk : Nat)) rfl (by kernel_rfl) (by kernel_rfl) (by kernel_rfl) (fun _ _ _ h => h) (Or.inl ⟨by rfl, fun w hSw => by obtain ⟨h1, h2, h3⟩ := hSw; go_simp⟩) (by assumption) ?_
    change wpAnyH _ _ _ _ _ _ _ (Act.put _ (some 6) _) _
    simp only [Act.put, List.setIfInBounds_toArray, List.set_cons_zero, List.set_cons_succ]
    refine wpAnyH_take (i := 23) (v := .int .i64 (sb : Nat)) rfl (by kernel_rfl) (by kernel_rfl) (by kernel_rfl) (fun _ _ _ h => h) (Or.inl ⟨by rfl, fun w hSw => by obtain ⟨h1, h2, h3⟩ := hSw; go_simp⟩) (by assumption) ?_
    change wpAnyH _ _ _ _ _ _ _ (Act.put _ (some 7) _) _
    simp only [Act.put, List.setIfInBounds_toArray, List.set_cons_zero, List.set_cons_succ]
    refine wpAnyH_done (by kernel_rfl) ?_ _
    go_wp2_with fail
    go_ret
    exact ⟨by rw [HS.out]; rfl, HB.out⟩
end Go.Proofs.YtpojhplnhppcpaaGreatDoor
namespace Go.Proofs.YtpojhplnhppcpaaGreatDoor
open Go.RowKit Go.Maps
theorem size51 : (Tryz.prog.info? 130).map (·.size) = some 11 := by kernel_rfl
theorem lnR_one {x : PL × Value} (h : x.2.oneCell' = true) : ∀ v ∈ lnR x, v.oneCell' = true := fun v hv => by
  unfold lnR at hv
  rcases List.mem_append.1 hv with h1 | h1
  · exact iv_one _ v h1
  · simp only [List.mem_cons, List.not_mem_nil, or_false] at h1
    rcases h1 with rfl | rfl
    · exact h
    · rfl
theorem Sl.one {w : World} {e sz n : Nat} {v : Value} {xs : List Value} (h : Sl w e sz v n xs) : v.oneCell' = true := by
  obtain ⟨A, cap, rfl, _⟩ := h.shape
  rfl
theorem lnR_ws {w : World} {b o : Nat} {x : PL × Value} (h8 : x.1.ws.length = 8) (h : w.rangeAt b o (lnR x)) : w.rangeAt b o (iv x.1.ws) ∧ w.cell? ⟨b, o + 8, none⟩ = some (.int .i64 x.1.code) ∧ w.cell? ⟨b, o + 9, none⟩ = some x.2 ∧ w.cell? ⟨b, o + 10, none⟩ = some (.int .i64 (x.1.mark : Int)) := by
  have hlen : (iv (x.1.ws ++ [x.1.code])).length = 9 := by rw [iv_len, List.length_append, h8]; rfl
  refine ⟨fun j u hj => h j u ?_, h 8 _ ?_, h 9 _ ?_, h 10 _ ?_⟩
  · have hj8 : j < 8 := by
      have := (List.getElem?_eq_some_iff.1 hj).1
      rw [iv_len, h8] at this
      exact this
    unfold lnR
    rw [List.getElem?_append_left (by rw [hlen]; omega)]
    unfold iv at hj ⊢
    rw [List.map_append, List.getElem?_append_left (by rw [List.length_map, h8]; exact hj8)]
    exact hj
  · unfold lnR
    rw [List.getElem?_append_left (by rw [hlen]; omega)]
    unfold iv
    rw [List.map_append, List.getElem?_append_right (by rw [List.length_map, h8]; omega), List.length_map, h8]
    rfl
  · unfold lnR
    rw [List.getElem?_append_right (by rw [hlen]; omega), hlen]
    rfl
  · unfold lnR
    rw [List.getElem?_append_right (by rw [hlen]; omega), hlen]
    rfl
end Go.Proofs.YtpojhplnhppcpaaGreatDoor
namespace Go.Proofs.YtpojhplnhppcpaaGreatDoor
open Go.RowKit Go.Maps
theorem run_append_rd (w : World) (t ty e : TypeId) (i : TypeInfo) (z : Value) (size bytes : Nat) (ht : Tryz.prog.underlying t = some (.slice e)) (hi : Tryz.prog.info? e = some i) (hz : i.zero = some z)
    (hsize : i.size = size) (hby : i.bytes = bytes) (hzs : z.cells.size = size) (hsz : 0 < size)
    (v : Value) (n : Nat) (xs : List Value) (hown : Sl w e size v n xs) (x : Value) (m : Nat) (news : List Value) (hx : Rd w x m news) (hl : news.length = m * size) (h1 : ∀ u ∈ news, u.oneCell' = true)
    (h63 : n + m ≤ maxLen) (hbytes : (n + m) * bytes ≤ 140737488355328) :
    ∃ v' w', (Builtin.append_ #[t, t] ty #[v, x]).run Tryz.prog w = .ok v' w' ∧ Sl w' e size v' (n + m) (xs ++ news) ∧ w.grownBy w' v.ownBlock ∧
      (v'.ownBlock = v.ownBlock ∨ v'.ownBlock = some w.heap.size) := by
  obtain ⟨A, c, rfl, hmc, _, hc⟩ := hx
  by_cases hm0 : 0 < m
  · obtain ⟨b, o, rfl, _, hcells⟩ := hc hm0
    exact run_append_sl (P := Tryz.prog) w t ty e i z size bytes ht hi hz hsize hby hzs hsz v n xs hown ⟨b, o, none⟩ m c news hl (fun j u hj => by rw [Addr.add_lit]; exact hcells j u hj) h1 h63 hbytes
  · obtain rfl : m = 0 := by omega
    obtain rfl : news = [] := List.eq_nil_of_length_eq_zero (by rw [hl, Nat.zero_mul])
    cases A with
    | some ad => exact run_append_sl (P := Tryz.prog) w t ty e i z size bytes ht hi hz hsize hby hzs hsz v n xs hown ad 0 c [] hl (fun j u hj => by cases hj) h1 h63 hbytes
    | none =>
      obtain ⟨A', cap, rfl, hncap, _⟩ := hown.shape
      refine ⟨.slice A' n cap, w, ?_, by rw [Nat.add_zero, List.append_nil]; exact hown, ⟨rfl, rfl, rfl, Nat.le_refl _, fun _ _ _ => rfl⟩, .inl rfl⟩
      have hroom : n + 0 ≤ cap := hncap
      have hf := run_firstCells_none (P := Tryz.prog) w size 0 0 c
      cases A' with
      | none => simp [Builtin.append_, run_underlying ht, sizeOf, typeInfo, hi, hsize, Builtin.lenOf, hncap, hf]
      | some ad => simp [Builtin.append_, run_underlying ht, sizeOf, typeInfo, hi, hsize, Builtin.lenOf, hncap, hf, storeCells]
theorem wpList_append_rd {ops : Array Oper} {rest : List Oper} {o : Oper} {a : Act} {Q : Exit → Act → World → Prop} {w : World} (hgd : o.guard = none) (s x : Operand) (t : TypeId)
    (ho : o.op = .call { callee := .builtin .append, args := #[s, x], argTypes := #[t, t] })
    (e : TypeId) (i : TypeInfo) (z : Value) (size bytes : Nat) (ht : Tryz.prog.underlying t = some (.slice e)) (hi : Tryz.prog.info? e = some i) (hz : i.zero = some z)
    (hsize : i.size = size) (hby : i.bytes = bytes) (hzs : z.cells.size = size) (hsz : 0 < size)
    (v : Value) (n : Nat) (xs : List Value) (hs : a.eval s = v) (hown : Sl w e size v n xs)
    (y : Value) (m : Nat) (news : List Value) (hx : a.eval x = y) (hy : Rd w y m news) (hl : news.length = m * size) (h1 : ∀ u ∈ news, u.oneCell' = true)
    (h63 : n + m ≤ maxLen) (hbytes : (n + m) * bytes ≤ 140737488355328)
    (h : ∀ v' w', Sl w' e size v' (n + m) (xs ++ news) → w.grownBy w' v.ownBlock → (v'.ownBlock = v.ownBlock ∨ v'.ownBlock = some w.heap.size) → wpList Tryz.prog ops Q rest (a.put o.dst v') w') : wpList Tryz.prog ops Q (o :: rest) a w := by
  refine wpList_plain hgd fun K hK => ?_
  obtain ⟨v', w', hr, h2, h3, h5⟩ := run_append_rd w t o.type e i z size bytes ht hi hz hsize hby hzs hsz v n xs hown y m news hy hl h1 h63 hbytes
  unfold Oper.wp execOp
  simp only [ho, resolve, invoke, builtin, Sem.run_bind, Sem.run_pure, Result.andThen_ok, List.map_toArray, List.map_cons, List.map_nil, hs, hx, hr]
  exact hK _ _ (h v' w' h2 h3 h5)
/-- A fresh row of no elements. -/
theorem Sl.empty (w : World) (e sz : Nat) : Sl (w.alloc (.cells #[] e)) e sz (.slice (some ⟨w.heap.size, 0, none⟩) 0 0) 0 [] :=
  ⟨by simp, .inr ⟨w.heap.size, 0, 0, #[], rfl, heap_alloc_last w _, Nat.le_refl _, Nat.zero_le _, by simp, by simp⟩⟩
end Go.Proofs.YtpojhplnhppcpaaGreatDoor
namespace Go.Proofs.YtpojhplnhppcpaaGreatDoor
open Go.RowKit Go.Maps
theorem has_i {m : PM} {k : Nat} (hk : k < m.L.length) : m.has (k : Int) = true := by
  unfold PM.has
  simp
  omega
theorem z8_getD (k : Nat) : Z8.getD k 0 = 0 := by
  unfold Z8
  match k with
  | 0 | 1 | 2 | 3 | 4 | 5 | 6 | 7 => rfl
  | k + 8 => rfl
set_option maxRecDepth 100000 in
set_option maxHeartbeats 8000000 in
set_option linter.unusedSimpArgs false in
theorem rSet_any (p : Nat) (n : Int) (m : PM) (F : Nat → Prop) (w : World) (h : Ref w p m F) :
    Calls Tryz.prog 106 #[.pointer (some ⟨p, 0, none⟩), .int .i64 n] w fun e w' => e = .returned (.tuple #[]) ∧ RStep F w p (spanP m n) w' := by
  obtain ⟨d, o, cap, ev, X, h⟩ := h
  have c1 := h.c1
  have f1 := h.mem.free 1
  have HD : ∀ k, Hid (k = max n 0 → RStep F w p (spanP m n) (w.setCell ⟨p, 1, none⟩ (.int .i64 k))) := fun k => Lib.hid fun e => by
    subst e
    exact ⟨⟨d, o, cap, ev, X, (h.setSpan _).keep (fun _ _ => rfl) (fun k hk => .inl hk) fun k hk => by
        rcases hk with h1 | h1
        · simpa using h.lt k h1
        · exact h1.2⟩, Kept.setCell w _ h.ownP⟩
  clear h
  go_enter Tryz.func106, Tryz.ntmps106
  by_cases hz0 : 0 ≤ n
  · go_wp2_with fail
    refine bodyPost_end (results_none rfl _ _ _) rfl ?_
    exact ⟨rfl, (HD _).out (by omega)⟩
  · go_wp2_with fail
    refine bodyPost_end (results_none rfl _ _ _) rfl ?_
    exact ⟨rfl, (HD _).out (by omega)⟩
end Go.Proofs.YtpojhplnhppcpaaGreatDoor
namespace Go.Proofs.YtpojhplnhppcpaaGreatDoor
open Go.RowKit Go.Maps
theorem lits_line (L : List Int) (c : Int) (h8 : L.length = 8) (hz : ∀ z ∈ L, I64 z) (hc : I64 c) : Tryz.prog.keyLits 3 77 (iv (L ++ [c])) = some (litsOf (L ++ [c])) := by
  have c9 : Tryz.prog.cellsOf 77 = 9 := by kernel_rfl
  have c8 : Tryz.prog.cellsOf 66 = 8 := by kernel_rfl
  have c1 : Tryz.prog.cellsOf 3 = 1 := by kernel_rfl
  have e1 : (iv (L ++ [c])).take 8 = iv L := by
    unfold iv
    rw [List.map_append, List.take_append_of_le_length (by rw [List.length_map]; omega), List.take_of_length_le (by rw [List.length_map]; omega)]
  have e2 : ((iv (L ++ [c])).drop 8).take 1 = [.int .i64 c] := by
    unfold iv
    rw [List.map_append, List.drop_append_of_le_length (by rw [List.length_map]; omega), List.drop_of_length_le (by rw [List.length_map]; omega)]
    rfl
  have k1 := lits_row 66 8 Tryz.underlying66 c8 L h8 hz
  have k2 := lits_one 1 c hc
  unfold Program.keyLits
  rw [Tryz.underlying77]
  simp only
  rw [if_pos ⟨by rw [iv_len, List.length_append, h8, c9]; rfl, by kernel_rfl⟩]
  simp only [List.mapM_cons, List.mapM_nil, c8, c1, List.drop_zero, e1, e2, k1, k2, Option.bind_eq_bind, Option.bind_some, Option.pure_def, Option.map_some]
  unfold litsOf
  simp
theorem eq_line68 (L : List Int) (c : Int) (h8 : L.length = 8) (hz : ∀ z ∈ L, I64 z) (hc : I64 c) (w : World) :
    (Op.equalIn 10000 77 (.agg (iv (L ++ [c])).toArray) (.agg (iv (L ++ [c])).toArray)).run Tryz.prog w = .ok true w := by
  have c9 : Tryz.prog.cellsOf 77 = 9 := by kernel_rfl
  have hk : Tryz.prog.keyTypeAt 3 77 = true := by kernel_rfl
  have hf : (Value.agg (iv (L ++ [c])).toArray).formed Tryz.prog 77 = true := by
    unfold Value.formed
    rw [Tryz.underlying77]
    simp [iv_len, h8, c9]
  have hcells : (Value.agg (iv (L ++ [c])).toArray).cells.toList = iv (L ++ [c]) := by simp [Value.cells]
  obtain ⟨r, hr, hiff⟩ := run_equalIn_deep (P := Tryz.prog) 9997 3 77 hk w 3 3 (.agg (iv (L ++ [c])).toArray) (.agg (iv (L ++ [c])).toArray) (litsOf (L ++ [c])) (litsOf (L ++ [c])) hf hf (by rw [hcells]; exact lits_line L c h8 hz hc) (by rw [hcells]; exact lits_line L c h8 hz hc)
  have e : r = true := hiff.2 rfl
  rw [← e]
  exact hr
set_option maxRecDepth 100000 in
set_option maxHeartbeats 400000 in
theorem word_any (z : Int) (w : World) :
    Calls Tryz.prog 125 #[.int .i64 z] w fun e w' => e = .returned (.bool (okW z)) ∧ w' = w := by
  unfold okW
  go_enter Tryz.func125, Tryz.ntmps125
  by_cases h1 : 0 ≤ z
  · by_cases h2 : z ≤ 1099511627775
    · go_wp2_with fail
      go_ret
      exact ⟨ret_bool (by simp; try omega), rfl⟩
    · go_wp2_with fail
      go_ret
      exact ⟨ret_bool (by simp; try omega), rfl⟩
  · go_wp2_with fail
    go_ret
    exact ⟨ret_bool (by simp; try omega), rfl⟩
set_option maxRecDepth 100000 in
set_option maxHeartbeats 1000000 in
theorem words_any (L : List Int) (w : World) (h8 : L.length = 8) :
    Calls Tryz.prog 91 #[.agg (iv L).toArray] w fun e w' => e = .returned (.bool (L.all okW)) ∧ Below w.heap.size w w' := by
  have HI := Lib.hid (size22' h8)
  have hi := HI.out
  have HB := Lib.hid (bel_new w (.cells (iv L).toArray 66))
  have HA := Lib.hid (Arr.new w (iv L) 66)
  obtain ⟨R, hR⟩ : ∃ R, L.all okW = R := ⟨_, rfl⟩
  rw [hR]
  have HR := Lib.hid hR
  clear hR
  go_enter Tryz.func91, Tryz.ntmps91
  go_wp2_with fail
  obtain ⟨W, hW⟩ : ∃ W, w.alloc (.cells (iv L).toArray 66) = W := ⟨_, rfl⟩
  rw [hW] at HB HA ⊢
  clear hW
  obtain ⟨g, hg⟩ : ∃ g, w.heap.size = g := ⟨_, rfl⟩
  rw [hg] at HA ⊢
  go_loopw [3] (fun i wr => ∃ k : Nat, i = .int .i64 (k : Int) ∧ k ≤ 8 ∧ (∀ j, j < k → okW (L.getD j 0) = true) ∧ wr = W) (fun i _ => 8 - (intOf i).toNat)
  case atStart => exact ⟨0, rfl, by omega, fun j hj => by omega, rfl⟩
  case round =>
    obtain ⟨k, rfl, hk, hall, rfl⟩ := hrel
    by_cases hlt : k < 8
    · have hcl := HA.out.cell (getD_of (l := L) (k := k) (by omega))
      have hnot := fun h => not_all (L := L) (k := k) (by omega) h
      have hstep : okW (L.getD k 0) = true → ∀ j, j < k + 1 → okW (L.getD j 0) = true := fun h j hj => by
        rcases Nat.lt_succ_iff_lt_or_eq.1 hj with h1 | h1
        · exact hall j h1
        · subst h1; exact h
      have hc := word_any (L.getD k 0) wr
      have hkI : (k : Int) < 8 := by omega
      generalize L.getD k 0 = v at *
      cases hv : okW v with
      | false =>
        rw [hv] at hc
        have HN := Lib.hid (hnot hv)
        clear hstep hnot hall hv
        go_wp2_with (go_at_call 125; refine hc.mono ?_; rintro e w' ⟨rfl, rfl⟩)
        go_ret
        exact ⟨ret_bool (by rw [← HR.out, HN.out]), HB.out⟩
      | true =>
        rw [hv] at hc
        have HS := Lib.hid (hstep hv)
        clear hstep hnot hall hv
        go_wp2_with (go_at_call 125; refine hc.mono ?_; rintro e w' ⟨rfl, rfl⟩)
        go_roundw
        case rel => exact ⟨k + 1, by simp, by omega, HS.out, trivial⟩
        case measure => simp [intOf]; omega
    · obtain rfl : k = 8 := by omega
      have ha := all_of h8 hall
      have HV := Lib.hid ha
      clear hall ha
      go_wp2_with fail
      go_ret
      exact ⟨ret_bool (by rw [← HR.out, HV.out]), HB.out⟩
end Go.Proofs.YtpojhplnhppcpaaGreatDoor
namespace Go.Proofs.YtpojhplnhppcpaaGreatDoor
open Go.RowKit Go.Maps
theorem lnR_mark {l : PL} {v : Value} (h8 : l.ws.length = 8) (k : Nat) : (lnR (l, v)).set 10 (.int .i64 (k : Int)) = lnR ({ l with mark := k }, v) := by
  have hlen : (iv (l.ws ++ [l.code])).length = 9 := by rw [iv_len, List.length_append, h8]; rfl
  unfold lnR
  rw [List.set_append_right _ _ (by rw [hlen]; omega), hlen]
  rfl
theorem lnR_pend {l : PL} {v : Value} (h8 : l.ws.length = 8) (ss : List (Int × Int)) (u : Value) : (lnR (l, v)).set 9 u = lnR ({ l with pend := ss }, u) := by
  have hlen : (iv (l.ws ++ [l.code])).length = 9 := by rw [iv_len, List.length_append, h8]; rfl
  unfold lnR
  rw [List.set_append_right _ _ (by rw [hlen]; omega), hlen]
  rfl
section
variable {w w' w1 w2 : World} {p d o cap : Nat} {m : PM} {F F' : Nat → Prop} {ev : Value} {X : List (PL × Value)}
/-- A cell of a line is written. -/
theorem RefAt.cellLine (h : RefAt w p m F d o cap ev X) (hm : m.Ok) {i j : Nat} (hi : i < m.L.length) (hj : j < 11) {l' : PL} {v v' u : Value} (hx : X[i]? = some (m.line i, v)) (hu : (lnR (m.line i, v)).set j u = lnR (l', v'))
    (hv : Sl w 105 2 v' l'.pend.length (iv (flatS l'.pend))) (hF : ∀ k, F k → F' k) (hv' : ∀ k, v'.ownBlock = some k → F' k) (hlt : ∀ k, F' k → k < w.heap.size) :
    RefAt (w.setCell ⟨d, o + i * 11 + j, none⟩ u) p (m.upd i fun _ => l') F' d o cap ev (X.set i (l', v')) := by
  obtain ⟨cur, hc⟩ := h.lin.blk (g := d) rfl
  exact h.setLine hi (fun k _ hk => heap_setCell_other w _ k _ hk) (h.lineCell hm hi hj hx hu) (hv.keep fun g hg => heap_setCell_other w _ g _ (hv.ne_of hg hc (by decide))) hF hv' (fun k hk => by simpa using hlt k hk)
/-- A whole line is written. -/
theorem RefAt.putLine (h : RefAt w p m F d o cap ev X) (hm : m.Ok) {i : Nat} (hi : i < m.L.length) {l' : PL} {v' : Value} (h8 : l'.ws.length = 8)
    (hv : Sl w 105 2 v' l'.pend.length (iv (flatS l'.pend))) (hF : ∀ k, F k → F' k) (hv' : ∀ k, v'.ownBlock = some k → F' k) (hlt : ∀ k, F' k → k < w.heap.size) :
    RefAt (w.setCells d (o + i * 11) (lnR (l', v'))) p (m.upd i fun _ => l') F' d o cap ev (X.set i (l', v')) ∧ w.there d (o + i * 11) 11 := by
  obtain ⟨cur, hc⟩ := h.lin.blk (g := d) rfl
  obtain ⟨h1, h2⟩ := h.linePut hm hi (l' := l') (v' := v') h8
  exact ⟨h.setLine hi (fun k _ hk => heap_setCells hk _ _ w) h1 (hv.keep fun g hg => heap_setCells (hv.ne_of hg hc (by decide)) _ _ w) hF hv' (fun k hk => by rw [size_setCells]; exact hlt k hk), h2⟩
/-- What is left of a recorded event is one step. -/
theorem RefAt.cells2 (h : RefAt w1 p m F d o cap ev X) (hb : Below w1.heap.size w1 w2) {w3 : World} (hg : w2.grownBy w3 ev.ownBlock) : w3.cell? ⟨p, 2, none⟩ = some ev ∧ w3.frozen? ⟨p, 2, none⟩ = false := by
  have hne : some p ≠ ev.ownBlock := fun e => h.evs.ne_of e.symm h.mem (by decide) rfl
  have hp : w3.heap[p]? = w1.heap[p]? := (hg.block p (Nat.lt_of_lt_of_le h.mem.lt hb.size) hne).trans (hb.block p h.mem.lt)
  have hm3 : Arr w3 p _ _ := hp.trans h.mem
  exact ⟨hm3.cell rfl, hm3.free 2⟩
end
set_option maxRecDepth 100000 in
set_option maxHeartbeats 8000000 in
set_option linter.unusedSimpArgs false in
theorem rFlush_any (p : Nat) (z : Int) (m : PM) (F : Nat → Prop) (w : World) (hm : m.Ok) (hs : m.Small 1000) (h : Ref w p m F) :
    Calls Tryz.prog 109 #[.pointer (some ⟨p, 0, none⟩), .int .i64 z] w fun e w' => e = .returned (.int .i64 (rec_ (flushP m z) (evt 3 z 0 0 Z8)).1) ∧ RStep F w p (rec_ (flushP m z) (evt 3 z 0 0 Z8)).2 w' := by
  have hha := rHas_any p z m F w h
  obtain ⟨R, hR⟩ : ∃ R, rec_ (flushP m z) (evt 3 z 0 0 Z8) = R := ⟨_, rfl⟩
  rw [hR]
  unfold flushP at hR
  cases hh : m.has z with
  | false =>
    rw [hh, if_pos rfl, rec_1 (show (40 : Int) ≠ 0 by decide)] at hR
    subst hR
    rw [hh] at hha
    have HH := Lib.hid hha
    have HS := Lib.hid (RStep.refl h)
    clear hha h hm hs
    go_enter Tryz.func109, Tryz.ntmps109
    go_wp2_with (go_at_call 134; refine HH.out.mono ?_; rintro e w' ⟨rfl, hw'⟩; obtain rfl := hw'.symm)
    go_ret
    exact ⟨rfl, HS.out⟩
  | true =>
    have hin : 0 ≤ z ∧ z < (m.L.length : Int) := by unfold PM.has at hh; simpa using hh
    obtain ⟨i, rfl⟩ : ∃ i : Nat, z = i := ⟨z.toNat, by omega⟩
    have hi : i < m.L.length := by omega
    rw [hh] at hha
    rw [hh, if_neg (by simp), rec_0 rfl, Int.toNat_natCast] at hR
    subst hR
    have HH := Lib.hid hha
    obtain ⟨d, o, cap, ev, X, h⟩ := h
    obtain ⟨v, hx, _, _, _, h9, h10, hsl⟩ := h.at hm hi
    have c0 := h.c0
    have hcp := h.cap_
    obtain ⟨VA, vcap, rfl, _⟩ := hsl.shape
    have hd := h.below (bel_drew w)
    have h1 : RefAt (w.drew.setCell ⟨d, o + i * 11 + 10, none⟩ (.int .i64 ((m.line i).pend.length : Int))) p (m.upd i fun _ => (m.line i).flushed) F d o cap ev (X.set i ((m.line i).flushed, _)) :=
      hd.cellLine hm hi (by decide) hx (lnR_mark (hm.line hi).len _) (hsl.keep fun _ _ => rfl) (fun _ h => h) (fun k hk => h.ownG _ (List.mem_of_getElem? hx) k hk) hd.lt
    have hK1 : Kept F w (w.drew.setCell ⟨d, o + i * 11 + 10, none⟩ (.int .i64 ((m.line i).pend.length : Int))) := (Kept.of_below (bel_drew w)).then_ (Kept.setCell _ _ h.ownD)
    have f10 := h.lin.freeR (o + i * 11 + 10)
    have hne := hs.ev
    obtain ⟨W1, hW1⟩ : ∃ W1, w.drew.setCell ⟨d, o + i * 11 + 10, none⟩ (.int .i64 ((m.line i).pend.length : Int)) = W1 := ⟨_, rfl⟩
    rw [hW1] at h1 hK1
    have HW1 := Lib.hid hW1
    have hsz1 : W1.heap.size = w.heap.size := by rw [← hW1]; simp [World.setCell]
    have c2 := h.c2
    have hpd : p ≠ d := h.p_ne_d
    have hdp : d ≠ p := fun e => hpd e.symm
    have hm1 : m.upd i (fun _ => (m.line i).flushed) = m.upd i (·.flushed) := rfl
    rw [hm1] at h1
    have hev : (m.upd i (·.flushed)).ev = m.ev := rfl
    generalize m.upd i (·.flushed) = m1 at *
    obtain ⟨A, ecap, rfl, _⟩ := h1.evs.shape
    have HB1 := bel_new W1 (.cells (iv (evt 3 (i : Int) 0 0 Z8)).toArray 68)
    have HREC := Lib.hid fun (ev' : Value) (w3 : World) hsl hg ho => RStep.after hK1 (h1.recorded (evt 3 (i : Int) 0 0 Z8) HB1 (ev' := ev') (w3 := w3) hsl hg ho)
    have HC2 := Lib.hid fun (w3 : World) hg => h1.cells2 HB1 (w3 := w3) hg
    have HEV := Lib.hid (h1.evs.keep fun q hq => HB1.block q (h1.evs.lt hq))
    have HNW : Hid (∀ j u, (iv (evt 3 (i : Int) 0 0 Z8))[j]? = some u → (W1.alloc (.cells (iv (evt 3 (i : Int) 0 0 Z8)).toArray 68)).cell? ((⟨w.heap.size, 0, none⟩ : Addr).add j) = some u) := Lib.hid (fun j u hu => by
      rw [Addr.add_lit, Nat.zero_add, ← hsz1]
      exact (Arr.new W1 _ _).cell hu)
    have c21 := h1.c2
    have hne1 : m1.ev.length ≤ 1000 := by rw [hev]; exact hne
    obtain ⟨i0, his, hz0, hz1, hz2⟩ := info_parts infoEvent
    have HIS := Lib.hid his
    have HZ0 := Lib.hid hz0
    have HZ1 := Lib.hid hz1
    have HZ2 := Lib.hid hz2
    generalize m1.ev.length = NE at *
    generalize (m.line i).pend.length = pl at *
    generalize m.L.length = N at *
    have hiI : (i : Int) < (N : Int) := by omega
    clear hha hh h h1 hd hK1 HB1 hx hsl his hz0 hz1 hz2 hW1 hm1 hev hm hs hsz1
    go_enter Tryz.func109, Tryz.ntmps109
    go_wp2_with (go_at_call 134; refine HH.out.mono ?_; rintro e w' ⟨rfl, hw'⟩; obtain rfl := hw'.symm)
    go_still_tail 16, (by kernel_rfl)
    change wpList _ _ _ _ _ w.drew
    go_wp2_with (at_builtin; refine nm_l ?_; intro wA hwA; obtain rfl : wA = W1.alloc (.cells (iv (evt 3 (i : Int) 0 0 Z8)).toArray 68) := (by rw [hwA, ← HW1.out]; rfl); clear hwA; refine wpList_append_sl _ rfl _ _ 24 rfl 68 i0 _ 12 96 Tryz.underlying24 HIS.out HZ0.out HZ1.out HZ2.out rfl (by decide) (.slice A NE ecap) NE (iv m1.ev.flatten) rfl HEV.out ⟨w.heap.size, 0, none⟩ 1 1 (iv (evt 3 (i : Int) 0 0 Z8)) rfl rfl HNW.out (iv_one _) (by unfold maxLen; omega) (by omega) ?_; intro ev' w3 hsl hg ho; obtain ⟨EA2, ecap2, rfl, _⟩ := hsl.shape; have HFIN := Lib.hid (HREC.out _ _ hsl hg ho); obtain ⟨e2, ef2⟩ := HC2.out _ hg; clear hsl hg ho)
    go_ret
    exact ⟨rfl, HFIN.out⟩
end Go.Proofs.YtpojhplnhppcpaaGreatDoor
