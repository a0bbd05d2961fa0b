/-
  The iterator over the positions of a line's bits that are 1. What code's syndrome does.
-/
import Derived.Test.YtmnncbgibngmiaaGreatDoorQB1
import Derived.RangeFuncNested
import Derived.RangeFuncBound
import Derived.RangeFuncCalls
import Derived.RangeFuncLeaves
import Derived.Shelf.Abstract
import Derived.Shelf.RegionOpen
import Derived.OwnWalkIn
import Derived.TacticsInMore
import Derived.LoopNIn
import Derived.LoopIn
import Derived.RangeFuncFrom
namespace Go.Proofs.YtmnncbgibngmiaaGreatDoor
open Go.RowKit Go.Shelf
section
variable {F : Fence} {n : Nat} {ops : Array Oper} {rest : List Oper} {o : Oper} {a : Act} {Q : Exit → Act → World → Prop} {w : World}
theorem armI_row (ty g t : Nat) (cs : List Value) (hA : Arr w g t cs) (d : TypeDesc) (hu : Tryz.prog.underlying ty = some d) (hd : d.isRow = true) (hi : (Tryz.prog.info? ty).map (·.size) = some cs.length)
    (hgd : o.guard = none) (x : Operand) (ho : o.op = .load ty x) (hx : a.eval x = .pointer (some ⟨g, 0, none⟩))
    (h : wpListIn F n Tryz.prog ops Q rest (a.put o.dst (.agg cs.toArray)) w) : wpListIn F n Tryz.prog ops Q (o :: rest) a w := by
  refine wpListIn_plain hgd fun K hK => ?_
  unfold Oper.wpIn
  refine ⟨?_, ?_⟩
  · simp [Oper.about, ho]
  · rw [Oper.semAt_plain F _ _ (by rw [ho]; intro c hc; cases hc)]
    unfold execOp
    simp only [ho, hx, Instr.loadAt, Instr.sureAddr, Sem.run_bind, Sem.run_pure, Result.andThen_ok, run_loadVar_mid w g 0 ty cs d hA.range hu hd hi]
    exact hK _ _ h
end
def xorF (xs : List (Fin 512)) : Nat := xs.foldl (fun a x => a ^^^ x.val) 0
theorem xorF_snoc (xs : List (Fin 512)) (x : Fin 512) : xorF (xs ++ [x]) = xorF xs ^^^ x.val := by simp [xorF]
/-- The lowest bit goes. -/
theorem low_flip (x : Nat) (h0 : x ≠ 0) (hx : x < 1099511627776) : x.testBit (Lib.ctz 64 x) = true ∧ Lib.ctz 64 x < 40 ∧ x &&& (x - 1) = x ^^^ 2 ^ Lib.ctz 64 x := by
  have hc : Lib.ctz 64 x = Lib.ctzFrom 64 x := by unfold Lib.ctz; rw [if_neg h0]
  rw [hc]
  obtain ⟨m, hm, hlt⟩ := Lib.ctzFrom_spec 64 x (by omega) (by omega)
  generalize Lib.ctzFrom 64 x = c at *
  have hp : 0 < 2 ^ c := Nat.two_pow_pos c
  have e1 : x = 2 ^ c * (2 * m + 1) + 0 := by omega
  have e2 : x - 1 = 2 ^ c * (2 * m) + (2 ^ c - 1) := by rw [hm, Nat.mul_add, Nat.mul_one]; omega
  have b1 : ∀ j, x.testBit j = if j < c then false else (2 * m + 1).testBit (j - c) := fun j => by
    rw [e1, Nat.testBit_two_pow_mul_add _ hp]
    simp
  have b2 : ∀ j, (x - 1).testBit j = if j < c then (2 ^ c - 1).testBit j else (2 * m).testBit (j - c) := fun j => by
    rw [e2, Nat.testBit_two_pow_mul_add _ (by omega)]
  have ht : x.testBit c = true := by rw [b1, if_neg (Nat.lt_irrefl _), Nat.sub_self, Nat.testBit_zero]; simp
  refine ⟨ht, ?_, ?_⟩
  · rcases Nat.lt_or_ge c 40 with h | h
    · exact h
    · have := Nat.testBit_lt_two_pow (x := x) (i := c) (Nat.lt_of_lt_of_le hx (Nat.pow_le_pow_right (n := 2) (by decide) h))
      rw [this] at ht
      cases ht
  · refine Nat.eq_of_testBit_eq fun i => ?_
    rw [Nat.testBit_and, Nat.testBit_xor, Nat.testBit_two_pow, b2, b1]
    by_cases h1 : i < c
    · rw [if_pos h1, if_pos h1]
      have : decide (c = i) = false := by simp; omega
      rw [this]
      rfl
    · rw [if_neg h1, if_neg h1]
      by_cases h2 : c = i
      · subst h2
        rw [Nat.sub_self, Nat.testBit_zero, Nat.testBit_zero]
        simp
      · obtain ⟨j, hj⟩ : ∃ j, i - c = j + 1 := ⟨i - c - 1, by omega⟩
        rw [hj, Nat.testBit_succ, Nat.testBit_succ]
        have g1 : (2 * m + 1) / 2 = m := by omega
        have g2 : (2 * m) / 2 = m := by omega
        rw [g1, g2]
        simp [h2]
theorem take_step (ws : List Nat) (k : Nat) (h : k < ws.length) : synL 0 (ws.take (k + 1)) = synL 0 (ws.take k) ^^^ synW k (ws.getD k 0) 40 ∧ popL (ws.take (k + 1)) = popL (ws.take k) + popW (ws.getD k 0) 40 := by
  rw [List.take_succ_eq_append_getElem h, synL_append, popL_append, List.length_take, Nat.min_eq_left (by omega)]
  have e : ws.getD k 0 = ws[k] := by simp [h]
  rw [e]
  simp [synL, popL]
theorem pop_take_le (ws : List Nat) (k : Nat) : popL (ws.take k) ≤ popL ws := by
  have h := popL_append (ws.take k) (ws.drop k)
  rw [List.take_append_drop] at h
  omega
theorem low_step (k x : Nat) (h0 : x ≠ 0) (hx : x < 1099511627776) : synW k (x &&& (x - 1)) 40 ^^^ psn k (Lib.ctz 64 x) = synW k x 40 ∧ popW (x &&& (x - 1)) 40 + 1 = popW x 40 ∧ x &&& (x - 1) < x := by
  obtain ⟨h1, h2, h3⟩ := low_flip x h0 hx
  have h4 : x &&& (x - 1) ≤ x - 1 := Nat.and_le_right
  refine ⟨?_, ?_, by omega⟩
  · rw [h3, synW_xor, synW_pow, if_pos h2, Nat.xor_assoc, Nat.xor_self, Nat.xor_zero]
  · rw [h3, popW_flip, if_pos h2, if_pos h1]
    have := popW_pos h2 h1
    omega
theorem Tab.keep' {n₀ : Nat} {w w2 : World} (h : Tab w) (hn : 1 < n₀) (hb : Below n₀ w w2) : Tab w2 := fun j hj => by
  rw [hb.cell (p := ⟨1, j, none⟩) hn]
  exact h j hj
theorem psn_posn {k c : Nat} (hk : k < 8) (hc : c < 40) : psn k c = posn (40 * k + c) ∧ psn k c < 512 := ⟨by unfold psn; rw [if_pos hk], psn_lt (by simp [okBit, hk, hc])⟩
set_option maxRecDepth 100000 in
set_option maxHeartbeats 2000000 in
theorem pos1_in (n : Nat) (hn : 1 ≤ n) (l Bs n₀ : Nat) (ws : List Nat) (h8 : ws.length = 8) (hs : ∀ x ∈ ws, x < 1099511627776) (hb1 : 1 < n₀) (J Jx : List (Fin 512) → World → Prop)
    (hY : ∀ pre x W, J pre W → pre.length < popL ws → YieldAt Fence.wide (n - 1) Tryz.prog l #[.int .i64 (x.val : Int)] W fun e W' =>
      (e = .returned (.bool true) ∧ J (pre ++ [x]) W' ∧ Below n₀ W W') ∨ (e = .returned (.bool false) ∧ Jx (pre ++ [x]) W'))
    (W : World) (hA : Arr W Bs 39 (iv (ci ws))) (hT : Tab W) (h0 : J [] W) :
    CallsIn Fence.wide n Tryz.prog 101 #[.func (.yield l) #[] #[], .pointer (some ⟨Bs, 0, none⟩)] W fun e W' => (∃ v, e = .returned v) ∧
      ((∃ ys, xorF ys = synL 0 ws ∧ J ys W') ∨ (∃ pre : List (Fin 512), True ∧ Jx pre W')) := by
  have HA := Lib.hid hA
  have HI := Lib.hid (size22' (l := ci ws) (by rw [ci_len, h8]))
  have HS := Lib.hid hs
  clear hA hs
  refine callsIn_of_wp Tryz.func101 rfl trivial ?_ rfl
  simp only [Tryz.ntmps101, List.size_toArray, List.length_cons, List.length_nil, Nat.reduceAdd, Nat.reduceSub, Array.replicate_succ, Array.replicate_zero, List.push_toArray, List.append_toArray, List.nil_append, List.cons_append]
  gi_wp2_with ((with_reducible refine armI_row 39 Bs 39 _ HA.out _ Tryz.underlying39 rfl HI.out rfl _ rfl ?_ ?_); focus rfl)
  have hbl : 1 < W.heap.size := hT.lt
  gi_loopw [7] (fun i wr => ∃ (k : Nat) (pre : List (Fin 512)), k ≤ 8 ∧ i = .int .i64 (k : Int) ∧ J pre wr ∧ xorF pre = synL 0 (ws.take k) ∧ pre.length = popL (ws.take k) ∧ Below n₀ W wr)
    (fun i _ => 8 - (intOf i).toNat)
  case atStart => exact ⟨0, [], Nat.zero_le _, rfl, h0, rfl, rfl, Below.refl _ _⟩
  case round =>
    obtain ⟨k, pre, hk, rfl, hJ, hx, hl, hbw⟩ := hrel
    by_cases hlt : k < 8
    · have hks : k < ws.length := by omega
      have hidx := index22 (ci ws) k hlt (by rw [ci_len, h8]) wr
      rw [ci_get] at hidx
      have hsm : ws.getD k 0 < 1099511627776 := by
        have e : ws.getD k 0 = ws[k] := by simp [hks]
        rw [e]
        exact HS.out _ (List.getElem_mem hks)
      obtain ⟨ts, tp⟩ := take_step ws k hks
      have hpl := pop_take_le ws (k + 1)
      generalize ws.getD k 0 = x0 at *
      have hwx : IntKind.u64.wrap (x0 : Int) = x0 := wrap_n _ _ rfl (by omega)
      have HSM := Lib.hid hsm
      clear hsm
      have hk1 : (k : Int) < 8 := by omega
      gi_wp2
      obtain ⟨wo, rfl⟩ : ∃ wo : World, wo = wr := ⟨_, rfl⟩
      gi_loopw [5] (fun v wr => ∃ (x : Nat) (pre : List (Fin 512)), v = .int .u64 (x : Int) ∧ Hid (x < 1099511627776) ∧ J pre wr ∧ xorF pre ^^^ synW k x 40 = synL 0 (ws.take (k + 1)) ∧ pre.length + popW x 40 = popL (ws.take (k + 1)) ∧ Below n₀ W wr)
        (fun v _ => (intOf v).toNat)
      case atStart => exact ⟨x0, pre, rfl, HSM, hJ, by rw [hx, ts], by omega, hbw⟩
      case round =>
        clear hJ hx hl hbw hidx HSM hwx tp ts
        clear pre
        obtain ⟨x, pre, rfl, HX, hJ, hx, hl, hbw⟩ := hrel
        by_cases hz : x = 0
        · subst hz
          gi_wp2
          go_roundw
          case rel => exact ⟨k + 1, pre, by omega, by simp, hJ, by rw [← hx, synW_zero, Nat.xor_zero], by rw [← hl, popW_zero, Nat.add_zero], hbw⟩
          case measure => simp [intOf]; omega
        · obtain ⟨f1, f2, f3⟩ := low_flip x hz HX.out
          obtain ⟨g1, g2, g3⟩ := low_step k x hz HX.out
          have htz := tz_any (x : Int) x wr rfl hz HX.out (hT.keep' hb1 hbw)
          have hsub : IntKind.u64.wrap ((x : Int) - 1) = ((x - 1 : Nat) : Int) := wrap_n _ _ (by omega) (by have := HX.out; omega)
          have hand : bits .and .u64 (x : Int) ((x - 1 : Nat) : Int) = ((x &&& (x - 1) : Nat) : Int) := u64_and_nat _ _ (by have := HX.out; omega) (by have := HX.out; omega)
          have hx2 : x &&& (x - 1) < 1099511627776 := by have := HX.out; omega
          have hxp : 0 < (x : Int) := by omega
          obtain ⟨e1, e2⟩ := psn_posn hlt f2
          have hpos := fun z hz => position_any z (40 * k + Lib.ctz 64 x) wr hz (by omega)
          have hgt : x &&& (x - 1) < x := g3
          rw [← e1] at hpos
          obtain ⟨fn, tmps, assign, body, hy, hR⟩ := hY pre ⟨psn k (Lib.ctz 64 x), e2⟩ wr hJ (by omega)
          dsimp only at hy
          have hxs := fun q (hq : q = psn k (Lib.ctz 64 x)) => xorF_snoc pre ⟨q, hq ▸ e2⟩
          have HX2 := Lib.hid hx2
          have HP := Lib.hid e2
          have hcz : Lib.ctz 64 x < 40 := f2
          clear e1 f1 f2 f3 g3 hx2 hxs
          generalize hq : psn k (Lib.ctz 64 x) = q at *
          generalize Lib.ctz 64 x = c at *
          generalize hx' : x &&& (x - 1) = x' at *
          generalize x - 1 = y at *
          have hc40 : (c : Int) < 40 := by omega
          have hq512 : (q : Int) < 512 := by omega
          gi_wp2_with (first | (refine ⟨trivial, ?_⟩; gi_at_call 103; refine (callsIn_wide.2 htz).mono ?_; rintro e w1 ⟨rfl, rfl⟩) | (refine ⟨trivial, ?_⟩; gi_at_call 102; refine (callsIn_wide.2 (hpos _ (by omega))).mono ?_; rintro e w1 ⟨rfl, rfl⟩))
          refine hR.mono ?_
          rintro e W3 (⟨rfl, hJ3, hk3⟩ | ⟨rfl, hJx3⟩)
          · gi_wp2
            go_roundw
            case rel =>
              refine ⟨x', _, rfl, HX2, hJ3, ?_, ?_, hbw.trans hk3⟩
              · rw [xorF_snoc, ← hx, ← g1, Nat.xor_assoc, Nat.xor_comm q]
              · rw [List.length_append, List.length_singleton]
                omega
            case measure => simp [intOf]; omega
          · gi_wp2
            refine bodyPost_ret (results_none rfl _ _ _) rfl ?_
            exact ⟨⟨_, rfl⟩, .inr ⟨_, trivial, hJx3⟩⟩
    · obtain rfl : k = 8 := by omega
      gi_wp2
      go_end0
      refine ⟨⟨_, rfl⟩, .inl ⟨pre, ?_, hJ⟩⟩
      rw [hx, List.take_of_length_le (by omega)]
end Go.Proofs.YtmnncbgibngmiaaGreatDoor
namespace Go.Proofs.YtmnncbgibngmiaaGreatDoor
open Go.RowKit Go.Shelf
attribute [local go_sem] Oper.semAt_some
theorem pos_stops (n : Nat) (hn : 1 ≤ n) (Bs n₀ : Nat) (ws : List Nat) (h8 : ws.length = 8) (hs : ∀ x ∈ ws, x < 1099511627776) (hb1 : 1 < n₀) (w : World) (hA : Arr w Bs 39 (iv (ci ws))) (hT : Tab w) :
    SeqStopsK Fence.wide n Tryz.prog 101 #[.pointer (some ⟨Bs, 0, none⟩)] (fun x : Fin 512 => #[.int .i64 (x.val : Int)]) (Below n₀) (fun ys => xorF ys = synL 0 ws) (fun _ => True) (popL ws) w := by
  intro l J Jx W hW _ _ hY h0
  exact pos1_in n hn l Bs n₀ ws h8 hs hb1 J Jx hY W (hA.keep hW) (hT.keep hW) h0
theorem xorF_lt (xs : List (Fin 512)) : xorF xs < 512 := by
  have key : ∀ (xs : List (Fin 512)) (a : Nat), a < 512 → xs.foldl (fun a x => a ^^^ x.val) a < 512 := by
    intro xs
    induction xs with
    | nil => intro a h; exact h
    | cons x xs ih => intro a h; exact ih _ (Nat.xor_lt_two_pow (n := 9) h x.isLt)
  exact key xs 0 (by decide)
theorem syn_code (c : Nat) (h : c < 1024) : synW 8 c 40 = c % 512 := by
  have all : ∀ c : Fin 1024, synW 8 c 40 = c.val % 512 := by decide +kernel
  exact all ⟨c, h⟩
theorem synT_eq (ws : List Nat) (c : Nat) (h8 : ws.length = 8) (h : c < 1024) : synT ws c = (c % 512) ^^^ synL 0 ws := by
  unfold synT
  rw [synL_append, h8, Nat.xor_comm, ← syn_code c h]
  show (synW 8 c 40 ^^^ 0) ^^^ _ = _
  rw [Nat.xor_zero]
set_option maxRecDepth 100000 in
set_option maxHeartbeats 400000 in
theorem positions_any (L : List Int) (w : World) :
    Calls Tryz.prog 93 #[.agg (iv L).toArray] w fun e w' => e = .returned (.func (.func 101) #[] #[.pointer (some ⟨w.heap.size, 0, none⟩)]) ∧ w' = w.alloc (.cells (iv L).toArray 39) := by
  have hmf : ∀ (fn : Fn) (first cap : Array Value) (w : World), (Instr.makeFunc fn first cap).run Tryz.prog w = .ok (.func fn first cap) w := fun _ _ _ _ => rfl
  go_enter Tryz.func93, Tryz.ntmps93
  go_wp2
  go_ret
  exact ⟨rfl, rfl⟩
set_option maxRecDepth 100000 in
set_option maxHeartbeats 2000000 in
theorem syn_any (ws : List Nat) (c : Nat) (w : World) (h8 : ws.length = 8) (hs : ∀ x ∈ ws, x < 1099511627776) (hc : c < 1024) (hT : Tab w) :
    Calls Tryz.prog 82 #[.agg (iv (ci ws)).toArray, .int .i64 (c : Int)] w fun e w' => e = .returned (.int .i64 (synT ws c : Nat)) ∧ Below w.heap.size w w' := by
  have hb1 := hT.lt
  rw [synT_eq ws c h8 hc]
  have hand : bits .and .i64 (c : Int) 511 = ((c % 512 : Nat) : Int) := by rw [i64_and511]; omega
  have hc5 : c % 512 < 512 := by omega
  generalize c % 512 = s0 at *
  have HI := Lib.hid (size22' (l := ci ws) (by rw [ci_len, h8]))
  refine (callsIn_wide (n := 5)).1 ?_
  refine callsIn_of_wp_marks Tryz.func82 rfl trivial ?_ rfl
  simp only [Tryz.ntmps82, List.size_toArray, List.length_cons, List.length_nil, Nat.reduceAdd, Nat.reduceSub, Array.replicate_succ, Array.replicate_zero, List.push_toArray, List.append_toArray, List.nil_append, List.cons_append]
  have hA0 : Arr ((w.alloc (.cells (iv (ci ws)).toArray 39)).alloc (.cells #[.int .i64 (s0 : Int)] 3)) w.heap.size 39 (iv (ci ws)) := a2_0 w _ _
  have HS := Lib.hid hs
  clear hs hc
  gi_wp2_with (first | ((with_reducible refine armI_row 39 w.heap.size 39 _ hA0 _ Tryz.underlying39 rfl HI.out rfl _ rfl ?_ ?_); focus rfl) | (refine ⟨trivial, ?_⟩; gi_at_call 93; refine (callsIn_wide.2 (positions_any (ci ws) _)).mono ?_; rintro e w1 ⟨rfl, rfl⟩))
  have hA2 : Arr (((w.alloc (.cells (iv (ci ws)).toArray 39)).alloc (.cells #[.int .i64 (s0 : Int)] 3)).alloc (.cells (iv (ci ws)).toArray 39)) (w.heap.size + 1 + 1) 39 (iv (ci ws)) := by
    have := Arr.new ((w.alloc (.cells (iv (ci ws)).toArray 39)).alloc (.cells #[.int .i64 (s0 : Int)] 3)) (iv (ci ws)) 39
    simpa using this
  have hB2 : Below w.heap.size w (((w.alloc (.cells (iv (ci ws)).toArray 39)).alloc (.cells #[.int .i64 (s0 : Int)] 3)).alloc (.cells (iv (ci ws)).toArray 39)) := ((bel_new w _).alloc (by simp) _).alloc (by simp; omega) _
  have hS1 : Arr ((w.alloc (.cells (iv (ci ws)).toArray 39)).alloc (.cells #[.int .i64 (s0 : Int)] 3)) (w.heap.size + 1) 3 [.int .i64 (s0 : Int)] := a2_1 w _ _
  have hS2 := hS1.keep (bel_new _ (.cells (iv (ci ws)).toArray 39))
  have hcell := hS2.cell (j := 0) rfl
  have hfroz := hS2.free 0
  have hsz : (((w.alloc (.cells (iv (ci ws)).toArray 39)).alloc (.cells #[.int .i64 (s0 : Int)] 3)).alloc (.cells (iv (ci ws)).toArray 39)).heap.size = w.heap.size + 3 := by simp
  obtain ⟨W, hW⟩ : ∃ W, (((w.alloc (.cells (iv (ci ws)).toArray 39)).alloc (.cells #[.int .i64 (s0 : Int)] 3)).alloc (.cells (iv (ci ws)).toArray 39)) = W := ⟨_, rfl⟩
  rw [hW] at hA2 hB2 hS2 hcell hfroz hsz ⊢
  clear hW hA0 hS1 hS2
  refine wpIn_rangeFunc_ownF rfl (by omega) (gf := 101) (lb := #[.pointer (some ⟨w.heap.size + 1 + 1, 0, none⟩)]) rfl trivial (enters_of Tryz.func101 (by kernel_rfl) rfl)
    (pos_stops 4 (by omega) (w.heap.size + 1 + 1) w.heap.size ws h8 HS.out hb1 W hA2 (hT.keep hB2)) belowK_t (belowK_b (by omega)) (Below.refl _ _) (fun _ => rfl)
    (fun pre W => (W.cell? ⟨w.heap.size + 1, 0, none⟩ = some (.int .i64 ((s0 ^^^ xorF pre : Nat) : Int)) ∧ W.frozen? ⟨w.heap.size + 1, 0, none⟩ = false) ∧ Below w.heap.size w W)
    (fun _ _ _ => False)
    (OwnFrom.and (Own.from (fun s A B row hs hg hr => ⟨cell_kept hs.1 hg hr, (frozen_kept hs.1 hg hr).trans hs.2⟩) _) (ownFrom_below (Nat.le_refl _) (by omega)))
    (fun _ _ _ _ _ hs _ _ => hs)
    ⟨⟨by rw [show xorF [] = 0 from rfl, Nat.xor_zero]; exact hcell, hfroz⟩, hB2⟩
    (fun x => { tmps := #[.agg (iv (ci ws)).toArray, .int .i64 (c : Int), .pointer (some ⟨w.heap.size, 0, none⟩), undef, .int .i64 0, .pointer (some ⟨w.heap.size + 1, 0, none⟩), .int .i64 (x.val : Int), .int .i64 (c : Int), .int .i64 (s0 : Int), .agg (iv (ci ws)).toArray, .func (.func 101) #[] #[.pointer (some ⟨w.heap.size + 1 + 1, 0, none⟩)], .int .i64 (x.val : Int), undef, undef, undef, undef], defers := [] }) ?assign ?body ?done ?stop
  case assign =>
    intro l x W K hK
    gi_wp2
    exact hK
  case body =>
    rintro l pre x W ⟨⟨hc, hf⟩, hB⟩ _
    have hlt := xorF_lt pre
    have hxl : s0 ^^^ xorF pre < 512 := Nat.xor_lt_two_pow (n := 9) hc5 hlt
    have hxor := i64_xor_nat (s0 ^^^ xorF pre) x.val (by omega) (by have := x.isLt; omega)
    have HX := Lib.hid (show s0 ^^^ xorF (pre ++ [x]) = (s0 ^^^ xorF pre) ^^^ x.val by rw [xorF_snoc, Nat.xor_assoc])
    generalize s0 ^^^ xorF pre = v at *
    clear hlt hxl
    gi_wp2
    exact ⟨KeepsOthers.setCell _ _ _, (Below.refl w.heap.size W).setCell (p := ⟨w.heap.size + 1, 0, none⟩) (by simp) _, ⟨by rw [HX.out]; exact World.cell?_setCell_same' _ _ _ (by rw [hc]; rfl), by rw [World.frozen?_setCell]; exact hf⟩, hB.setCell (p := ⟨w.heap.size + 1, 0, none⟩) (by simp) _⟩
  case done =>
    rintro D ys W' hD hys ⟨⟨hc, _⟩, hB⟩ hK
    rw [hys] at hc
    gi_wp2
    refine ⟨by simp, .inl ⟨_, _, rfl, run_takeDeferred hK, ?_⟩⟩
    exact ⟨_, results_tmp rfl _ _ _, rfl, hB.trans (belowK_b (w := w) (Nat.le_refl _) W' D _ _ (by omega) hK rfl rfl)⟩
  case stop =>
    rintro D c pre W _ _ h _
    exact h.elim
end Go.Proofs.YtmnncbgibngmiaaGreatDoor
