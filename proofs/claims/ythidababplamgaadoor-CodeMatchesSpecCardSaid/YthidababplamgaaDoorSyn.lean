/- What code's syndrome does. -/
import Derived.Test.YthidababplamgaaDoorIt
import Derived.RangeFuncFrom
namespace Go.Proofs.YthidababplamgaaDoor
open Go.RowKit Go.Shelf
attribute [local go_sem] Oper.semAt_some
theorem pos_stops (n : Nat) (hn : 1 ≤ n) (Bs n₀ : Nat) (ws : List Nat) (h8 : ws.length = 8) (hs : ∀ x ∈ ws, x < 1099511627776) (hb1 : 1 < n₀) (w : World) (hA : Arr w Bs 22 (iv (ci ws))) (hT : Tab w) :
    SeqStopsK Fence.wide n Tryd.prog 45 #[.pointer (some ⟨Bs, 0, none⟩)] (fun x : Fin 512 => #[.int .i64 (x.val : Int)]) (Below n₀) (fun ys => xorF ys = synL 0 ws) (fun _ => True) (popL ws) w := by
  intro l J Jx W hW _ _ hY h0
  exact pos1_in n hn l Bs n₀ ws h8 hs hb1 J Jx hY W (hA.keep hW) (hT.keep hW) h0
theorem xorF_lt (xs : List (Fin 512)) : xorF xs < 512 := by
  have key : ∀ (xs : List (Fin 512)) (a : Nat), a < 512 → xs.foldl (fun a x => a ^^^ x.val) a < 512 := by
    intro xs
    induction xs with
    | nil => intro a h; exact h
    | cons x xs ih => intro a h; exact ih _ (Nat.xor_lt_two_pow (n := 9) h x.isLt)
  exact key xs 0 (by decide)
theorem syn_code (c : Nat) (h : c < 1024) : synW 8 c 40 = c % 512 := by
  have all : ∀ c : Fin 1024, synW 8 c 40 = c.val % 512 := by decide +kernel
  exact all ⟨c, h⟩
theorem synT_eq (ws : List Nat) (c : Nat) (h8 : ws.length = 8) (h : c < 1024) : synT ws c = (c % 512) ^^^ synL 0 ws := by
  unfold synT
  rw [synL_append, h8, Nat.xor_comm, ← syn_code c h]
  show (synW 8 c 40 ^^^ 0) ^^^ _ = _
  rw [Nat.xor_zero]
set_option maxRecDepth 100000 in
set_option maxHeartbeats 400000 in
theorem positions_any (L : List Int) (w : World) :
    Calls Tryd.prog 40 #[.agg (iv L).toArray] w fun e w' => e = .returned (.func (.func 45) #[] #[.pointer (some ⟨w.heap.size, 0, none⟩)]) ∧ w' = w.alloc (.cells (iv L).toArray 22) := by
  have hmf : ∀ (fn : Fn) (first cap : Array Value) (w : World), (Instr.makeFunc fn first cap).run Tryd.prog w = .ok (.func fn first cap) w := fun _ _ _ _ => rfl
  go_enter Tryd.func40, Tryd.ntmps40
  go_wp2
  go_ret
  exact ⟨rfl, rfl⟩
set_option maxRecDepth 100000 in
set_option maxHeartbeats 2000000 in
theorem syn_any (ws : List Nat) (c : Nat) (w : World) (h8 : ws.length = 8) (hs : ∀ x ∈ ws, x < 1099511627776) (hc : c < 1024) (hT : Tab w) :
    Calls Tryd.prog 33 #[.agg (iv (ci ws)).toArray, .int .i64 (c : Int)] w fun e w' => e = .returned (.int .i64 (synT ws c : Nat)) ∧ Below w.heap.size w w' := by
  have hb1 := hT.lt
  rw [synT_eq ws c h8 hc]
  have hand : bits .and .i64 (c : Int) 511 = ((c % 512 : Nat) : Int) := by rw [i64_and511]; omega
  have hc5 : c % 512 < 512 := by omega
  generalize c % 512 = s0 at *
  have HI := Lib.hid (size22' (l := ci ws) (by rw [ci_len, h8]))
  refine (callsIn_wide (n := 5)).1 ?_
  refine callsIn_of_wp_marks Tryd.func33 rfl trivial ?_ rfl
  simp only [Tryd.ntmps33, List.size_toArray, List.length_cons, List.length_nil, Nat.reduceAdd, Nat.reduceSub, Array.replicate_succ, Array.replicate_zero, List.push_toArray, List.append_toArray, List.nil_append, List.cons_append]
  have hA0 : Arr ((w.alloc (.cells (iv (ci ws)).toArray 22)).alloc (.cells #[.int .i64 (s0 : Int)] 3)) w.heap.size 22 (iv (ci ws)) := a2_0 w _ _
  have HS := Lib.hid hs
  clear hs hc
  gi_wp2_with (first | ((with_reducible refine armI_row 22 w.heap.size 22 _ hA0 _ Tryd.underlying22 rfl HI.out rfl _ rfl ?_ ?_); focus rfl) | (refine ⟨trivial, ?_⟩; gi_at_call 40; refine (callsIn_wide.2 (positions_any (ci ws) _)).mono ?_; rintro e w1 ⟨rfl, rfl⟩))
  have hA2 : Arr (((w.alloc (.cells (iv (ci ws)).toArray 22)).alloc (.cells #[.int .i64 (s0 : Int)] 3)).alloc (.cells (iv (ci ws)).toArray 22)) (w.heap.size + 1 + 1) 22 (iv (ci ws)) := by
    have := Arr.new ((w.alloc (.cells (iv (ci ws)).toArray 22)).alloc (.cells #[.int .i64 (s0 : Int)] 3)) (iv (ci ws)) 22
    simpa using this
  have hB2 : Below w.heap.size w (((w.alloc (.cells (iv (ci ws)).toArray 22)).alloc (.cells #[.int .i64 (s0 : Int)] 3)).alloc (.cells (iv (ci ws)).toArray 22)) := ((bel_new w _).alloc (by simp) _).alloc (by simp; omega) _
  have hS1 : Arr ((w.alloc (.cells (iv (ci ws)).toArray 22)).alloc (.cells #[.int .i64 (s0 : Int)] 3)) (w.heap.size + 1) 3 [.int .i64 (s0 : Int)] := a2_1 w _ _
  have hS2 := hS1.keep (bel_new _ (.cells (iv (ci ws)).toArray 22))
  have hcell := hS2.cell (j := 0) rfl
  have hfroz := hS2.free 0
  have hsz : (((w.alloc (.cells (iv (ci ws)).toArray 22)).alloc (.cells #[.int .i64 (s0 : Int)] 3)).alloc (.cells (iv (ci ws)).toArray 22)).heap.size = w.heap.size + 3 := by simp
  obtain ⟨W, hW⟩ : ∃ W, (((w.alloc (.cells (iv (ci ws)).toArray 22)).alloc (.cells #[.int .i64 (s0 : Int)] 3)).alloc (.cells (iv (ci ws)).toArray 22)) = W := ⟨_, rfl⟩
  rw [hW] at hA2 hB2 hS2 hcell hfroz hsz ⊢
  clear hW hA0 hS1 hS2
  refine wpIn_rangeFunc_ownF rfl (by omega) (gf := 45) (lb := #[.pointer (some ⟨w.heap.size + 1 + 1, 0, none⟩)]) rfl trivial (enters_of Tryd.func45 (by kernel_rfl) rfl)
    (pos_stops 4 (by omega) (w.heap.size + 1 + 1) w.heap.size ws h8 HS.out hb1 W hA2 (hT.keep hB2)) belowK_t (belowK_b (by omega)) (Below.refl _ _) (fun _ => rfl)
    (fun pre W => (W.cell? ⟨w.heap.size + 1, 0, none⟩ = some (.int .i64 ((s0 ^^^ xorF pre : Nat) : Int)) ∧ W.frozen? ⟨w.heap.size + 1, 0, none⟩ = false) ∧ Below w.heap.size w W)
    (fun _ _ _ => False)
    (OwnFrom.and (Own.from (fun s A B row hs hg hr => ⟨cell_kept hs.1 hg hr, (frozen_kept hs.1 hg hr).trans hs.2⟩) _) (ownFrom_below (Nat.le_refl _) (by omega)))
    (fun _ _ _ _ _ hs _ _ => hs)
    ⟨⟨by rw [show xorF [] = 0 from rfl, Nat.xor_zero]; exact hcell, hfroz⟩, hB2⟩
    (fun x => { tmps := #[.agg (iv (ci ws)).toArray, .int .i64 (c : Int), .pointer (some ⟨w.heap.size, 0, none⟩), undef, .int .i64 0, .pointer (some ⟨w.heap.size + 1, 0, none⟩), .int .i64 (x.val : Int), .int .i64 (c : Int), .int .i64 (s0 : Int), .agg (iv (ci ws)).toArray, .func (.func 45) #[] #[.pointer (some ⟨w.heap.size + 1 + 1, 0, none⟩)], .int .i64 (x.val : Int), undef, undef, undef, undef], defers := [] }) ?assign ?body ?done ?stop
  case assign =>
    intro l x W K hK
    gi_wp2
    exact hK
  case body =>
    rintro l pre x W ⟨⟨hc, hf⟩, hB⟩ _
    have hlt := xorF_lt pre
    have hxl : s0 ^^^ xorF pre < 512 := Nat.xor_lt_two_pow (n := 9) hc5 hlt
    have hxor := i64_xor_nat (s0 ^^^ xorF pre) x.val (by omega) (by have := x.isLt; omega)
    have HX := Lib.hid (show s0 ^^^ xorF (pre ++ [x]) = (s0 ^^^ xorF pre) ^^^ x.val by rw [xorF_snoc, Nat.xor_assoc])
    generalize s0 ^^^ xorF pre = v at *
    clear hlt hxl
    gi_wp2
    exact ⟨KeepsOthers.setCell _ _ _, (Below.refl w.heap.size W).setCell (p := ⟨w.heap.size + 1, 0, none⟩) (by simp) _, ⟨by rw [HX.out]; exact World.cell?_setCell_same' _ _ _ (by rw [hc]; rfl), by rw [World.frozen?_setCell]; exact hf⟩, hB.setCell (p := ⟨w.heap.size + 1, 0, none⟩) (by simp) _⟩
  case done =>
    rintro D ys W' hD hys ⟨⟨hc, _⟩, hB⟩ hK
    rw [hys] at hc
    gi_wp2
    refine ⟨by simp, .inl ⟨_, _, rfl, run_takeDeferred hK, ?_⟩⟩
    exact ⟨_, results_tmp rfl _ _ _, rfl, hB.trans (belowK_b (w := w) (Nat.le_refl _) W' D _ _ (by omega) hK rfl rfl)⟩
  case stop =>
    rintro D c pre W _ _ h _
    exact h.elim
end Go.Proofs.YthidababplamgaaDoor
