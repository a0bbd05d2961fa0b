/-
  What memory's record does, for each of the six changes.
-/
import Derived.Test.YtpojhplnhppcpaaGreatDoorQN10
import Derived.Great.BuildSlice
import Derived.Deep.RegionLaw
namespace Go.Proofs.YtpojhplnhppcpaaGreatDoor
open Go.RowKit Go.Maps
theorem line12 {L : List Int} (h : L.length = 12) : ∃ a0 a1 a2 a3 a4 a5 a6 a7 a8 a9 b0 b1, L = [a0, a1, a2, a3, a4, a5, a6, a7, a8, a9, b0, b1] := by
  rcases L with _ | ⟨a0, _ | ⟨a1, _ | ⟨a2, _ | ⟨a3, _ | ⟨a4, _ | ⟨a5, _ | ⟨a6, _ | ⟨a7, _ | ⟨a8, _ | ⟨a9, _ | ⟨b0, _ | ⟨b1, _ | ⟨_, _⟩⟩⟩⟩⟩⟩⟩⟩⟩⟩⟩⟩⟩ <;> simp at h
  exact ⟨a0, a1, a2, a3, a4, a5, a6, a7, a8, a9, b0, b1, rfl⟩
theorem fill12 {E : List Int} (h : E.length = 12) : Instr.fill (fun i => some (i * 12, 12)) ((Array.range (1 * 12)).map ((Value.agg #[.int .i64 0, .int .i64 0, .int .i64 0, .int .i64 0, .int .i64 0, .int .i64 0, .int .i64 0, .int .i64 0, .int .i64 0, .int .i64 0, .int .i64 0, .int .i64 0]).cells[· % (Value.agg #[.int .i64 0, .int .i64 0, .int .i64 0, .int .i64 0, .int .i64 0, .int .i64 0, .int .i64 0, .int .i64 0, .int .i64 0, .int .i64 0, .int .i64 0, .int .i64 0]).cells.size]!)) [(0, .agg (iv E).toArray)] = some (iv E).toArray := by
  obtain ⟨a0, a1, a2, a3, a4, a5, a6, a7, a8, a9, b0, b1, rfl⟩ := line12 h
  kernel_rfl
/-- append, where the operation stands alone. -/
theorem wp_append_sl {o : Oper} {a : Act} {K : Act → World → Prop} {Q : Exit → Act → World → Prop} {w : World} (s x : Operand) (t : TypeId)
    (ho : o.op = .call { callee := .builtin .append, args := #[s, x], argTypes := #[t, t] })
    (e : TypeId) (i : TypeInfo) (z : Value) (size bytes : Nat) (ht : Tryz.prog.underlying t = some (.slice e)) (hi : Tryz.prog.info? e = some i) (hz : i.zero = some z)
    (hsize : i.size = size) (hby : i.bytes = bytes) (hzs : z.cells.size = size) (hsz : 0 < size)
    (v : Value) (n : Nat) (xs : List Value) (hs : a.eval s = v) (hown : Sl w e size v n xs)
    (ad : Addr) (m c : Nat) (news : List Value) (hx : a.eval x = .slice (some ad) m c) (hl : news.length = m * size) (hnews : ∀ j u, news[j]? = some u → w.cell? (ad.add j) = some u) (h1 : ∀ u ∈ news, u.oneCell' = true)
    (h63 : n + m ≤ maxLen) (hbytes : (n + m) * bytes ≤ 140737488355328)
    (h : ∀ v' w', Sl w' e size v' (n + m) (xs ++ news) → w.grownBy w' v.ownBlock → (v'.ownBlock = v.ownBlock ∨ v'.ownBlock = some w.heap.size) → K (a.put o.dst v') w') : o.wp Tryz.prog a w K Q := by
  obtain ⟨v', w', hr, h2, h3, h5⟩ := run_append_sl (P := Tryz.prog) w t o.type e i z size bytes ht hi hz hsize hby hzs hsz v n xs hown ad m c news hl hnews h1 h63 hbytes
  unfold Oper.wp execOp
  simp only [ho, resolve, invoke, builtin, Sem.run_bind, Sem.run_pure, Result.andThen_ok, List.map_toArray, List.map_cons, List.map_nil, hs, hx, hr]
  exact h v' w' h2 h3 h5
theorem rec_0 {r : Int × PM} {E : List Int} (h : r.1 = 0) : rec_ r E = (0, r.2.add E) := by unfold rec_; rw [if_pos h]
theorem rec_1 {r : Int × PM} {E : List Int} (h : r.1 ≠ 0) : rec_ r E = r := by unfold rec_; rw [if_neg h]
section
variable {w w1 w2 : World} {p b : Nat} {m : PM} {F : Nat → Prop} {dv ev : Value} {D : DataW Value} {G : Nat → Value}
/-- The last step of record: the event is there, and the header is written. -/
theorem RepAt.recorded (h : RepAt w1 p m F dv b ev D G) (E : List Int) (hb : Below w1.heap.size w1 w2) {ev' : Value} {w3 : World} (hsl : Sl w3 68 12 ev' (m.ev.length + 1) (iv m.ev.flatten ++ iv E)) (hg : w2.grownBy w3 ev.ownBlock) (ho : ev'.ownBlock = ev.ownBlock ∨ ev'.ownBlock = some w2.heap.size) :
    Step F w1 p (m.add E) (w3.setCell ⟨p, 3, none⟩ ev') := by
  have hK : Kept (fun q => ev.ownBlock = some q) w2 w3 := Kept.of_grown hg (fun q hq => hq)
  have hK13 : Kept F w1 w3 := Kept.glue hb hK (fun q _ hq => h.ownE q hq)
  have hs : Sl w3 68 12 ev' (m.ev ++ [E]).length (iv (m.ev ++ [E]).flatten) := by
    rw [List.length_append, List.flatten_append, show iv (m.ev.flatten ++ [E].flatten) = iv m.ev.flatten ++ iv E by unfold iv; simp]
    exact hsl
  have := h.setEv (w' := w3) (fun q hq hne => (hK.block q (Nat.lt_of_lt_of_le (h.lt q hq) hb.size) hne).trans (hb.block q (h.lt q hq))) hK13.size hs (fun q hq => by
    rcases ho with h8 | h8
    · exact .inl (h.ownE q (h8 ▸ hq))
    · rw [h8] at hq
      simp only [Option.some.injEq] at hq
      exact .inr (by have := hb.size; omega))
  exact ⟨⟨_, _, _, _, _, this.keep (fun _ _ => rfl) (fun q hq => by
    rcases hq with h8 | h8
    · exact .inl h8
    · exact .inr ⟨h8.1, by simpa [World.setCell] using h8.2⟩) (fun q hq => by
      rcases hq with h8 | h8
      · simpa using Nat.lt_of_lt_of_le (h.lt q h8) hK13.size
      · exact h8.2)⟩, hK13.then_ (Kept.setCell w3 ev' h.ownP)⟩
end
set_option maxRecDepth 100000 in
set_option maxHeartbeats 4000000 in
set_option linter.unusedSimpArgs false in
theorem record_put (p : Nat) (E : List Int) (hE : E.length = 12) (r : Int × PM) (F : Nat → Prop) (w : World) (hsm : r.2.ev.length ≤ 1000000) (hF : ∀ q, F q → q < w.heap.size)
    (hC : ∀ w', Below w.heap.size w w' → Calls Tryz.prog 94 #[.pointer (some ⟨p, 0, none⟩), .agg (iv E).toArray] w' fun e w'' => e = .returned (.int .i64 r.1) ∧ Step F w' p r.2 w'') :
    Calls Tryz.prog 63 #[.pointer (some ⟨p, 0, none⟩), .func (.func 94) #[.pointer (some ⟨p, 0, none⟩)] #[], .agg (iv E).toArray] w fun e w' => e = .returned (.int .i64 (rec_ r E).1) ∧ Step F w p (rec_ r E).2 w' := by
  have hb := bel_new w (.cells (iv E).toArray 68)
  have hA := Arr.new w (iv E) 68
  have e0 := hA.range
  have HA := Lib.hid hA
  have HB := Lib.hid hb
  have hi := size81 hE
  have hi2 := hi
  rw [List.size_toArray] at hi2
  have hu := Tryz.underlying68
  have HC := Lib.hid (hC _ hb)
  obtain ⟨i0, his, hz0, hz1, hz2⟩ := info_parts infoEvent
  have HIS := Lib.hid his
  have HZ0 := Lib.hid hz0
  have HZ1 := Lib.hid hz1
  have HZ2 := Lib.hid hz2
  have hkF : ¬ F w.heap.size := fun h => by have := hF _ h; omega
  clear hC his hz0 hz1 hz2
  obtain ⟨c, m⟩ := r
  obtain ⟨R, hR⟩ : ∃ R, rec_ (c, m) E = R := ⟨_, rfl⟩
  rw [hR]
  go_enter Tryz.func63, Tryz.ntmps63
  go_wp2_with ((with_reducible refine arm_range 68 w.heap.size 0 (iv E) e0 _ hu rfl hi2 rfl _ rfl ?_ ?_); focus rfl)
  refine HC.out.mono ?_
  rintro e w1 ⟨rfl, hst⟩
  have HST := Lib.hid hst
  have HA1 : Hid (Arr w1 w.heap.size 68 (iv E)) := Lib.hid ((hst.2.block _ HA.out.lt hkF).trans HA.out)
  have hkn : ¬ Ex F (w.alloc (.cells (iv E).toArray 68)) w1 w.heap.size := by
    rintro (h8 | h8)
    · exact hkF h8
    · have : (w.alloc (.cells (iv E).toArray 68)).heap.size = w.heap.size + 1 := by simp
      omega
  clear HC hst HA e0 hA hb
  obtain ⟨W0, hW0⟩ : ∃ W, w.alloc (.cells (iv E).toArray 68) = W := ⟨_, rfl⟩
  rw [hW0] at HST HB hkn
  obtain ⟨k, hk⟩ : ∃ k, w.heap.size = k := ⟨_, rfl⟩
  rw [hk] at HA1 hkn ⊢
  change m.ev.length ≤ 1000000 at hsm
  change Hid (Step F W0 p m w1) at HST
  by_cases hc0 : c = 0
  · subst hc0
    have hR2 : (0, m.add E) = R := by rw [← hR, rec_0 rfl]
    go_wp2_with fail
    obtain ⟨F1, hF1⟩ : ∃ F1, F1 = Ex F W0 w1 := ⟨_, rfl⟩
    have HF1 := Lib.hid hF1
    have hrp := HST.out.1
    rw [← hF1] at hrp hkn
    obtain ⟨dv, b, ev, D, G, hr⟩ := hrp
    obtain ⟨A, cap, rfl, hcap, hcm, _⟩ := hr.evs.shape
    have HR := Lib.hid (hr.below (bel_drew w1))
    have c3 := HR.out.c3
    have HAd : Hid (Arr w1.drew k 68 (iv E)) := Lib.hid HA1.out
    have r3 := HAd.out.range
    have hkp : k ≠ p := fun e => hkn (e ▸ hr.ownP)
    have HU : Hid (Step F W0 p m w1.drew) := Lib.hid (HST.out.then_below (bel_drew w1))
    clear hr HA1 HST
    have f3 := HR.out.mem.free 3
    have HCB : Hid (∀ w2 w3 ev' , Below w1.drew.heap.size w1.drew w2 → w2.grownBy w3 (Value.slice A m.ev.length cap).ownBlock → (w3.cell? ⟨p, 3, none⟩ = some (.slice A m.ev.length cap) ∧ w3.rangeAt k 0 (iv E) ∧ w3.frozen? ⟨p, 3, none⟩ = false) ∧ (Sl w3 68 12 ev' (m.ev.length + 1) (iv m.ev.flatten ++ iv E) → (ev'.ownBlock = (Value.slice A m.ev.length cap).ownBlock ∨ ev'.ownBlock = some w2.heap.size) → Step F w p (m.add E) (w3.setCell ⟨p, 3, none⟩ ev'))) := Lib.hid (fun w2 w3 ev' hb2 hg => by
      have hK : Kept (fun q => (Value.slice A m.ev.length cap).ownBlock = some q) w2 w3 := Kept.of_grown hg (fun q hq => hq)
      have hp3 : w3.heap[p]? = w1.drew.heap[p]? := (hK.block p (Nat.lt_of_lt_of_le HR.out.mem.lt hb2.size) fun e => HR.out.evs.ne_of e HR.out.mem (by decide) rfl).trans (hb2.block p HR.out.mem.lt)
      have hk3 : w3.heap[k]? = w1.drew.heap[k]? := (hK.block k (Nat.lt_of_lt_of_le HAd.out.lt hb2.size) fun e => hkn (HR.out.ownE k e)).trans (hb2.block k HAd.out.lt)
      have hm3 : Arr w3 p _ _ := hp3.trans HR.out.mem
      exact ⟨⟨hm3.cell rfl, Arr.range (show Arr w3 k _ (iv E) from hk3.trans HAd.out), hm3.free 3⟩, fun hsl ho => by
        have h9 := HR.out.recorded E hb2 hsl hg ho
        rw [HF1.out] at h9
        exact Step.after (Kept.of_below HB.out) (HU.out.trans h9)⟩)
    obtain ⟨a0, a1, a2, a3, a4, a5, a6, a7, a8, a9, b0, b1, hE2⟩ := line12 hE
    have HE2 := Lib.hid hE2
    have k0 : w1.cell? ⟨k, 0, none⟩ = some (.int .i64 a0) := HAd.out.cell (j := 0) (by rw [hE2]; rfl)
    have k1 : w1.cell? ⟨k, 1, none⟩ = some (.int .i64 a1) := HAd.out.cell (j := 1) (by rw [hE2]; rfl)
    have k2 : w1.cell? ⟨k, 2, none⟩ = some (.int .i64 a2) := HAd.out.cell (j := 2) (by rw [hE2]; rfl)
    have k3 : w1.cell? ⟨k, 3, none⟩ = some (.int .i64 a3) := HAd.out.cell (j := 3) (by rw [hE2]; rfl)
    have k4 : w1.cell? ⟨k, 4, none⟩ = some (.int .i64 a4) := HAd.out.cell (j := 4) (by rw [hE2]; rfl)
    have k5 : w1.cell? ⟨k, 5, none⟩ = some (.int .i64 a5) := HAd.out.cell (j := 5) (by rw [hE2]; rfl)
    have k6 : w1.cell? ⟨k, 6, none⟩ = some (.int .i64 a6) := HAd.out.cell (j := 6) (by rw [hE2]; rfl)
    have k7 : w1.cell? ⟨k, 7, none⟩ = some (.int .i64 a7) := HAd.out.cell (j := 7) (by rw [hE2]; rfl)
    have k8 : w1.cell? ⟨k, 8, none⟩ = some (.int .i64 a8) := HAd.out.cell (j := 8) (by rw [hE2]; rfl)
    have k9 : w1.cell? ⟨k, 9, none⟩ = some (.int .i64 a9) := HAd.out.cell (j := 9) (by rw [hE2]; rfl)
    have k10 : w1.cell? ⟨k, 10, none⟩ = some (.int .i64 b0) := HAd.out.cell (j := 10) (by rw [hE2]; rfl)
    have k11 : w1.cell? ⟨k, 11, none⟩ = some (.int .i64 b1) := HAd.out.cell (j := 11) (by rw [hE2]; rfl)
    have c31 : w1.cell? ⟨p, 3, none⟩ = some (.slice A m.ev.length cap) := c3
    have hz1 : Hid (Sl (w1.alloc (.cells #[.int .i64 a0, .int .i64 a1, .int .i64 a2, .int .i64 a3, .int .i64 a4, .int .i64 a5, .int .i64 a6, .int .i64 a7, .int .i64 a8, .int .i64 a9, .int .i64 b0, .int .i64 b1] 68)).drew 68 12 (.slice A m.ev.length cap) m.ev.length (iv m.ev.flatten)) := Lib.hid (HR.out.evs.keep fun q hq => Below.heap_alloc w1.drew _ q (HR.out.evs.lt hq))
    have HNW : Hid (∀ j u, (iv [a0, a1, a2, a3, a4, a5, a6, a7, a8, a9, b0, b1])[j]? = some u → (w1.alloc (.cells #[.int .i64 a0, .int .i64 a1, .int .i64 a2, .int .i64 a3, .int .i64 a4, .int .i64 a5, .int .i64 a6, .int .i64 a7, .int .i64 a8, .int .i64 a9, .int .i64 b0, .int .i64 b1] 68)).drew.cell? ((⟨w1.heap.size, 0, none⟩ : Addr).add j) = some u) := Lib.hid (fun j u hu => by
      rw [Addr.add_lit, Nat.zero_add]
      exact (Arr.new w1 (iv [a0, a1, a2, a3, a4, a5, a6, a7, a8, a9, b0, b1]) 68).cell hu)
    have HBN : Hid (Below w1.drew.heap.size w1.drew (w1.alloc (.cells #[.int .i64 a0, .int .i64 a1, .int .i64 a2, .int .i64 a3, .int .i64 a4, .int .i64 a5, .int .i64 a6, .int .i64 a7, .int .i64 a8, .int .i64 a9, .int .i64 b0, .int .i64 b1] 68)).drew) := Lib.hid (bel_new w1.drew _)
    have HEE : Hid (iv E = iv [a0, a1, a2, a3, a4, a5, a6, a7, a8, a9, b0, b1]) := Lib.hid (by rw [hE2])
    have c3A := fun o => cell_below (bel_new w1 o) c31
    clear c3 r3 f3 hE2
    go_region_law ((refine wp_append_sl _ _ 24 rfl 68 i0 _ 12 96 Tryz.underlying24 HIS.out HZ0.out HZ1.out HZ2.out rfl (by decide) (.slice A m.ev.length cap) m.ev.length (iv m.ev.flatten) rfl hz1.out ⟨w1.heap.size, 0, none⟩ 1 1 (iv [a0, a1, a2, a3, a4, a5, a6, a7, a8, a9, b0, b1]) rfl rfl HNW.out (iv_one _) (by unfold maxLen; omega) (by omega) ?_; intro ev' w3 hsl hg ho; obtain ⟨⟨hs3, _, hf3⟩, hfin⟩ := HCB.out _ w3 ev' HBN.out hg; have HFIN := Lib.hid (hfin (by rw [HEE.out]; exact hsl) ho); obtain ⟨A', cap', hev, _⟩ := hsl.shape; subst hev; clear hsl hg ho hfin))
    all_goals go_wp2_with fail
    all_goals go_ret
    all_goals subst hR2
    all_goals exact ⟨rfl, HFIN.out⟩
  · have hR2 : (c, m) = R := by rw [← hR, rec_1 hc0]
    go_wp2_with fail
    go_ret
    subst hR2
    exact ⟨rfl, Step.after (Kept.of_below HB.out) HST.out⟩
set_option maxRecDepth 100000 in
set_option maxHeartbeats 4000000 in
set_option linter.unusedSimpArgs false in
theorem record_flush (p : Nat) (E : List Int) (hE : E.length = 12) (r : Int × PM) (F : Nat → Prop) (w : World) (hsm : r.2.ev.length ≤ 1000000) (hF : ∀ q, F q → q < w.heap.size)
    (hC : ∀ w', Below w.heap.size w w' → Calls Tryz.prog 95 #[.pointer (some ⟨p, 0, none⟩), .agg (iv E).toArray] w' fun e w'' => e = .returned (.int .i64 r.1) ∧ Step F w' p r.2 w'') :
    Calls Tryz.prog 63 #[.pointer (some ⟨p, 0, none⟩), .func (.func 95) #[.pointer (some ⟨p, 0, none⟩)] #[], .agg (iv E).toArray] w fun e w' => e = .returned (.int .i64 (rec_ r E).1) ∧ Step F w p (rec_ r E).2 w' := by
  have hb := bel_new w (.cells (iv E).toArray 68)
  have hA := Arr.new w (iv E) 68
  have e0 := hA.range
  have HA := Lib.hid hA
  have HB := Lib.hid hb
  have hi := size81 hE
  have hi2 := hi
  rw [List.size_toArray] at hi2
  have hu := Tryz.underlying68
  have HC := Lib.hid (hC _ hb)
  obtain ⟨i0, his, hz0, hz1, hz2⟩ := info_parts infoEvent
  have HIS := Lib.hid his
  have HZ0 := Lib.hid hz0
  have HZ1 := Lib.hid hz1
  have HZ2 := Lib.hid hz2
  have hkF : ¬ F w.heap.size := fun h => by have := hF _ h; omega
  clear hC his hz0 hz1 hz2
  obtain ⟨c, m⟩ := r
  obtain ⟨R, hR⟩ : ∃ R, rec_ (c, m) E = R := ⟨_, rfl⟩
  rw [hR]
  go_enter Tryz.func63, Tryz.ntmps63
  go_wp2_with ((with_reducible refine arm_range 68 w.heap.size 0 (iv E) e0 _ hu rfl hi2 rfl _ rfl ?_ ?_); focus rfl)
  refine HC.out.mono ?_
  rintro e w1 ⟨rfl, hst⟩
  have HST := Lib.hid hst
  have HA1 : Hid (Arr w1 w.heap.size 68 (iv E)) := Lib.hid ((hst.2.block _ HA.out.lt hkF).trans HA.out)
  have hkn : ¬ Ex F (w.alloc (.cells (iv E).toArray 68)) w1 w.heap.size := by
    rintro (h8 | h8)
    · exact hkF h8
    · have : (w.alloc (.cells (iv E).toArray 68)).heap.size = w.heap.size + 1 := by simp
      omega
  clear HC hst HA e0 hA hb
  obtain ⟨W0, hW0⟩ : ∃ W, w.alloc (.cells (iv E).toArray 68) = W := ⟨_, rfl⟩
  rw [hW0] at HST HB hkn
  obtain ⟨k, hk⟩ : ∃ k, w.heap.size = k := ⟨_, rfl⟩
  rw [hk] at HA1 hkn ⊢
  change m.ev.length ≤ 1000000 at hsm
  change Hid (Step F W0 p m w1) at HST
  by_cases hc0 : c = 0
  · subst hc0
    have hR2 : (0, m.add E) = R := by rw [← hR, rec_0 rfl]
    go_wp2_with fail
    obtain ⟨F1, hF1⟩ : ∃ F1, F1 = Ex F W0 w1 := ⟨_, rfl⟩
    have HF1 := Lib.hid hF1
    have hrp := HST.out.1
    rw [← hF1] at hrp hkn
    obtain ⟨dv, b, ev, D, G, hr⟩ := hrp
    obtain ⟨A, cap, rfl, hcap, hcm, _⟩ := hr.evs.shape
    have HR := Lib.hid (hr.below (bel_drew w1))
    have c3 := HR.out.c3
    have HAd : Hid (Arr w1.drew k 68 (iv E)) := Lib.hid HA1.out
    have r3 := HAd.out.range
    have hkp : k ≠ p := fun e => hkn (e ▸ hr.ownP)
    have HU : Hid (Step F W0 p m w1.drew) := Lib.hid (HST.out.then_below (bel_drew w1))
    clear hr HA1 HST
    have f3 := HR.out.mem.free 3
    have HCB : Hid (∀ w2 w3 ev' , Below w1.drew.heap.size w1.drew w2 → w2.grownBy w3 (Value.slice A m.ev.length cap).ownBlock → (w3.cell? ⟨p, 3, none⟩ = some (.slice A m.ev.length cap) ∧ w3.rangeAt k 0 (iv E) ∧ w3.frozen? ⟨p, 3, none⟩ = false) ∧ (Sl w3 68 12 ev' (m.ev.length + 1) (iv m.ev.flatten ++ iv E) → (ev'.ownBlock = (Value.slice A m.ev.length cap).ownBlock ∨ ev'.ownBlock = some w2.heap.size) → Step F w p (m.add E) (w3.setCell ⟨p, 3, none⟩ ev'))) := Lib.hid (fun w2 w3 ev' hb2 hg => by
      have hK : Kept (fun q => (Value.slice A m.ev.length cap).ownBlock = some q) w2 w3 := Kept.of_grown hg (fun q hq => hq)
      have hp3 : w3.heap[p]? = w1.drew.heap[p]? := (hK.block p (Nat.lt_of_lt_of_le HR.out.mem.lt hb2.size) fun e => HR.out.evs.ne_of e HR.out.mem (by decide) rfl).trans (hb2.block p HR.out.mem.lt)
      have hk3 : w3.heap[k]? = w1.drew.heap[k]? := (hK.block k (Nat.lt_of_lt_of_le HAd.out.lt hb2.size) fun e => hkn (HR.out.ownE k e)).trans (hb2.block k HAd.out.lt)
      have hm3 : Arr w3 p _ _ := hp3.trans HR.out.mem
      exact ⟨⟨hm3.cell rfl, Arr.range (show Arr w3 k _ (iv E) from hk3.trans HAd.out), hm3.free 3⟩, fun hsl ho => by
        have h9 := HR.out.recorded E hb2 hsl hg ho
        rw [HF1.out] at h9
        exact Step.after (Kept.of_below HB.out) (HU.out.trans h9)⟩)
    obtain ⟨a0, a1, a2, a3, a4, a5, a6, a7, a8, a9, b0, b1, hE2⟩ := line12 hE
    have HE2 := Lib.hid hE2
    have k0 : w1.cell? ⟨k, 0, none⟩ = some (.int .i64 a0) := HAd.out.cell (j := 0) (by rw [hE2]; rfl)
    have k1 : w1.cell? ⟨k, 1, none⟩ = some (.int .i64 a1) := HAd.out.cell (j := 1) (by rw [hE2]; rfl)
    have k2 : w1.cell? ⟨k, 2, none⟩ = some (.int .i64 a2) := HAd.out.cell (j := 2) (by rw [hE2]; rfl)
    have k3 : w1.cell? ⟨k, 3, none⟩ = some (.int .i64 a3) := HAd.out.cell (j := 3) (by rw [hE2]; rfl)
    have k4 : w1.cell? ⟨k, 4, none⟩ = some (.int .i64 a4) := HAd.out.cell (j := 4) (by rw [hE2]; rfl)
    have k5 : w1.cell? ⟨k, 5, none⟩ = some (.int .i64 a5) := HAd.out.cell (j := 5) (by rw [hE2]; rfl)
    have k6 : w1.cell? ⟨k, 6, none⟩ = some (.int .i64 a6) := HAd.out.cell (j := 6) (by rw [hE2]; rfl)
    have k7 : w1.cell? ⟨k, 7, none⟩ = some (.int .i64 a7) := HAd.out.cell (j := 7) (by rw [hE2]; rfl)
    have k8 : w1.cell? ⟨k, 8, none⟩ = some (.int .i64 a8) := HAd.out.cell (j := 8) (by rw [hE2]; rfl)
    have k9 : w1.cell? ⟨k, 9, none⟩ = some (.int .i64 a9) := HAd.out.cell (j := 9) (by rw [hE2]; rfl)
    have k10 : w1.cell? ⟨k, 10, none⟩ = some (.int .i64 b0) := HAd.out.cell (j := 10) (by rw [hE2]; rfl)
    have k11 : w1.cell? ⟨k, 11, none⟩ = some (.int .i64 b1) := HAd.out.cell (j := 11) (by rw [hE2]; rfl)
    have c31 : w1.cell? ⟨p, 3, none⟩ = some (.slice A m.ev.length cap) := c3
    have hz1 : Hid (Sl (w1.alloc (.cells #[.int .i64 a0, .int .i64 a1, .int .i64 a2, .int .i64 a3, .int .i64 a4, .int .i64 a5, .int .i64 a6, .int .i64 a7, .int .i64 a8, .int .i64 a9, .int .i64 b0, .int .i64 b1] 68)).drew 68 12 (.slice A m.ev.length cap) m.ev.length (iv m.ev.flatten)) := Lib.hid (HR.out.evs.keep fun q hq => Below.heap_alloc w1.drew _ q (HR.out.evs.lt hq))
    have HNW : Hid (∀ j u, (iv [a0, a1, a2, a3, a4, a5, a6, a7, a8, a9, b0, b1])[j]? = some u → (w1.alloc (.cells #[.int .i64 a0, .int .i64 a1, .int .i64 a2, .int .i64 a3, .int .i64 a4, .int .i64 a5, .int .i64 a6, .int .i64 a7, .int .i64 a8, .int .i64 a9, .int .i64 b0, .int .i64 b1] 68)).drew.cell? ((⟨w1.heap.size, 0, none⟩ : Addr).add j) = some u) := Lib.hid (fun j u hu => by
      rw [Addr.add_lit, Nat.zero_add]
      exact (Arr.new w1 (iv [a0, a1, a2, a3, a4, a5, a6, a7, a8, a9, b0, b1]) 68).cell hu)
    have HBN : Hid (Below w1.drew.heap.size w1.drew (w1.alloc (.cells #[.int .i64 a0, .int .i64 a1, .int .i64 a2, .int .i64 a3, .int .i64 a4, .int .i64 a5, .int .i64 a6, .int .i64 a7, .int .i64 a8, .int .i64 a9, .int .i64 b0, .int .i64 b1] 68)).drew) := Lib.hid (bel_new w1.drew _)
    have HEE : Hid (iv E = iv [a0, a1, a2, a3, a4, a5, a6, a7, a8, a9, b0, b1]) := Lib.hid (by rw [hE2])
    have c3A := fun o => cell_below (bel_new w1 o) c31
    clear c3 r3 f3 hE2
    go_region_law ((refine wp_append_sl _ _ 24 rfl 68 i0 _ 12 96 Tryz.underlying24 HIS.out HZ0.out HZ1.out HZ2.out rfl (by decide) (.slice A m.ev.length cap) m.ev.length (iv m.ev.flatten) rfl hz1.out ⟨w1.heap.size, 0, none⟩ 1 1 (iv [a0, a1, a2, a3, a4, a5, a6, a7, a8, a9, b0, b1]) rfl rfl HNW.out (iv_one _) (by unfold maxLen; omega) (by omega) ?_; intro ev' w3 hsl hg ho; obtain ⟨⟨hs3, _, hf3⟩, hfin⟩ := HCB.out _ w3 ev' HBN.out hg; have HFIN := Lib.hid (hfin (by rw [HEE.out]; exact hsl) ho); obtain ⟨A', cap', hev, _⟩ := hsl.shape; subst hev; clear hsl hg ho hfin))
    all_goals go_wp2_with fail
    all_goals go_ret
    all_goals subst hR2
    all_goals exact ⟨rfl, HFIN.out⟩
  · have hR2 : (c, m) = R := by rw [← hR, rec_1 hc0]
    go_wp2_with fail
    go_ret
    subst hR2
    exact ⟨rfl, Step.after (Kept.of_below HB.out) HST.out⟩
set_option maxRecDepth 100000 in
set_option maxHeartbeats 4000000 in
set_option linter.unusedSimpArgs false in
theorem record_evict (p : Nat) (E : List Int) (hE : E.length = 12) (r : Int × PM) (F : Nat → Prop) (w : World) (hsm : r.2.ev.length ≤ 1000000) (hF : ∀ q, F q → q < w.heap.size)
    (hC : ∀ w', Below w.heap.size w w' → Calls Tryz.prog 96 #[.pointer (some ⟨p, 0, none⟩), .agg (iv E).toArray] w' fun e w'' => e = .returned (.int .i64 r.1) ∧ Step F w' p r.2 w'') :
    Calls Tryz.prog 63 #[.pointer (some ⟨p, 0, none⟩), .func (.func 96) #[.pointer (some ⟨p, 0, none⟩)] #[], .agg (iv E).toArray] w fun e w' => e = .returned (.int .i64 (rec_ r E).1) ∧ Step F w p (rec_ r E).2 w' := by
  have hb := bel_new w (.cells (iv E).toArray 68)
  have hA := Arr.new w (iv E) 68
  have e0 := hA.range
  have HA := Lib.hid hA
  have HB := Lib.hid hb
  have hi := size81 hE
  have hi2 := hi
  rw [List.size_toArray] at hi2
  have hu := Tryz.underlying68
  have HC := Lib.hid (hC _ hb)
  obtain ⟨i0, his, hz0, hz1, hz2⟩ := info_parts infoEvent
  have HIS := Lib.hid his
  have HZ0 := Lib.hid hz0
  have HZ1 := Lib.hid hz1
  have HZ2 := Lib.hid hz2
  have hkF : ¬ F w.heap.size := fun h => by have := hF _ h; omega
  clear hC his hz0 hz1 hz2
  obtain ⟨c, m⟩ := r
  obtain ⟨R, hR⟩ : ∃ R, rec_ (c, m) E = R := ⟨_, rfl⟩
  rw [hR]
  go_enter Tryz.func63, Tryz.ntmps63
  go_wp2_with ((with_reducible refine arm_range 68 w.heap.size 0 (iv E) e0 _ hu rfl hi2 rfl _ rfl ?_ ?_); focus rfl)
  refine HC.out.mono ?_
  rintro e w1 ⟨rfl, hst⟩
  have HST := Lib.hid hst
  have HA1 : Hid (Arr w1 w.heap.size 68 (iv E)) := Lib.hid ((hst.2.block _ HA.out.lt hkF).trans HA.out)
  have hkn : ¬ Ex F (w.alloc (.cells (iv E).toArray 68)) w1 w.heap.size := by
    rintro (h8 | h8)
    · exact hkF h8
    · have : (w.alloc (.cells (iv E).toArray 68)).heap.size = w.heap.size + 1 := by simp
      omega
  clear HC hst HA e0 hA hb
  obtain ⟨W0, hW0⟩ : ∃ W, w.alloc (.cells (iv E).toArray 68) = W := ⟨_, rfl⟩
  rw [hW0] at HST HB hkn
  obtain ⟨k, hk⟩ : ∃ k, w.heap.size = k := ⟨_, rfl⟩
  rw [hk] at HA1 hkn ⊢
  change m.ev.length ≤ 1000000 at hsm
  change Hid (Step F W0 p m w1) at HST
  by_cases hc0 : c = 0
  · subst hc0
    have hR2 : (0, m.add E) = R := by rw [← hR, rec_0 rfl]
    go_wp2_with fail
    obtain ⟨F1, hF1⟩ : ∃ F1, F1 = Ex F W0 w1 := ⟨_, rfl⟩
    have HF1 := Lib.hid hF1
    have hrp := HST.out.1
    rw [← hF1] at hrp hkn
    obtain ⟨dv, b, ev, D, G, hr⟩ := hrp
    obtain ⟨A, cap, rfl, hcap, hcm, _⟩ := hr.evs.shape
    have HR := Lib.hid (hr.below (bel_drew w1))
    have c3 := HR.out.c3
    have HAd : Hid (Arr w1.drew k 68 (iv E)) := Lib.hid HA1.out
    have r3 := HAd.out.range
    have hkp : k ≠ p := fun e => hkn (e ▸ hr.ownP)
    have HU : Hid (Step F W0 p m w1.drew) := Lib.hid (HST.out.then_below (bel_drew w1))
    clear hr HA1 HST
    have f3 := HR.out.mem.free 3
    have HCB : Hid (∀ w2 w3 ev' , Below w1.drew.heap.size w1.drew w2 → w2.grownBy w3 (Value.slice A m.ev.length cap).ownBlock → (w3.cell? ⟨p, 3, none⟩ = some (.slice A m.ev.length cap) ∧ w3.rangeAt k 0 (iv E) ∧ w3.frozen? ⟨p, 3, none⟩ = false) ∧ (Sl w3 68 12 ev' (m.ev.length + 1) (iv m.ev.flatten ++ iv E) → (ev'.ownBlock = (Value.slice A m.ev.length cap).ownBlock ∨ ev'.ownBlock = some w2.heap.size) → Step F w p (m.add E) (w3.setCell ⟨p, 3, none⟩ ev'))) := Lib.hid (fun w2 w3 ev' hb2 hg => by
      have hK : Kept (fun q => (Value.slice A m.ev.length cap).ownBlock = some q) w2 w3 := Kept.of_grown hg (fun q hq => hq)
      have hp3 : w3.heap[p]? = w1.drew.heap[p]? := (hK.block p (Nat.lt_of_lt_of_le HR.out.mem.lt hb2.size) fun e => HR.out.evs.ne_of e HR.out.mem (by decide) rfl).trans (hb2.block p HR.out.mem.lt)
      have hk3 : w3.heap[k]? = w1.drew.heap[k]? := (hK.block k (Nat.lt_of_lt_of_le HAd.out.lt hb2.size) fun e => hkn (HR.out.ownE k e)).trans (hb2.block k HAd.out.lt)
      have hm3 : Arr w3 p _ _ := hp3.trans HR.out.mem
      exact ⟨⟨hm3.cell rfl, Arr.range (show Arr w3 k _ (iv E) from hk3.trans HAd.out), hm3.free 3⟩, fun hsl ho => by
        have h9 := HR.out.recorded E hb2 hsl hg ho
        rw [HF1.out] at h9
        exact Step.after (Kept.of_below HB.out) (HU.out.trans h9)⟩)
    obtain ⟨a0, a1, a2, a3, a4, a5, a6, a7, a8, a9, b0, b1, hE2⟩ := line12 hE
    have HE2 := Lib.hid hE2
    have k0 : w1.cell? ⟨k, 0, none⟩ = some (.int .i64 a0) := HAd.out.cell (j := 0) (by rw [hE2]; rfl)
    have k1 : w1.cell? ⟨k, 1, none⟩ = some (.int .i64 a1) := HAd.out.cell (j := 1) (by rw [hE2]; rfl)
    have k2 : w1.cell? ⟨k, 2, none⟩ = some (.int .i64 a2) := HAd.out.cell (j := 2) (by rw [hE2]; rfl)
    have k3 : w1.cell? ⟨k, 3, none⟩ = some (.int .i64 a3) := HAd.out.cell (j := 3) (by rw [hE2]; rfl)
    have k4 : w1.cell? ⟨k, 4, none⟩ = some (.int .i64 a4) := HAd.out.cell (j := 4) (by rw [hE2]; rfl)
    have k5 : w1.cell? ⟨k, 5, none⟩ = some (.int .i64 a5) := HAd.out.cell (j := 5) (by rw [hE2]; rfl)
    have k6 : w1.cell? ⟨k, 6, none⟩ = some (.int .i64 a6) := HAd.out.cell (j := 6) (by rw [hE2]; rfl)
    have k7 : w1.cell? ⟨k, 7, none⟩ = some (.int .i64 a7) := HAd.out.cell (j := 7) (by rw [hE2]; rfl)
    have k8 : w1.cell? ⟨k, 8, none⟩ = some (.int .i64 a8) := HAd.out.cell (j := 8) (by rw [hE2]; rfl)
    have k9 : w1.cell? ⟨k, 9, none⟩ = some (.int .i64 a9) := HAd.out.cell (j := 9) (by rw [hE2]; rfl)
    have k10 : w1.cell? ⟨k, 10, none⟩ = some (.int .i64 b0) := HAd.out.cell (j := 10) (by rw [hE2]; rfl)
    have k11 : w1.cell? ⟨k, 11, none⟩ = some (.int .i64 b1) := HAd.out.cell (j := 11) (by rw [hE2]; rfl)
    have c31 : w1.cell? ⟨p, 3, none⟩ = some (.slice A m.ev.length cap) := c3
    have hz1 : Hid (Sl (w1.alloc (.cells #[.int .i64 a0, .int .i64 a1, .int .i64 a2, .int .i64 a3, .int .i64 a4, .int .i64 a5, .int .i64 a6, .int .i64 a7, .int .i64 a8, .int .i64 a9, .int .i64 b0, .int .i64 b1] 68)).drew 68 12 (.slice A m.ev.length cap) m.ev.length (iv m.ev.flatten)) := Lib.hid (HR.out.evs.keep fun q hq => Below.heap_alloc w1.drew _ q (HR.out.evs.lt hq))
    have HNW : Hid (∀ j u, (iv [a0, a1, a2, a3, a4, a5, a6, a7, a8, a9, b0, b1])[j]? = some u → (w1.alloc (.cells #[.int .i64 a0, .int .i64 a1, .int .i64 a2, .int .i64 a3, .int .i64 a4, .int .i64 a5, .int .i64 a6, .int .i64 a7, .int .i64 a8, .int .i64 a9, .int .i64 b0, .int .i64 b1] 68)).drew.cell? ((⟨w1.heap.size, 0, none⟩ : Addr).add j) = some u) := Lib.hid (fun j u hu => by
      rw [Addr.add_lit, Nat.zero_add]
      exact (Arr.new w1 (iv [a0, a1, a2, a3, a4, a5, a6, a7, a8, a9, b0, b1]) 68).cell hu)
    have HBN : Hid (Below w1.drew.heap.size w1.drew (w1.alloc (.cells #[.int .i64 a0, .int .i64 a1, .int .i64 a2, .int .i64 a3, .int .i64 a4, .int .i64 a5, .int .i64 a6, .int .i64 a7, .int .i64 a8, .int .i64 a9, .int .i64 b0, .int .i64 b1] 68)).drew) := Lib.hid (bel_new w1.drew _)
    have HEE : Hid (iv E = iv [a0, a1, a2, a3, a4, a5, a6, a7, a8, a9, b0, b1]) := Lib.hid (by rw [hE2])
    have c3A := fun o => cell_below (bel_new w1 o) c31
    clear c3 r3 f3 hE2
    go_region_law ((refine wp_append_sl _ _ 24 rfl 68 i0 _ 12 96 Tryz.underlying24 HIS.out HZ0.out HZ1.out HZ2.out rfl (by decide) (.slice A m.ev.length cap) m.ev.length (iv m.ev.flatten) rfl hz1.out ⟨w1.heap.size, 0, none⟩ 1 1 (iv [a0, a1, a2, a3, a4, a5, a6, a7, a8, a9, b0, b1]) rfl rfl HNW.out (iv_one _) (by unfold maxLen; omega) (by omega) ?_; intro ev' w3 hsl hg ho; obtain ⟨⟨hs3, _, hf3⟩, hfin⟩ := HCB.out _ w3 ev' HBN.out hg; have HFIN := Lib.hid (hfin (by rw [HEE.out]; exact hsl) ho); obtain ⟨A', cap', hev, _⟩ := hsl.shape; subst hev; clear hsl hg ho hfin))
    all_goals go_wp2_with fail
    all_goals go_ret
    all_goals subst hR2
    all_goals exact ⟨rfl, HFIN.out⟩
  · have hR2 : (c, m) = R := by rw [← hR, rec_1 hc0]
    go_wp2_with fail
    go_ret
    subst hR2
    exact ⟨rfl, Step.after (Kept.of_below HB.out) HST.out⟩
set_option maxRecDepth 100000 in
set_option maxHeartbeats 4000000 in
set_option linter.unusedSimpArgs false in
theorem record_heal (p : Nat) (E : List Int) (hE : E.length = 12) (r : Int × PM) (F : Nat → Prop) (w : World) (hsm : r.2.ev.length ≤ 1000000) (hF : ∀ q, F q → q < w.heap.size)
    (hC : ∀ w', Below w.heap.size w w' → Calls Tryz.prog 97 #[.pointer (some ⟨p, 0, none⟩), .agg (iv E).toArray] w' fun e w'' => e = .returned (.int .i64 r.1) ∧ Step F w' p r.2 w'') :
    Calls Tryz.prog 63 #[.pointer (some ⟨p, 0, none⟩), .func (.func 97) #[.pointer (some ⟨p, 0, none⟩)] #[], .agg (iv E).toArray] w fun e w' => e = .returned (.int .i64 (rec_ r E).1) ∧ Step F w p (rec_ r E).2 w' := by
  have hb := bel_new w (.cells (iv E).toArray 68)
  have hA := Arr.new w (iv E) 68
  have e0 := hA.range
  have HA := Lib.hid hA
  have HB := Lib.hid hb
  have hi := size81 hE
  have hi2 := hi
  rw [List.size_toArray] at hi2
  have hu := Tryz.underlying68
  have HC := Lib.hid (hC _ hb)
  obtain ⟨i0, his, hz0, hz1, hz2⟩ := info_parts infoEvent
  have HIS := Lib.hid his
  have HZ0 := Lib.hid hz0
  have HZ1 := Lib.hid hz1
  have HZ2 := Lib.hid hz2
  have hkF : ¬ F w.heap.size := fun h => by have := hF _ h; omega
  clear hC his hz0 hz1 hz2
  obtain ⟨c, m⟩ := r
  obtain ⟨R, hR⟩ : ∃ R, rec_ (c, m) E = R := ⟨_, rfl⟩
  rw [hR]
  go_enter Tryz.func63, Tryz.ntmps63
  go_wp2_with ((with_reducible refine arm_range 68 w.heap.size 0 (iv E) e0 _ hu rfl hi2 rfl _ rfl ?_ ?_); focus rfl)
  refine HC.out.mono ?_
  rintro e w1 ⟨rfl, hst⟩
  have HST := Lib.hid hst
  have HA1 : Hid (Arr w1 w.heap.size 68 (iv E)) := Lib.hid ((hst.2.block _ HA.out.lt hkF).trans HA.out)
  have hkn : ¬ Ex F (w.alloc (.cells (iv E).toArray 68)) w1 w.heap.size := by
    rintro (h8 | h8)
    · exact hkF h8
    · have : (w.alloc (.cells (iv E).toArray 68)).heap.size = w.heap.size + 1 := by simp
      omega
  clear HC hst HA e0 hA hb
  obtain ⟨W0, hW0⟩ : ∃ W, w.alloc (.cells (iv E).toArray 68) = W := ⟨_, rfl⟩
  rw [hW0] at HST HB hkn
  obtain ⟨k, hk⟩ : ∃ k, w.heap.size = k := ⟨_, rfl⟩
  rw [hk] at HA1 hkn ⊢
  change m.ev.length ≤ 1000000 at hsm
  change Hid (Step F W0 p m w1) at HST
  by_cases hc0 : c = 0
  · subst hc0
    have hR2 : (0, m.add E) = R := by rw [← hR, rec_0 rfl]
    go_wp2_with fail
    obtain ⟨F1, hF1⟩ : ∃ F1, F1 = Ex F W0 w1 := ⟨_, rfl⟩
    have HF1 := Lib.hid hF1
    have hrp := HST.out.1
    rw [← hF1] at hrp hkn
    obtain ⟨dv, b, ev, D, G, hr⟩ := hrp
    obtain ⟨A, cap, rfl, hcap, hcm, _⟩ := hr.evs.shape
    have HR := Lib.hid (hr.below (bel_drew w1))
    have c3 := HR.out.c3
    have HAd : Hid (Arr w1.drew k 68 (iv E)) := Lib.hid HA1.out
    have r3 := HAd.out.range
    have hkp : k ≠ p := fun e => hkn (e ▸ hr.ownP)
    have HU : Hid (Step F W0 p m w1.drew) := Lib.hid (HST.out.then_below (bel_drew w1))
    clear hr HA1 HST
    have f3 := HR.out.mem.free 3
    have HCB : Hid (∀ w2 w3 ev' , Below w1.drew.heap.size w1.drew w2 → w2.grownBy w3 (Value.slice A m.ev.length cap).ownBlock → (w3.cell? ⟨p, 3, none⟩ = some (.slice A m.ev.length cap) ∧ w3.rangeAt k 0 (iv E) ∧ w3.frozen? ⟨p, 3, none⟩ = false) ∧ (Sl w3 68 12 ev' (m.ev.length + 1) (iv m.ev.flatten ++ iv E) → (ev'.ownBlock = (Value.slice A m.ev.length cap).ownBlock ∨ ev'.ownBlock = some w2.heap.size) → Step F w p (m.add E) (w3.setCell ⟨p, 3, none⟩ ev'))) := Lib.hid (fun w2 w3 ev' hb2 hg => by
      have hK : Kept (fun q => (Value.slice A m.ev.length cap).ownBlock = some q) w2 w3 := Kept.of_grown hg (fun q hq => hq)
      have hp3 : w3.heap[p]? = w1.drew.heap[p]? := (hK.block p (Nat.lt_of_lt_of_le HR.out.mem.lt hb2.size) fun e => HR.out.evs.ne_of e HR.out.mem (by decide) rfl).trans (hb2.block p HR.out.mem.lt)
      have hk3 : w3.heap[k]? = w1.drew.heap[k]? := (hK.block k (Nat.lt_of_lt_of_le HAd.out.lt hb2.size) fun e => hkn (HR.out.ownE k e)).trans (hb2.block k HAd.out.lt)
      have hm3 : Arr w3 p _ _ := hp3.trans HR.out.mem
      exact ⟨⟨hm3.cell rfl, Arr.range (show Arr w3 k _ (iv E) from hk3.trans HAd.out), hm3.free 3⟩, fun hsl ho => by
        have h9 := HR.out.recorded E hb2 hsl hg ho
        rw [HF1.out] at h9
        exact Step.after (Kept.of_below HB.out) (HU.out.trans h9)⟩)
    obtain ⟨a0, a1, a2, a3, a4, a5, a6, a7, a8, a9, b0, b1, hE2⟩ := line12 hE
    have HE2 := Lib.hid hE2
    have k0 : w1.cell? ⟨k, 0, none⟩ = some (.int .i64 a0) := HAd.out.cell (j := 0) (by rw [hE2]; rfl)
    have k1 : w1.cell? ⟨k, 1, none⟩ = some (.int .i64 a1) := HAd.out.cell (j := 1) (by rw [hE2]; rfl)
    have k2 : w1.cell? ⟨k, 2, none⟩ = some (.int .i64 a2) := HAd.out.cell (j := 2) (by rw [hE2]; rfl)
    have k3 : w1.cell? ⟨k, 3, none⟩ = some (.int .i64 a3) := HAd.out.cell (j := 3) (by rw [hE2]; rfl)
    have k4 : w1.cell? ⟨k, 4, none⟩ = some (.int .i64 a4) := HAd.out.cell (j := 4) (by rw [hE2]; rfl)
    have k5 : w1.cell? ⟨k, 5, none⟩ = some (.int .i64 a5) := HAd.out.cell (j := 5) (by rw [hE2]; rfl)
    have k6 : w1.cell? ⟨k, 6, none⟩ = some (.int .i64 a6) := HAd.out.cell (j := 6) (by rw [hE2]; rfl)
    have k7 : w1.cell? ⟨k, 7, none⟩ = some (.int .i64 a7) := HAd.out.cell (j := 7) (by rw [hE2]; rfl)
    have k8 : w1.cell? ⟨k, 8, none⟩ = some (.int .i64 a8) := HAd.out.cell (j := 8) (by rw [hE2]; rfl)
    have k9 : w1.cell? ⟨k, 9, none⟩ = some (.int .i64 a9) := HAd.out.cell (j := 9) (by rw [hE2]; rfl)
    have k10 : w1.cell? ⟨k, 10, none⟩ = some (.int .i64 b0) := HAd.out.cell (j := 10) (by rw [hE2]; rfl)
    have k11 : w1.cell? ⟨k, 11, none⟩ = some (.int .i64 b1) := HAd.out.cell (j := 11) (by rw [hE2]; rfl)
    have c31 : w1.cell? ⟨p, 3, none⟩ = some (.slice A m.ev.length cap) := c3
    have hz1 : Hid (Sl (w1.alloc (.cells #[.int .i64 a0, .int .i64 a1, .int .i64 a2, .int .i64 a3, .int .i64 a4, .int .i64 a5, .int .i64 a6, .int .i64 a7, .int .i64 a8, .int .i64 a9, .int .i64 b0, .int .i64 b1] 68)).drew 68 12 (.slice A m.ev.length cap) m.ev.length (iv m.ev.flatten)) := Lib.hid (HR.out.evs.keep fun q hq => Below.heap_alloc w1.drew _ q (HR.out.evs.lt hq))
    have HNW : Hid (∀ j u, (iv [a0, a1, a2, a3, a4, a5, a6, a7, a8, a9, b0, b1])[j]? = some u → (w1.alloc (.cells #[.int .i64 a0, .int .i64 a1, .int .i64 a2, .int .i64 a3, .int .i64 a4, .int .i64 a5, .int .i64 a6, .int .i64 a7, .int .i64 a8, .int .i64 a9, .int .i64 b0, .int .i64 b1] 68)).drew.cell? ((⟨w1.heap.size, 0, none⟩ : Addr).add j) = some u) := Lib.hid (fun j u hu => by
      rw [Addr.add_lit, Nat.zero_add]
      exact (Arr.new w1 (iv [a0, a1, a2, a3, a4, a5, a6, a7, a8, a9, b0, b1]) 68).cell hu)
    have HBN : Hid (Below w1.drew.heap.size w1.drew (w1.alloc (.cells #[.int .i64 a0, .int .i64 a1, .int .i64 a2, .int .i64 a3, .int .i64 a4, .int .i64 a5, .int .i64 a6, .int .i64 a7, .int .i64 a8, .int .i64 a9, .int .i64 b0, .int .i64 b1] 68)).drew) := Lib.hid (bel_new w1.drew _)
    have HEE : Hid (iv E = iv [a0, a1, a2, a3, a4, a5, a6, a7, a8, a9, b0, b1]) := Lib.hid (by rw [hE2])
    have c3A := fun o => cell_below (bel_new w1 o) c31
    clear c3 r3 f3 hE2
    go_region_law ((refine wp_append_sl _ _ 24 rfl 68 i0 _ 12 96 Tryz.underlying24 HIS.out HZ0.out HZ1.out HZ2.out rfl (by decide) (.slice A m.ev.length cap) m.ev.length (iv m.ev.flatten) rfl hz1.out ⟨w1.heap.size, 0, none⟩ 1 1 (iv [a0, a1, a2, a3, a4, a5, a6, a7, a8, a9, b0, b1]) rfl rfl HNW.out (iv_one _) (by unfold maxLen; omega) (by omega) ?_; intro ev' w3 hsl hg ho; obtain ⟨⟨hs3, _, hf3⟩, hfin⟩ := HCB.out _ w3 ev' HBN.out hg; have HFIN := Lib.hid (hfin (by rw [HEE.out]; exact hsl) ho); obtain ⟨A', cap', hev, _⟩ := hsl.shape; subst hev; clear hsl hg ho hfin))
    all_goals go_wp2_with fail
    all_goals go_ret
    all_goals subst hR2
    all_goals exact ⟨rfl, HFIN.out⟩
  · have hR2 : (c, m) = R := by rw [← hR, rec_1 hc0]
    go_wp2_with fail
    go_ret
    subst hR2
    exact ⟨rfl, Step.after (Kept.of_below HB.out) HST.out⟩
set_option maxRecDepth 100000 in
set_option maxHeartbeats 4000000 in
set_option linter.unusedSimpArgs false in
theorem record_rot (p : Nat) (E : List Int) (hE : E.length = 12) (r : Int × PM) (F : Nat → Prop) (w : World) (hsm : r.2.ev.length ≤ 1000000) (hF : ∀ q, F q → q < w.heap.size)
    (hC : ∀ w', Below w.heap.size w w' → Calls Tryz.prog 98 #[.pointer (some ⟨p, 0, none⟩), .agg (iv E).toArray] w' fun e w'' => e = .returned (.int .i64 r.1) ∧ Step F w' p r.2 w'') :
    Calls Tryz.prog 63 #[.pointer (some ⟨p, 0, none⟩), .func (.func 98) #[.pointer (some ⟨p, 0, none⟩)] #[], .agg (iv E).toArray] w fun e w' => e = .returned (.int .i64 (rec_ r E).1) ∧ Step F w p (rec_ r E).2 w' := by
  have hb := bel_new w (.cells (iv E).toArray 68)
  have hA := Arr.new w (iv E) 68
  have e0 := hA.range
  have HA := Lib.hid hA
  have HB := Lib.hid hb
  have hi := size81 hE
  have hi2 := hi
  rw [List.size_toArray] at hi2
  have hu := Tryz.underlying68
  have HC := Lib.hid (hC _ hb)
  obtain ⟨i0, his, hz0, hz1, hz2⟩ := info_parts infoEvent
  have HIS := Lib.hid his
  have HZ0 := Lib.hid hz0
  have HZ1 := Lib.hid hz1
  have HZ2 := Lib.hid hz2
  have hkF : ¬ F w.heap.size := fun h => by have := hF _ h; omega
  clear hC his hz0 hz1 hz2
  obtain ⟨c, m⟩ := r
  obtain ⟨R, hR⟩ : ∃ R, rec_ (c, m) E = R := ⟨_, rfl⟩
  rw [hR]
  go_enter Tryz.func63, Tryz.ntmps63
  go_wp2_with ((with_reducible refine arm_range 68 w.heap.size 0 (iv E) e0 _ hu rfl hi2 rfl _ rfl ?_ ?_); focus rfl)
  refine HC.out.mono ?_
  rintro e w1 ⟨rfl, hst⟩
  have HST := Lib.hid hst
  have HA1 : Hid (Arr w1 w.heap.size 68 (iv E)) := Lib.hid ((hst.2.block _ HA.out.lt hkF).trans HA.out)
  have hkn : ¬ Ex F (w.alloc (.cells (iv E).toArray 68)) w1 w.heap.size := by
    rintro (h8 | h8)
    · exact hkF h8
    · have : (w.alloc (.cells (iv E).toArray 68)).heap.size = w.heap.size + 1 := by simp
      omega
  clear HC hst HA e0 hA hb
  obtain ⟨W0, hW0⟩ : ∃ W, w.alloc (.cells (iv E).toArray 68) = W := ⟨_, rfl⟩
  rw [hW0] at HST HB hkn
  obtain ⟨k, hk⟩ : ∃ k, w.heap.size = k := ⟨_, rfl⟩
  rw [hk] at HA1 hkn ⊢
  change m.ev.length ≤ 1000000 at hsm
  change Hid (Step F W0 p m w1) at HST
  by_cases hc0 : c = 0
  · subst hc0
    have hR2 : (0, m.add E) = R := by rw [← hR, rec_0 rfl]
    go_wp2_with fail
    obtain ⟨F1, hF1⟩ : ∃ F1, F1 = Ex F W0 w1 := ⟨_, rfl⟩
    have HF1 := Lib.hid hF1
    have hrp := HST.out.1
    rw [← hF1] at hrp hkn
    obtain ⟨dv, b, ev, D, G, hr⟩ := hrp
    obtain ⟨A, cap, rfl, hcap, hcm, _⟩ := hr.evs.shape
    have HR := Lib.hid (hr.below (bel_drew w1))
    have c3 := HR.out.c3
    have HAd : Hid (Arr w1.drew k 68 (iv E)) := Lib.hid HA1.out
    have r3 := HAd.out.range
    have hkp : k ≠ p := fun e => hkn (e ▸ hr.ownP)
    have HU : Hid (Step F W0 p m w1.drew) := Lib.hid (HST.out.then_below (bel_drew w1))
    clear hr HA1 HST
    have f3 := HR.out.mem.free 3
    have HCB : Hid (∀ w2 w3 ev' , Below w1.drew.heap.size w1.drew w2 → w2.grownBy w3 (Value.slice A m.ev.length cap).ownBlock → (w3.cell? ⟨p, 3, none⟩ = some (.slice A m.ev.length cap) ∧ w3.rangeAt k 0 (iv E) ∧ w3.frozen? ⟨p, 3, none⟩ = false) ∧ (Sl w3 68 12 ev' (m.ev.length + 1) (iv m.ev.flatten ++ iv E) → (ev'.ownBlock = (Value.slice A m.ev.length cap).ownBlock ∨ ev'.ownBlock = some w2.heap.size) → Step F w p (m.add E) (w3.setCell ⟨p, 3, none⟩ ev'))) := Lib.hid (fun w2 w3 ev' hb2 hg => by
      have hK : Kept (fun q => (Value.slice A m.ev.length cap).ownBlock = some q) w2 w3 := Kept.of_grown hg (fun q hq => hq)
      have hp3 : w3.heap[p]? = w1.drew.heap[p]? := (hK.block p (Nat.lt_of_lt_of_le HR.out.mem.lt hb2.size) fun e => HR.out.evs.ne_of e HR.out.mem (by decide) rfl).trans (hb2.block p HR.out.mem.lt)
      have hk3 : w3.heap[k]? = w1.drew.heap[k]? := (hK.block k (Nat.lt_of_lt_of_le HAd.out.lt hb2.size) fun e => hkn (HR.out.ownE k e)).trans (hb2.block k HAd.out.lt)
      have hm3 : Arr w3 p _ _ := hp3.trans HR.out.mem
      exact ⟨⟨hm3.cell rfl, Arr.range (show Arr w3 k _ (iv E) from hk3.trans HAd.out), hm3.free 3⟩, fun hsl ho => by
        have h9 := HR.out.recorded E hb2 hsl hg ho
        rw [HF1.out] at h9
        exact Step.after (Kept.of_below HB.out) (HU.out.trans h9)⟩)
    obtain ⟨a0, a1, a2, a3, a4, a5, a6, a7, a8, a9, b0, b1, hE2⟩ := line12 hE
    have HE2 := Lib.hid hE2
    have k0 : w1.cell? ⟨k, 0, none⟩ = some (.int .i64 a0) := HAd.out.cell (j := 0) (by rw [hE2]; rfl)
    have k1 : w1.cell? ⟨k, 1, none⟩ = some (.int .i64 a1) := HAd.out.cell (j := 1) (by rw [hE2]; rfl)
    have k2 : w1.cell? ⟨k, 2, none⟩ = some (.int .i64 a2) := HAd.out.cell (j := 2) (by rw [hE2]; rfl)
    have k3 : w1.cell? ⟨k, 3, none⟩ = some (.int .i64 a3) := HAd.out.cell (j := 3) (by rw [hE2]; rfl)
    have k4 : w1.cell? ⟨k, 4, none⟩ = some (.int .i64 a4) := HAd.out.cell (j := 4) (by rw [hE2]; rfl)
    have k5 : w1.cell? ⟨k, 5, none⟩ = some (.int .i64 a5) := HAd.out.cell (j := 5) (by rw [hE2]; rfl)
    have k6 : w1.cell? ⟨k, 6, none⟩ = some (.int .i64 a6) := HAd.out.cell (j := 6) (by rw [hE2]; rfl)
    have k7 : w1.cell? ⟨k, 7, none⟩ = some (.int .i64 a7) := HAd.out.cell (j := 7) (by rw [hE2]; rfl)
    have k8 : w1.cell? ⟨k, 8, none⟩ = some (.int .i64 a8) := HAd.out.cell (j := 8) (by rw [hE2]; rfl)
    have k9 : w1.cell? ⟨k, 9, none⟩ = some (.int .i64 a9) := HAd.out.cell (j := 9) (by rw [hE2]; rfl)
    have k10 : w1.cell? ⟨k, 10, none⟩ = some (.int .i64 b0) := HAd.out.cell (j := 10) (by rw [hE2]; rfl)
    have k11 : w1.cell? ⟨k, 11, none⟩ = some (.int .i64 b1) := HAd.out.cell (j := 11) (by rw [hE2]; rfl)
    have c31 : w1.cell? ⟨p, 3, none⟩ = some (.slice A m.ev.length cap) := c3
    have hz1 : Hid (Sl (w1.alloc (.cells #[.int .i64 a0, .int .i64 a1, .int .i64 a2, .int .i64 a3, .int .i64 a4, .int .i64 a5, .int .i64 a6, .int .i64 a7, .int .i64 a8, .int .i64 a9, .int .i64 b0, .int .i64 b1] 68)).drew 68 12 (.slice A m.ev.length cap) m.ev.length (iv m.ev.flatten)) := Lib.hid (HR.out.evs.keep fun q hq => Below.heap_alloc w1.drew _ q (HR.out.evs.lt hq))
    have HNW : Hid (∀ j u, (iv [a0, a1, a2, a3, a4, a5, a6, a7, a8, a9, b0, b1])[j]? = some u → (w1.alloc (.cells #[.int .i64 a0, .int .i64 a1, .int .i64 a2, .int .i64 a3, .int .i64 a4, .int .i64 a5, .int .i64 a6, .int .i64 a7, .int .i64 a8, .int .i64 a9, .int .i64 b0, .int .i64 b1] 68)).drew.cell? ((⟨w1.heap.size, 0, none⟩ : Addr).add j) = some u) := Lib.hid (fun j u hu => by
      rw [Addr.add_lit, Nat.zero_add]
      exact (Arr.new w1 (iv [a0, a1, a2, a3, a4, a5, a6, a7, a8, a9, b0, b1]) 68).cell hu)
    have HBN : Hid (Below w1.drew.heap.size w1.drew (w1.alloc (.cells #[.int .i64 a0, .int .i64 a1, .int .i64 a2, .int .i64 a3, .int .i64 a4, .int .i64 a5, .int .i64 a6, .int .i64 a7, .int .i64 a8, .int .i64 a9, .int .i64 b0, .int .i64 b1] 68)).drew) := Lib.hid (bel_new w1.drew _)
    have HEE : Hid (iv E = iv [a0, a1, a2, a3, a4, a5, a6, a7, a8, a9, b0, b1]) := Lib.hid (by rw [hE2])
    have c3A := fun o => cell_below (bel_new w1 o) c31
    clear c3 r3 f3 hE2
    go_region_law ((refine wp_append_sl _ _ 24 rfl 68 i0 _ 12 96 Tryz.underlying24 HIS.out HZ0.out HZ1.out HZ2.out rfl (by decide) (.slice A m.ev.length cap) m.ev.length (iv m.ev.flatten) rfl hz1.out ⟨w1.heap.size, 0, none⟩ 1 1 (iv [a0, a1, a2, a3, a4, a5, a6, a7, a8, a9, b0, b1]) rfl rfl HNW.out (iv_one _) (by unfold maxLen; omega) (by omega) ?_; intro ev' w3 hsl hg ho; obtain ⟨⟨hs3, _, hf3⟩, hfin⟩ := HCB.out _ w3 ev' HBN.out hg; have HFIN := Lib.hid (hfin (by rw [HEE.out]; exact hsl) ho); obtain ⟨A', cap', hev, _⟩ := hsl.shape; subst hev; clear hsl hg ho hfin))
    all_goals go_wp2_with fail
    all_goals go_ret
    all_goals subst hR2
    all_goals exact ⟨rfl, HFIN.out⟩
  · have hR2 : (c, m) = R := by rw [← hR, rec_1 hc0]
    go_wp2_with fail
    go_ret
    subst hR2
    exact ⟨rfl, Step.after (Kept.of_below HB.out) HST.out⟩
set_option maxRecDepth 100000 in
set_option maxHeartbeats 4000000 in
set_option linter.unusedSimpArgs false in
theorem record_fence (p : Nat) (E : List Int) (hE : E.length = 12) (r : Int × PM) (F : Nat → Prop) (w : World) (hsm : r.2.ev.length ≤ 1000000) (hF : ∀ q, F q → q < w.heap.size)
    (hC : ∀ w', Below w.heap.size w w' → Calls Tryz.prog 64 #[.pointer (some ⟨p, 0, none⟩), .agg (iv E).toArray] w' fun e w'' => e = .returned (.int .i64 r.1) ∧ Step F w' p r.2 w'') :
    Calls Tryz.prog 63 #[.pointer (some ⟨p, 0, none⟩), .func (.func 64) #[.pointer (some ⟨p, 0, none⟩)] #[], .agg (iv E).toArray] w fun e w' => e = .returned (.int .i64 (rec_ r E).1) ∧ Step F w p (rec_ r E).2 w' := by
  have hb := bel_new w (.cells (iv E).toArray 68)
  have hA := Arr.new w (iv E) 68
  have e0 := hA.range
  have HA := Lib.hid hA
  have HB := Lib.hid hb
  have hi := size81 hE
  have hi2 := hi
  rw [List.size_toArray] at hi2
  have hu := Tryz.underlying68
  have HC := Lib.hid (hC _ hb)
  obtain ⟨i0, his, hz0, hz1, hz2⟩ := info_parts infoEvent
  have HIS := Lib.hid his
  have HZ0 := Lib.hid hz0
  have HZ1 := Lib.hid hz1
  have HZ2 := Lib.hid hz2
  have hkF : ¬ F w.heap.size := fun h => by have := hF _ h; omega
  clear hC his hz0 hz1 hz2
  obtain ⟨c, m⟩ := r
  obtain ⟨R, hR⟩ : ∃ R, rec_ (c, m) E = R := ⟨_, rfl⟩
  rw [hR]
  go_enter Tryz.func63, Tryz.ntmps63
  go_wp2_with ((with_reducible refine arm_range 68 w.heap.size 0 (iv E) e0 _ hu rfl hi2 rfl _ rfl ?_ ?_); focus rfl)
  refine HC.out.mono ?_
  rintro e w1 ⟨rfl, hst⟩
  have HST := Lib.hid hst
  have HA1 : Hid (Arr w1 w.heap.size 68 (iv E)) := Lib.hid ((hst.2.block _ HA.out.lt hkF).trans HA.out)
  have hkn : ¬ Ex F (w.alloc (.cells (iv E).toArray 68)) w1 w.heap.size := by
    rintro (h8 | h8)
    · exact hkF h8
    · have : (w.alloc (.cells (iv E).toArray 68)).heap.size = w.heap.size + 1 := by simp
      omega
  clear HC hst HA e0 hA hb
  obtain ⟨W0, hW0⟩ : ∃ W, w.alloc (.cells (iv E).toArray 68) = W := ⟨_, rfl⟩
  rw [hW0] at HST HB hkn
  obtain ⟨k, hk⟩ : ∃ k, w.heap.size = k := ⟨_, rfl⟩
  rw [hk] at HA1 hkn ⊢
  change m.ev.length ≤ 1000000 at hsm
  change Hid (Step F W0 p m w1) at HST
  by_cases hc0 : c = 0
  · subst hc0
    have hR2 : (0, m.add E) = R := by rw [← hR, rec_0 rfl]
    go_wp2_with fail
    obtain ⟨F1, hF1⟩ : ∃ F1, F1 = Ex F W0 w1 := ⟨_, rfl⟩
    have HF1 := Lib.hid hF1
    have hrp := HST.out.1
    rw [← hF1] at hrp hkn
    obtain ⟨dv, b, ev, D, G, hr⟩ := hrp
    obtain ⟨A, cap, rfl, hcap, hcm, _⟩ := hr.evs.shape
    have HR := Lib.hid (hr.below (bel_drew w1))
    have c3 := HR.out.c3
    have HAd : Hid (Arr w1.drew k 68 (iv E)) := Lib.hid HA1.out
    have r3 := HAd.out.range
    have hkp : k ≠ p := fun e => hkn (e ▸ hr.ownP)
    have HU : Hid (Step F W0 p m w1.drew) := Lib.hid (HST.out.then_below (bel_drew w1))
    clear hr HA1 HST
    have f3 := HR.out.mem.free 3
    have HCB : Hid (∀ w2 w3 ev' , Below w1.drew.heap.size w1.drew w2 → w2.grownBy w3 (Value.slice A m.ev.length cap).ownBlock → (w3.cell? ⟨p, 3, none⟩ = some (.slice A m.ev.length cap) ∧ w3.rangeAt k 0 (iv E) ∧ w3.frozen? ⟨p, 3, none⟩ = false) ∧ (Sl w3 68 12 ev' (m.ev.length + 1) (iv m.ev.flatten ++ iv E) → (ev'.ownBlock = (Value.slice A m.ev.length cap).ownBlock ∨ ev'.ownBlock = some w2.heap.size) → Step F w p (m.add E) (w3.setCell ⟨p, 3, none⟩ ev'))) := Lib.hid (fun w2 w3 ev' hb2 hg => by
      have hK : Kept (fun q => (Value.slice A m.ev.length cap).ownBlock = some q) w2 w3 := Kept.of_grown hg (fun q hq => hq)
      have hp3 : w3.heap[p]? = w1.drew.heap[p]? := (hK.block p (Nat.lt_of_lt_of_le HR.out.mem.lt hb2.size) fun e => HR.out.evs.ne_of e HR.out.mem (by decide) rfl).trans (hb2.block p HR.out.mem.lt)
      have hk3 : w3.heap[k]? = w1.drew.heap[k]? := (hK.block k (Nat.lt_of_lt_of_le HAd.out.lt hb2.size) fun e => hkn (HR.out.ownE k e)).trans (hb2.block k HAd.out.lt)
      have hm3 : Arr w3 p _ _ := hp3.trans HR.out.mem
      exact ⟨⟨hm3.cell rfl, Arr.range (show Arr w3 k _ (iv E) from hk3.trans HAd.out), hm3.free 3⟩, fun hsl ho => by
        have h9 := HR.out.recorded E hb2 hsl hg ho
        rw [HF1.out] at h9
        exact Step.after (Kept.of_below HB.out) (HU.out.trans h9)⟩)
    obtain ⟨a0, a1, a2, a3, a4, a5, a6, a7, a8, a9, b0, b1, hE2⟩ := line12 hE
    have HE2 := Lib.hid hE2
    have k0 : w1.cell? ⟨k, 0, none⟩ = some (.int .i64 a0) := HAd.out.cell (j := 0) (by rw [hE2]; rfl)
    have k1 : w1.cell? ⟨k, 1, none⟩ = some (.int .i64 a1) := HAd.out.cell (j := 1) (by rw [hE2]; rfl)
    have k2 : w1.cell? ⟨k, 2, none⟩ = some (.int .i64 a2) := HAd.out.cell (j := 2) (by rw [hE2]; rfl)
    have k3 : w1.cell? ⟨k, 3, none⟩ = some (.int .i64 a3) := HAd.out.cell (j := 3) (by rw [hE2]; rfl)
    have k4 : w1.cell? ⟨k, 4, none⟩ = some (.int .i64 a4) := HAd.out.cell (j := 4) (by rw [hE2]; rfl)
    have k5 : w1.cell? ⟨k, 5, none⟩ = some (.int .i64 a5) := HAd.out.cell (j := 5) (by rw [hE2]; rfl)
    have k6 : w1.cell? ⟨k, 6, none⟩ = some (.int .i64 a6) := HAd.out.cell (j := 6) (by rw [hE2]; rfl)
    have k7 : w1.cell? ⟨k, 7, none⟩ = some (.int .i64 a7) := HAd.out.cell (j := 7) (by rw [hE2]; rfl)
    have k8 : w1.cell? ⟨k, 8, none⟩ = some (.int .i64 a8) := HAd.out.cell (j := 8) (by rw [hE2]; rfl)
    have k9 : w1.cell? ⟨k, 9, none⟩ = some (.int .i64 a9) := HAd.out.cell (j := 9) (by rw [hE2]; rfl)
    have k10 : w1.cell? ⟨k, 10, none⟩ = some (.int .i64 b0) := HAd.out.cell (j := 10) (by rw [hE2]; rfl)
    have k11 : w1.cell? ⟨k, 11, none⟩ = some (.int .i64 b1) := HAd.out.cell (j := 11) (by rw [hE2]; rfl)
    have c31 : w1.cell? ⟨p, 3, none⟩ = some (.slice A m.ev.length cap) := c3
    have hz1 : Hid (Sl (w1.alloc (.cells #[.int .i64 a0, .int .i64 a1, .int .i64 a2, .int .i64 a3, .int .i64 a4, .int .i64 a5, .int .i64 a6, .int .i64 a7, .int .i64 a8, .int .i64 a9, .int .i64 b0, .int .i64 b1] 68)).drew 68 12 (.slice A m.ev.length cap) m.ev.length (iv m.ev.flatten)) := Lib.hid (HR.out.evs.keep fun q hq => Below.heap_alloc w1.drew _ q (HR.out.evs.lt hq))
    have HNW : Hid (∀ j u, (iv [a0, a1, a2, a3, a4, a5, a6, a7, a8, a9, b0, b1])[j]? = some u → (w1.alloc (.cells #[.int .i64 a0, .int .i64 a1, .int .i64 a2, .int .i64 a3, .int .i64 a4, .int .i64 a5, .int .i64 a6, .int .i64 a7, .int .i64 a8, .int .i64 a9, .int .i64 b0, .int .i64 b1] 68)).drew.cell? ((⟨w1.heap.size, 0, none⟩ : Addr).add j) = some u) := Lib.hid (fun j u hu => by
      rw [Addr.add_lit, Nat.zero_add]
      exact (Arr.new w1 (iv [a0, a1, a2, a3, a4, a5, a6, a7, a8, a9, b0, b1]) 68).cell hu)
    have HBN : Hid (Below w1.drew.heap.size w1.drew (w1.alloc (.cells #[.int .i64 a0, .int .i64 a1, .int .i64 a2, .int .i64 a3, .int .i64 a4, .int .i64 a5, .int .i64 a6, .int .i64 a7, .int .i64 a8, .int .i64 a9, .int .i64 b0, .int .i64 b1] 68)).drew) := Lib.hid (bel_new w1.drew _)
    have HEE : Hid (iv E = iv [a0, a1, a2, a3, a4, a5, a6, a7, a8, a9, b0, b1]) := Lib.hid (by rw [hE2])
    have c3A := fun o => cell_below (bel_new w1 o) c31
    clear c3 r3 f3 hE2
    go_region_law ((refine wp_append_sl _ _ 24 rfl 68 i0 _ 12 96 Tryz.underlying24 HIS.out HZ0.out HZ1.out HZ2.out rfl (by decide) (.slice A m.ev.length cap) m.ev.length (iv m.ev.flatten) rfl hz1.out ⟨w1.heap.size, 0, none⟩ 1 1 (iv [a0, a1, a2, a3, a4, a5, a6, a7, a8, a9, b0, b1]) rfl rfl HNW.out (iv_one _) (by unfold maxLen; omega) (by omega) ?_; intro ev' w3 hsl hg ho; obtain ⟨⟨hs3, _, hf3⟩, hfin⟩ := HCB.out _ w3 ev' HBN.out hg; have HFIN := Lib.hid (hfin (by rw [HEE.out]; exact hsl) ho); obtain ⟨A', cap', hev, _⟩ := hsl.shape; subst hev; clear hsl hg ho hfin))
    all_goals go_wp2_with fail
    all_goals go_ret
    all_goals subst hR2
    all_goals exact ⟨rfl, HFIN.out⟩
  · have hR2 : (c, m) = R := by rw [← hR, rec_1 hc0]
    go_wp2_with fail
    go_ret
    subst hR2
    exact ⟨rfl, Step.after (Kept.of_below HB.out) HST.out⟩
end Go.Proofs.YtpojhplnhppcpaaGreatDoor
