/-
  The examples of the chapter: alumlaw05's sanity.
-/
import Derived.Test.YtpojhplnhppcpaaGreatDoorQU10
import Derived.Test.YtpojhplnhppcpaaGreatDoorQN25z
namespace Go.Proofs.YtpojhplnhppcpaaGreatDoor
open Go.RowKit Go.Maps
/-- All listed variables, as the laws need them. -/
structure TabA (w : World) : Prop where
  tab : Tab w
  txt : TabT w
  err : TabE w
theorem TabA.keep {w w' : World} (h : TabA w) (hb : Below w.heap.size w w') : TabA w' := ⟨h.tab.keep hb, h.txt.keep hb, h.err.keep hb⟩
theorem Sl.below {w w' : World} {e sz n : Nat} {v : Value} {xs : List Value} (h : Sl w e sz v n xs) (hb : Below w.heap.size w w') : Sl w' e sz v n xs := h.keep fun q hq => hb.block q (h.lt hq)
theorem Sl.at_ {w : World} {e sz n : Nat} {v : Value} {xs : List Value} (h : Sl w e sz v n xs) (hn : 0 < n) : ∃ b o cap, v = .slice (some ⟨b, o, none⟩) n cap ∧ n ≤ cap ∧ cap ≤ 9223372036854775807 ∧ ∀ j u, xs[j]? = some u → w.cell? ⟨b, o + j, none⟩ = some u := by
  obtain ⟨A, cap, rfl, h1, h2, h3, h4⟩ := h.shape
  cases A with
  | none => have := (h3 rfl).1; omega
  | some ad =>
    obtain ⟨a1, _, a3⟩ := h4 ad rfl
    obtain ⟨b, o, sp⟩ := ad
    simp only at a1 a3
    subst a1
    exact ⟨b, o, cap, rfl, h1, by unfold maxLen at h2; omega, a3⟩
theorem Arr.sl {w : World} {b e sz n : Nat} {cs : List Value} (h : Arr w b e cs) (hl : cs.length = n * sz) (hn : n ≤ maxLen) : Sl w e sz (.slice (some ⟨b, 0, none⟩) n n) n cs :=
  ⟨hl, .inr ⟨b, 0, n, cs.toArray, rfl, h, Nat.le_refl _, hn, by rw [List.size_toArray, hl]; omega, by rw [List.drop_zero, List.take_of_length_le (by rw [hl]; exact Nat.le_refl _)]⟩⟩
theorem sI8 : ∀ x ∈ sI, x.1.length = 8 := by decide
theorem sLE : EvI sL := by
  intro x hx
  simp only [sL, List.mem_cons, List.not_mem_nil, or_false] at hx
  rcases hx with rfl | rfl | rfl | rfl <;> exact ⟨rfl, fun z hz => by
    simp only [evt, Z8, List.cons_append, List.nil_append, List.mem_cons, List.not_mem_nil, or_false] at hz
    unfold I64
    omega⟩
theorem sBE : EvI sB := by
  intro x hx
  rcases List.mem_append.1 hx with h | h
  · exact sLE x h
  · simp only [List.mem_cons, List.not_mem_nil, or_false] at h
    subst h
    exact ⟨rfl, fun z hz => by
      simp only [evt, Z8, List.cons_append, List.nil_append, List.mem_cons, List.not_mem_nil, or_false] at hz
      unfold I64
      omega⟩
set_option maxRecDepth 100000 in
set_option maxHeartbeats 8000000 in
set_option linter.unusedSimpArgs false in
theorem tsanity_any (w : World) (hT : TabA w) :
    Calls Tryz.prog 15 #[] w fun e w' => e = .returned (.bool true) ∧ Below w.heap.size w w' := by
  have HT := Lib.hid hT
  clear hT
  obtain ⟨i0, hi, hz0, hz1, hz2⟩ := info_parts infoEvent
  have HI0 := Lib.hid hi
  have HZ0 := Lib.hid hz0
  have HZ1 := Lib.hid hz1
  have HZ2 := Lib.hid hz2
  clear hi hz0 hz1 hz2
  go_enter Tryz.func15, Tryz.ntmps15
  go_wp2_with fail
  refine (new_any 2 w).mono ?_
  rintro e w1 ⟨hp, hb⟩
  rcases hp with ⟨n, hn, hn1, hn2, p, rfl, hr⟩ | ⟨h9, _⟩
  case inr => omega
  obtain rfl : n = 2 := by omega
  have HR1 := Lib.hid hr
  have HB1 := Lib.hid hb
  clear hr hb hn hn1 hn2
  go_wp2_with fail
  refine (image_any p (newP 2) (New w w1) w1 (by decide) HR1.out).mono ?_
  rintro e w2 ⟨base, rfl, hs, _, hb⟩
  have HB2 := Lib.hid (bel_on HB1.out hb)
  have HBS2 : Hid (Sl w2 77 9 base sI.length (iv (flatI sI))) := Lib.hid (by rw [← sc10]; exact hs)
  rw [show (newP 2).L.length = 2 from rfl] at hs
  obtain ⟨BA, bc, rfl, _⟩ := hs.shape
  clear hs hb HB1 HR1
  have hA3 := Arr.new w2 (iv sL.flatten) 68
  have hb3 := bel_new w2 (.cells (iv sL.flatten).toArray 68)
  obtain ⟨w3, hw3⟩ : ∃ w3, w2.alloc (.cells #[.int .i64 1, .int .i64 8, .int .i64 1, .int .i64 3, .int .i64 0, .int .i64 0, .int .i64 0, .int .i64 0, .int .i64 0, .int .i64 0, .int .i64 0, .int .i64 0, .int .i64 3, .int .i64 1, .int .i64 0, .int .i64 0, .int .i64 0, .int .i64 0, .int .i64 0, .int .i64 0, .int .i64 0, .int .i64 0, .int .i64 0, .int .i64 0, .int .i64 1, .int .i64 9, .int .i64 2, .int .i64 3, .int .i64 0, .int .i64 0, .int .i64 0, .int .i64 0, .int .i64 0, .int .i64 0, .int .i64 0, .int .i64 0, .int .i64 4, .int .i64 0, .int .i64 0, .int .i64 0, .int .i64 0, .int .i64 0, .int .i64 0, .int .i64 0, .int .i64 0, .int .i64 0, .int .i64 0, .int .i64 0] 68) = w3 := ⟨_, rfl⟩
  change Arr (w2.alloc (.cells #[.int .i64 1, .int .i64 8, .int .i64 1, .int .i64 3, .int .i64 0, .int .i64 0, .int .i64 0, .int .i64 0, .int .i64 0, .int .i64 0, .int .i64 0, .int .i64 0, .int .i64 3, .int .i64 1, .int .i64 0, .int .i64 0, .int .i64 0, .int .i64 0, .int .i64 0, .int .i64 0, .int .i64 0, .int .i64 0, .int .i64 0, .int .i64 0, .int .i64 1, .int .i64 9, .int .i64 2, .int .i64 3, .int .i64 0, .int .i64 0, .int .i64 0, .int .i64 0, .int .i64 0, .int .i64 0, .int .i64 0, .int .i64 0, .int .i64 4, .int .i64 0, .int .i64 0, .int .i64 0, .int .i64 0, .int .i64 0, .int .i64 0, .int .i64 0, .int .i64 0, .int .i64 0, .int .i64 0, .int .i64 0] 68)) w2.heap.size 68 (iv sL.flatten) at hA3
  change Below w2.heap.size w2 (w2.alloc (.cells #[.int .i64 1, .int .i64 8, .int .i64 1, .int .i64 3, .int .i64 0, .int .i64 0, .int .i64 0, .int .i64 0, .int .i64 0, .int .i64 0, .int .i64 0, .int .i64 0, .int .i64 3, .int .i64 1, .int .i64 0, .int .i64 0, .int .i64 0, .int .i64 0, .int .i64 0, .int .i64 0, .int .i64 0, .int .i64 0, .int .i64 0, .int .i64 0, .int .i64 1, .int .i64 9, .int .i64 2, .int .i64 3, .int .i64 0, .int .i64 0, .int .i64 0, .int .i64 0, .int .i64 0, .int .i64 0, .int .i64 0, .int .i64 0, .int .i64 4, .int .i64 0, .int .i64 0, .int .i64 0, .int .i64 0, .int .i64 0, .int .i64 0, .int .i64 0, .int .i64 0, .int .i64 0, .int .i64 0, .int .i64 0] 68)) at hb3
  rw [hw3] at hA3 hb3
  have HB3 := Lib.hid (bel_on HB2.out hb3)
  have HBS3 := Lib.hid (HBS2.out.below hb3)
  have HLS3 : Hid (Sl w3 68 12 (.slice (some ⟨w2.heap.size, 0, none⟩) 4 4) 4 (iv sL.flatten)) := Lib.hid (hA3.sl rfl (by decide))
  obtain ⟨lb, hlb⟩ : ∃ lb, w2.heap.size = lb := ⟨_, rfl⟩
  have hbl : 4 ≤ 4 := Nat.le_refl _
  clear hA3 hb3 HB2 HBS2
  rw [hlb] at HLS3
  go_wp2_with fail
  refine (tcheck_any sI sL _ _ w3 sI8 (by decide) (Rd.of_sl HBS3.out) sLE (by decide) (Rd.of_sl HLS3.out) (HT.out.keep HB3.out).tab).mono ?_
  rintro e w4 ⟨rfl, hb⟩
  have HBS4 := Lib.hid (HBS3.out.below hb)
  have HLS4 := Lib.hid (HLS3.out.below hb)
  have HB4 := Lib.hid (bel_on HB3.out hb)
  rw [sc1]
  clear hb HBS3 HLS3 HB3 
  have hE4 := bel_new w4 (.cells #[] 68)
  have hEA := Arr.new w4 [] 68
  obtain ⟨wE, hwE⟩ : ∃ wE, w4.alloc (.cells #[] 68) = wE := ⟨_, rfl⟩
  change Arr (w4.alloc (.cells #[] 68)) w4.heap.size 68 [] at hEA
  rw [hwE] at hE4 hEA
  have HSE : Hid (Sl wE 68 12 (.slice (some ⟨w4.heap.size, 0, none⟩) 0 0) 0 []) := Lib.hid (hEA.sl rfl (by decide))
  have HBSE := Lib.hid (HBS4.out.below hE4)
  have HLSE := Lib.hid (HLS4.out.below hE4)
  have HBE := Lib.hid (bel_on HB4.out hE4)
  have HLC : Hid (∀ j u, (iv sL.flatten)[j]? = some u → wE.cell? ((⟨lb, 0, none⟩ : Addr).add j) = some u) := Lib.hid fun j u hj => by
    rw [add_zero_at]
    have := HLSE.out.cells rfl j u hj
    rw [Nat.zero_add] at this
    exact this
  have HOL : Hid (∀ u ∈ iv sL.flatten, u.oneCell' = true) := Lib.hid (iv_one _)
  have HQB : Hid (∀ q, (Value.slice BA 2 bc).ownBlock = some q → q < w4.heap.size) := Lib.hid fun q hq => HBS4.out.lt hq
  have HQL : Hid (lb < w4.heap.size) := Lib.hid (HLS4.out.lt rfl)
  have HWE : Hid (w4.heap.size ≤ wE.heap.size) := Lib.hid hE4.size
  have HEW : Hid (w.heap.size ≤ w4.heap.size) := Lib.hid HB4.out.size
  clear hE4 hEA HBS4 HLS4 HB4
  obtain ⟨eb, heb⟩ : ∃ eb, w4.heap.size = eb := ⟨_, rfl⟩
  rw [heb] at HSE HQB HQL HWE HEW
  go_wp2_with (at_builtin; (refine arm_append_sl _ _ 24 rfl rfl 68 i0 _ 12 96 Tryz.underlying24 HI0.out HZ0.out HZ1.out HZ2.out rfl (by decide) (.slice (some ⟨eb, 0, none⟩) 0 0) 0 [] rfl HSE.out ⟨lb, 0, none⟩ 4 4 (iv sL.flatten) rfl rfl HLC.out HOL.out (by decide) (by decide) ?_); intro v' wF h1 h2 h3; refine Hid.out ?_)
  refine Lib.hid ?_
  rw [Nat.zero_add, List.nil_append] at h1
  have kF : Kept (fun q => q = eb) wE wF := Kept.of_grown h2 fun q hq => by simpa [Value.ownBlock] using hq.symm
  have HBSF : Hid (Sl wF 77 9 (.slice BA 2 bc) 2 (iv (flatI sI))) := Lib.hid (HBSE.out.keep fun q hq => kF.block q (HBSE.out.lt hq) (by have := HQB.out q hq; omega))
  have HLSF : Hid (Sl wF 68 12 (.slice (some ⟨lb, 0, none⟩) 4 4) 4 (iv sL.flatten)) := Lib.hid (HLSE.out.keep fun q hq => kF.block q (HLSE.out.lt hq) (by have := HQL.out; simp only [Value.ownBlock, Option.some.injEq] at hq; omega))
  have HBF : Hid (Below w.heap.size w wF) := Lib.hid (HBE.out.trans (kF.below (fun q _ hq => by have := HEW.out; omega) HBE.out.size))
  have HOV : Hid (∀ q, v'.ownBlock = some q → eb ≤ q) := Lib.hid fun q hq => by
    rcases h3 with h3 | h3
    · rw [h3] at hq
      simp only [Value.ownBlock, Option.some.injEq] at hq
      omega
    · rw [h3] at hq
      have := HWE.out
      simp only [Option.some.injEq] at hq
      omega
  obtain ⟨VA, vc, rfl, _⟩ := h1.shape
  have hb9 := bel_new wF (.cells #[.int .i64 5, .int .i64 1, .int .i64 2, .int .i64 0, .int .i64 0, .int .i64 0, .int .i64 0, .int .i64 0, .int .i64 0, .int .i64 0, .int .i64 0, .int .i64 0] 68)
  have hA9 := Arr.new wF (iv (evt 5 1 2 0 Z8)) 68
  change Arr (wF.alloc (.cells #[.int .i64 5, .int .i64 1, .int .i64 2, .int .i64 0, .int .i64 0, .int .i64 0, .int .i64 0, .int .i64 0, .int .i64 0, .int .i64 0, .int .i64 0, .int .i64 0] 68)) wF.heap.size 68 (iv (evt 5 1 2 0 Z8)) at hA9
  obtain ⟨wG, hwG⟩ : ∃ wG, wF.alloc (.cells #[.int .i64 5, .int .i64 1, .int .i64 2, .int .i64 0, .int .i64 0, .int .i64 0, .int .i64 0, .int .i64 0, .int .i64 0, .int .i64 0, .int .i64 0, .int .i64 0] 68) = wG := ⟨_, rfl⟩
  rw [hwG] at hb9 hA9
  have HSG : Hid (Sl wG 68 12 (.slice VA 4 vc) 4 (iv sL.flatten)) := Lib.hid (h1.below hb9)
  have HBSG := Lib.hid (HBSF.out.below hb9)
  have HLSG := Lib.hid (HLSF.out.below hb9)
  have HBG := Lib.hid (bel_on HBF.out hb9)
  have HLC2 : Hid (∀ j u, (iv (evt 5 1 2 0 Z8))[j]? = some u → wG.cell? ((⟨wF.heap.size, 0, none⟩ : Addr).add j) = some u) := Lib.hid fun j u hj => by
    rw [add_zero_at]
    exact hA9.cell hj
  have HOL2 : Hid (∀ u ∈ iv (evt 5 1 2 0 Z8), u.oneCell' = true) := Lib.hid (iv_one _)
  clear h1 h2 h3 kF hb9 hA9 HBSF HLSF HBF HBSE HLSE HBE HLC HOL HSE
  go_wp2_with (at_builtin; (refine arm_append_sl _ _ 24 rfl rfl 68 i0 _ 12 96 Tryz.underlying24 HI0.out HZ0.out HZ1.out HZ2.out rfl (by decide) (.slice VA 4 vc) 4 (iv sL.flatten) rfl HSG.out ⟨wF.heap.size, 0, none⟩ 1 1 (iv (evt 5 1 2 0 Z8)) rfl rfl HLC2.out HOL2.out (by decide) (by decide) ?_); intro v' wH h1 h2 h3; refine Hid.out ?_)
  refine Lib.hid ?_
  have kH : Kept (fun q => eb ≤ q) wG wH := (Kept.of_grown (F := fun q => (Value.slice VA 4 vc).ownBlock = some q) h2 fun q hq => hq).mono fun q _ hq => HOV.out q hq
  have HBS4 : Hid (Sl wH 77 9 (.slice BA 2 bc) 2 (iv (flatI sI))) := Lib.hid (HBSG.out.keep fun q hq => kH.block q (HBSG.out.lt hq) (by have := HQB.out q hq; omega))
  have HLS4 : Hid (Sl wH 68 12 (.slice (some ⟨lb, 0, none⟩) 4 4) 4 (iv sL.flatten)) := Lib.hid (HLSG.out.keep fun q hq => kH.block q (HLSG.out.lt hq) (by have := HQL.out; simp only [Value.ownBlock, Option.some.injEq] at hq; omega))
  have HB4 : Hid (Below w.heap.size w wH) := Lib.hid (HBG.out.trans (kH.below (fun q _ hq => by have := HEW.out; omega) HBG.out.size))
  have HDS4 : Hid (Sl wH 68 12 v' 5 (iv sB.flatten)) := Lib.hid h1
  obtain ⟨VB, vd, rfl, _⟩ := h1.shape
  clear h1 h2 h3 kH HBSG HLSG HBG HSG HLC2 HOL2 HOV HQB HQL HWE HEW
  obtain ⟨w4, hw4⟩ : ∃ w4, wH = w4 := ⟨_, rfl⟩
  rw [hw4] at HBS4 HLS4 HB4 HDS4 ⊢
  clear hw4
  go_wp2_with fail
  refine (tcheck_any sI sB _ _ w4 sI8 (by decide) (Rd.of_sl HBS4.out) sBE (by decide) (Rd.of_sl HDS4.out) (HT.out.keep HB4.out).tab).mono ?_
  rintro e w5 ⟨rfl, hb⟩
  have HBS5 := Lib.hid (HBS4.out.below hb)
  have HLS5 := Lib.hid (HLS4.out.below hb)
  have HDS5 := Lib.hid (HDS4.out.below hb)
  have HB5 := Lib.hid (bel_on HB4.out hb)
  rw [sc2]
  clear HDS5
  clear hb HBS4 HLS4 HDS4 HB4 
  go_wp2_with fail
  refine (tcuts_any sI sL 3 _ _ w5 sI8 (by decide) (Rd.of_sl HBS5.out) sLE (by decide) (Rd.of_sl HLS5.out) (HT.out.keep HB5.out).tab).mono ?_
  rintro e w6 ⟨rfl, hb⟩
  have HBS6 := Lib.hid (HBS5.out.below hb)
  have HLS6 := Lib.hid (HLS5.out.below hb)
  have HB6 := Lib.hid (bel_on HB5.out hb)
  rw [sc3]
  clear hb HBS5 HLS5 HB5 
  go_wp2_with fail
  refine (tcuts_any sI sL 4 _ _ w6 sI8 (by decide) (Rd.of_sl HBS6.out) sLE (by decide) (Rd.of_sl HLS6.out) (HT.out.keep HB6.out).tab).mono ?_
  rintro e w7 ⟨rfl, hb⟩
  have HBS7 := Lib.hid (HBS6.out.below hb)
  have HLS7 := Lib.hid (HLS6.out.below hb)
  have HB7 := Lib.hid (bel_on HB6.out hb)
  rw [sc4]
  clear hb HBS6 HLS6 HB6 
  go_wp2_with fail
  refine (tchoice_any sI sL 3 5 _ _ w7 sI8 (by decide) (Rd.of_sl HBS7.out) sLE (by decide) (Rd.of_sl HLS7.out) (HT.out.keep HB7.out).tab (by unfold I64; omega)).mono ?_
  rintro e w8 ⟨⟨u, rfl, hs, _⟩, hb⟩
  have HBS8 := Lib.hid (HBS7.out.below hb)
  have HLS8 := Lib.hid (HLS7.out.below hb)
  have HB8 := Lib.hid (bel_on HB7.out hb)
  rw [sc5.1] at hs
  have HCS8 : Hid (Sl w8 48 2 u 1 (iv [1, 2])) := Lib.hid hs
  obtain ⟨cb, co, cc, rfl, _⟩ := (Hid.out HCS8).at_ (by decide)
  rw [sc5.2]
  clear hb HBS7 HLS7 HB7 hs
  have hA := Arr.new w8 (iv [1, 1]) 48
  have hb := bel_new w8 (.cells #[.int .i64 1, .int .i64 1] 48)
  change Arr (w8.alloc (.cells #[.int .i64 1, .int .i64 1] 48)) w8.heap.size 48 (iv [1, 1]) at hA
  obtain ⟨w9, hw9⟩ : ∃ w9, w8.alloc (.cells #[.int .i64 1, .int .i64 1] 48) = w9 := ⟨_, rfl⟩
  rw [hw9] at hA hb
  have HKS : Hid (Sl w9 48 2 (.slice (some ⟨w8.heap.size, 0, none⟩) 1 1) 1 (iv [1, 1])) := Lib.hid (hA.sl rfl (by decide))
  have HBS9 := Lib.hid (HBS8.out.below hb)
  have HLS9 := Lib.hid (HLS8.out.below hb)
  have HCS9 := Lib.hid (HCS8.out.below hb)
  have HB9 := Lib.hid (bel_on HB8.out hb)
  clear hb HBS8 HLS8 HCS8 HB8 hA
  go_wp2_with fail
  refine (timage_any sI sL 4 [(1, 1)] _ _ _ w9 sI8 (by decide) (Rd.of_sl HBS9.out) sLE (by decide) (Rd.of_sl HLS9.out) (Rd.of_sl HKS.out) (by intro c hc; simp at hc; try (subst hc; unfold I64; omega)) (HT.out.keep HB9.out).tab).mono ?_
  rintro e w10 ⟨hp, hb⟩
  rcases hp with ⟨h0, _⟩ | ⟨_, u, rfl, hs, _⟩
  · exact absurd sc6.1 h0
  have HBS10 := Lib.hid (HBS9.out.below hb)
  have HLS10 := Lib.hid (HLS9.out.below hb)
  have HCS10 := Lib.hid (HCS9.out.below hb)
  have HB10 := Lib.hid (bel_on HB9.out hb)
  have HIS10 : Hid (Sl w10 77 9 u 2 (iv (flatL (imgP sI sL 4 [(1, 1)]).L))) := Lib.hid (by rw [sc6.2.2.2] at hs; exact hs)
  obtain ⟨ib, io, ic, rfl, _⟩ := (Hid.out HIS10).at_ (by decide)
  clear hb HBS9 HLS9 HCS9 HB9 hs HKS
  go_wp2_with fail
  refine (timage_any sI sL 4 [] _ _ _ w10 sI8 (by decide) (Rd.of_sl HBS10.out) sLE (by decide) (Rd.of_sl HLS10.out) (Rd.of_sl (Sl.nil _ 48 2)) (by intro c hc; simp at hc; try (subst hc; unfold I64; omega)) (HT.out.keep HB10.out).tab).mono ?_
  rintro e w11 ⟨hp, hb⟩
  rcases hp with ⟨h0, _⟩ | ⟨_, u, rfl, hs, _⟩
  · exact absurd sc7.1 h0
  have HBS11 := Lib.hid (HBS10.out.below hb)
  have HLS11 := Lib.hid (HLS10.out.below hb)
  have HCS11 := Lib.hid (HCS10.out.below hb)
  have HIS11 := Lib.hid (HIS10.out.below hb)
  have HB11 := Lib.hid (bel_on HB10.out hb)
  have HJS11 : Hid (Sl w11 77 9 u 2 (iv (flatL (imgP sI sL 4 []).L))) := Lib.hid (by rw [sc7.2.2.2] at hs; exact hs)
  obtain ⟨jb, jo, jc, rfl, _⟩ := (Hid.out HJS11).at_ (by decide)
  clear hb HBS10 HLS10 HCS10 HIS10 HB10 hs
  go_wp2_with fail
  refine (tfates_any sI sL 4 _ _ w11 sI8 (by decide) (Rd.of_sl HBS11.out) sLE (by decide) (Rd.of_sl HLS11.out) (HT.out.keep HB11.out).tab).mono ?_
  rintro e w12 ⟨hp, hb⟩
  rcases hp with ⟨h0, _⟩ | ⟨_, u, rfl, hs, _⟩
  · exact absurd sc8.2 h0
  have HBS12 := Lib.hid (HBS11.out.below hb)
  have HLS12 := Lib.hid (HLS11.out.below hb)
  have HCS12 := Lib.hid (HCS11.out.below hb)
  have HIS12 := Lib.hid (HIS11.out.below hb)
  have HJS12 := Lib.hid (HJS11.out.below hb)
  have HB12 := Lib.hid (bel_on HB11.out hb)
  have HFS12 : Hid (Sl w12 3 1 u 4 (iv [2, 0, 1, 0])) := Lib.hid (by rw [sc8.1] at hs; exact hs)
  obtain ⟨fb, fo, fc, rfl, _⟩ := (Hid.out HFS12).at_ (by decide)
  clear hb HBS11 HLS11 HCS11 HIS11 HJS11 HB11 hs
  go_wp2_with fail
  refine (print_any sL _ w12 sLE (by decide) (Rd.of_sl HLS12.out) (HT.out.keep HB12.out).txt).mono ?_
  rintro e w13 ⟨rfl, hb⟩
  have HBS13 := Lib.hid (HBS12.out.below hb)
  have HLS13 := Lib.hid (HLS12.out.below hb)
  have HCS13 := Lib.hid (HCS12.out.below hb)
  have HIS13 := Lib.hid (HIS12.out.below hb)
  have HJS13 := Lib.hid (HJS12.out.below hb)
  have HFS13 := Lib.hid (HFS12.out.below hb)
  have HB13 := Lib.hid (bel_on HB12.out hb)
  rw [st1]
  unfold strV
  clear hb HBS12 HLS12 HCS12 HIS12 HJS12 HFS12 HB12 
  go_wp2_with fail
  refine (treplay_any sI sL _ _ w13 sI8 (by decide) (Rd.of_sl HBS13.out) sLE (by decide) (Rd.of_sl HLS13.out) (HT.out.keep HB13.out).tab).mono ?_
  rintro e w14 ⟨hp, hb⟩
  rcases hp with ⟨h0, _⟩ | ⟨_, _, _, r, rfl, hr⟩
  · exact absurd sc9.1 h0
  have HBS14 := Lib.hid (HBS13.out.below hb)
  have HLS14 := Lib.hid (HLS13.out.below hb)
  have HCS14 := Lib.hid (HCS13.out.below hb)
  have HIS14 := Lib.hid (HIS13.out.below hb)
  have HJS14 := Lib.hid (HJS13.out.below hb)
  have HFS14 := Lib.hid (HFS13.out.below hb)
  have HB14 := Lib.hid (bel_on HB13.out hb)
  have HRP14 : Hid (Rep w14 r (runP (fromP sI) sL) (New w13 w14)) := Lib.hid hr
  have hbr : 0 ≤ 1 := by omega
  clear hb HBS13 HLS13 HCS13 HIS13 HJS13 HFS13 HB13 hr hbr
  go_wp2_with fail
  refine (parse_any sT w14 (by decide) (HT.out.keep HB14.out).txt (HT.out.keep HB14.out).err).mono ?_
  rintro e w15 ⟨hp, hb⟩
  rcases hp with ⟨h0, _⟩ | ⟨_, u, rfl, hs, _⟩
  · exact absurd (congrArg Prod.snd st2) h0
  have HBS15 := Lib.hid (HBS14.out.below hb)
  have HLS15 := Lib.hid (HLS14.out.below hb)
  have HCS15 := Lib.hid (HCS14.out.below hb)
  have HIS15 := Lib.hid (HIS14.out.below hb)
  have HJS15 := Lib.hid (HJS14.out.below hb)
  have HFS15 := Lib.hid (HFS14.out.below hb)
  have HRP15 := Lib.hid (HRP14.out.below hb)
  have HB15 := Lib.hid (bel_on HB14.out hb)
  rw [st2] at hs ⊢
  change Sl w15 68 12 u 4 (iv sL.flatten) at hs
  rw [show (((sL, ([] : List UInt8)).1.length : Nat) : Int) = 4 from rfl]
  have HPS15 : Hid (Sl w15 68 12 u 4 (iv sL.flatten)) := Lib.hid hs
  obtain ⟨qb, qo, qc, rfl, _⟩ := (Hid.out HPS15).at_ (by decide)
  clear hb HBS14 HLS14 HCS14 HIS14 HJS14 HFS14 HRP14 HB14 hs
  obtain ⟨fok, fsm, _⟩ := fromP_ok sI8 (show rightB sI = true by decide +kernel)
  have HMO := Lib.hid (run_good sL fok fsm sLE).1
  clear fok fsm
  go_wp2_with fail
  refine (load_any r 9 (runP (fromP sI) sL) _ w15 (by unfold I64; omega) HMO.out HRP15.out (HT.out.keep HB15.out).tab).mono ?_
  rintro e w16 ⟨rfl, hb⟩
  have HBS16 := Lib.hid (HBS15.out.below hb)
  have HLS16 := Lib.hid (HLS15.out.below hb)
  have HCS16 := Lib.hid (HCS15.out.below hb)
  have HIS16 := Lib.hid (HIS15.out.below hb)
  have HJS16 := Lib.hid (HJS15.out.below hb)
  have HFS16 := Lib.hid (HFS15.out.below hb)
  have HRP16 := Lib.hid (HRP15.out.below hb)
  have HPS16 := Lib.hid (HPS15.out.below hb)
  have HB16 := Lib.hid (bel_on HB15.out hb)
  rw [sc9.2]
  clear hb HBS15 HLS15 HCS15 HIS15 HJS15 HFS15 HRP15 HPS15 HB15 
  have c0 : w16.cell? ⟨cb, co, none⟩ = some (.int .i64 1) := HCS16.out.cells rfl 0 _ rfl
  have c1 : w16.cell? ⟨cb, co + 1, none⟩ = some (.int .i64 2) := HCS16.out.cells rfl 1 _ rfl
  have nth : ∀ (l : List Int) (j : Nat) (z : Int), j < l.length → l.getD j 7 = z → (iv l)[j]? = some (.int .i64 z) := fun l j z hj hz => by
    unfold iv
    rw [List.getElem?_map, List.getElem?_eq_getElem hj]
    rw [List.getD_eq_getElem?_getD, List.getElem?_eq_getElem hj] at hz
    rw [show l[j] = z from hz]
    rfl
  have i0 : w16.cell? ⟨ib, io + 9, none⟩ = some (.int .i64 1) := HIS16.out.cells rfl 9 _ (nth _ _ _ (by decide +kernel) sc6.2.1)
  have i1 : w16.cell? ⟨ib, io + 9 + 1, none⟩ = some (.int .i64 2) := HIS16.out.cells rfl 10 _ (nth _ _ _ (by decide +kernel) sc6.2.2.1)
  have j0 : w16.cell? ⟨jb, jo + 9, none⟩ = some (.int .i64 1) := HJS16.out.cells rfl 9 _ (nth _ _ _ (by decide +kernel) sc7.2.1)
  have j1 : w16.cell? ⟨jb, jo + 9 + 1, none⟩ = some (.int .i64 0) := HJS16.out.cells rfl 10 _ (nth _ _ _ (by decide +kernel) sc7.2.2.1)
  have f0 : w16.cell? ⟨fb, fo, none⟩ = some (.int .i64 2) := HFS16.out.cells rfl 0 _ rfl
  have f1 : w16.cell? ⟨fb, fo + 1, none⟩ = some (.int .i64 0) := HFS16.out.cells rfl 1 _ rfl
  have f2 : w16.cell? ⟨fb, fo + 2, none⟩ = some (.int .i64 1) := HFS16.out.cells rfl 2 _ rfl
  have heq : ∀ w : World, (Op.equalIn 10000 48 (.agg #[.int .i64 1, .int .i64 2]) (.agg #[.int .i64 1, .int .i64 2])).run Tryz.prog w = .ok true w := fun w => by kernel_rfl
  have HSE := Lib.hid (sameEvents_any sL _ _ w16 sLE (by decide) (Rd.of_sl HPS16.out) (Rd.of_sl HLS16.out))
  clear nth
  unfold sT
  go_wp2_with fail
  refine HSE.out.mono ?_
  rintro e w17 ⟨rfl, hb⟩
  have HBZ := Lib.hid (bel_on HB16.out hb)
  clear hb HSE
  go_wp2_with fail
  go_ret
  exact ⟨rfl, HBZ.out⟩
end Go.Proofs.YtpojhplnhppcpaaGreatDoor
