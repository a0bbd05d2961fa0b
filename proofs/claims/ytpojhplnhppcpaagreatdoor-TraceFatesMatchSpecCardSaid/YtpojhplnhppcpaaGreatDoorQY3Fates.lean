/-
  What the reference's Copy does: the walk.
-/
import Derived.Test.YtpojhplnhppcpaaGreatDoorQY2Fates
namespace Go.Proofs.YtpojhplnhppcpaaGreatDoor
open Go.RowKit Go.Maps
set_option maxRecDepth 100000 in
set_option maxHeartbeats 8000000 in
set_option linter.unusedSimpArgs false in
theorem rCopy_any (q : Nat) (m : PM) (G : Nat → Prop) (w : World) (hm : m.Ok) (hs : m.Small 1000) (h : Ref w q m G) :
    Calls Tryz.prog 80 #[.pointer (some ⟨q, 0, none⟩)] w fun e w' => ∃ r, e = .returned (.pointer (some ⟨r, 0, none⟩)) ∧ Ref w' r m (New w w') ∧ Below w.heap.size w w' := by
  have HRF := Lib.hid h
  obtain ⟨d, o, cap, ev, X, hat⟩ := h
  have HQ := Lib.hid hat
  have HM := Lib.hid hm
  have HSM := Lib.hid hs
  have c1 := hat.c1
  obtain ⟨EA, ecap, rfl, _⟩ := hat.evs.shape
  have hne := hs.ev
  have hb := bel_new w (.cells #[.slice none 0 0, .int .i64 m.span, .slice none 0 0] 128)
  have hA := Arr.new w [.slice none 0 0, .int .i64 m.span, .slice none 0 0] 128
  have c2A := cell_below hb hat.c2
  have r2A := hA.cell (j := 2) rfl
  have f2A := hA.free 2
  obtain ⟨w1, hw1⟩ : ∃ w1, w.alloc (.cells #[.slice none 0 0, .int .i64 m.span, .slice none 0 0] 128) = w1 := ⟨_, rfl⟩
  rw [hw1] at hb c2A
  change (w.alloc (.cells #[.slice none 0 0, .int .i64 m.span, .slice none 0 0] 128)).cell? _ = _ at r2A
  rw [hw1] at r2A
  have hA1 : Arr w1 w.heap.size 128 [.slice none 0 0, .int .i64 m.span, .slice none 0 0] := by rw [← hw1]; exact hA
  have HA1 := Lib.hid hA1
  have HB1 := Lib.hid hb
  have HRD := Lib.hid ((Rd.of_sl hat.evs).below (bel_on hb (bel_drew w1)))
  have HLE := Lib.hid hat.evs.1
  have HST : Hid (∀ (v' : Value) (w3 : World), Sl w3 68 12 v' (0 + m.ev.length) ([] ++ iv m.ev.flatten) → w1.drew.grownBy w3 (Value.slice none 0 0).ownBlock → (v'.ownBlock = (Value.slice none 0 0).ownBlock ∨ v'.ownBlock = some w1.drew.heap.size) →
      (w3.cell? ⟨w.heap.size, 2, none⟩ = some (.slice none 0 0) ∧ w3.frozen? ⟨w.heap.size, 2, none⟩ = false) ∧ CpAt w (w3.setCell ⟨w.heap.size, 2, none⟩ v') w.heap.size m 0 v' (.slice none 0 0) []) := Lib.hid fun v' w3 h1 h2 h3 => by
    have h4 : Sl w3 68 12 v' m.ev.length (iv m.ev.flatten) := by simpa using h1
    have hA3 : Arr w3 w.heap.size 128 [.slice none 0 0, .int .i64 m.span, .slice none 0 0] := (h2.block _ hA1.lt (fun e => by cases e)).trans hA1
    have hb3 : Below w.heap.size w w3 := (bel_on hb (bel_drew w1)).grown h2 hb.size (fun q hq => by cases hq)
    refine ⟨⟨hA3.cell rfl, hA3.free 2⟩, ?_⟩
    exact {
      mem := hA3.set 2 v'
      lst := rfl
      lin := Sl.nil _ _ _
      evs := h4.keep fun g hg => heap_setCell_other _ _ g _ (h4.ne_of hg hA3 (by decide))
      pend := fun x hx => by cases hx
      ownR := Nat.le_refl _
      ownU := fun b hb => by cases hb
      ownE := own_of (by exact hb.size) (fun b hb => by cases hb) h3
      ownG := fun x hx => by cases hx
      below := hb3.setCell (Nat.le_refl _) _ }
  obtain ⟨i0, his, hz0, hz1, hz2⟩ := info_parts infoEvent
  have HIS := Lib.hid his
  have HZ0 := Lib.hid hz0
  have HZ1 := Lib.hid hz1
  have HZ2 := Lib.hid hz2
  obtain ⟨j0, js, jz0, jz1, jz2⟩ := info_parts infoStore
  have HJS := Lib.hid js
  have HJ0 := Lib.hid jz0
  have HJ1 := Lib.hid jz1
  have HJ2 := Lib.hid jz2
  obtain ⟨l0, ls, lz0, lz1, lz2⟩ := info_parts infoRefLine
  have HLS := Lib.hid ls
  have HL0 := Lib.hid lz0
  have HL1 := Lib.hid lz1
  have HL2 := Lib.hid lz2
  obtain ⟨N, hN⟩ : ∃ N, m.L.length = N := ⟨_, rfl⟩
  have HN := Lib.hid hN
  have hN2 : N ≤ 4096 := by rw [← hN]; exact hm.few
  have HDN : Hid (∀ wr evv u X, CpAt w wr w.heap.size m N evv u X → Ref wr w.heap.size m (New w wr)) := Lib.hid fun wr evv u X h => (by rw [← hN] at h; exact h.done hm)
  generalize hne1 : m.ev.length = NE at *
  have f2A1 : w1.frozen? ⟨w.heap.size, 2, none⟩ = false := hA1.free 2
  clear hat hm hs hA hA1 hb his hz0 hz1 hz2 js jz0 jz1 jz2 ls lz0 lz1 lz2 f2A hN
  go_enter Tryz.func80, Tryz.ntmps80
  go_wp2_with fail
  generalize m.span = sp at *
  go_region_law ((refine wp_append_rd _ _ 24 rfl 68 i0 _ 12 96 Tryz.underlying24 HIS.out HZ0.out HZ1.out HZ2.out rfl (by decide) (.slice none 0 0) 0 [] rfl (Sl.nil _ _ _) (.slice EA NE ecap) NE (iv m.ev.flatten) rfl HRD.out HLE.out (iv_one _) (by unfold maxLen; omega) (by omega) ?_; intro v' w3 hs3 hg3 ho3; obtain ⟨⟨g1, g2⟩, g3⟩ := HST.out _ _ hs3 hg3 ho3; have HCP := Lib.hid g3; obtain ⟨VA, vcap, rfl, _⟩ := hs3.shape; clear hs3 hg3 ho3 g3; simp only [Nat.zero_add] at HCP))
  all_goals
    go_wp2_with fail
    clear HRD HST HA1 HB1 c1 c2A r2A f2A1 hw1
    go_loopw [4] (fun i wr => ∃ (k : Nat) (evv u : Value) (Y : List (PL × Value)), i = .int .i64 (k : Int) ∧ k ≤ N ∧ Hid (CpAt w wr w.heap.size m k evv u Y)) (fun i _ => N - (intOf i).toNat)
    case atStart => exact ⟨0, _, _, [], rfl, by omega, HCP⟩
    case round =>
      clear HCP
      obtain ⟨k, evv, u, Y, rfl, hk, HC⟩ := hrel
      obtain ⟨d1, o1, cap1, ev1, X1, h1⟩ := HRF.out.below HC.out.below
      have c0 := h1.c0
      have hcp := h1.cap_
      rw [HN.out] at c0 hcp
      by_cases hlt : k < N
      · have hkl : k < m.L.length := by rw [HN.out]; exact hlt
        have hkI : (k : Int) < (N : Int) := by omega
        obtain ⟨V, _, r1, _, _, _, _, hsv⟩ := h1.at HM.out hkl
        have h8 := (HM.out.line hkl).len
        have hpl := HSM.out.pend _ (PM.line_mem hkl)
        obtain ⟨n, hn⟩ : ∃ n, (m.line k).pend.length = n := ⟨_, rfl⟩
        obtain ⟨a0, a1, a2, a3, a4, a5, a6, a7, hws⟩ := line8 h8
        obtain ⟨c, hc⟩ : ∃ c, (m.line k).code = c := ⟨_, rfl⟩
        obtain ⟨mk, hmk⟩ : ∃ mk, (m.line k).mark = mk := ⟨_, rfl⟩
        have HRW : Hid (∀ v, lnR (m.line k, v) = [Value.int .i64 a0, Value.int .i64 a1, Value.int .i64 a2, Value.int .i64 a3, Value.int .i64 a4, Value.int .i64 a5, Value.int .i64 a6, Value.int .i64 a7, Value.int .i64 c, v, Value.int .i64 (mk : Int)]) := Lib.hid fun v => by
          unfold lnR
          show iv ((m.line k).ws ++ [(m.line k).code]) ++ [v, .int .i64 ((m.line k).mark : Int)] = _
          rw [hws, hc, hmk]
          rfl
        obtain ⟨PA, pcap, rfl, _⟩ := hsv.shape
        have HPU := Lib.hid fun (W2 W3 : World) (v' u' : Value) (hb : Below wr.heap.size wr W2) hv hvn hsl hg ho => HC.out.push (w2 := W2) (w3 := W3) hb hkl (v' := v') hv hvn (u' := u') hsl hg ho
        rw [hn] at hsv hpl HPU
        rw [HRW.out, hn] at r1
        have HSV := Lib.hid hsv
        obtain ⟨ss, hss⟩ : ∃ ss, (m.line k).pend = ss := ⟨_, rfl⟩
        rw [hss] at HSV HPU hsv
        have hi11 : (Tryz.prog.info? 130).map (·.size) = some [Value.int .i64 a0, Value.int .i64 a1, Value.int .i64 a2, Value.int .i64 a3, Value.int .i64 a4, Value.int .i64 a5, Value.int .i64 a6, Value.int .i64 a7, Value.int .i64 c, Value.slice PA n pcap, Value.int .i64 (mk : Int)].length := by kernel_rfl
        have hu11 := Tryz.underlying130
        have HONE : Hid (∀ v ∈ [Value.int .i64 a0, Value.int .i64 a1, Value.int .i64 a2, Value.int .i64 a3, Value.int .i64 a4, Value.int .i64 a5, Value.int .i64 a6, Value.int .i64 a7, Value.int .i64 c, Value.slice PA n pcap, Value.int .i64 (mk : Int)], v.oneCell' = true) := Lib.hid (by
          intro v hv
          rw [← hn, ← HRW.out] at hv
          exact lnR_one (x := (m.line k, .slice PA (m.line k).pend.length pcap)) rfl v hv)
        have HW1 : Hid (∀ W1, W1 = wr.alloc (.cells #[Value.int .i64 a0, Value.int .i64 a1, Value.int .i64 a2, Value.int .i64 a3, Value.int .i64 a4, Value.int .i64 a5, Value.int .i64 a6, Value.int .i64 a7, Value.int .i64 c, Value.slice PA n pcap, Value.int .i64 (mk : Int)] 130) → Below wr.heap.size wr W1 ∧ Arr W1 wr.heap.size 130 [Value.int .i64 a0, Value.int .i64 a1, Value.int .i64 a2, Value.int .i64 a3, Value.int .i64 a4, Value.int .i64 a5, Value.int .i64 a6, Value.int .i64 a7, Value.int .i64 c, Value.slice PA n pcap, Value.int .i64 (mk : Int)] ∧ (∀ ob, (W1.alloc ob).cell? ⟨wr.heap.size, 9, none⟩ = some (.slice PA n pcap)) ∧ Sl (W1.alloc (.cells #[] 105)) 105 2 (.slice (some ⟨W1.heap.size, 0, none⟩) 0 0) 0 [] ∧ Rd (W1.alloc (.cells #[] 105)) (.slice PA n pcap) n (iv (flatS ss)) ∧
            (∀ (v' : Value) (w3 : World), Sl w3 105 2 v' (0 + n) ([] ++ iv (flatS ss)) → (W1.alloc (.cells #[] 105)).grownBy w3 (Value.slice (some ⟨W1.heap.size, 0, none⟩) 0 0).ownBlock → (v'.ownBlock = (Value.slice (some ⟨W1.heap.size, 0, none⟩) 0 0).ownBlock ∨ v'.ownBlock = some (W1.alloc (.cells #[] 105)).heap.size) →
              (w3.cell? ⟨wr.heap.size, 9, none⟩ = some (.slice PA n pcap) ∧ w3.frozen? ⟨wr.heap.size, 9, none⟩ = false) ∧ Below wr.heap.size wr (w3.setCell ⟨wr.heap.size, 9, none⟩ v') ∧ Arr (w3.setCell ⟨wr.heap.size, 9, none⟩ v') wr.heap.size 130 [Value.int .i64 a0, Value.int .i64 a1, Value.int .i64 a2, Value.int .i64 a3, Value.int .i64 a4, Value.int .i64 a5, Value.int .i64 a6, Value.int .i64 a7, Value.int .i64 c, v', Value.int .i64 (mk : Int)] ∧ Sl (w3.setCell ⟨wr.heap.size, 9, none⟩ v') 105 2 v' n (iv (flatS ss)) ∧ (∀ q, v'.ownBlock = some q → w.heap.size ≤ q))) := Lib.hid (by
          rintro W1 rfl
          have hA := Arr.new wr [Value.int .i64 a0, Value.int .i64 a1, Value.int .i64 a2, Value.int .i64 a3, Value.int .i64 a4, Value.int .i64 a5, Value.int .i64 a6, Value.int .i64 a7, Value.int .i64 c, Value.slice PA n pcap, Value.int .i64 (mk : Int)] 130
          have hb1 := bel_new wr (.cells #[Value.int .i64 a0, Value.int .i64 a1, Value.int .i64 a2, Value.int .i64 a3, Value.int .i64 a4, Value.int .i64 a5, Value.int .i64 a6, Value.int .i64 a7, Value.int .i64 c, Value.slice PA n pcap, Value.int .i64 (mk : Int)] 130)
          have hsz := hb1.size
          obtain ⟨W1, hW1⟩ : ∃ W1, wr.alloc (.cells #[Value.int .i64 a0, Value.int .i64 a1, Value.int .i64 a2, Value.int .i64 a3, Value.int .i64 a4, Value.int .i64 a5, Value.int .i64 a6, Value.int .i64 a7, Value.int .i64 c, Value.slice PA n pcap, Value.int .i64 (mk : Int)] 130) = W1 := ⟨_, rfl⟩
          have hA1 : Arr W1 wr.heap.size 130 [Value.int .i64 a0, Value.int .i64 a1, Value.int .i64 a2, Value.int .i64 a3, Value.int .i64 a4, Value.int .i64 a5, Value.int .i64 a6, Value.int .i64 a7, Value.int .i64 c, Value.slice PA n pcap, Value.int .i64 (mk : Int)] := by rw [← hW1]; exact hA
          rw [hW1] at hb1 hsz ⊢
          have hlt1 : wr.heap.size < W1.heap.size := hA1.lt
          refine ⟨hb1, hA1, fun ob => cell_below (bel_new W1 ob) (hA1.cell (j := 9) rfl), Sl.empty W1 _ 2, (Rd.of_sl HSV.out).below (bel_on hb1 (bel_new W1 _)), ?_⟩
          intro v' w3 h1 h2 h3
          have h4 : Sl w3 105 2 v' n (iv (flatS ss)) := by simpa using h1
          have hA3 : Arr w3 wr.heap.size 130 [Value.int .i64 a0, Value.int .i64 a1, Value.int .i64 a2, Value.int .i64 a3, Value.int .i64 a4, Value.int .i64 a5, Value.int .i64 a6, Value.int .i64 a7, Value.int .i64 c, Value.slice PA n pcap, Value.int .i64 (mk : Int)] := (h2.block _ (Nat.lt_of_lt_of_le hA1.lt (bel_new W1 _).size) (fun e => by simp [Value.ownBlock] at e; omega)).trans (hA1.keep (bel_new W1 _))
          have hb3 : Below wr.heap.size wr w3 := (bel_on hb1 (bel_new W1 (.cells #[] 105))).grown h2 (by have := (bel_on hb1 (bel_new W1 (.cells #[] 105))).size; exact this) (fun q hq => by simp [Value.ownBlock] at hq; omega)
          have hww := HC.out.below.size
          refine ⟨⟨hA3.cell rfl, hA3.free 9⟩, hb3.setCell (Nat.le_refl _) _, hA3.set 9 v', h4.keep fun g hg => heap_setCell_other _ _ g _ (h4.ne_of hg hA3 (by decide)), fun q hq => ?_⟩
          rcases h3 with h5 | h5
          · rw [h5] at hq; simp [Value.ownBlock] at hq; omega
          · rw [h5] at hq; simp at hq; omega)
        have HLN : Hid ((iv (flatS ss)).length = n * 2) := Lib.hid HSV.out.1
        obtain ⟨UA, ucap, rfl, _⟩ := HC.out.lin.shape
        have HMM := Lib.hid HC.out.mem
        have HLL := Lib.hid HC.out.lin
        clear h1 hsv h8 hws hc hmk hn hss
        obtain ⟨hb1, hA1, f9, he, hrd, hf⟩ := HW1.out _ rfl
        have hsz1 : ∀ ob, (wr.alloc ob).heap.size = wr.heap.size + 1 := fun ob => by simp
        rw [hsz1] at he hf
        have HE := Lib.hid he
        have HRD := Lib.hid hrd
        have HF := Lib.hid hf
        clear hb1 hA1 he hrd hf HW1 hsz1
        go_wp2_with (first
          | ((with_reducible refine arm_range 130 d1 (o1 + k * 11) [Value.int .i64 a0, Value.int .i64 a1, Value.int .i64 a2, Value.int .i64 a3, Value.int .i64 a4, Value.int .i64 a5, Value.int .i64 a6, Value.int .i64 a7, Value.int .i64 c, Value.slice PA n pcap, Value.int .i64 (mk : Int)] r1 _ hu11 rfl hi11 rfl _ rfl ?_ ?_); focus rfl)
          | (at_builtin; refine wpList_append_rd rfl _ _ 44 rfl 105 j0 _ 2 16 Tryz.underlying44 HJS.out HJ0.out HJ1.out HJ2.out rfl (by decide) _ 0 [] rfl HE.out (.slice PA n pcap) n (iv (flatS ss)) rfl HRD.out HLN.out (iv_one _) (by unfold maxLen; omega) (by omega) ?_; intro v' w3 hs3 hg3 ho3; obtain ⟨⟨g1, g2⟩, g3, g4, g5, g6⟩ := HF.out v' w3 hs3 hg3 ho3; have G3 := Lib.hid g3; have G4 := Lib.hid g4; have G5 := Lib.hid g5; have G6 := Lib.hid g6; obtain ⟨QA, qcap, rfl, _⟩ := hs3.shape; clear hs3 hg3 ho3 g3 g4 g5 g6; simp only [Nat.zero_add] at G3 G4 G5 G6))
        refine name_world ?_
        intro W4 hW4
        rw [← hW4] at G3 G4 G5
        clear hW4 g1 g2 c0 r1
        have k0 : W4.cell? ⟨wr.heap.size, 0, none⟩ = some (Value.int .i64 a0) := G4.out.cell (j := 0) rfl
        have k1 : W4.cell? ⟨wr.heap.size, 1, none⟩ = some (Value.int .i64 a1) := G4.out.cell (j := 1) rfl
        have k2 : W4.cell? ⟨wr.heap.size, 2, none⟩ = some (Value.int .i64 a2) := G4.out.cell (j := 2) rfl
        have k3 : W4.cell? ⟨wr.heap.size, 3, none⟩ = some (Value.int .i64 a3) := G4.out.cell (j := 3) rfl
        have k4 : W4.cell? ⟨wr.heap.size, 4, none⟩ = some (Value.int .i64 a4) := G4.out.cell (j := 4) rfl
        have k5 : W4.cell? ⟨wr.heap.size, 5, none⟩ = some (Value.int .i64 a5) := G4.out.cell (j := 5) rfl
        have k6 : W4.cell? ⟨wr.heap.size, 6, none⟩ = some (Value.int .i64 a6) := G4.out.cell (j := 6) rfl
        have k7 : W4.cell? ⟨wr.heap.size, 7, none⟩ = some (Value.int .i64 a7) := G4.out.cell (j := 7) rfl
        have k8 : W4.cell? ⟨wr.heap.size, 8, none⟩ = some (Value.int .i64 c) := G4.out.cell (j := 8) rfl
        have k9 : W4.cell? ⟨wr.heap.size, 9, none⟩ = some (Value.slice QA n qcap) := G4.out.cell (j := 9) rfl
        have k10 : W4.cell? ⟨wr.heap.size, 10, none⟩ = some (Value.int .i64 (mk : Int)) := G4.out.cell (j := 10) rfl
        have hm0 : W4.cell? ⟨w.heap.size, 0, none⟩ = some (.slice UA k ucap) := (HMM.out.keep G3.out).cell (j := 0) rfl
        have hm0A := fun ob => cell_below (bel_new W4 ob) hm0
        have HL4 : Hid (Sl (W4.alloc (.cells #[Value.int .i64 a0, Value.int .i64 a1, Value.int .i64 a2, Value.int .i64 a3, Value.int .i64 a4, Value.int .i64 a5, Value.int .i64 a6, Value.int .i64 a7, Value.int .i64 c, Value.slice QA n qcap, Value.int .i64 (mk : Int)] 130)).drew 130 11 (.slice UA k ucap) k (Y.map lnR).flatten) := Lib.hid (HLL.out.keep fun q hq => (bel_on G3.out (bel_new W4 _)).block q (HLL.out.lt hq))
        have HNW : Hid (∀ j u, [Value.int .i64 a0, Value.int .i64 a1, Value.int .i64 a2, Value.int .i64 a3, Value.int .i64 a4, Value.int .i64 a5, Value.int .i64 a6, Value.int .i64 a7, Value.int .i64 c, Value.slice QA n qcap, Value.int .i64 (mk : Int)][j]? = some u → (W4.alloc (.cells #[Value.int .i64 a0, Value.int .i64 a1, Value.int .i64 a2, Value.int .i64 a3, Value.int .i64 a4, Value.int .i64 a5, Value.int .i64 a6, Value.int .i64 a7, Value.int .i64 c, Value.slice QA n qcap, Value.int .i64 (mk : Int)] 130)).drew.cell? ((⟨W4.heap.size, 0, none⟩ : Addr).add j) = some u) := Lib.hid (fun j u hu => by
          rw [Addr.add_lit, Nat.zero_add]
          exact (Arr.new W4 [Value.int .i64 a0, Value.int .i64 a1, Value.int .i64 a2, Value.int .i64 a3, Value.int .i64 a4, Value.int .i64 a5, Value.int .i64 a6, Value.int .i64 a7, Value.int .i64 c, Value.slice QA n qcap, Value.int .i64 (mk : Int)] 130).cell hu)
        have HON2 : Hid (∀ v ∈ [Value.int .i64 a0, Value.int .i64 a1, Value.int .i64 a2, Value.int .i64 a3, Value.int .i64 a4, Value.int .i64 a5, Value.int .i64 a6, Value.int .i64 a7, Value.int .i64 c, Value.slice QA n qcap, Value.int .i64 (mk : Int)], v.oneCell' = true) := Lib.hid (by
          intro v hv
          have := lnR_one (x := (m.line k, .slice QA n qcap)) rfl v (by rw [HRW.out]; exact hv)
          exact this)
        have HCB : Hid (∀ (w5 : World) (u' : Value), Sl w5 130 11 u' (k + 1) ((Y.map lnR).flatten ++ [Value.int .i64 a0, Value.int .i64 a1, Value.int .i64 a2, Value.int .i64 a3, Value.int .i64 a4, Value.int .i64 a5, Value.int .i64 a6, Value.int .i64 a7, Value.int .i64 c, Value.slice QA n qcap, Value.int .i64 (mk : Int)]) → (W4.alloc (.cells #[Value.int .i64 a0, Value.int .i64 a1, Value.int .i64 a2, Value.int .i64 a3, Value.int .i64 a4, Value.int .i64 a5, Value.int .i64 a6, Value.int .i64 a7, Value.int .i64 c, Value.slice QA n qcap, Value.int .i64 (mk : Int)] 130)).drew.grownBy w5 (Value.slice UA k ucap).ownBlock → (u'.ownBlock = (Value.slice UA k ucap).ownBlock ∨ u'.ownBlock = some (W4.alloc (.cells #[Value.int .i64 a0, Value.int .i64 a1, Value.int .i64 a2, Value.int .i64 a3, Value.int .i64 a4, Value.int .i64 a5, Value.int .i64 a6, Value.int .i64 a7, Value.int .i64 c, Value.slice QA n qcap, Value.int .i64 (mk : Int)] 130)).drew.heap.size) →
            (w5.cell? ⟨w.heap.size, 0, none⟩ = some (.slice UA k ucap) ∧ w5.frozen? ⟨w.heap.size, 0, none⟩ = false) ∧ CpAt w (w5.setCell ⟨w.heap.size, 0, none⟩ u') w.heap.size m (k + 1) evv u' (Y ++ [(m.line k, .slice QA n qcap)])) := Lib.hid (fun w5 u' h5 h6 h7 =>
          HPU.out (W4.alloc (.cells #[Value.int .i64 a0, Value.int .i64 a1, Value.int .i64 a2, Value.int .i64 a3, Value.int .i64 a4, Value.int .i64 a5, Value.int .i64 a6, Value.int .i64 a7, Value.int .i64 c, Value.slice QA n qcap, Value.int .i64 (mk : Int)] 130)).drew w5 (.slice QA n qcap) u' (bel_on (bel_on G3.out (bel_new W4 _)) (bel_drew _)) (G5.out.keep fun q hq => (bel_new W4 _).block q (G5.out.lt hq)) G6.out (by rw [HRW.out]; exact h5) h6 h7)
        clear HPU HLL HMM G4 G5 G6 HF HE HRD
        go_region_law ((refine wp_append_sl _ _ 126 rfl 130 l0 _ 11 104 Tryz.underlying126 HLS.out HL0.out HL1.out HL2.out rfl (by decide) (.slice UA k ucap) k (Y.map lnR).flatten rfl HL4.out ⟨W4.heap.size, 0, none⟩ 1 1 [Value.int .i64 a0, Value.int .i64 a1, Value.int .i64 a2, Value.int .i64 a3, Value.int .i64 a4, Value.int .i64 a5, Value.int .i64 a6, Value.int .i64 a7, Value.int .i64 c, Value.slice QA n qcap, Value.int .i64 (mk : Int)] rfl rfl HNW.out HON2.out (by unfold maxLen; omega) (by omega) ?_; intro u' w5 h5 h6 h7; obtain ⟨⟨e1, e2⟩, e3⟩ := HCB.out w5 u' h5 h6 h7; have HC5 := Lib.hid e3; obtain ⟨WA, wcap, rfl, _⟩ := h5.shape; clear h5 h6 h7 e3))
        all_goals
          go_wp2_with fail
          go_roundw
          case rel => exact ⟨k + 1, _, _, _, by simp, by omega, HC5⟩
          case measure => simp [intOf]; omega
      · obtain rfl : k = N := by omega
        have hkI : ¬ (k : Int) < (k : Int) := by omega
        have HD := Lib.hid (HDN.out _ _ _ _ HC.out)
        have HB := Lib.hid HC.out.below
        clear h1 HC HDN
        go_wp2_with fail
        go_ret
        exact ⟨w.heap.size, rfl, HD.out, HB.out⟩
end Go.Proofs.YtpojhplnhppcpaaGreatDoor
