/-
  The busy lines, sorted; what a fence makes of all lines. What memory's fence and Fence do.
-/
import Derived.Test.YtmnncbgibngmiaaGreatDoorQN12
import Derived.Test.YtmnncbgibngmiaaGreatDoorQSh
namespace Go.Proofs.YtmnncbgibngmiaaGreatDoor
open Go.RowKit Go.Maps
theorem sorts_in (m : Nat) : AnyZI.SortsIn Tryz.prog Tryz.sortedA_ren Fence.wide m :=
  ⟨fun blk off cap ss W hH hblk hsz => callsIn_wide.2 (AnyM.slices_Sort_int Tryz.sortA blk off cap ss W hH hblk hsz),
   fun p cap W => callsIn_wide.2 (AnyM.slices_Sort_int_none Tryz.sortA p cap W)⟩
theorem keys_any (b : Nat) (W : World) : Calls Tryz.prog 80 #[.map (some b)] W fun e w' => e = .returned (.func (.func 92) #[] #[.pointer (some ⟨W.heap.size, 0, none⟩)]) ∧ w' = W.alloc (.cells #[.map (some b)] 59) :=
  callsIn_wide.1 (AnyZI.keys_in Tryz.keysA Fence.wide 5 trivial rfl (some b) W)
set_option maxHeartbeats 1000000 in
theorem sorted_any (b nn : Nat) (D0 : DataW Value) (w : World) (hown : w.ownsMap Tryz.prog 3 heldR b nn D0) (hs : Maps.size D0 ≤ 4096) :
    Calls Tryz.prog 79 #[.func (.func 92) #[] #[.pointer (some ⟨w.heap.size, 0, none⟩)]] (w.alloc (.cells #[.map (some b)] 59)) fun e w' => ∃ (v : Value) (ss : List Int), e = .returned v ∧ ss.Perm (Go.intKeys D0) ∧
      Sl w' 3 1 v ss.length (iv (ss.mergeSort (fun x y => decide (x ≤ y)))) ∧ (∀ k, v.ownBlock = some k → w.heap.size ≤ k) ∧ Below w.heap.size w w' := by
  have hbl := hown.lt
  have hseq : SeqGives Fence.wide 2 Tryz.prog 92 #[.pointer (some ⟨w.heap.size, 0, none⟩)] Go.encZ (fun ss => ss.Perm (Go.intKeys D0)) (Maps.size D0) (w.alloc (.cells #[.map (some b)] 59)) :=
    AnyZI.keys_gives (ρ := Tryz.keysA_ren) { Tryz.keysA with } Fence.wide _ trivial rfl (by omega) w.heap.size b nn D0 _ (by simp) (by simp) (by
      obtain ⟨es, clock, hb, Ft, hs, hD⟩ := hown
      exact ⟨es, clock, (Below.heap_alloc _ _ b hbl).trans hb, Ft, hs, hD⟩)
  have cS := AnyZI.sorted_in Tryz.sortedA Fence.wide 5 trivial trivial trivial trivial rfl (by omega) (sorts_in _) (enters_of Tryz.func91 (by kernel_rfl) rfl) 92 #[.pointer (some ⟨w.heap.size, 0, none⟩)] trivial (enters_of Tryz.func92 (by kernel_rfl) rfl) _ _ (by unfold maxLen; omega) (by omega) _ hseq
  refine (callsIn_wide.1 cS).mono ?_
  rintro e w' ⟨v, ss, rfl, hS, hrow, hnil, hb⟩
  have hz : (w.alloc (.cells #[.map (some b)] 59)).heap.size = w.heap.size + 1 := by simp
  refine ⟨v, ss, rfl, hS, Sl.of_row hrow, fun k hk => ?_, bel_on (bel_new w _) hb⟩
  rcases hrow.2 with ⟨rfl, _⟩ | ⟨g, cap', cur, rfl, hg, _⟩
  · simp [Value.ownBlock] at hk
  · simp [Value.ownBlock] at hk
    omega
/-! ### what is settled -/
/-- A line is settled as far as it is marked. -/
def fenceStep (m : PM) (z : Int) : PM := m.upd z.toNat fun l => l.settle l.mark
theorem PL.settle_mark {l : PL} (h : l.Ok) (he : l.pend = []) : l.settle l.mark = l := by
  have := h.mark
  rw [he] at this
  unfold PL.settle
  rw [if_pos (by simpa using this)]
theorem fenceStep_fold (ks : List Int) : ∀ (m : PM), ks.Nodup → (∀ z ∈ ks, 0 ≤ z ∧ z < m.L.length) → (ks.foldl fenceStep m).L.length = m.L.length ∧ (ks.foldl fenceStep m).span = m.span ∧ (ks.foldl fenceStep m).ev = m.ev ∧
    ∀ i, i < m.L.length → (ks.foldl fenceStep m).line i = if (i : Int) ∈ ks then (m.line i).settle (m.line i).mark else m.line i := by
  induction ks with
  | nil => intro m _ _; exact ⟨rfl, rfl, rfl, fun i _ => by simp⟩
  | cons z r ih =>
    intro m hn hr
    obtain ⟨hz, hn'⟩ := List.nodup_cons.1 hn
    have hz0 := hr z (by simp)
    have hlen : (fenceStep m z).L.length = m.L.length := PM.upd_len ..
    obtain ⟨e1, e2, e3, e4⟩ := ih (fenceStep m z) hn' (fun y hy => by rw [hlen]; exact hr y (by simp [hy]))
    refine ⟨e1.trans hlen, e2, e3, fun i hi => ?_⟩
    rw [List.foldl_cons, e4 i (by omega)]
    have hl : (fenceStep m z).line i = if i = z.toNat then (m.line z.toNat).settle (m.line z.toNat).mark else m.line i := PM.upd_line _ (by omega)
    by_cases hiz : i = z.toNat
    · have hzi : (i : Int) = z := by omega
      rw [hl, if_pos hiz, if_neg (by rw [hzi]; exact hz), if_pos (by rw [hzi]; simp), ← hiz]
    · have hzi : (i : Int) ≠ z := by omega
      rw [hl, if_neg hiz]
      by_cases hm : (i : Int) ∈ r
      · rw [if_pos hm, if_pos (by simp [hm])]
      · rw [if_neg hm, if_neg (by simp [hm, hzi])]
theorem fence_all {m : PM} (hm : m.Ok) (ks : List Int) (hn : ks.Nodup) (hk : ∀ z, z ∈ ks ↔ (0 ≤ z ∧ z < m.L.length ∧ (m.line z.toNat).pend ≠ [])) : ks.foldl fenceStep m = fenceP m := by
  obtain ⟨e1, e2, e3, e4⟩ := fenceStep_fold ks m hn fun z hz => ⟨((hk z).1 hz).1, ((hk z).1 hz).2.1⟩
  generalize ks.foldl fenceStep m = m' at *
  obtain ⟨L', s', v'⟩ := m'
  simp only at e1 e2 e3
  subst e2 e3
  unfold fenceP
  congr 1
  refine List.ext_getElem (by rw [e1, List.length_map]) fun i h1 h2 => ?_
  have hi : i < m.L.length := by omega
  have e5 := e4 i hi
  rw [PM.line_eq (m := ⟨L', m.span, m.ev⟩) h1] at e5
  show L'[i] = _
  rw [e5, List.getElem_map, ← PM.line_eq hi]
  by_cases hp : (m.line i).pend = []
  · rw [if_neg (by rw [hk]; simp [hp]), PL.settle_mark (hm.line hi) hp]
  · rw [if_pos (by rw [hk]; exact ⟨by omega, by omega, by simpa using hp⟩)]
/-- The keys of the map are the busy lines. -/
theorem RepAt.keys {w : World} {p b : Nat} {m : PM} {F : Nat → Prop} {dv ev : Value} {D : DataW Value} {G : Nat → Value} (h : RepAt w p m F dv b ev D G) : (Go.intKeys D).Nodup ∧ ∀ z, z ∈ Go.intKeys D ↔ (0 ≤ z ∧ z < m.L.length ∧ (m.line z.toNat).pend ≠ []) := by
  obtain ⟨es, rfl, hp, hlit⟩ := h.map.entries keyed3
  have hall : ∀ q ∈ es, ∃ i, i < m.L.length ∧ q.1 = kOf i := fun q hq => by
    refine h.off q.1 ?_
    show es.any (fun r => r.1.sameKey q.1) = true
    rw [List.any_eq_true]
    exact ⟨q, hq, WideAt.sameKey_self (hlit q hq)⟩
  refine ⟨?_, fun z => ⟨fun hz => ?_, fun ⟨h0, h1, h2⟩ => ?_⟩⟩
  · show (es.map fun q => Go.intOf q.1).Nodup
    rw [List.nodup_iff_pairwise_ne, List.pairwise_map]
    refine List.Pairwise.imp_of_mem ?_ hp
    intro x y hx hy hne he
    obtain ⟨i, _, hi⟩ := hall x hx
    obtain ⟨j, _, hj⟩ := hall y hy
    rw [hi, hj] at he hne
    have : (i : Int) = j := he
    exact hne (by rw [show i = j by omega])
  · obtain ⟨q, hq, rfl⟩ := List.mem_map.1 hz
    obtain ⟨i, hi, he⟩ := hall q hq
    have hh : Maps.has (.map es : DataW Value) (kOf i) = true := by
      show es.any (fun r => r.1.sameKey (kOf i)) = true
      rw [List.any_eq_true]
      exact ⟨q, hq, by rw [he]; exact WideAt.sameKey_self (kOf_key i)⟩
    rw [h.has_ i hi] at hh
    rw [he]
    refine ⟨?_, ?_, ?_⟩
    · show (0 : Int) ≤ i; omega
    · show (i : Int) < m.L.length; omega
    · show (m.line (i : Int).toNat).pend ≠ []
      rw [Int.toNat_natCast]
      simpa using hh
  · have hi : z.toNat < m.L.length := by omega
    have hh := h.has_ z.toNat hi
    rw [show decide ((m.line z.toNat).pend ≠ []) = true by simpa using h2] at hh
    obtain ⟨q, hq, hs⟩ := List.any_eq_true.1 (show es.any (fun r => r.1.sameKey (kOf z.toNat)) = true from hh)
    refine List.mem_map.2 ⟨q, hq, ?_⟩
    obtain ⟨i, hi2, he⟩ := hall q hq
    rw [he] at hs ⊢
    have : i = z.toNat := by
      by_cases hne : kOf i = kOf z.toNat
      · exact kOf_inj hne
      · rw [Maps.sameKey_ne hne] at hs
        cases hs
    subst this
    show ((z.toNat : Nat) : Int) = z
    omega
end Go.Proofs.YtmnncbgibngmiaaGreatDoor
namespace Go.Proofs.YtmnncbgibngmiaaGreatDoor
open Go.RowKit Go.Maps
theorem fenceStep_ok {m : PM} (h : m.Ok) {z : Int} (hz : 0 ≤ z ∧ z < m.L.length) : (fenceStep m z).Ok := h.upd ((h.line (by omega)).settle _)
set_option maxRecDepth 100000 in
set_option maxHeartbeats 4000000 in
set_option linter.unusedSimpArgs false in
theorem fence_any (p : Nat) (E : List Int) (hE : E.length = 12) (m : PM) (F : Nat → Prop) (w : World) (hm : m.Ok) (h : Rep w p m F) (hT : Tab w) (hF : ¬ F 1) :
    Calls Tryz.prog 61 #[.pointer (some ⟨p, 0, none⟩), .agg (iv E).toArray] w fun e w' => e = .returned (.int .i64 0) ∧ Step F w p (fenceP m) w' := by
  have hb := bel_new w (.cells (iv E).toArray 79)
  have hi := size81 hE
  have HB := Lib.hid hb
  have HM := Lib.hid hm
  have HT := Lib.hid hT
  have HF := Lib.hid hF
  have HRP := Lib.hid h
  have hrp := h.below hb
  obtain ⟨dv, b, ev, D, G, hr⟩ := hrp
  have c1 := hr.c1
  have hf := hm.few
  obtain ⟨hnd, hmem⟩ := hr.keys
  have HKE := Lib.hid fun W => keys_any b W
  have HSO := Lib.hid (sorted_any b _ D (w.alloc (.cells (iv E).toArray 79)) hr.map (Nat.le_trans hr.few hf))
  have HND := Lib.hid hnd
  have HME := Lib.hid hmem
  have HLT : Hid (∀ q, F q → q < w.heap.size) := Lib.hid h.lt
  clear h hm hT hF hr hnd hmem hb
  go_enter Tryz.func61, Tryz.ntmps61
  go_wp2_with (go_at_call 80; refine (HKE.out _).mono ?_; rintro e w' ⟨rfl, rfl⟩)
  have hz1 : (w.alloc (.cells (iv E).toArray 79)).heap.size = w.heap.size + 1 := by simp
  rw [← hz1]
  refine HSO.out.mono ?_
  rintro e w1 ⟨v, ss, rfl, hperm, hsl, hown, hb1⟩
  have HB1 := Lib.hid (bel_on HB.out hb1)
  obtain ⟨L, hL⟩ : ∃ L, ss.mergeSort (fun x y => decide (x ≤ y)) = L := ⟨_, rfl⟩
  have hpl : L.Perm (Go.intKeys D) := by rw [← hL]; exact (List.mergeSort_perm ss _).trans hperm
  have hlen : L.length = ss.length := by rw [← hL]; exact List.length_mergeSort _
  rw [hL, ← hlen] at hsl
  have HALL : Hid (L.foldl fenceStep m = fenceP m) := Lib.hid (fence_all HM.out L (hpl.nodup_iff.2 HND.out) fun z => hpl.mem_iff.trans (HME.out z))
  have HIN : Hid (∀ z ∈ L, 0 ≤ z ∧ z < m.L.length) := Lib.hid fun z hz => by
    have := (HME.out z).1 (hpl.mem_iff.1 hz)
    exact ⟨this.1, this.2.1⟩
  obtain ⟨A, cap, rfl, hcap, hcm, _⟩ := hsl.shape
  have HSL := Lib.hid hsl
  have HOW : Hid (∀ q, (Value.slice A L.length cap).ownBlock = some q → ¬ F q) := Lib.hid fun q hq hf => by
    have h1 := hown q hq
    have h2 := HLT.out q hf
    have : (w.alloc (.cells (iv E).toArray 79)).heap.size = w.heap.size + 1 := by simp
    omega
  have HS1 : Hid (Step F w1 p m w1) := Lib.hid (Step.refl (HRP.out.below HB1.out))
  have HT1 : Hid (Tab w1) := Lib.hid (HT.out.keep HB1.out)
  have HOL : Hid (∀ q, (Value.slice A L.length cap).ownBlock = some q → w.heap.size ≤ q) := Lib.hid fun q hq => by
    have h1 := hown q hq
    have : (w.alloc (.cells (iv E).toArray 79)).heap.size = w.heap.size + 1 := by simp
    omega
  clear hsl hown hb1 hperm hpl HSO HKE HB HND HME hlen c1
  obtain ⟨n, hn⟩ : ∃ n, L.length = n := ⟨_, rfl⟩
  have HN := Lib.hid hn
  rw [hn] at hcap ⊢
  have hn9 : n ≤ 9223372036854775807 := by unfold maxLen at hcm; omega
  clear hn
  go_wp2_with fail
  have HR0 : Hid (Hid (m.Ok) ∧ Hid (m.L.length = m.L.length) ∧ Hid (L.foldl fenceStep m = (L.drop 0).foldl fenceStep m) ∧ Hid (Step F w1 p m w1)) := Lib.hid ⟨HM, Lib.hid rfl, Lib.hid rfl, HS1⟩
  go_loopw [14] (fun i wr => ∃ (j : Nat) (mj : PM), i = .int .i64 (j : Int) ∧ j ≤ n ∧ Hid mj.Ok ∧ Hid (mj.L.length = m.L.length) ∧ Hid (L.foldl fenceStep m = (L.drop j).foldl fenceStep mj) ∧ Hid (Step F w1 p mj wr)) (fun i _ => n - (intOf i).toNat)
  case atStart => exact ⟨0, m, rfl, by omega, HR0.out⟩
  case round =>
    clear HR0 HS1
    obtain ⟨j, mj, rfl, hj, HMJ, HLJ, HFJ, HTJ⟩ := hrel
    by_cases hlt : j < n
    · have hjl : j < L.length := by rw [HN.out]; exact hlt
      obtain ⟨bb, oo, hA⟩ : ∃ bb oo, A = some ⟨bb, oo, none⟩ := by
        rcases HSL.out.2 with ⟨_, h0⟩ | ⟨g, o, cap', cur, hv, _⟩
        · omega
        · simp only [Value.slice.injEq] at hv
          exact ⟨g, o, hv.1⟩
      subst hA
      have hin := HIN.out L[j] (List.getElem_mem hjl)
      have hcl : wr.cell? ⟨bb, oo + j, none⟩ = some (.int .i64 L[j]) := by
        have hk : ∀ q, (Value.slice (some ⟨bb, oo, none⟩) L.length cap).ownBlock = some q → wr.heap[q]? = w1.heap[q]? := fun q hq => HTJ.out.2.block q (HSL.out.lt hq) (HOW.out q hq)
        exact (HSL.out.keep hk).cells rfl j _ (by unfold iv; rw [List.getElem?_map, List.getElem?_eq_getElem hjl]; rfl)
      have hd := drop_cons hjl
      have HFJ2 : Hid (L.foldl fenceStep m = (L.drop (j + 1)).foldl fenceStep (fenceStep mj L[j])) := Lib.hid (by rw [HFJ.out, hd]; rfl)
      generalize L[j] = z at *
      obtain ⟨i, rfl⟩ : ∃ i : Nat, z = i := ⟨z.toNat, by omega⟩
      have hil : i < mj.L.length := by rw [HLJ.out]; omega
      have hjI : (j : Int) < (n : Int) := by omega
      have hrj := HTJ.out.1
      have HSE := Lib.hid (settle_any p i (mj.line i).mark mj _ wr hil (HMJ.out.line hil).mark HMJ.out hrj (HT1.out.kept HF.out HTJ.out.2))
      have HMJ2 : Hid (fenceStep mj i).Ok := Lib.hid (fenceStep_ok HMJ.out ⟨by omega, by omega⟩)
      have HLJ2 : Hid ((fenceStep mj i).L.length = m.L.length) := Lib.hid (by unfold fenceStep; rw [PM.upd_len]; exact HLJ.out)
      have HEQ : Hid (mj.upd i (fun l => l.settle (mj.line i).mark) = fenceStep mj i) := Lib.hid (by
        unfold fenceStep
        rw [Int.toNat_natCast]
        exact PM.upd_congr rfl)
      obtain ⟨dv', b', ev', D', G', hr'⟩ := hrj
      have c1' := hr'.c1
      obtain ⟨A2, gcap, hG, hg1, hg2, hlk⟩ := hr'.look hil HMJ.out.few
      have hl := hlk wr rfl
      have hfb := field_b1 (.slice A2 (mj.line i).pend.length gcap) ((mj.line i).mark : Int)
      have HTJ' := Lib.hid HTJ.out
      clear hd HFJ hlk hr' hG HMJ HLJ HTJ
      generalize (mj.line i).pend.length = pl at *
      generalize (mj.line i).mark = mk at *
      go_wp2_with fail
      refine HSE.out.mono ?_
      rintro e w3 ⟨rfl, hs⟩
      have hs2 := HTJ'.out.trans hs
      rw [HEQ.out] at hs2
      have HT3 := Lib.hid hs2
      clear hs hs2 HTJ' HSE
      go_wp2_with fail
      go_roundw
      case rel => exact ⟨j + 1, fenceStep mj i, by simp, by omega, HMJ2, HLJ2, HFJ2, HT3⟩
      case measure => simp [intOf]; omega
    · obtain rfl : j = n := by omega
      have hfin : mj = fenceP m := by
        rw [← HALL.out, HFJ.out, List.drop_of_length_le (by rw [HN.out]; exact Nat.le_refl _)]
        rfl
      have HFI := Lib.hid (hfin ▸ Step.after (Kept.of_below HB1.out) HTJ.out)
      clear HMJ HLJ HFJ HTJ hfin
      go_wp2_with fail
      go_ret
      exact ⟨rfl, HFI.out⟩
set_option maxRecDepth 100000 in
set_option maxHeartbeats 4000000 in
theorem fenceC_any (p : Nat) (m : PM) (F : Nat → Prop) (w : World) (hm : m.Ok) (hs : m.Small 1000000) (h : Rep w p m F) (hT : Tab w) (hF : ¬ F 1) :
    Calls Tryz.prog 18 #[.pointer (some ⟨p, 0, none⟩)] w fun e w' => e = .returned (.tuple #[]) ∧ Step F w p ((fenceP m).add (evt 4 0 0 0 Z8)) w' := by
  have hR := record_fence p (evt 4 0 0 0 Z8) (evt_len _ _ _ _ rfl) (0, fenceP m) F w hs.ev h.lt (fun w1 hb => fence_any p _ (evt_len _ _ _ _ rfl) m F w1 hm (h.below hb) (hT.keep hb) hF)
  rw [rec_0 rfl] at hR
  have HR := Lib.hid hR
  clear hR h
  go_enter Tryz.func18, Tryz.ntmps18
  go_wp2_with fail
  refine HR.out.mono ?_
  rintro e w1 ⟨rfl, hst⟩
  have HST := Lib.hid hst
  clear hst HR
  go_wp2_with fail
  refine bodyPost_end (results_none rfl _ _ _) rfl ?_
  exact ⟨rfl, HST.out⟩
end Go.Proofs.YtmnncbgibngmiaaGreatDoor
