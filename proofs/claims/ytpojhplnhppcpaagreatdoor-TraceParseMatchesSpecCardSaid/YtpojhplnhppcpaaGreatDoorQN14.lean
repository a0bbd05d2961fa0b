/-
  The busy lines, sorted; what a fence makes of all lines. What memory's fence and Fence do. What memory's From and New do.
-/
import Derived.Test.YtpojhplnhppcpaaGreatDoorQN12
namespace Go.Proofs.YtpojhplnhppcpaaGreatDoor
open Go.RowKit Go.Maps
theorem sorts_in (m : Nat) : AnyZI.SortsIn Tryz.prog Tryz.sortedA_ren Fence.wide m :=
  ⟨fun blk off cap ss W hH hblk hsz => callsIn_wide.2 (AnyM.slices_Sort_int Tryz.sortA blk off cap ss W hH hblk hsz),
   fun p cap W => callsIn_wide.2 (AnyM.slices_Sort_int_none Tryz.sortA p cap W)⟩
theorem keys_any (b : Nat) (W : World) : Calls Tryz.prog 101 #[.map (some b)] W fun e w' => e = .returned (.func (.func 131) #[] #[.pointer (some ⟨W.heap.size, 0, none⟩)]) ∧ w' = W.alloc (.cells #[.map (some b)] 98) :=
  callsIn_wide.1 (AnyZI.keys_in Tryz.keysA Fence.wide 5 trivial rfl (some b) W)
set_option maxHeartbeats 1000000 in
theorem sorted_any (b nn : Nat) (D0 : DataW Value) (w : World) (hown : w.ownsMap Tryz.prog 3 heldR b nn D0) (hs : Maps.size D0 ≤ 4096) :
    Calls Tryz.prog 100 #[.func (.func 131) #[] #[.pointer (some ⟨w.heap.size, 0, none⟩)]] (w.alloc (.cells #[.map (some b)] 98)) fun e w' => ∃ (v : Value) (ss : List Int), e = .returned v ∧ ss.Perm (Go.intKeys D0) ∧
      Sl w' 3 1 v ss.length (iv (ss.mergeSort (fun x y => decide (x ≤ y)))) ∧ (∀ k, v.ownBlock = some k → w.heap.size ≤ k) ∧ Below w.heap.size w w' := by
  have hbl := hown.lt
  have hseq : SeqGives Fence.wide 2 Tryz.prog 131 #[.pointer (some ⟨w.heap.size, 0, none⟩)] Go.encZ (fun ss => ss.Perm (Go.intKeys D0)) (Maps.size D0) (w.alloc (.cells #[.map (some b)] 98)) :=
    AnyZI.keys_gives (ρ := Tryz.keysA_ren) { Tryz.keysA with } Fence.wide _ trivial rfl (by omega) w.heap.size b nn D0 _ (by simp) (by simp) (by
      obtain ⟨es, clock, hb, Ft, hs, hD⟩ := hown
      exact ⟨es, clock, (Below.heap_alloc _ _ b hbl).trans hb, Ft, hs, hD⟩)
  have cS := AnyZI.sorted_in Tryz.sortedA Fence.wide 5 trivial trivial trivial trivial rfl (by omega) (sorts_in _) (enters_of Tryz.func130 (by kernel_rfl) rfl) 131 #[.pointer (some ⟨w.heap.size, 0, none⟩)] trivial (enters_of Tryz.func131 (by kernel_rfl) rfl) _ _ (by unfold maxLen; omega) (by omega) _ hseq
  refine (callsIn_wide.1 cS).mono ?_
  rintro e w' ⟨v, ss, rfl, hS, hrow, hnil, hb⟩
  have hz : (w.alloc (.cells #[.map (some b)] 98)).heap.size = w.heap.size + 1 := by simp
  refine ⟨v, ss, rfl, hS, Sl.of_row hrow, fun k hk => ?_, bel_on (bel_new w _) hb⟩
  rcases hrow.2 with ⟨rfl, _⟩ | ⟨g, cap', cur, rfl, hg, _⟩
  · simp [Value.ownBlock] at hk
  · simp [Value.ownBlock] at hk
    omega
/-! ### what is settled -/
/-- A line is settled as far as it is marked. -/
def fenceStep (m : PM) (z : Int) : PM := m.upd z.toNat fun l => l.settle l.mark
theorem PL.settle_mark {l : PL} (h : l.Ok) (he : l.pend = []) : l.settle l.mark = l := by
  have := h.mark
  rw [he] at this
  unfold PL.settle
  rw [if_pos (by simpa using this)]
theorem fenceStep_fold (ks : List Int) : ∀ (m : PM), ks.Nodup → (∀ z ∈ ks, 0 ≤ z ∧ z < m.L.length) → (ks.foldl fenceStep m).L.length = m.L.length ∧ (ks.foldl fenceStep m).span = m.span ∧ (ks.foldl fenceStep m).ev = m.ev ∧
    ∀ i, i < m.L.length → (ks.foldl fenceStep m).line i = if (i : Int) ∈ ks then (m.line i).settle (m.line i).mark else m.line i := by
  induction ks with
  | nil => intro m _ _; exact ⟨rfl, rfl, rfl, fun i _ => by simp⟩
  | cons z r ih =>
    intro m hn hr
    obtain ⟨hz, hn'⟩ := List.nodup_cons.1 hn
    have hz0 := hr z (by simp)
    have hlen : (fenceStep m z).L.length = m.L.length := PM.upd_len ..
    obtain ⟨e1, e2, e3, e4⟩ := ih (fenceStep m z) hn' (fun y hy => by rw [hlen]; exact hr y (by simp [hy]))
    refine ⟨e1.trans hlen, e2, e3, fun i hi => ?_⟩
    rw [List.foldl_cons, e4 i (by omega)]
    have hl : (fenceStep m z).line i = if i = z.toNat then (m.line z.toNat).settle (m.line z.toNat).mark else m.line i := PM.upd_line _ (by omega)
    by_cases hiz : i = z.toNat
    · have hzi : (i : Int) = z := by omega
      rw [hl, if_pos hiz, if_neg (by rw [hzi]; exact hz), if_pos (by rw [hzi]; simp), ← hiz]
    · have hzi : (i : Int) ≠ z := by omega
      rw [hl, if_neg hiz]
      by_cases hm : (i : Int) ∈ r
      · rw [if_pos hm, if_pos (by simp [hm])]
      · rw [if_neg hm, if_neg (by simp [hm, hzi])]
theorem fence_all {m : PM} (hm : m.Ok) (ks : List Int) (hn : ks.Nodup) (hk : ∀ z, z ∈ ks ↔ (0 ≤ z ∧ z < m.L.length ∧ (m.line z.toNat).pend ≠ [])) : ks.foldl fenceStep m = fenceP m := by
  obtain ⟨e1, e2, e3, e4⟩ := fenceStep_fold ks m hn fun z hz => ⟨((hk z).1 hz).1, ((hk z).1 hz).2.1⟩
  generalize ks.foldl fenceStep m = m' at *
  obtain ⟨L', s', v'⟩ := m'
  simp only at e1 e2 e3
  subst e2 e3
  unfold fenceP
  congr 1
  refine List.ext_getElem (by rw [e1, List.length_map]) fun i h1 h2 => ?_
  have hi : i < m.L.length := by omega
  have e5 := e4 i hi
  rw [PM.line_eq (m := ⟨L', m.span, m.ev⟩) h1] at e5
  show L'[i] = _
  rw [e5, List.getElem_map, ← PM.line_eq hi]
  by_cases hp : (m.line i).pend = []
  · rw [if_neg (by rw [hk]; simp [hp]), PL.settle_mark (hm.line hi) hp]
  · rw [if_pos (by rw [hk]; exact ⟨by omega, by omega, by simpa using hp⟩)]
/-- The keys of the map are the busy lines. -/
theorem RepAt.keys {w : World} {p b : Nat} {m : PM} {F : Nat → Prop} {dv ev : Value} {D : DataW Value} {G : Nat → Value} (h : RepAt w p m F dv b ev D G) : (Go.intKeys D).Nodup ∧ ∀ z, z ∈ Go.intKeys D ↔ (0 ≤ z ∧ z < m.L.length ∧ (m.line z.toNat).pend ≠ []) := by
  obtain ⟨es, rfl, hp, hlit⟩ := h.map.entries keyed3
  have hall : ∀ q ∈ es, ∃ i, i < m.L.length ∧ q.1 = kOf i := fun q hq => by
    refine h.off q.1 ?_
    show es.any (fun r => r.1.sameKey q.1) = true
    rw [List.any_eq_true]
    exact ⟨q, hq, WideAt.sameKey_self (hlit q hq)⟩
  refine ⟨?_, fun z => ⟨fun hz => ?_, fun ⟨h0, h1, h2⟩ => ?_⟩⟩
  · show (es.map fun q => Go.intOf q.1).Nodup
    rw [List.nodup_iff_pairwise_ne, List.pairwise_map]
    refine List.Pairwise.imp_of_mem ?_ hp
    intro x y hx hy hne he
    obtain ⟨i, _, hi⟩ := hall x hx
    obtain ⟨j, _, hj⟩ := hall y hy
    rw [hi, hj] at he hne
    have : (i : Int) = j := he
    exact hne (by rw [show i = j by omega])
  · obtain ⟨q, hq, rfl⟩ := List.mem_map.1 hz
    obtain ⟨i, hi, he⟩ := hall q hq
    have hh : Maps.has (.map es : DataW Value) (kOf i) = true := by
      show es.any (fun r => r.1.sameKey (kOf i)) = true
      rw [List.any_eq_true]
      exact ⟨q, hq, by rw [he]; exact WideAt.sameKey_self (kOf_key i)⟩
    rw [h.has_ i hi] at hh
    rw [he]
    refine ⟨?_, ?_, ?_⟩
    · show (0 : Int) ≤ i; omega
    · show (i : Int) < m.L.length; omega
    · show (m.line (i : Int).toNat).pend ≠ []
      rw [Int.toNat_natCast]
      simpa using hh
  · have hi : z.toNat < m.L.length := by omega
    have hh := h.has_ z.toNat hi
    rw [show decide ((m.line z.toNat).pend ≠ []) = true by simpa using h2] at hh
    obtain ⟨q, hq, hs⟩ := List.any_eq_true.1 (show es.any (fun r => r.1.sameKey (kOf z.toNat)) = true from hh)
    refine List.mem_map.2 ⟨q, hq, ?_⟩
    obtain ⟨i, hi2, he⟩ := hall q hq
    rw [he] at hs ⊢
    have : i = z.toNat := by
      by_cases hne : kOf i = kOf z.toNat
      · exact kOf_inj hne
      · rw [Maps.sameKey_ne hne] at hs
        cases hs
    subst this
    show ((z.toNat : Nat) : Int) = z
    omega
end Go.Proofs.YtpojhplnhppcpaaGreatDoor
namespace Go.Proofs.YtpojhplnhppcpaaGreatDoor
open Go.RowKit Go.Maps
theorem fenceStep_ok {m : PM} (h : m.Ok) {z : Int} (hz : 0 ≤ z ∧ z < m.L.length) : (fenceStep m z).Ok := h.upd ((h.line (by omega)).settle _)
set_option maxRecDepth 100000 in
set_option maxHeartbeats 4000000 in
set_option linter.unusedSimpArgs false in
theorem fence_any (p : Nat) (E : List Int) (hE : E.length = 12) (m : PM) (F : Nat → Prop) (w : World) (hm : m.Ok) (h : Rep w p m F) (hT : Tab w) (hF : ¬ F 6) :
    Calls Tryz.prog 64 #[.pointer (some ⟨p, 0, none⟩), .agg (iv E).toArray] w fun e w' => e = .returned (.int .i64 0) ∧ Step F w p (fenceP m) w' := by
  have hb := bel_new w (.cells (iv E).toArray 68)
  have hi := size81 hE
  have HB := Lib.hid hb
  have HM := Lib.hid hm
  have HT := Lib.hid hT
  have HF := Lib.hid hF
  have HRP := Lib.hid h
  have hrp := h.below hb
  obtain ⟨dv, b, ev, D, G, hr⟩ := hrp
  have c1 := hr.c1
  have hf := hm.few
  obtain ⟨hnd, hmem⟩ := hr.keys
  have HKE := Lib.hid fun W => keys_any b W
  have HSO := Lib.hid (sorted_any b _ D (w.alloc (.cells (iv E).toArray 68)) hr.map (Nat.le_trans hr.few hf))
  have HND := Lib.hid hnd
  have HME := Lib.hid hmem
  have HLT : Hid (∀ q, F q → q < w.heap.size) := Lib.hid h.lt
  clear h hm hT hF hr hnd hmem hb
  go_enter Tryz.func64, Tryz.ntmps64
  go_wp2_with (go_at_call 101; refine (HKE.out _).mono ?_; rintro e w' ⟨rfl, rfl⟩)
  have hz1 : (w.alloc (.cells (iv E).toArray 68)).heap.size = w.heap.size + 1 := by simp
  rw [← hz1]
  refine HSO.out.mono ?_
  rintro e w1 ⟨v, ss, rfl, hperm, hsl, hown, hb1⟩
  have HB1 := Lib.hid (bel_on HB.out hb1)
  obtain ⟨L, hL⟩ : ∃ L, ss.mergeSort (fun x y => decide (x ≤ y)) = L := ⟨_, rfl⟩
  have hpl : L.Perm (Go.intKeys D) := by rw [← hL]; exact (List.mergeSort_perm ss _).trans hperm
  have hlen : L.length = ss.length := by rw [← hL]; exact List.length_mergeSort _
  rw [hL, ← hlen] at hsl
  have HALL : Hid (L.foldl fenceStep m = fenceP m) := Lib.hid (fence_all HM.out L (hpl.nodup_iff.2 HND.out) fun z => hpl.mem_iff.trans (HME.out z))
  have HIN : Hid (∀ z ∈ L, 0 ≤ z ∧ z < m.L.length) := Lib.hid fun z hz => by
    have := (HME.out z).1 (hpl.mem_iff.1 hz)
    exact ⟨this.1, this.2.1⟩
  obtain ⟨A, cap, rfl, hcap, hcm, _⟩ := hsl.shape
  have HSL := Lib.hid hsl
  have HOW : Hid (∀ q, (Value.slice A L.length cap).ownBlock = some q → ¬ F q) := Lib.hid fun q hq hf => by
    have h1 := hown q hq
    have h2 := HLT.out q hf
    have : (w.alloc (.cells (iv E).toArray 68)).heap.size = w.heap.size + 1 := by simp
    omega
  have HS1 : Hid (Step F w1 p m w1) := Lib.hid (Step.refl (HRP.out.below HB1.out))
  have HT1 : Hid (Tab w1) := Lib.hid (HT.out.keep HB1.out)
  have HOL : Hid (∀ q, (Value.slice A L.length cap).ownBlock = some q → w.heap.size ≤ q) := Lib.hid fun q hq => by
    have h1 := hown q hq
    have : (w.alloc (.cells (iv E).toArray 68)).heap.size = w.heap.size + 1 := by simp
    omega
  clear hsl hown hb1 hperm hpl HSO HKE HB HND HME hlen c1
  obtain ⟨n, hn⟩ : ∃ n, L.length = n := ⟨_, rfl⟩
  have HN := Lib.hid hn
  rw [hn] at hcap ⊢
  have hn9 : n ≤ 9223372036854775807 := by unfold maxLen at hcm; omega
  clear hn
  go_wp2_with fail
  have HR0 : Hid (Hid (m.Ok) ∧ Hid (m.L.length = m.L.length) ∧ Hid (L.foldl fenceStep m = (L.drop 0).foldl fenceStep m) ∧ Hid (Step F w1 p m w1)) := Lib.hid ⟨HM, Lib.hid rfl, Lib.hid rfl, HS1⟩
  go_loopw [14] (fun i wr => ∃ (j : Nat) (mj : PM), i = .int .i64 (j : Int) ∧ j ≤ n ∧ Hid mj.Ok ∧ Hid (mj.L.length = m.L.length) ∧ Hid (L.foldl fenceStep m = (L.drop j).foldl fenceStep mj) ∧ Hid (Step F w1 p mj wr)) (fun i _ => n - (intOf i).toNat)
  case atStart => exact ⟨0, m, rfl, by omega, HR0.out⟩
  case round =>
    clear HR0 HS1
    obtain ⟨j, mj, rfl, hj, HMJ, HLJ, HFJ, HTJ⟩ := hrel
    by_cases hlt : j < n
    · have hjl : j < L.length := by rw [HN.out]; exact hlt
      obtain ⟨bb, oo, hA⟩ : ∃ bb oo, A = some ⟨bb, oo, none⟩ := by
        rcases HSL.out.2 with ⟨_, h0⟩ | ⟨g, o, cap', cur, hv, _⟩
        · omega
        · simp only [Value.slice.injEq] at hv
          exact ⟨g, o, hv.1⟩
      subst hA
      have hin := HIN.out L[j] (List.getElem_mem hjl)
      have hcl : wr.cell? ⟨bb, oo + j, none⟩ = some (.int .i64 L[j]) := by
        have hk : ∀ q, (Value.slice (some ⟨bb, oo, none⟩) L.length cap).ownBlock = some q → wr.heap[q]? = w1.heap[q]? := fun q hq => HTJ.out.2.block q (HSL.out.lt hq) (HOW.out q hq)
        exact (HSL.out.keep hk).cells rfl j _ (by unfold iv; rw [List.getElem?_map, List.getElem?_eq_getElem hjl]; rfl)
      have hd := drop_cons hjl
      have HFJ2 : Hid (L.foldl fenceStep m = (L.drop (j + 1)).foldl fenceStep (fenceStep mj L[j])) := Lib.hid (by rw [HFJ.out, hd]; rfl)
      generalize L[j] = z at *
      obtain ⟨i, rfl⟩ : ∃ i : Nat, z = i := ⟨z.toNat, by omega⟩
      have hil : i < mj.L.length := by rw [HLJ.out]; omega
      have hjI : (j : Int) < (n : Int) := by omega
      have hrj := HTJ.out.1
      have HSE := Lib.hid (settle_any p i (mj.line i).mark mj _ wr hil (HMJ.out.line hil).mark HMJ.out hrj (HT1.out.kept HF.out HTJ.out.2))
      have HMJ2 : Hid (fenceStep mj i).Ok := Lib.hid (fenceStep_ok HMJ.out ⟨by omega, by omega⟩)
      have HLJ2 : Hid ((fenceStep mj i).L.length = m.L.length) := Lib.hid (by unfold fenceStep; rw [PM.upd_len]; exact HLJ.out)
      have HEQ : Hid (mj.upd i (fun l => l.settle (mj.line i).mark) = fenceStep mj i) := Lib.hid (by
        unfold fenceStep
        rw [Int.toNat_natCast]
        exact PM.upd_congr rfl)
      obtain ⟨dv', b', ev', D', G', hr'⟩ := hrj
      have c1' := hr'.c1
      obtain ⟨A2, gcap, hG, hg1, hg2, hlk⟩ := hr'.look hil HMJ.out.few
      have hl := hlk wr rfl
      have hfb := field_b1 (.slice A2 (mj.line i).pend.length gcap) ((mj.line i).mark : Int)
      have HTJ' := Lib.hid HTJ.out
      clear hd HFJ hlk hr' hG HMJ HLJ HTJ
      generalize (mj.line i).pend.length = pl at *
      generalize (mj.line i).mark = mk at *
      go_wp2_with fail
      refine HSE.out.mono ?_
      rintro e w3 ⟨rfl, hs⟩
      have hs2 := HTJ'.out.trans hs
      rw [HEQ.out] at hs2
      have HT3 := Lib.hid hs2
      clear hs hs2 HTJ' HSE
      go_wp2_with fail
      go_roundw
      case rel => exact ⟨j + 1, fenceStep mj i, by simp, by omega, HMJ2, HLJ2, HFJ2, HT3⟩
      case measure => simp [intOf]; omega
    · obtain rfl : j = n := by omega
      have hfin : mj = fenceP m := by
        rw [← HALL.out, HFJ.out, List.drop_of_length_le (by rw [HN.out]; exact Nat.le_refl _)]
        rfl
      have HFI := Lib.hid (hfin ▸ Step.after (Kept.of_below HB1.out) HTJ.out)
      clear HMJ HLJ HFJ HTJ hfin
      go_wp2_with fail
      go_ret
      exact ⟨rfl, HFI.out⟩
set_option maxRecDepth 100000 in
set_option maxHeartbeats 4000000 in
theorem fenceC_any (p : Nat) (m : PM) (F : Nat → Prop) (w : World) (hm : m.Ok) (hs : m.Small 1000000) (h : Rep w p m F) (hT : Tab w) (hF : ¬ F 6) :
    Calls Tryz.prog 29 #[.pointer (some ⟨p, 0, none⟩)] w fun e w' => e = .returned (.tuple #[]) ∧ Step F w p ((fenceP m).add (evt 4 0 0 0 Z8)) w' := by
  have hR := record_fence p (evt 4 0 0 0 Z8) (evt_len _ _ _ _ rfl) (0, fenceP m) F w hs.ev h.lt (fun w1 hb => fence_any p _ (evt_len _ _ _ _ rfl) m F w1 hm (h.below hb) (hT.keep hb) hF)
  rw [rec_0 rfl] at hR
  have HR := Lib.hid hR
  clear hR h
  go_enter Tryz.func29, Tryz.ntmps29
  go_wp2_with fail
  refine HR.out.mono ?_
  rintro e w1 ⟨rfl, hst⟩
  have HST := Lib.hid hst
  clear hst HR
  go_wp2_with fail
  refine bodyPost_end (results_none rfl _ _ _) rfl ?_
  exact ⟨rfl, HST.out⟩
end Go.Proofs.YtpojhplnhppcpaaGreatDoor
namespace Go.Proofs.YtpojhplnhppcpaaGreatDoor
open Go.RowKit Go.Maps
/-- The blocks that are new. -/
def New (w w' : World) : Nat → Prop := fun k => w.heap.size ≤ k ∧ k < w'.heap.size
def flatI (img : List (List Int × Int)) : List Int := img.flatMap fun x => x.1 ++ [x.2]
/-- Is an image right? -/
def rightB (img : List (List Int × Int)) : Bool := decide (1 ≤ img.length ∧ img.length ≤ 4096) && img.all fun x => validB x.1 x.2
theorem flatI_from (img : List (List Int × Int)) : flatL (fromP img).L = flatI img := by
  unfold flatL flatI fromP
  rw [List.flatMap_map]
theorem from_line (img : List (List Int × Int)) (i : Nat) : ((fromP img).line i).pend = [] ∧ ((fromP img).line i).mark = 0 := by
  unfold fromP PM.line
  simp only
  rw [List.getD_eq_getElem?_getD, List.getElem?_map]
  cases img[i]? <;> exact ⟨rfl, rfl⟩
/-- A new memory: what it is built of. -/
theorem rep_new {w w1 : World} {v : Value} (img : List (List Int × Int)) (hb : Below w.heap.size w w1) (hs : Sl w1 77 9 v img.length (iv (flatI img))) (ho : ∀ k, v.ownBlock = some k → w.heap.size ≤ k) :
    Rep ((w1.alloc (.map #[] 0)).alloc (.cells #[v, .map (some w1.heap.size), .int .i64 0, .slice none 0 0] 100)) (w1.heap.size + 1) (fromP img) (New w ((w1.alloc (.map #[] 0)).alloc (.cells #[v, .map (some w1.heap.size), .int .i64 0, .slice none 0 0] 100))) := by
  have hz : ((w1.alloc (.map #[] 0)).alloc (.cells #[v, .map (some w1.heap.size), .int .i64 0, .slice none 0 0] 100)).heap.size = w1.heap.size + 2 := by simp
  have hz1 : (w1.alloc (.map #[] 0)).heap.size = w1.heap.size + 1 := by simp
  have hw := hb.size
  have hL : (fromP img).L.length = img.length := List.length_map ..
  refine ⟨v, w1.heap.size, .slice none 0 0, .map [], fun _ => .slice none 0 0, {
    mem := ?_, dur := ?_, map := ?_, evs := Sl.nil _ _ _, at_ := fun i _ => ?_, has_ := fun i _ => ?_, off := fun kl hk => by simp [Maps.has] at hk, pend := fun i _ => ?_, apart := fun i j _ _ _ h => by simp [Value.ownBlock] at h,
    ownP := ⟨by omega, by omega⟩, ownB := ⟨by omega, by omega⟩, ownD := fun k hk => ⟨ho k hk, by have := hs.lt hk; omega⟩, ownE := fun k hk => by simp [Value.ownBlock] at hk, ownG := fun i _ k hk => by simp [Value.ownBlock] at hk, lt := fun k hk => hk.2 }⟩
  · have := Arr.new (w1.alloc (.map #[] 0)) [v, .map (some w1.heap.size), .int .i64 0, .slice none 0 0] 100
    rw [hz1] at this
    exact this
  · rw [hL, flatI_from]
    exact hs.keep fun q hq => by
      have := hs.lt hq
      rw [Below.heap_alloc _ _ q (by omega), Below.heap_alloc _ _ q this]
  · have := World.ownsMap_made w1 Tryz.prog 3 heldR
    exact ownsMap_keep this (Below.heap_alloc _ _ _ (by omega))
  · rw [(from_line img i).2]
    rfl
  · rw [(from_line img i).1]
    simp [Maps.has]
  · rw [(from_line img i).1]
    exact Sl.nil _ _ _
theorem flatI_len {img : List (List Int × Int)} (h8 : ∀ x ∈ img, x.1.length = 8) : (flatI img).length = img.length * 9 := flatMap_len _ 9 img fun x hx => by rw [List.length_append, h8 x hx]; rfl
set_option maxRecDepth 100000 in
set_option maxHeartbeats 1000000 in
theorem cloneLineR_any (g o n cap : Nat) (xs : List Value) (w : World) (hlen : xs.length = n * 9) (hc : ∀ j u, xs[j]? = some u → w.cell? ⟨g, o + j, none⟩ = some u) (h1 : ∀ u ∈ xs, u.oneCell' = true) (hn : n ≤ 1000000) :
    Calls Tryz.prog 60 #[.slice (some ⟨g, o, none⟩) n cap] w (Cloned w 77 9 n xs) := by
  obtain ⟨i0, hi, hz0, hz1, hz2⟩ := info_parts infoLine
  have q : ∀ (w : World) (a : Option Addr) (n c n' c' : Nat), (binOp .eql 23 (.slice a n c) (.slice none n' c')).run Tryz.prog w = .ok (.bool a.isNone) w := fun w a n c n' c' => Lib.run_eql_slice_nil w _ _ a n c n' c' Tryz.underlying23
  have HC := Lib.hid hc
  have H1 := Lib.hid h1
  have HL := Lib.hid hlen
  have HI := Lib.hid hi
  have HZ0 := Lib.hid hz0
  have HZ1 := Lib.hid hz1
  have HZ2 := Lib.hid hz2
  clear hc h1 hlen hi hz0 hz1 hz2
  go_enter Tryz.func60, Tryz.ntmps60
  go_wp2_with (at_builtin; refine wpList_append_sl _ rfl _ _ 23 rfl 77 i0 _ 9 72 Tryz.underlying23 HI.out HZ0.out HZ1.out HZ2.out rfl (by decide) _ 0 [] rfl (Sl.of_row (World.ownsRow_made (base := 0) w #[] 0 (Nat.zero_le _) (Nat.zero_le _) (by simp))) ⟨g, o, none⟩ n cap xs rfl HL.out ?qc H1.out (by unfold maxLen; omega) (by omega) ?_)
  case qc =>
    intro j u hj
    rw [Addr.add_lit]
    have hcell := HC.out j u hj
    exact (World.cell?_alloc_lt w _ _ (block_lt_of_cell hcell)).trans hcell
  intro v' w1 hs hg ho
  have HS := Lib.hid hs
  have HB : Hid (Below w.heap.size w w1) := Lib.hid ((bel_new w _).grown hg (by simp) (by intro k hk; simp [Value.ownBlock] at hk; omega))
  have HO : Hid (∀ k, v'.ownBlock = some k → w.heap.size ≤ k) := Lib.hid (by
    intro k hk
    rcases ho with h | h
    · rw [hk] at h
      simp [Value.ownBlock] at h
      omega
    · rw [hk] at h
      simp at h
      omega)
  clear hs hg ho
  go_wp2_with fail
  go_ret
  exact ⟨_, rfl, by simpa using HS.out, HO.out, HB.out⟩
/-- A line of an image in the heap. -/
theorem imgLine {w : World} {d o : Nat} {img : List (List Int × Int)} (h8 : ∀ x ∈ img, x.1.length = 8) (hs : ∀ j u, (iv (flatI img))[j]? = some u → w.cell? ⟨d, o + j, none⟩ = some u) {k : Nat} (hk : k < img.length) :
    w.rangeAt d (o + k * 9) (iv (img[k].1 ++ [img[k].2])) := fun j v hv => by
  have hj : j < 9 := by
    have := (List.getElem?_eq_some_iff.1 hv).1
    rw [iv_len, List.length_append, h8 _ (List.getElem_mem hk)] at this
    simpa using this
  have hb := flat_block (fun x : List Int × Int => x.1 ++ [x.2]) 9 img k j hk (fun x hx => by rw [List.length_append, h8 x hx]; rfl) hj
  have := hs (k * 9 + j) v (by
    unfold iv at hv ⊢
    rw [List.getElem?_map] at hv ⊢
    unfold flatI
    rw [hb]
    exact hv)
  rw [← Nat.add_assoc] at this
  exact this
/-- What From comes to. -/
def FromPost (w : World) (img : List (List Int × Int)) (e : Ending) (w' : World) : Prop :=
  (rightB img = true ∧ ∃ p, e = .returned (.pointer (some ⟨p, 0, none⟩)) ∧ Rep w' p (fromP img) (New w w')) ∨ (rightB img = false ∧ e = .returned (.pointer none))
set_option maxRecDepth 100000 in
set_option maxHeartbeats 4000000 in
set_option linter.unusedSimpArgs false in
theorem from_any (img : List (List Int × Int)) (v : Value) (w : World) (h8 : ∀ x ∈ img, x.1.length = 8) (hn : img.length ≤ 5000) (hs : Rd w v img.length (iv (flatI img))) :
    Calls Tryz.prog 51 #[v] w fun e w' => FromPost w img e w' ∧ Below w.heap.size w w' := by
  have HS := Lib.hid hs
  obtain ⟨A, cap, rfl, hcap, hcm, hrr⟩ := hs
  have H8 := Lib.hid h8
  have HRR := Lib.hid hrr
  have HB0 : Hid (Below w.heap.size w w) := Lib.hid (Below.refl _ _)
  clear hrr h8
  by_cases h1 : img.length < 1
  · have hRR : rightB img = false := by unfold rightB; rw [show decide (1 ≤ img.length ∧ img.length ≤ 4096) = false by simp; omega]; rfl
    have hL0 : img.length = 0 := by omega
    rw [hL0] at hcap ⊢
    go_enter Tryz.func51, Tryz.ntmps51
    go_wp2_with fail
    go_ret
    exact ⟨.inr ⟨hRR, rfl⟩, Below.refl _ _⟩
  · by_cases h2 : 4096 < img.length
    · have hRR : rightB img = false := by unfold rightB; rw [show decide (1 ≤ img.length ∧ img.length ≤ 4096) = false by simp; omega]; rfl
      obtain ⟨n, hn'⟩ : ∃ n, img.length = n := ⟨_, rfl⟩
      rw [hn'] at h1 h2 hcap ⊢
      have h1I : ¬ (n : Int) < 1 := by omega
      have h2I : 4096 < (n : Int) := by omega
      go_enter Tryz.func51, Tryz.ntmps51
      go_wp2_with fail
      go_ret
      exact ⟨.inr ⟨hRR, rfl⟩, Below.refl _ _⟩
    · have hdec : decide (1 ≤ img.length ∧ img.length ≤ 4096) = true := by simp; omega
      have HRB : Hid (rightB img = img.all fun x => validB x.1 x.2) := Lib.hid (by unfold rightB; rw [hdec]; rfl)
      obtain ⟨bb, oo, rfl, hbl, hcells⟩ := HRR.out (by omega)
      have HCE := Lib.hid hcells
      have HBL := Lib.hid hbl
      have HCL := Lib.hid fun w1 (hb : Below w.heap.size w w1) => cloneLineR_any bb oo img.length cap (iv (flatI img)) w1 (by rw [iv_len, flatI_len H8.out]) (fun j u hj => (hb.cell (p := ⟨bb, oo + j, none⟩) hbl).trans (hcells j u hj)) (iv_one _) (by omega)
      clear hcells hbl
      obtain ⟨n, hn'⟩ : ∃ n, img.length = n := ⟨_, rfl⟩
      have HN := Lib.hid hn'
      rw [hn'] at h1 h2 hcap hn ⊢
      have HCL' := Lib.hid HCL.out
      have h1I : ¬ (n : Int) < 1 := by omega
      have h2I : ¬ 4096 < (n : Int) := by omega
      have HA0 : Hid (∀ x ∈ img.take 0, validB x.1 x.2 = true) := Lib.hid (by simp)
      have hu22 := Tryz.underlying66
      have hu68 := Tryz.underlying77
      clear hn' hdec HCL
      go_enter Tryz.func51, Tryz.ntmps51
      go_wp2_with fail
      go_loopw [15] (fun i wr => ∃ k : Nat, i = .int .i64 (k : Int) ∧ k ≤ n ∧ Hid (∀ x ∈ img.take k, validB x.1 x.2 = true) ∧ Hid (Below w.heap.size w wr)) (fun i _ => n - (intOf i).toNat)
      case atStart => exact ⟨0, rfl, by omega, HA0, HB0⟩
      case round =>
        clear HA0 HB0
        obtain ⟨k, rfl, hk, HAL, HB⟩ := hrel
        by_cases hlt : k < n
        · have hkc : k < img.length := by rw [HN.out]; exact hlt
          have hsw : ∀ j u, (iv (flatI img))[j]? = some u → wr.cell? ⟨bb, oo + j, none⟩ = some u := fun j u hj => (HB.out.cell (p := ⟨bb, oo + j, none⟩) HBL.out).trans (HCE.out j u hj)
          have hrow := imgLine H8.out hsw hkc
          have h8k := H8.out _ (List.getElem_mem hkc)
          have htk := take_snoc' img k hkc
          have HBAD : Hid (validB img[k].1 img[k].2 = false → rightB img = false) := Lib.hid fun h => by
            rw [HRB.out, Bool.eq_false_iff]
            intro h2
            rw [List.all_eq_true.1 h2 _ (List.getElem_mem hkc)] at h
            cases h
          have HNX : Hid (validB img[k].1 img[k].2 = true → ∀ x ∈ img.take (k + 1), validB x.1 x.2 = true) := Lib.hid fun h x hx => by
            rw [htk] at hx
            rcases List.mem_append.1 hx with h3 | h3
            · exact HAL.out x h3
            · simp only [List.mem_singleton] at h3
              rw [h3]
              exact h
          generalize img[k] = x at *
          obtain ⟨ws, c⟩ := x
          simp only at hrow h8k
          change Hid (validB ws c = false → rightB img = false) at HBAD
          change Hid (validB ws c = true → ∀ x ∈ img.take (k + 1), validB x.1 x.2 = true) at HNX
          have hl9 : (iv (ws ++ [c])).length = 9 := by rw [iv_len, List.length_append, h8k]; rfl
          have hi9 : (Tryz.prog.info? 77).map (·.size) = some (iv (ws ++ [c])).length := by rw [size68, hl9]
          have HO := Lib.hid (iv_one (ws ++ [c]))
          have HL9 := Lib.hid hl9
          have hA1 := Arr.new wr (iv (ws ++ [c])) 77
          have hr1 : (wr.alloc (.cells (iv (ws ++ [c])).toArray 77)).rangeAt wr.heap.size 0 (iv ws) := fun j v hv => hA1.range j v (by
            unfold iv at hv ⊢
            rw [List.map_append, List.getElem?_append_left (List.getElem?_eq_some_iff.1 hv).1]
            exact hv)
          have hc8 : (wr.alloc (.cells (iv (ws ++ [c])).toArray 77)).cell? ⟨wr.heap.size, 8, none⟩ = some (.int .i64 c) := hA1.cell (by
            unfold iv
            rw [List.getElem?_map, List.getElem?_append_right (by omega), h8k]
            rfl)
          have hi8 := size22' h8k
          have HAW := Lib.hid fun w => areWords_any ws w h8k
          have HIC := Lib.hid fun w => isCodeM_any c w
          have HB1 := Lib.hid (bel_on HB.out (bel_new wr (.cells (iv (ws ++ [c])).toArray 77)))
          have hkI : (k : Int) < (n : Int) := by omega
          clear hA1 hsw htk HAL h8k hl9
          obtain ⟨ok, hok⟩ : ∃ ok, ws.all okW = ok := ⟨_, rfl⟩
          obtain ⟨kc, hkc2⟩ : ∃ kc, okC c = kc := ⟨_, rfl⟩
          have hval := validB_eq ws c
          rw [hok, hkc2] at hval
          rw [hok] at HAW
          rw [hkc2] at HIC
          go_wp2_with (first
            | ((with_reducible refine arm_range 77 bb (oo + k * 9) (iv (ws ++ [c])) hrow _ hu68 rfl hi9 rfl _ rfl ?_ ?_); focus rfl)
            | ((with_reducible refine arm_new 77 (iv (ws ++ [c])) 9 ?_ size68 HO.out _ rfl rfl _ _ rfl ?_ ?_ ?_); (focus (rw [HL9.out])); (focus rfl); (focus rfl))
            | ((with_reducible refine arm_range 66 wr.heap.size 0 (iv ws) hr1 _ hu22 rfl hi8 rfl _ rfl ?_ ?_); focus rfl))
          refine (HAW.out _).mono ?_
          rintro e w2 ⟨rfl, hb2⟩
          have HB2 := Lib.hid (bel_on HB1.out hb2)
          have hc82 := cell_below hb2 hc8
          clear hb2 hc8 hr1 hrow HAW
          cases ok with
          | false =>
            have HV := Lib.hid (HBAD.out (by rw [hval]; rfl))
            go_wp2_with fail
            go_ret
            exact ⟨.inr ⟨HV.out, rfl⟩, HB2.out⟩
          | true =>
            cases kc with
            | false =>
              have HV := Lib.hid (HBAD.out (by rw [hval]; rfl))
              go_wp2_with (go_at_call 93; refine (HIC.out _).mono ?_; rintro e w' ⟨rfl, rfl⟩)
              go_ret
              exact ⟨.inr ⟨HV.out, rfl⟩, HB2.out⟩
            | true =>
              have HV := Lib.hid (HNX.out (by rw [hval]; rfl))
              go_wp2_with (go_at_call 93; refine (HIC.out _).mono ?_; rintro e w' ⟨rfl, rfl⟩)
              go_roundw
              case rel => exact ⟨k + 1, by simp, by omega, HV, HB2⟩
              case measure => simp [intOf]; omega
        · obtain rfl : k = n := by omega
          have hrt : rightB img = true := by
            rw [HRB.out, List.all_eq_true]
            have := HAL.out
            rw [List.take_of_length_le (by rw [HN.out]; exact Nat.le_refl _)] at this
            exact this
          have HRT := Lib.hid hrt
          have HC1 := Lib.hid (HCL'.out wr HB.out)
          rw [HN.out] at HC1
          clear hrt HAL HCL'
          go_wp2_with fail
          refine HC1.out.mono ?_
          rintro e w2 ⟨v', rfl, hs2, ho2, hb2⟩
          have HB2 := Lib.hid (bel_on HB.out hb2)
          rw [← HN.out] at hs2
          have HNEW := Lib.hid (rep_new (w := w) img HB2.out hs2 (fun q hq => Nat.le_trans HB.out.size (ho2 q hq)))
          obtain ⟨A', cap', rfl, _⟩ := hs2.shape
          rw [HN.out] at HNEW ⊢
          clear hs2 ho2 hb2 HC1
          have hmk := run_makeMap (P := Tryz.prog) 98 w2
          have HB3 : Hid (Below w.heap.size w ((w2.alloc (.map #[] 0)).alloc (.cells #[.slice A' k cap', .map (some w2.heap.size), .int .i64 0, .slice none 0 0] 100))) := Lib.hid (bel_on (bel_on HB2.out (bel_new _ _)) (bel_new _ _))
          go_wp2_with fail
          go_ret
          exact ⟨.inl ⟨HRT.out, _, rfl, HNEW.out⟩, HB3.out⟩
theorem made_zeros9 (n : Nat) : (madeCells #[.int .i64 0, .int .i64 0, .int .i64 0, .int .i64 0, .int .i64 0, .int .i64 0, .int .i64 0, .int .i64 0, .int .i64 0] n).toList = iv (List.replicate n 0) := by
  have hz : ∀ q : Fin 9, (#[Value.int .i64 0, .int .i64 0, .int .i64 0, .int .i64 0, .int .i64 0, .int .i64 0, .int .i64 0, .int .i64 0, .int .i64 0] : Array Value)[q.val]! = .int .i64 0 := fun q => by
    match q with
    | 0 | 1 | 2 | 3 | 4 | 5 | 6 | 7 | 8 => rfl
  have e : madeCells #[.int .i64 0, .int .i64 0, .int .i64 0, .int .i64 0, .int .i64 0, .int .i64 0, .int .i64 0, .int .i64 0, .int .i64 0] n = (Array.range n).map fun _ => Value.int .i64 0 := by
    unfold madeCells
    congr 1
    funext i
    exact hz ⟨i % 9, Nat.mod_lt _ (by decide)⟩
  rw [e]
  unfold iv
  rw [Array.toList_map, Array.toList_range, List.map_const', List.length_range, List.map_replicate]
theorem flatI_zero (n : Nat) : flatI (List.replicate n (Z8, 0)) = List.replicate (n * 9) 0 := by
  induction n with
  | zero => rfl
  | succ n ih =>
    rw [List.replicate_succ]
    show (Z8 ++ [0]) ++ flatI (List.replicate n (Z8, 0)) = _
    rw [ih, show (n + 1) * 9 = 9 + n * 9 by omega, ← List.replicate_append_replicate]
    rfl
theorem fromP_zero (n : Nat) : fromP (List.replicate n (Z8, 0)) = newP n := by
  unfold fromP newP
  rw [List.map_replicate]
  rfl
theorem rightB_zero {n : Nat} (h : 1 ≤ n ∧ n ≤ 4096) : rightB (List.replicate n (Z8, 0)) = true := by
  unfold rightB
  rw [List.length_replicate, Bool.and_eq_true]
  refine ⟨by simpa using h, ?_⟩
  rw [List.all_eq_true]
  intro x hx
  rw [(List.mem_replicate.1 hx).2]
  decide
/-- What New comes to. -/
def NewPost (w : World) (z : Int) (e : Ending) (w' : World) : Prop :=
  (∃ n : Nat, z = n ∧ 1 ≤ n ∧ n ≤ 4096 ∧ ∃ p, e = .returned (.pointer (some ⟨p, 0, none⟩)) ∧ Rep w' p (newP n) (New w w')) ∨ ((z < 1 ∨ 4096 < z) ∧ e = .returned (.pointer none))
set_option maxRecDepth 100000 in
set_option maxHeartbeats 4000000 in
theorem new_any (z : Int) (w : World) :
    Calls Tryz.prog 46 #[.int .i64 z] w fun e w' => NewPost w z e w' ∧ Below w.heap.size w w' := by
  by_cases h1 : z < 1
  · go_enter Tryz.func46, Tryz.ntmps46
    go_wp2_with fail
    go_ret
    exact ⟨.inr ⟨.inl (by omega), rfl⟩, Below.refl _ _⟩
  · by_cases h2 : 4096 < z
    · go_enter Tryz.func46, Tryz.ntmps46
      go_wp2_with fail
      go_ret
      exact ⟨.inr ⟨.inr (by omega), rfl⟩, Below.refl _ _⟩
    · obtain ⟨n, rfl⟩ : ∃ n : Nat, z = n := ⟨z.toNat, by omega⟩
      obtain ⟨i0, hi, hz0, hz1, hz2⟩ := info_parts infoLine
      have HI0 := Lib.hid hi
      have HZ0 := Lib.hid hz0
      have HZ1 := Lib.hid hz1
      have HZ2 := Lib.hid hz2
      have hn1 : 1 ≤ n := by omega
      have hn2 : n ≤ 4096 := by omega
      clear hi hz0 hz1 hz2
      go_enter Tryz.func46, Tryz.ntmps46
      go_wp2_with (at_make; refine wpList_make_full _ rfl _ _ 23 rfl w.heap.size 77 i0 _ 9 Tryz.underlying23 HI0.out HZ0.out HZ1.out .i64 .i64 _ _ n rfl rfl rfl rfl (by rw [HZ2.out]; omega) (by unfold maxLen; omega) (Nat.le_refl _) ?_; intro w1 hown hgrow)
      have hsl := Sl.of_row hown
      have hB1 : Below w.heap.size w w1 := (Below.refl _ _).grown hgrow (Nat.le_refl _) (fun k hk => by cases hk)
      have HB1 := Lib.hid hB1
      have HFR := Lib.hid (from_any (List.replicate n (Z8, 0)) _ w1 (fun x hx => by rw [(List.mem_replicate.1 hx).2]; rfl) (by rw [List.length_replicate]; omega) (by
        rw [List.length_replicate, flatI_zero, ← made_zeros9]
        exact Rd.of_sl hsl))
      clear hsl hown hgrow hB1
      go_wp2_with fail
      refine HFR.out.mono ?_
      rintro e w2 ⟨hp, hb2⟩
      rcases hp with ⟨_, p, rfl, hr⟩ | ⟨h9, _⟩
      · rw [fromP_zero] at hr
        have HB2 := Lib.hid (bel_on HB1.out hb2)
        have HR2 := Lib.hid (hr.wide (F' := New w w2) (fun k hk => ⟨Nat.le_trans HB1.out.size hk.1, hk.2⟩) fun k hk => hk.2)
        clear hr hb2 HFR
        go_wp2_with fail
        go_ret
        exact ⟨.inl ⟨n, rfl, hn1, hn2, p, rfl, HR2.out⟩, HB2.out⟩
      · rw [rightB_zero ⟨hn1, hn2⟩] at h9
        cases h9
end Go.Proofs.YtpojhplnhppcpaaGreatDoor
