/-
  What alumref05's Event does.
-/
import Derived.Test.YtpojhplnhppcpaaGreatDoorQK7Parse
namespace Go.Proofs.YtpojhplnhppcpaaGreatDoor
open Go.RowKit Go.Maps
def Z12 : List Int := [0, 0, 0, 0, 0, 0, 0, 0, 0, 0, 0, 0]
/-- What Event answers. -/
def EvtPost (s : List UInt8) (e : Ending) : Prop := ∃ (x : List Int) (b : Bool), e = .returned (.tuple #[.agg (iv x).toArray, .bool b]) ∧ (evR s = if b = true then some x else none) ∧ x.length = 12
theorem evR_cons {s : List UInt8} {p : List UInt8} {qs : List (List UInt8)} (h : splitF 32 [] s = p :: qs) : evR s = partsR p qs := by
  unfold evR
  rw [h]
  rfl
theorem parts_no {p : List UInt8} {qs : List (List UInt8)} (h : ¬ (qs.length : Int) = (kindN p).2) : partsR p qs = none := by unfold partsR; rw [if_neg h]
theorem parts_bad {p : List UInt8} {qs : List (List UInt8)} (h : numsR qs = none) : partsR p qs = none := by unfold partsR; rw [h]; split <;> rfl
def addN (V : List Int) : Option (List Int) → Option (List Int)
  | none => none
  | some r => some (V ++ r)
theorem nums_on {qs : List (List UInt8)} {j : Nat} (hj : j < qs.length) (V : List Int) : addN V (numsR (qs.drop j)) = match numR qs[j] with | none => none | some z => addN (V ++ [z]) (numsR (qs.drop (j + 1))) := by
  rw [List.drop_eq_getElem_cons hj]
  show addN V (match numR qs[j] with | none => none | some z => match numsR (qs.drop (j + 1)) with | none => none | some v => some (z :: v)) = _
  cases numR qs[j] with
  | none => rfl
  | some z =>
    cases numsR (qs.drop (j + 1)) with
    | none => rfl
    | some r => simp [addN]
theorem split_small {c : UInt8} : ∀ (s acc : List UInt8), (splitF c acc s).length ≤ s.length + 1
  | [], _ => by simp [splitF]
  | b :: r, acc => by
    unfold splitF
    split
    · have := split_small (c := c) r []
      simp only [List.length_cons]; omega
    · have := split_small (c := c) r (acc ++ [b])
      simp only [List.length_cons]; omega
theorem built0 (w : World) : (Instr.build 68 #[]).run Tryz.prog w = .ok (.agg (iv Z12).toArray) w := by kernel_rfl
theorem builtK (k : Int) (w : World) : (Instr.build 68 #[(0, .int .i64 k)]).run Tryz.prog w = .ok (.agg (iv [k, 0, 0, 0, 0, 0, 0, 0, 0, 0, 0, 0]).toArray) w := by kernel_rfl
def Two (B W : World) (rb ob : Nat) (cs : List Int) (v : Value) (V : List Int) : Prop :=
  Arr W ob 68 (iv cs) ∧ Arr W rb 68 (iv Z12) ∧ Sl W 3 1 v V.length (iv V) ∧ (∀ q, v.ownBlock = some q → q ≠ ob ∧ q ≠ rb) ∧ Below B.heap.size B W ∧ rb ≠ ob ∧ B.heap.size ≤ ob
theorem Two.set {B W : World} {rb ob : Nat} {cs : List Int} {v : Value} {V : List Int} (h : Two B W rb ob cs v V) (j : Nat) (z : Int) : Two B (W.setCell ⟨ob, j, none⟩ (.int .i64 z)) rb ob (cs.set j z) v V := by
  obtain ⟨h1, h2, h3, h4, h5, h6, h7⟩ := h
  refine ⟨?_, h2.other h6 _, h3.keep fun q hq => heap_setCell_other W ⟨ob, j, none⟩ q _ (h4 q hq).1, h4, h5.setCell h7 _, h6, h7⟩
  rw [← iv_set]
  exact h1.set j _
theorem Two.cellV {B W : World} {rb ob : Nat} {cs : List Int} {b o n c : Nat} {V : List Int} (h : Two B W rb ob cs (.slice (some ⟨b, o, none⟩) n c) V) {j : Nat} {z : Int} (hj : V[j]? = some z) : W.cell? ⟨b, o + j, none⟩ = some (.int .i64 z) :=
  h.2.2.1.cells rfl j _ (by unfold iv; rw [List.getElem?_map, hj]; rfl)
theorem Two.cellO {B W : World} {rb ob : Nat} {cs : List Int} {v : Value} {V : List Int} (h : Two B W rb ob cs v V) {j : Nat} {z : Int} (hj : cs[j]? = some z) : W.cell? ⟨ob, j, none⟩ = some (.int .i64 z) :=
  h.1.cell (by unfold iv; rw [List.getElem?_map, hj]; rfl)
theorem Two.new {B W : World} {rb : Nat} {v : Value} {V : List Int} (cs : List Int) (h2 : Arr W rb 68 (iv Z12)) (h3 : Sl W 3 1 v V.length (iv V)) (h4 : ∀ q, v.ownBlock = some q → q ≠ rb) (h5 : Below B.heap.size B W) :
    Two B (W.alloc (.cells (iv cs).toArray 68)) rb W.heap.size cs v V :=
  have hb := bel_new W (.cells (iv cs).toArray 68)
  ⟨Arr.new W (iv cs) _, h2.keep hb, h3.below hb, fun q hq => ⟨Nat.ne_of_lt (h3.lt hq), h4 q hq⟩, bel_on h5 hb, Nat.ne_of_lt h2.lt, h5.size⟩
theorem Two.below {B W W' : World} {rb ob : Nat} {cs : List Int} {v : Value} {V : List Int} (h : Two B W rb ob cs v V) (hb : Below W.heap.size W W') : Two B W' rb ob cs v V :=
  ⟨h.1.keep hb, h.2.1.keep hb, h.2.2.1.below hb, h.2.2.2.1, bel_on h.2.2.2.2.1 hb, h.2.2.2.2.2.1, h.2.2.2.2.2.2⟩
theorem kind_of {p : List UInt8} {kn kl : Int} (h : kindN p = (kn, kl)) (h0 : 0 ≤ kl) :
    (p = [115, 116, 111, 114, 101] ∧ kn = 1 ∧ kl = 3) ∨ (p = [112, 117, 98, 108, 105, 115, 104] ∧ kn = 2 ∧ kl = 3) ∨ (p = [102, 108, 117, 115, 104] ∧ kn = 3 ∧ kl = 1) ∨ (p = [102, 101, 110, 99, 101] ∧ kn = 4 ∧ kl = 0) ∨
    (p = [101, 118, 105, 99, 116] ∧ kn = 5 ∧ kl = 2) ∨ (p = [104, 101, 97, 108] ∧ kn = 6 ∧ kl = 9) ∨ (p = [114, 111, 116] ∧ kn = 7 ∧ kl = 10) ∨ (p = [101, 118, 101, 110, 116] ∧ kn = 0 ∧ kl = 1) := by
  unfold kindN at h
  split at h
  · rename_i e; cases h; exact .inl ⟨e, rfl, rfl⟩
  split at h
  · rename_i e; cases h; exact .inr (.inl ⟨e, rfl, rfl⟩)
  split at h
  · rename_i e; cases h; exact .inr (.inr (.inl ⟨e, rfl, rfl⟩))
  split at h
  · rename_i e; cases h; exact .inr (.inr (.inr (.inl ⟨e, rfl, rfl⟩)))
  split at h
  · rename_i e; cases h; exact .inr (.inr (.inr (.inr (.inl ⟨e, rfl, rfl⟩))))
  split at h
  · rename_i e; cases h; exact .inr (.inr (.inr (.inr (.inr (.inl ⟨e, rfl, rfl⟩)))))
  split at h
  · rename_i e; cases h; exact .inr (.inr (.inr (.inr (.inr (.inr (.inl ⟨e, rfl, rfl⟩))))))
  split at h
  · rename_i e; cases h; exact .inr (.inr (.inr (.inr (.inr (.inr (.inr ⟨e, rfl, rfl⟩))))))
  · cases h; omega
def words8 (k a : Int) (ws : List Int) (t : Nat) : List Int := [k, a, 0, 0] ++ (ws.take t ++ List.replicate (8 - t) 0)
theorem words8_set {k a : Int} {ws : List Int} {t : Nat} (ht : t < 8) (hl : ws.length = 8) : (words8 k a ws t).set (4 + t) (ws.getD t 0) = words8 k a ws (t + 1) := by
  unfold words8
  match ws, hl with
  | [w0, w1, w2, w3, w4, w5, w6, w7], _ =>
    have hc : t = 0 ∨ t = 1 ∨ t = 2 ∨ t = 3 ∨ t = 4 ∨ t = 5 ∨ t = 6 ∨ t = 7 := by omega
    rcases hc with rfl | rfl | rfl | rfl | rfl | rfl | rfl | rfl <;> rfl
theorem words8_get {k a : Int} {ws : List Int} {t : Nat} (ht : t < 8) (hl : ws.length = 8) : (words8 k a ws t)[4 + t]? = some 0 := by
  unfold words8
  match ws, hl with
  | [w0, w1, w2, w3, w4, w5, w6, w7], _ =>
    have hc : t = 0 ∨ t = 1 ∨ t = 2 ∨ t = 3 ∨ t = 4 ∨ t = 5 ∨ t = 6 ∨ t = 7 := by omega
    rcases hc with rfl | rfl | rfl | rfl | rfl | rfl | rfl | rfl <;> rfl
theorem drop_nums {qs : List (List UInt8)} {V : List Int} {Q : Nat} (hq : qs.length = Q) (hV : V.length = Q) (h : numsR qs = addN V (numsR (qs.drop V.length))) : numsR qs = some V := by
  rw [h, hV, ← hq, List.drop_length]
  show some (V ++ []) = _
  rw [List.append_nil]
theorem parts_all {p : List UInt8} {qs : List (List UInt8)} {V : List Int} {kn kl : Int} (hk : kindN p = (kn, kl)) (hl : (qs.length : Int) = kl) (hn : numsR qs = some V) :
    partsR p qs = if p = eventB then (if V.getD 0 0 < 1 ∨ 7 < V.getD 0 0 then some (V.getD 0 0 :: List.replicate 11 0) else none) else some (layE kn kl V) := by
  unfold partsR
  rw [hk, hn, if_pos hl]
set_option maxRecDepth 100000 in
set_option maxHeartbeats 16000000 in
set_option linter.unusedSimpArgs false in
theorem event_any (s : List UInt8) (w : World) (hs : s.length ≤ 100000) :
    Calls Tryz.prog 87 #[strV s] w fun e w' => EvtPost s e ∧ Below w.heap.size w w' := by
  obtain ⟨p, qs, hps⟩ : ∃ p qs, splitF 32 [] s = p :: qs := by
    cases hp : splitF 32 [] s with
    | nil => exact absurd hp (splitF_ne 32 s [])
    | cons p qs => exact ⟨p, qs, rfl⟩
  have HPO : Hid (∀ e, EvtPost s e = ∃ (x : List Int) (b : Bool), e = .returned (.tuple #[.agg (iv x).toArray, .bool b]) ∧ (partsR p qs = if b = true then some x else none) ∧ x.length = 12) := Lib.hid fun e => by
    unfold EvtPost
    rw [evR_cons hps]
  obtain ⟨PO, hPO⟩ : ∃ PO, EvtPost s = PO := ⟨_, rfl⟩
  rw [hPO] at HPO ⊢
  have hsm := split_small (c := 32) s []
  rw [hps, List.length_cons] at hsm
  obtain ⟨Q, hQ⟩ : ∃ Q, qs.length = Q := ⟨_, rfl⟩
  have HQ := Lib.hid hQ
  have HPN := Lib.hid (parts_no (p := p) (qs := qs))
  have HPB := Lib.hid (parts_bad (p := p) (qs := qs))
  rw [hQ] at HPN hsm
  have HB0 := Lib.hid (bel_new w (.cells (iv Z12).toArray 68))
  have HA0 := Lib.hid (Arr.new w (iv Z12) 68)
  have HPA := Lib.hid fun w1 => dparts_any s w1 (by omega)
  rw [hps] at HPA
  simp only [List.length_cons] at HPA
  rw [hQ] at HPA
  have HKI := Lib.hid fun w1 => dkind_any p w1
  obtain ⟨kn, kl, hkn⟩ : ∃ a b, kindN p = (a, b) := ⟨_, _, rfl⟩
  have HKN := Lib.hid hkn
  rw [hkn] at HKI HPN
  simp only at HPN
  have hkl : -1 ≤ kl ∧ kl ≤ 10 := by
    have h : kl = (kindN p).2 := by rw [hkn]
    rw [h]
    unfold kindN
    repeat' split
    all_goals (simp only; omega)
  have hi12 : (Tryz.prog.info? 68).map (·.size) = some (iv Z12).length := size79
  have HI12 : Hid ((Tryz.prog.info? 68).map (·.size) = some (iv Z12).length) := Lib.hid hi12
  have HOZ := Lib.hid (iv_one Z12)
  obtain ⟨W0, hW0⟩ : ∃ W0, w.alloc (.cells (iv Z12).toArray 68) = W0 := ⟨_, rfl⟩
  change Hid (Arr (w.alloc (.cells (iv Z12).toArray 68)) w.heap.size 68 (iv Z12)) at HA0
  rw [hW0] at HA0 HB0
  have HW0 : Hid (w.alloc (.cells #[.int .i64 0, .int .i64 0, .int .i64 0, .int .i64 0, .int .i64 0, .int .i64 0, .int .i64 0, .int .i64 0, .int .i64 0, .int .i64 0, .int .i64 0, .int .i64 0] 68) = W0) := Lib.hid hW0
  have hb0 := HB0.out
  have hrb : w.heap.size < W0.heap.size := by rw [← hW0]; simp
  have HNU := Lib.hid dnumber_any
  have HNO := Lib.hid fun (V : List Int) (hj : V.length < qs.length) => nums_on hj V
  have HDN := Lib.hid fun (V : List Int) (h : V.length = Q) => drop_nums (V := V) hQ h
  have HPV := Lib.hid fun (V : List Int) (h : (Q : Int) = kl) (hn : numsR qs = some V) => parts_all hkn (by rw [hQ]; exact h) hn
  have H68 := Lib.hid Tryz.underlying68
  have HBZ := Lib.hid built0
  have HKO := Lib.hid fun h => kind_of hkn h
  obtain ⟨i0, hi0, hz0, hz1, hz2⟩ := info_parts intInfo3
  have HI0 := Lib.hid hi0
  have HZ0 := Lib.hid hz0
  have HZ1 := Lib.hid hz1
  have HZ2 := Lib.hid hz2
  clear hi0 hz0 hz1 hz2
  clear hps hPO hQ hkn hW0 hi12 hb0
  unfold strV at HPA HKI HNU ⊢
  go_enter Tryz.func87, Tryz.ntmps87
  go_wp2_with fail
  rw [HW0.out]
  refine (HPA.out _).mono ?_
  rintro e w1 ⟨⟨pv, rfl, hsl, hown⟩, hb⟩
  obtain ⟨pb, po, pcap, rfl, hpc1, hpc2, hcells⟩ := hsl.at_ (Nat.succ_pos Q)
  have c0 : w1.cell? ⟨pb, po, none⟩ = some (.string ⟨p.toArray⟩) := hcells 0 _ rfl
  have HCQ : Hid (∀ j (hj : j < qs.length), w1.cell? ⟨pb, po + (j + 1), none⟩ = some (.string ⟨qs[j].toArray⟩)) := Lib.hid fun j hj => hcells (j + 1) _ (by simp [hj])
  have HB1 := Lib.hid (bel_on HB0.out hb)
  have HA1 := Lib.hid (HA0.out.keep hb)
  have HRB1 : Hid (w.heap.size < w1.heap.size) := Lib.hid (Nat.lt_of_lt_of_le hrb hb.size)
  clear hb hsl hown hcells HPA HA0 HB0 hrb HW0
  clear W0
  go_wp2_with fail
  refine (HKI.out _).mono ?_
  rintro e w2 ⟨rfl, hw⟩
  obtain rfl : w1 = w2 := hw.symm
  clear hw HKI
  by_cases hQk : (Q : Int) = kl
  case neg =>
    have HNR := Lib.hid (HPN.out hQk)
    have hne1 : (((Q : Int) + 1) == kl + 1) = false := by rw [beq_eq_false_iff_ne]; omega
    have HAX := HA1
    have HBX := HB1
    go_wp2_with (first
          | ((with_reducible refine arm_build 68 _ (.agg (iv Z12).toArray) rfl rfl ?_ ?_); (focus (intro w0; simpa [Act.eval] using HBZ.out w0)))
          | ((with_reducible refine arm_put 68 w.heap.size 68 _ _ HAX.out HI12.out rfl HOZ.out rfl _ _ rfl ?_ ?_ ?_); (focus rfl); (focus rfl)))

    refine bodyPost_ret (v := .tuple #[.agg (iv Z12).toArray, .bool false]) (ret_row2 Tryz.results87 _ _ w.heap.size 68 (iv Z12) (HAX.out.row _) rfl _ H68.out rfl HI12.out _ rfl) rfl ?_
    exact ⟨by rw [HPO.out]; exact ⟨Z12, false, rfl, HNR.out, rfl⟩, bel_row HBX.out (Nat.le_refl _) _⟩
  case pos =>
    have HQK := Lib.hid hQk
    have HAS : Hid (numsR qs = addN [] (numsR (qs.drop 0))) := Lib.hid (by rw [List.drop_zero]; cases numsR qs <;> rfl)
    have HSS : Hid (Sl w1 3 1 (.slice none 0 0) ([] : List Int).length (iv [])) := Lib.hid (Sl.nil _ _ _)
    have HOS : Hid (∀ q, (Value.slice none 0 0).ownBlock = some q → w1.heap.size ≤ q) := Lib.hid fun q hq => by simp [Value.ownBlock] at hq
    have HBS : Hid (Below w1.heap.size w1 w1) := Lib.hid (Below.refl _ _)
    go_wp2_with fail
    clear hQk
    go_loopw [7, 8] (fun o i wr => ∃ (k : Nat) (V : List Int), i = .int .i64 (k : Int) ∧ k ≤ Q + 1 ∧ V.length + 1 = k ∧ Hid (numsR qs = addN V (numsR (qs.drop V.length))) ∧ Hid (Sl wr 3 1 o V.length (iv V)) ∧ Hid (∀ q, o.ownBlock = some q → w1.heap.size ≤ q) ∧ Hid (Below w1.heap.size w1 wr)) (fun _ i _ => Q + 1 - (intOf i).toNat)
    case atStart => exact ⟨1, [], rfl, by omega, rfl, HAS, HSS, HOS, HBS⟩
    case round =>
      clear HAS HSS HOS HBS
      obtain ⟨k, V, rfl, hk, hVk, HAN, HS, HOW, HB⟩ := hrel
      have HAX := Lib.hid (HA1.out.keep HB.out)
      have HBX := Lib.hid (bel_on HB1.out HB.out)
      by_cases hlt : k < Q + 1
      · have hkI : (k : Int) < (Q : Int) + 1 := by omega
        have hk0 : (0 : Int) ≤ (k : Int) := by omega
        have hj : V.length < qs.length := by have := HQ.out; omega
        have hcell : wr.cell? ⟨pb, po + k, none⟩ = some (.string ⟨(qs[V.length]'hj).toArray⟩) := by
          have := cell_below HB.out (HCQ.out V.length hj)
          rwa [hVk] at this
        have hno := HAN.out.trans (HNO.out V hj)
        generalize qs[V.length] = q0 at *
        have HNX := Lib.hid hno
        clear hno
        go_wp2_with fail
        refine (HNU.out _ _).mono ?_
        rintro e w3 ⟨⟨z, b, rfl, hz⟩, hb⟩
        have HNZ := HNX.out
        rw [hz] at HNZ
        have HAX3 := Lib.hid (HAX.out.keep hb)
        have HBX3 := Lib.hid (bel_on HBX.out hb)
        have HB3 := Lib.hid (bel_on HB.out hb)
        have HS3 := Lib.hid (HS.out.below hb)
        clear hz hb hcell HAX HBX HB HS HNX HAN hj
        cases b with
        | false =>
          have HNR : Hid (partsR p qs = none) := Lib.hid (HPB.out HNZ)
          have HAX := HAX3
          have HBX := HBX3
          clear HNZ
          go_wp2_with (first
                | ((with_reducible refine arm_build 68 _ (.agg (iv Z12).toArray) rfl rfl ?_ ?_); (focus (intro w0; simpa [Act.eval] using HBZ.out w0)))
                | ((with_reducible refine arm_put 68 w.heap.size 68 _ _ HAX.out HI12.out rfl HOZ.out rfl _ _ rfl ?_ ?_ ?_); (focus rfl); (focus rfl)))

          refine bodyPost_ret (v := .tuple #[.agg (iv Z12).toArray, .bool false]) (ret_row2 Tryz.results87 _ _ w.heap.size 68 (iv Z12) (HAX.out.row _) rfl _ H68.out rfl HI12.out _ rfl) rfl ?_
          exact ⟨by rw [HPO.out]; exact ⟨Z12, false, rfl, HNR.out, rfl⟩, bel_row HBX.out (Nat.le_refl _) _⟩
        | true =>
          have HNN : Hid (numsR qs = addN (V ++ [z]) (numsR (qs.drop (V ++ [z]).length))) := Lib.hid (by
            rw [List.length_append]
            exact HNZ)
          clear HNZ
          have hbn := bel_new w3 (.cells #[.int .i64 z] 3)
          have HSN := Lib.hid (HS3.out.below hbn)
          have HBN := Lib.hid (bel_on HB3.out hbn)
          have HNW := Lib.hid (cell_one_new w3 (.int .i64 z) 3)
          have HON : Hid (∀ u ∈ [Value.int .i64 z], u.oneCell' = true) := Lib.hid fun u hu => by rw [List.mem_singleton.1 hu]; rfl
          clear hbn
          go_wp2_with (at_builtin; (refine arm_append_sl _ _ 59 rfl rfl 3 i0 _ 1 8 Tryz.underlying59 HI0.out HZ0.out HZ1.out HZ2.out rfl (by decide) _ V.length (iv V) rfl HSN.out ⟨w3.heap.size, 0, none⟩ 1 1 [.int .i64 z] rfl rfl HNW.out HON.out (by unfold maxLen; omega) (by omega) ?_); intro v' w4 h1 h2 h3; refine Hid.out ?_)
          refine Lib.hid ?_
          have HS4 : Hid (Sl w4 3 1 v' (V ++ [z]).length (iv (V ++ [z]))) := Lib.hid (by
            rw [List.length_append]
            unfold iv at h1 ⊢
            rw [List.map_append]
            exact h1)
          have HO4 : Hid (∀ q, v'.ownBlock = some q → w1.heap.size ≤ q) := Lib.hid fun q hq => by
            rcases h3 with h3 | h3
            · exact HOW.out q (h3 ▸ hq)
            · rw [h3] at hq
              simp only [Option.some.injEq] at hq
              exact Nat.le_trans HBN.out.size (Nat.le_of_eq hq)
          have HB4 : Hid (Below w1.heap.size w1 w4) := Lib.hid (HBN.out.grown h2 HBN.out.size fun g hg => HOW.out g hg)
          obtain ⟨XA, xcap, rfl, _⟩ := h1.shape
          clear h1 h2 h3 HSN HNW HBN HS3 HOW HB3 HAX3 HBX3
          go_wp2_with fail
          go_roundw
          case rel => exact ⟨k + 1, V ++ [z], by simp, by omega, by rw [List.length_append]; simp only [List.length_cons, List.length_nil]; omega, HNN, HS4, HO4, HB4⟩
          case measure => simp [intOf]; omega
      · obtain rfl : k = Q + 1 := by omega
        have hVQ : V.length = Q := by omega
        have hns := HDN.out V hVQ HAN.out
        have HPF := Lib.hid (HPV.out V HQK.out hns)
        have hko := HKO.out (by have := HQK.out; omega)
        have hkI : ¬ ((Q : Int) + 1) < (Q : Int) + 1 := by omega
        have c0' := cell_below HB.out c0
        have hor := fun q hq => Nat.ne_of_gt (Nat.lt_of_lt_of_le HRB1.out (HOW.out q hq))
        have HORR := Lib.hid hor
        have hQK := HQK.out
        clear hns HDN HPV HAN HNO HNU HPN HPB HOW hor HKO HCQ c0 hlt hk hVk
        clear HKN HQK hkl
        rcases hko with ⟨rfl, rfl, rfl⟩ | ⟨rfl, rfl, rfl⟩ | ⟨rfl, rfl, rfl⟩ | ⟨rfl, rfl, rfl⟩ | ⟨rfl, rfl, rfl⟩ | ⟨rfl, rfl, rfl⟩ | ⟨rfl, rfl, rfl⟩ | ⟨rfl, rfl, rfl⟩
        · obtain rfl : Q = 3 := by omega
          obtain ⟨a, b, c, rfl⟩ : ∃ a b c, V = [a, b, c] := by match V, hVQ with | [a, b, c], _ => exact ⟨a, b, c, rfl⟩
          have hsl9 := HS.out
          rw [hVQ] at hsl9
          obtain ⟨vb, vo, vcap, rfl, hvc1, hvc2, _⟩ := hsl9.at_ (by decide)
          clear hsl9
          obtain ⟨E0, hE0⟩ : ∃ E0 : List Int, [1, 0, 0, 0, 0, 0, 0, 0, 0, 0, 0, 0] = E0 := ⟨_, rfl⟩
          have HBK : Hid (∀ w, (Instr.build 68 #[(0, .int .i64 1)]).run Tryz.prog w = .ok (.agg (iv E0).toArray) w) := Lib.hid (by rw [← hE0]; exact builtK 1)
          have HL0 : Hid (E0.length = 12) := Lib.hid (by rw [← hE0]; rfl)
          have HO0 := Lib.hid (iv_one E0)
          have T0 := Two.new (B := w) E0 HAX.out HS.out HORR.out HBX.out
          have c0x := cell_below (bel_new wr (.cells (iv E0).toArray 68)) c0'
          obtain ⟨W1, hW1⟩ : ∃ W, wr.alloc (.cells (iv E0).toArray 68) = W := ⟨_, rfl⟩
          rw [hW1] at T0 c0x
          have HW1 := Lib.hid hW1
          clear hW1
          have e0 := T0.cellO (j := 1) (z := 0) (by rw [← hE0]; rfl)
          have f0 := T0.1.free 1
          have v0 := T0.cellV (j := 0) (z := a) rfl
          have T1 := T0.set 1 a
          obtain ⟨E1, hE1⟩ : ∃ E, E0.set 1 a = E := ⟨_, rfl⟩
          rw [hE1] at T1
          have e1 := T1.cellO (j := 2) (z := 0) (by rw [← hE1, ← hE0]; rfl)
          have f1 := T1.1.free 2
          have v1 := T1.cellV (j := 1) (z := b) rfl
          have T2 := T1.set 2 b
          obtain ⟨E2, hE2⟩ : ∃ E, E1.set 2 b = E := ⟨_, rfl⟩
          rw [hE2] at T2
          have e2 := T2.cellO (j := 3) (z := 0) (by rw [← hE2, ← hE1, ← hE0]; rfl)
          have f2 := T2.1.free 3
          have v2 := T2.cellV (j := 2) (z := c) rfl
          have T3 := T2.set 3 c
          obtain ⟨E3, hE3⟩ : ∃ E, E2.set 3 c = E := ⟨_, rfl⟩
          rw [hE3] at T3
          simp only [Nat.add_zero] at v0 v1 v2
          have HLEN : Hid (E3.length = 12) := Lib.hid (by rw [← hE3, ← hE2, ← hE1, ← hE0]; rfl)
          have HFIN : Hid (partsR _ qs = some E3) := Lib.hid (by rw [HPF.out, if_neg (by decide), ← hE3, ← hE2, ← hE1, ← hE0]; rfl)
          have HARR := Lib.hid T3.1
          have HAZ := Lib.hid T3.2.1
          have HBF := Lib.hid T3.2.2.2.2.1
          have HRR := Lib.hid (HAZ.out.row (iv E3))
          have HIE : Hid ((Tryz.prog.info? 68).map (·.size) = some (iv E3).length) := Lib.hid (by rw [size79, iv_len, HLEN.out])
          have HOE := Lib.hid (iv_one E3)
          have HLE : Hid ((iv Z12).length = (iv E3).length) := Lib.hid (by rw [iv_len, iv_len, HLEN.out]; rfl)
          clear hE0 hE1 hE2 hE3 T0 T1 T2 T3 HS HORR HAX HBX HB hQK hVQ
          go_wp2_with (first
              | ((with_reducible refine arm_build 68 _ (.agg (iv E0).toArray) rfl rfl ?_ ?_); (focus (intro w0; simpa [Act.eval] using HBK.out w0)))
              | ((with_reducible refine arm_new 68 (iv E0) 12 ?_ size79 HO0.out _ rfl rfl _ _ rfl ?_ ?_ ?_); (focus (rw [iv_len, HL0.out])); (focus rfl); (focus rfl); rw [HW1.out]))
          go_loopw [12] (fun i w5 => i = .int .i64 0 ∧ w5 = (World.setCell (World.setCell (World.setCell (W1) ⟨wr.heap.size, 1, none⟩ (.int .i64 a)) ⟨wr.heap.size, 2, none⟩ (.int .i64 b)) ⟨wr.heap.size, 3, none⟩ (.int .i64 c))) (fun _ _ => 0)
          case atStart => exact ⟨rfl, rfl⟩
          case round =>
            obtain ⟨rfl, rfl⟩ := hrel
            go_wp2_with (first
                | ((with_reducible refine arm_row 68 _ 68 _ HARR.out _ H68.out rfl HIE.out rfl _ rfl ?_ ?_); focus rfl)
                | ((with_reducible refine arm_put 68 w.heap.size 68 _ _ HAZ.out HIE.out HLE.out HOE.out rfl _ _ rfl ?_ ?_ ?_); (focus rfl); (focus rfl)))
            refine bodyPost_ret (v := .tuple #[.agg (iv E3).toArray, .bool true]) (ret_row2 Tryz.results87 _ _ w.heap.size 68 (iv E3) HRR.out rfl _ H68.out rfl HIE.out _ rfl) rfl ?_
            exact ⟨by rw [HPO.out]; exact ⟨E3, true, rfl, HFIN.out, HLEN.out⟩, bel_row HBF.out (Nat.le_refl _) _⟩
        · obtain rfl : Q = 3 := by omega
          obtain ⟨a, b, c, rfl⟩ : ∃ a b c, V = [a, b, c] := by match V, hVQ with | [a, b, c], _ => exact ⟨a, b, c, rfl⟩
          have hsl9 := HS.out
          rw [hVQ] at hsl9
          obtain ⟨vb, vo, vcap, rfl, hvc1, hvc2, _⟩ := hsl9.at_ (by decide)
          clear hsl9
          obtain ⟨E0, hE0⟩ : ∃ E0 : List Int, [2, 0, 0, 0, 0, 0, 0, 0, 0, 0, 0, 0] = E0 := ⟨_, rfl⟩
          have HBK : Hid (∀ w, (Instr.build 68 #[(0, .int .i64 2)]).run Tryz.prog w = .ok (.agg (iv E0).toArray) w) := Lib.hid (by rw [← hE0]; exact builtK 2)
          have HL0 : Hid (E0.length = 12) := Lib.hid (by rw [← hE0]; rfl)
          have HO0 := Lib.hid (iv_one E0)
          have T0 := Two.new (B := w) E0 HAX.out HS.out HORR.out HBX.out
          have c0x := cell_below (bel_new wr (.cells (iv E0).toArray 68)) c0'
          obtain ⟨W1, hW1⟩ : ∃ W, wr.alloc (.cells (iv E0).toArray 68) = W := ⟨_, rfl⟩
          rw [hW1] at T0 c0x
          have HW1 := Lib.hid hW1
          clear hW1
          have e0 := T0.cellO (j := 1) (z := 0) (by rw [← hE0]; rfl)
          have f0 := T0.1.free 1
          have v0 := T0.cellV (j := 0) (z := a) rfl
          have T1 := T0.set 1 a
          obtain ⟨E1, hE1⟩ : ∃ E, E0.set 1 a = E := ⟨_, rfl⟩
          rw [hE1] at T1
          have e1 := T1.cellO (j := 2) (z := 0) (by rw [← hE1, ← hE0]; rfl)
          have f1 := T1.1.free 2
          have v1 := T1.cellV (j := 1) (z := b) rfl
          have T2 := T1.set 2 b
          obtain ⟨E2, hE2⟩ : ∃ E, E1.set 2 b = E := ⟨_, rfl⟩
          rw [hE2] at T2
          have e2 := T2.cellO (j := 3) (z := 0) (by rw [← hE2, ← hE1, ← hE0]; rfl)
          have f2 := T2.1.free 3
          have v2 := T2.cellV (j := 2) (z := c) rfl
          have T3 := T2.set 3 c
          obtain ⟨E3, hE3⟩ : ∃ E, E2.set 3 c = E := ⟨_, rfl⟩
          rw [hE3] at T3
          simp only [Nat.add_zero] at v0 v1 v2
          have HLEN : Hid (E3.length = 12) := Lib.hid (by rw [← hE3, ← hE2, ← hE1, ← hE0]; rfl)
          have HFIN : Hid (partsR _ qs = some E3) := Lib.hid (by rw [HPF.out, if_neg (by decide), ← hE3, ← hE2, ← hE1, ← hE0]; rfl)
          have HARR := Lib.hid T3.1
          have HAZ := Lib.hid T3.2.1
          have HBF := Lib.hid T3.2.2.2.2.1
          have HRR := Lib.hid (HAZ.out.row (iv E3))
          have HIE : Hid ((Tryz.prog.info? 68).map (·.size) = some (iv E3).length) := Lib.hid (by rw [size79, iv_len, HLEN.out])
          have HOE := Lib.hid (iv_one E3)
          have HLE : Hid ((iv Z12).length = (iv E3).length) := Lib.hid (by rw [iv_len, iv_len, HLEN.out]; rfl)
          clear hE0 hE1 hE2 hE3 T0 T1 T2 T3 HS HORR HAX HBX HB hQK hVQ
          go_wp2_with (first
              | ((with_reducible refine arm_build 68 _ (.agg (iv E0).toArray) rfl rfl ?_ ?_); (focus (intro w0; simpa [Act.eval] using HBK.out w0)))
              | ((with_reducible refine arm_new 68 (iv E0) 12 ?_ size79 HO0.out _ rfl rfl _ _ rfl ?_ ?_ ?_); (focus (rw [iv_len, HL0.out])); (focus rfl); (focus rfl); rw [HW1.out]))
          go_loopw [12] (fun i w5 => i = .int .i64 0 ∧ w5 = (World.setCell (World.setCell (World.setCell (W1) ⟨wr.heap.size, 1, none⟩ (.int .i64 a)) ⟨wr.heap.size, 2, none⟩ (.int .i64 b)) ⟨wr.heap.size, 3, none⟩ (.int .i64 c))) (fun _ _ => 0)
          case atStart => exact ⟨rfl, rfl⟩
          case round =>
            obtain ⟨rfl, rfl⟩ := hrel
            go_wp2_with (first
                | ((with_reducible refine arm_row 68 _ 68 _ HARR.out _ H68.out rfl HIE.out rfl _ rfl ?_ ?_); focus rfl)
                | ((with_reducible refine arm_put 68 w.heap.size 68 _ _ HAZ.out HIE.out HLE.out HOE.out rfl _ _ rfl ?_ ?_ ?_); (focus rfl); (focus rfl)))
            refine bodyPost_ret (v := .tuple #[.agg (iv E3).toArray, .bool true]) (ret_row2 Tryz.results87 _ _ w.heap.size 68 (iv E3) HRR.out rfl _ H68.out rfl HIE.out _ rfl) rfl ?_
            exact ⟨by rw [HPO.out]; exact ⟨E3, true, rfl, HFIN.out, HLEN.out⟩, bel_row HBF.out (Nat.le_refl _) _⟩
        · obtain rfl : Q = 1 := by omega
          obtain ⟨a, rfl⟩ : ∃ a, V = [a] := by match V, hVQ with | [a], _ => exact ⟨a, rfl⟩
          have hsl9 := HS.out
          rw [hVQ] at hsl9
          obtain ⟨vb, vo, vcap, rfl, hvc1, hvc2, _⟩ := hsl9.at_ (by decide)
          clear hsl9
          obtain ⟨E0, hE0⟩ : ∃ E0 : List Int, [3, 0, 0, 0, 0, 0, 0, 0, 0, 0, 0, 0] = E0 := ⟨_, rfl⟩
          have HBK : Hid (∀ w, (Instr.build 68 #[(0, .int .i64 3)]).run Tryz.prog w = .ok (.agg (iv E0).toArray) w) := Lib.hid (by rw [← hE0]; exact builtK 3)
          have HL0 : Hid (E0.length = 12) := Lib.hid (by rw [← hE0]; rfl)
          have HO0 := Lib.hid (iv_one E0)
          have T0 := Two.new (B := w) E0 HAX.out HS.out HORR.out HBX.out
          have c0x := cell_below (bel_new wr (.cells (iv E0).toArray 68)) c0'
          obtain ⟨W1, hW1⟩ : ∃ W, wr.alloc (.cells (iv E0).toArray 68) = W := ⟨_, rfl⟩
          rw [hW1] at T0 c0x
          have HW1 := Lib.hid hW1
          clear hW1
          have e0 := T0.cellO (j := 1) (z := 0) (by rw [← hE0]; rfl)
          have f0 := T0.1.free 1
          have v0 := T0.cellV (j := 0) (z := a) rfl
          have T1 := T0.set 1 a
          obtain ⟨E1, hE1⟩ : ∃ E, E0.set 1 a = E := ⟨_, rfl⟩
          rw [hE1] at T1
          simp only [Nat.add_zero] at v0
          have HLEN : Hid (E1.length = 12) := Lib.hid (by rw [← hE1, ← hE0]; rfl)
          have HFIN : Hid (partsR _ qs = some E1) := Lib.hid (by rw [HPF.out, if_neg (by decide), ← hE1, ← hE0]; rfl)
          have HARR := Lib.hid T1.1
          have HAZ := Lib.hid T1.2.1
          have HBF := Lib.hid T1.2.2.2.2.1
          have HRR := Lib.hid (HAZ.out.row (iv E1))
          have HIE : Hid ((Tryz.prog.info? 68).map (·.size) = some (iv E1).length) := Lib.hid (by rw [size79, iv_len, HLEN.out])
          have HOE := Lib.hid (iv_one E1)
          have HLE : Hid ((iv Z12).length = (iv E1).length) := Lib.hid (by rw [iv_len, iv_len, HLEN.out]; rfl)
          clear hE0 hE1 T0 T1 HS HORR HAX HBX HB hQK hVQ
          go_wp2_with (first
              | ((with_reducible refine arm_build 68 _ (.agg (iv E0).toArray) rfl rfl ?_ ?_); (focus (intro w0; simpa [Act.eval] using HBK.out w0)))
              | ((with_reducible refine arm_new 68 (iv E0) 12 ?_ size79 HO0.out _ rfl rfl _ _ rfl ?_ ?_ ?_); (focus (rw [iv_len, HL0.out])); (focus rfl); (focus rfl); rw [HW1.out]))
          go_loopw [12] (fun i w5 => i = .int .i64 0 ∧ w5 = (World.setCell (W1) ⟨wr.heap.size, 1, none⟩ (.int .i64 a))) (fun _ _ => 0)
          case atStart => exact ⟨rfl, rfl⟩
          case round =>
            obtain ⟨rfl, rfl⟩ := hrel
            go_wp2_with (first
                | ((with_reducible refine arm_row 68 _ 68 _ HARR.out _ H68.out rfl HIE.out rfl _ rfl ?_ ?_); focus rfl)
                | ((with_reducible refine arm_put 68 w.heap.size 68 _ _ HAZ.out HIE.out HLE.out HOE.out rfl _ _ rfl ?_ ?_ ?_); (focus rfl); (focus rfl)))
            refine bodyPost_ret (v := .tuple #[.agg (iv E1).toArray, .bool true]) (ret_row2 Tryz.results87 _ _ w.heap.size 68 (iv E1) HRR.out rfl _ H68.out rfl HIE.out _ rfl) rfl ?_
            exact ⟨by rw [HPO.out]; exact ⟨E1, true, rfl, HFIN.out, HLEN.out⟩, bel_row HBF.out (Nat.le_refl _) _⟩
        · obtain rfl : Q = 0 := by omega
          obtain rfl : V = [] := List.eq_nil_of_length_eq_zero hVQ
          have hsl9 := HS.out
          rw [hVQ] at hsl9
          obtain ⟨vA, vcap, rfl, _⟩ := hsl9.shape
          clear hsl9
          obtain ⟨E0, hE0⟩ : ∃ E0 : List Int, [4, 0, 0, 0, 0, 0, 0, 0, 0, 0, 0, 0] = E0 := ⟨_, rfl⟩
          have HBK : Hid (∀ w, (Instr.build 68 #[(0, .int .i64 4)]).run Tryz.prog w = .ok (.agg (iv E0).toArray) w) := Lib.hid (by rw [← hE0]; exact builtK 4)
          have HL0 : Hid (E0.length = 12) := Lib.hid (by rw [← hE0]; rfl)
          have HO0 := Lib.hid (iv_one E0)
          have T0 := Two.new (B := w) E0 HAX.out HS.out HORR.out HBX.out
          have c0x := cell_below (bel_new wr (.cells (iv E0).toArray 68)) c0'
          obtain ⟨W1, hW1⟩ : ∃ W, wr.alloc (.cells (iv E0).toArray 68) = W := ⟨_, rfl⟩
          rw [hW1] at T0 c0x
          have HW1 := Lib.hid hW1
          clear hW1
          have HLEN : Hid (E0.length = 12) := Lib.hid (by rw [← hE0]; rfl)
          have HFIN : Hid (partsR _ qs = some E0) := Lib.hid (by rw [HPF.out, if_neg (by decide), ← hE0]; rfl)
          have HARR := Lib.hid T0.1
          have HAZ := Lib.hid T0.2.1
          have HBF := Lib.hid T0.2.2.2.2.1
          have HRR := Lib.hid (HAZ.out.row (iv E0))
          have HIE : Hid ((Tryz.prog.info? 68).map (·.size) = some (iv E0).length) := Lib.hid (by rw [size79, iv_len, HLEN.out])
          have HOE := Lib.hid (iv_one E0)
          have HLE : Hid ((iv Z12).length = (iv E0).length) := Lib.hid (by rw [iv_len, iv_len, HLEN.out]; rfl)
          clear hE0 T0 HS HORR HAX HBX HB hQK hVQ
          go_wp2_with (first
              | ((with_reducible refine arm_build 68 _ (.agg (iv E0).toArray) rfl rfl ?_ ?_); (focus (intro w0; simpa [Act.eval] using HBK.out w0)))
              | ((with_reducible refine arm_new 68 (iv E0) 12 ?_ size79 HO0.out _ rfl rfl _ _ rfl ?_ ?_ ?_); (focus (rw [iv_len, HL0.out])); (focus rfl); (focus rfl); rw [HW1.out]))
          go_loopw [12] (fun i w5 => i = .int .i64 0 ∧ w5 = (W1)) (fun _ _ => 0)
          case atStart => exact ⟨rfl, rfl⟩
          case round =>
            obtain ⟨rfl, rfl⟩ := hrel
            go_wp2_with (first
                | ((with_reducible refine arm_row 68 _ 68 _ HARR.out _ H68.out rfl HIE.out rfl _ rfl ?_ ?_); focus rfl)
                | ((with_reducible refine arm_put 68 w.heap.size 68 _ _ HAZ.out HIE.out HLE.out HOE.out rfl _ _ rfl ?_ ?_ ?_); (focus rfl); (focus rfl)))
            refine bodyPost_ret (v := .tuple #[.agg (iv E0).toArray, .bool true]) (ret_row2 Tryz.results87 _ _ w.heap.size 68 (iv E0) HRR.out rfl _ H68.out rfl HIE.out _ rfl) rfl ?_
            exact ⟨by rw [HPO.out]; exact ⟨E0, true, rfl, HFIN.out, HLEN.out⟩, bel_row HBF.out (Nat.le_refl _) _⟩
        · obtain rfl : Q = 2 := by omega
          obtain ⟨a, b, rfl⟩ : ∃ a b, V = [a, b] := by match V, hVQ with | [a, b], _ => exact ⟨a, b, rfl⟩
          have hsl9 := HS.out
          rw [hVQ] at hsl9
          obtain ⟨vb, vo, vcap, rfl, hvc1, hvc2, _⟩ := hsl9.at_ (by decide)
          clear hsl9
          obtain ⟨E0, hE0⟩ : ∃ E0 : List Int, [5, 0, 0, 0, 0, 0, 0, 0, 0, 0, 0, 0] = E0 := ⟨_, rfl⟩
          have HBK : Hid (∀ w, (Instr.build 68 #[(0, .int .i64 5)]).run Tryz.prog w = .ok (.agg (iv E0).toArray) w) := Lib.hid (by rw [← hE0]; exact builtK 5)
          have HL0 : Hid (E0.length = 12) := Lib.hid (by rw [← hE0]; rfl)
          have HO0 := Lib.hid (iv_one E0)
          have T0 := Two.new (B := w) E0 HAX.out HS.out HORR.out HBX.out
          have c0x := cell_below (bel_new wr (.cells (iv E0).toArray 68)) c0'
          obtain ⟨W1, hW1⟩ : ∃ W, wr.alloc (.cells (iv E0).toArray 68) = W := ⟨_, rfl⟩
          rw [hW1] at T0 c0x
          have HW1 := Lib.hid hW1
          clear hW1
          have e0 := T0.cellO (j := 1) (z := 0) (by rw [← hE0]; rfl)
          have f0 := T0.1.free 1
          have v0 := T0.cellV (j := 0) (z := a) rfl
          have T1 := T0.set 1 a
          obtain ⟨E1, hE1⟩ : ∃ E, E0.set 1 a = E := ⟨_, rfl⟩
          rw [hE1] at T1
          have e1 := T1.cellO (j := 2) (z := 0) (by rw [← hE1, ← hE0]; rfl)
          have f1 := T1.1.free 2
          have v1 := T1.cellV (j := 1) (z := b) rfl
          have T2 := T1.set 2 b
          obtain ⟨E2, hE2⟩ : ∃ E, E1.set 2 b = E := ⟨_, rfl⟩
          rw [hE2] at T2
          simp only [Nat.add_zero] at v0 v1
          have HLEN : Hid (E2.length = 12) := Lib.hid (by rw [← hE2, ← hE1, ← hE0]; rfl)
          have HFIN : Hid (partsR _ qs = some E2) := Lib.hid (by rw [HPF.out, if_neg (by decide), ← hE2, ← hE1, ← hE0]; rfl)
          have HARR := Lib.hid T2.1
          have HAZ := Lib.hid T2.2.1
          have HBF := Lib.hid T2.2.2.2.2.1
          have HRR := Lib.hid (HAZ.out.row (iv E2))
          have HIE : Hid ((Tryz.prog.info? 68).map (·.size) = some (iv E2).length) := Lib.hid (by rw [size79, iv_len, HLEN.out])
          have HOE := Lib.hid (iv_one E2)
          have HLE : Hid ((iv Z12).length = (iv E2).length) := Lib.hid (by rw [iv_len, iv_len, HLEN.out]; rfl)
          clear hE0 hE1 hE2 T0 T1 T2 HS HORR HAX HBX HB hQK hVQ
          go_wp2_with (first
              | ((with_reducible refine arm_build 68 _ (.agg (iv E0).toArray) rfl rfl ?_ ?_); (focus (intro w0; simpa [Act.eval] using HBK.out w0)))
              | ((with_reducible refine arm_new 68 (iv E0) 12 ?_ size79 HO0.out _ rfl rfl _ _ rfl ?_ ?_ ?_); (focus (rw [iv_len, HL0.out])); (focus rfl); (focus rfl); rw [HW1.out]))
          go_loopw [12] (fun i w5 => i = .int .i64 0 ∧ w5 = (World.setCell (World.setCell (W1) ⟨wr.heap.size, 1, none⟩ (.int .i64 a)) ⟨wr.heap.size, 2, none⟩ (.int .i64 b))) (fun _ _ => 0)
          case atStart => exact ⟨rfl, rfl⟩
          case round =>
            obtain ⟨rfl, rfl⟩ := hrel
            go_wp2_with (first
                | ((with_reducible refine arm_row 68 _ 68 _ HARR.out _ H68.out rfl HIE.out rfl _ rfl ?_ ?_); focus rfl)
                | ((with_reducible refine arm_put 68 w.heap.size 68 _ _ HAZ.out HIE.out HLE.out HOE.out rfl _ _ rfl ?_ ?_ ?_); (focus rfl); (focus rfl)))
            refine bodyPost_ret (v := .tuple #[.agg (iv E2).toArray, .bool true]) (ret_row2 Tryz.results87 _ _ w.heap.size 68 (iv E2) HRR.out rfl _ H68.out rfl HIE.out _ rfl) rfl ?_
            exact ⟨by rw [HPO.out]; exact ⟨E2, true, rfl, HFIN.out, HLEN.out⟩, bel_row HBF.out (Nat.le_refl _) _⟩
        · obtain rfl : Q = 9 := by omega
          obtain ⟨a, ws, rfl, hws⟩ : ∃ a ws, V = a :: ws ∧ ws.length = 8 := by match V, hVQ with | a :: ws, h => exact ⟨a, ws, rfl, by simpa using h⟩
          have hsl9 := HS.out
          rw [hVQ] at hsl9
          obtain ⟨vb, vo, vcap, rfl, hvc1, hvc2, _⟩ := hsl9.at_ (by decide)
          clear hsl9
          obtain ⟨E0, hE0⟩ : ∃ E0 : List Int, [6, 0, 0, 0, 0, 0, 0, 0, 0, 0, 0, 0] = E0 := ⟨_, rfl⟩
          have HBK : Hid (∀ w, (Instr.build 68 #[(0, .int .i64 6)]).run Tryz.prog w = .ok (.agg (iv E0).toArray) w) := Lib.hid (by rw [← hE0]; exact builtK 6)
          have HL0 : Hid (E0.length = 12) := Lib.hid (by rw [← hE0]; rfl)
          have HO0 := Lib.hid (iv_one E0)
          have T0 := Two.new (B := w) E0 HAX.out HS.out HORR.out HBX.out
          have c0x := cell_below (bel_new wr (.cells (iv E0).toArray 68)) c0'
          obtain ⟨W1, hW1⟩ : ∃ W, wr.alloc (.cells (iv E0).toArray 68) = W := ⟨_, rfl⟩
          rw [hW1] at T0 c0x
          have HW1 := Lib.hid hW1
          clear hW1
          have e0 := T0.cellO (j := 1) (z := 0) (by rw [← hE0]; rfl)
          have f0 := T0.1.free 1
          have v0 := T0.cellV (j := 0) (z := a) rfl
          simp only [Nat.add_zero] at v0
          have T1 := T0.set 1 a
          have hE1 : E0.set 1 a = words8 6 a ws 0 := by rw [← hE0]; rfl
          rw [hE1] at T1
          have HT1 := Lib.hid T1
          have HWS := Lib.hid hws
          clear T0 T1 hE0 hE1 hws HS HORR HAX HBX HB hQK hVQ
          go_wp2_with (first
              | ((with_reducible refine arm_build 68 _ (.agg (iv E0).toArray) rfl rfl ?_ ?_); (focus (intro w0; simpa [Act.eval] using HBK.out w0)))
              | ((with_reducible refine arm_new 68 (iv E0) 12 ?_ size79 HO0.out _ rfl rfl _ _ rfl ?_ ?_ ?_); (focus (rw [iv_len, HL0.out])); (focus rfl); (focus rfl); rw [HW1.out]))
          go_loopw [12] (fun i w5 => ∃ t : Nat, i = .int .i64 (t : Int) ∧ t ≤ 8 ∧ Hid (Two w w5 w.heap.size wr.heap.size (words8 6 a ws t) (.slice (some ⟨vb, vo, none⟩) 9 vcap) (a :: ws))) (fun i _ => 8 - (intOf i).toNat)
          case atStart => exact ⟨0, rfl, by omega, HT1⟩
          case round =>
            clear HT1
            obtain ⟨t, rfl, ht, HTT⟩ := hrel
            by_cases hlt : t < 8
            · have htI : (t : Int) < 8 := by omega
              have ht0 : (0 : Int) ≤ (t : Int) := by omega
              have e1 := HTT.out.cellO (words8_get hlt HWS.out)
              have f1 := HTT.out.1.free (4 + t)
              have v1 := HTT.out.cellV (j := 1 + t) (z := ws.getD t 0) (by rw [Nat.add_comm 1 t, List.getElem?_cons_succ]; skip; rw [List.getElem?_eq_getElem (by rw [HWS.out]; exact hlt), List.getD_eq_getElem?_getD, List.getElem?_eq_getElem (by rw [HWS.out]; exact hlt)]; rfl)
              have T2 := HTT.out.set (4 + t) (ws.getD t 0)
              rw [words8_set hlt HWS.out] at T2
              have HT2 := Lib.hid T2
              clear T2 HTT
              obtain ⟨z, hz⟩ : ∃ z, ws.getD t 0 = z := ⟨_, rfl⟩
              rw [hz] at v1 HT2
              clear hz
              go_wp2_with fail
              go_roundw
              case rel => exact ⟨t + 1, by simp, by omega, HT2⟩
              case measure => simp [intOf]; omega
            · obtain rfl : t = 8 := by omega
              have T5 := HTT.out
              obtain ⟨EE, hEE⟩ : ∃ E, words8 6 a ws 8 = E := ⟨_, rfl⟩
              rw [hEE] at T5
              have HLEN : Hid (EE.length = 12) := Lib.hid (by rw [← hEE]; have h8 := HWS.out; match ws, h8 with | [w0, w1, w2, w3, w4, w5, w6, w7], _ => rfl)
              have HFIN : Hid (partsR _ qs = some EE) := Lib.hid (by rw [HPF.out, if_neg (by decide), ← hEE]; have h8 := HWS.out; match ws, h8 with | [w0, w1, w2, w3, w4, w5, w6, w7], _ => rfl)
              have HARR := Lib.hid T5.1
              have HAZ := Lib.hid T5.2.1
              have HBF := Lib.hid T5.2.2.2.2.1
              have HRR := Lib.hid (HAZ.out.row (iv EE))
              have HIE : Hid ((Tryz.prog.info? 68).map (·.size) = some (iv EE).length) := Lib.hid (by rw [size79, iv_len, HLEN.out])
              have HOE := Lib.hid (iv_one EE)
              have HLE : Hid ((iv Z12).length = (iv EE).length) := Lib.hid (by rw [iv_len, iv_len, HLEN.out]; rfl)
              clear T5 hEE HTT
              go_wp2_with (first
                  | ((with_reducible refine arm_row 68 _ 68 _ HARR.out _ H68.out rfl HIE.out rfl _ rfl ?_ ?_); focus rfl)
                  | ((with_reducible refine arm_put 68 w.heap.size 68 _ _ HAZ.out HIE.out HLE.out HOE.out rfl _ _ rfl ?_ ?_ ?_); (focus rfl); (focus rfl)))
              refine bodyPost_ret (v := .tuple #[.agg (iv EE).toArray, .bool true]) (ret_row2 Tryz.results87 _ _ w.heap.size 68 (iv EE) HRR.out rfl _ H68.out rfl HIE.out _ rfl) rfl ?_
              exact ⟨by rw [HPO.out]; exact ⟨EE, true, rfl, HFIN.out, HLEN.out⟩, bel_row HBF.out (Nat.le_refl _) _⟩
        · obtain rfl : Q = 10 := by omega
          obtain ⟨a, ws, c, rfl, hws⟩ : ∃ a ws c, V = a :: (ws ++ [c]) ∧ ws.length = 8 := by match V, hVQ with | [a, w0, w1, w2, w3, w4, w5, w6, w7, c], _ => exact ⟨a, [w0, w1, w2, w3, w4, w5, w6, w7], c, rfl, rfl⟩
          have hsl9 := HS.out
          rw [hVQ] at hsl9
          obtain ⟨vb, vo, vcap, rfl, hvc1, hvc2, _⟩ := hsl9.at_ (by decide)
          clear hsl9
          obtain ⟨E0, hE0⟩ : ∃ E0 : List Int, [7, 0, 0, 0, 0, 0, 0, 0, 0, 0, 0, 0] = E0 := ⟨_, rfl⟩
          have HBK : Hid (∀ w, (Instr.build 68 #[(0, .int .i64 7)]).run Tryz.prog w = .ok (.agg (iv E0).toArray) w) := Lib.hid (by rw [← hE0]; exact builtK 7)
          have HL0 : Hid (E0.length = 12) := Lib.hid (by rw [← hE0]; rfl)
          have HO0 := Lib.hid (iv_one E0)
          have T0 := Two.new (B := w) E0 HAX.out HS.out HORR.out HBX.out
          have c0x := cell_below (bel_new wr (.cells (iv E0).toArray 68)) c0'
          obtain ⟨W1, hW1⟩ : ∃ W, wr.alloc (.cells (iv E0).toArray 68) = W := ⟨_, rfl⟩
          rw [hW1] at T0 c0x
          have HW1 := Lib.hid hW1
          clear hW1
          have e0 := T0.cellO (j := 1) (z := 0) (by rw [← hE0]; rfl)
          have f0 := T0.1.free 1
          have v0 := T0.cellV (j := 0) (z := a) rfl
          simp only [Nat.add_zero] at v0
          have T1 := T0.set 1 a
          have hE1 : E0.set 1 a = words8 7 a ws 0 := by rw [← hE0]; rfl
          rw [hE1] at T1
          have HT1 := Lib.hid T1
          have HWS := Lib.hid hws
          clear T0 T1 hE0 hE1 hws HS HORR HAX HBX HB hQK hVQ
          go_wp2_with (first
              | ((with_reducible refine arm_build 68 _ (.agg (iv E0).toArray) rfl rfl ?_ ?_); (focus (intro w0; simpa [Act.eval] using HBK.out w0)))
              | ((with_reducible refine arm_new 68 (iv E0) 12 ?_ size79 HO0.out _ rfl rfl _ _ rfl ?_ ?_ ?_); (focus (rw [iv_len, HL0.out])); (focus rfl); (focus rfl); rw [HW1.out]))
          go_loopw [12] (fun i w5 => ∃ t : Nat, i = .int .i64 (t : Int) ∧ t ≤ 8 ∧ Hid (Two w w5 w.heap.size wr.heap.size (words8 7 a ws t) (.slice (some ⟨vb, vo, none⟩) 10 vcap) (a :: (ws ++ [c])))) (fun i _ => 8 - (intOf i).toNat)
          case atStart => exact ⟨0, rfl, by omega, HT1⟩
          case round =>
            clear HT1
            obtain ⟨t, rfl, ht, HTT⟩ := hrel
            by_cases hlt : t < 8
            · have htI : (t : Int) < 8 := by omega
              have ht0 : (0 : Int) ≤ (t : Int) := by omega
              have e1 := HTT.out.cellO (words8_get hlt HWS.out)
              have f1 := HTT.out.1.free (4 + t)
              have v1 := HTT.out.cellV (j := 1 + t) (z := ws.getD t 0) (by rw [Nat.add_comm 1 t, List.getElem?_cons_succ]; rw [List.getElem?_append_left (by rw [HWS.out]; exact hlt)]; rw [List.getElem?_eq_getElem (by rw [HWS.out]; exact hlt), List.getD_eq_getElem?_getD, List.getElem?_eq_getElem (by rw [HWS.out]; exact hlt)]; rfl)
              have T2 := HTT.out.set (4 + t) (ws.getD t 0)
              rw [words8_set hlt HWS.out] at T2
              have HT2 := Lib.hid T2
              clear T2 HTT
              obtain ⟨z, hz⟩ : ∃ z, ws.getD t 0 = z := ⟨_, rfl⟩
              rw [hz] at v1 HT2
              clear hz
              go_wp2_with fail
              go_roundw
              case rel => exact ⟨t + 1, by simp, by omega, HT2⟩
              case measure => simp [intOf]; omega
            · obtain rfl : t = 8 := by omega
              have T5 := HTT.out
              have e1 := T5.cellO (j := 2) (z := 0) rfl
              have f1 := T5.1.free 2
              have v1 := T5.cellV (j := 9) (z := c) (by have h8 := HWS.out; match ws, h8 with | [w0, w1, w2, w3, w4, w5, w6, w7], _ => rfl)
              have T5 := T5.set 2 c
              obtain ⟨EE, hEE⟩ : ∃ E, (words8 7 a ws 8).set 2 c = E := ⟨_, rfl⟩
              rw [hEE] at T5
              have HLEN : Hid (EE.length = 12) := Lib.hid (by rw [← hEE]; have h8 := HWS.out; match ws, h8 with | [w0, w1, w2, w3, w4, w5, w6, w7], _ => rfl)
              have HFIN : Hid (partsR _ qs = some EE) := Lib.hid (by rw [HPF.out, if_neg (by decide), ← hEE]; have h8 := HWS.out; match ws, h8 with | [w0, w1, w2, w3, w4, w5, w6, w7], _ => rfl)
              have HARR := Lib.hid T5.1
              have HAZ := Lib.hid T5.2.1
              have HBF := Lib.hid T5.2.2.2.2.1
              have HRR := Lib.hid (HAZ.out.row (iv EE))
              have HIE : Hid ((Tryz.prog.info? 68).map (·.size) = some (iv EE).length) := Lib.hid (by rw [size79, iv_len, HLEN.out])
              have HOE := Lib.hid (iv_one EE)
              have HLE : Hid ((iv Z12).length = (iv EE).length) := Lib.hid (by rw [iv_len, iv_len, HLEN.out]; rfl)
              clear T5 hEE HTT
              go_wp2_with (first
                  | ((with_reducible refine arm_row 68 _ 68 _ HARR.out _ H68.out rfl HIE.out rfl _ rfl ?_ ?_); focus rfl)
                  | ((with_reducible refine arm_put 68 w.heap.size 68 _ _ HAZ.out HIE.out HLE.out HOE.out rfl _ _ rfl ?_ ?_ ?_); (focus rfl); (focus rfl)))
              refine bodyPost_ret (v := .tuple #[.agg (iv EE).toArray, .bool true]) (ret_row2 Tryz.results87 _ _ w.heap.size 68 (iv EE) HRR.out rfl _ H68.out rfl HIE.out _ rfl) rfl ?_
              exact ⟨by rw [HPO.out]; exact ⟨EE, true, rfl, HFIN.out, HLEN.out⟩, bel_row HBF.out (Nat.le_refl _) _⟩
        · obtain rfl : Q = 1 := by omega
          obtain ⟨a, rfl⟩ : ∃ a, V = [a] := by match V, hVQ with | [a], _ => exact ⟨a, rfl⟩
          have hsl9 := HS.out
          rw [hVQ] at hsl9
          obtain ⟨vb, vo, vcap, rfl, hvc1, hvc2, _⟩ := hsl9.at_ (by decide)
          clear hsl9
          obtain ⟨E0, hE0⟩ : ∃ E0 : List Int, [0, 0, 0, 0, 0, 0, 0, 0, 0, 0, 0, 0] = E0 := ⟨_, rfl⟩
          have HBK : Hid (∀ w, (Instr.build 68 #[(0, .int .i64 0)]).run Tryz.prog w = .ok (.agg (iv E0).toArray) w) := Lib.hid (by rw [← hE0]; exact builtK 0)
          have HL0 : Hid (E0.length = 12) := Lib.hid (by rw [← hE0]; rfl)
          have HO0 := Lib.hid (iv_one E0)
          have T0 := Two.new (B := w) E0 HAX.out HS.out HORR.out HBX.out
          have c0x := cell_below (bel_new wr (.cells (iv E0).toArray 68)) c0'
          obtain ⟨W1, hW1⟩ : ∃ W, wr.alloc (.cells (iv E0).toArray 68) = W := ⟨_, rfl⟩
          rw [hW1] at T0 c0x
          have HW1 := Lib.hid hW1
          clear hW1
          have e0 := T0.cellO (j := 0) (z := 0) (by rw [← hE0]; rfl)
          have f0 := T0.1.free 0
          have v0 := T0.cellV (j := 0) (z := a) rfl
          simp only [Nat.add_zero] at v0
          have T1 := T0.set 0 a
          obtain ⟨E1, hE1⟩ : ∃ E, E0.set 0 a = E := ⟨_, rfl⟩
          rw [hE1] at T1
          have hEV : a :: List.replicate 11 0 = E1 := by rw [← hE1, ← hE0]; rfl
          have HLEN : Hid (E1.length = 12) := Lib.hid (by rw [← hEV]; rfl)
          have HFIN : Hid (partsR _ qs = if a < 1 ∨ 7 < a then some E1 else none) := Lib.hid (by rw [HPF.out, if_pos (show ([101, 118, 101, 110, 116] : List UInt8) = eventB from rfl), ← hEV]; rfl)
          have T2 := T1.below (bel_drew _)
          have HARR := Lib.hid T2.1
          have HAZ := Lib.hid T2.2.1
          have HBF := Lib.hid T2.2.2.2.2.1
          have HRR := Lib.hid (HAZ.out.row (iv E1))
          have HIE : Hid ((Tryz.prog.info? 68).map (·.size) = some (iv E1).length) := Lib.hid (by rw [size79, iv_len, HLEN.out])
          have HOE := Lib.hid (iv_one E1)
          have HLE : Hid ((iv Z12).length = (iv E1).length) := Lib.hid (by rw [iv_len, iv_len, HLEN.out]; rfl)
          have r2 := T2.1.range
          have v2 := T2.cellV (j := 0) (z := a) rfl
          simp only [Nat.add_zero] at v2
          have HVB : Hid (vb ≠ w.heap.size) := Lib.hid (T2.2.2.2.1 vb rfl).2
          have HOB : Hid (wr.heap.size ≠ w.heap.size) := Lib.hid T2.2.2.2.2.2.1.symm
          have hs2 := And.intro r2 v2
          clear r2 v2
          clear hE0 hE1 hEV T0 T1 T2 HS HORR HAX HBX HB hQK hVQ
          go_wp2_with (first
              | ((with_reducible refine arm_build 68 _ (.agg (iv E0).toArray) rfl rfl ?_ ?_); (focus (intro w0; simpa [Act.eval] using HBK.out w0)))
              | ((with_reducible refine arm_new 68 (iv E0) 12 ?_ size79 HO0.out _ rfl rfl _ _ rfl ?_ ?_ ?_); (focus (rw [iv_len, HL0.out])); (focus rfl); (focus rfl); rw [HW1.out]))
          have hu68 := H68.out
          have hiE := HIE.out
          refine wp_region_held_drew (S := fun W => W.rangeAt wr.heap.size 0 (iv E1) ∧ W.cell? ⟨vb, vo, none⟩ = some (.int .i64 a)) (by kernel_rfl) hs2 (fun hHeld => ?_)
          generalize World.drew _ = wd at *
          by_cases ha1 : a < 1
          · have HA1C := Lib.hid ha1
            refine wpAnyH_take (i := 0) (v := .agg (iv E1).toArray) rfl (by kernel_rfl) (by kernel_rfl) (by kernel_rfl) (fun _ _ _ h => h) (yieldsIf_load_mid (by rfl) _ _ rfl _ _ rfl _ _ (fun w h => h.1) hu68 rfl hiE) (by assumption) ?_
            change wpAnyH _ _ _ _ _ _ _ (Act.put _ (some 59) _) _
            simp only [Act.put, List.setIfInBounds_toArray, List.set_cons_zero, List.set_cons_succ]
            refine wpAnyH_take (i := 1) (v := .slice (some ⟨vb, vo, none⟩) 1 vcap) rfl (by kernel_rfl) (by kernel_rfl) (by kernel_rfl) (fun _ _ _ h => h) (Or.inl ⟨by rfl, fun w hSw => by obtain ⟨h1, h2⟩ := hSw; go_simp⟩) (by assumption) ?_
            change wpAnyH _ _ _ _ _ _ _ (Act.put _ (some 60) _) _
            simp only [Act.put, List.setIfInBounds_toArray, List.set_cons_zero, List.set_cons_succ]
            refine wpAnyH_take (i := 2) (v := .pointer (some ⟨vb, vo, none⟩)) rfl (by kernel_rfl) (by kernel_rfl) (by kernel_rfl) (fun _ _ _ h => h) (Or.inl ⟨by rfl, fun w hSw => by obtain ⟨h1, h2⟩ := hSw; go_simp⟩) (by assumption) ?_
            change wpAnyH _ _ _ _ _ _ _ (Act.put _ (some 61) _) _
            simp only [Act.put, List.setIfInBounds_toArray, List.set_cons_zero, List.set_cons_succ]
            refine wpAnyH_take (i := 3) (v := .int .i64 a) rfl (by kernel_rfl) (by kernel_rfl) (by kernel_rfl) (fun _ _ _ h => h) (Or.inl ⟨by rfl, fun w hSw => by obtain ⟨h1, h2⟩ := hSw; go_simp⟩) (by assumption) ?_
            change wpAnyH _ _ _ _ _ _ _ (Act.put _ (some 62) _) _
            simp only [Act.put, List.setIfInBounds_toArray, List.set_cons_zero, List.set_cons_succ]
            refine wpAnyH_take (i := 4) (v := .bool true) rfl (by kernel_rfl) (by kernel_rfl) (by kernel_rfl) (fun _ _ _ h => h) (Or.inl ⟨by rfl, fun w hSw => by obtain ⟨h1, h2⟩ := hSw; go_simp⟩) (by assumption) ?_
            change wpAnyH _ _ _ _ _ _ _ (Act.put _ (some 63) _) _
            simp only [Act.put, List.setIfInBounds_toArray, List.set_cons_zero, List.set_cons_succ]
            refine wpAnyH_take (i := 5) (v := .bool true) rfl (by kernel_rfl) (by kernel_rfl) (by kernel_rfl) (fun _ _ _ h => h) (Or.inl ⟨by rfl, fun w hSw => by obtain ⟨h1, h2⟩ := hSw; go_simp⟩) (by assumption) ?_
            change wpAnyH _ _ _ _ _ _ _ (Act.put _ (some 64) _) _
            simp only [Act.put, List.setIfInBounds_toArray, List.set_cons_zero, List.set_cons_succ]
            refine wpAnyH_take (i := 6) (v := undef) rfl (by kernel_rfl) (by kernel_rfl) (by kernel_rfl) (fun _ _ _ h => h) (Or.inr ⟨by rfl, rfl⟩) (by assumption) ?_
            change wpAnyH _ _ _ _ _ _ _ (Act.put _ (some 65) _) _
            simp only [Act.put, List.setIfInBounds_toArray, List.set_cons_zero, List.set_cons_succ]
            refine wpAnyH_take (i := 7) (v := undef) rfl (by kernel_rfl) (by kernel_rfl) (by kernel_rfl) (fun _ _ _ h => h) (Or.inr ⟨by rfl, rfl⟩) (by assumption) ?_
            change wpAnyH _ _ _ _ _ _ _ (Act.put _ (some 66) _) _
            simp only [Act.put, List.setIfInBounds_toArray, List.set_cons_zero, List.set_cons_succ]
            refine wpAnyH_take (i := 8) (v := undef) rfl (by kernel_rfl) (by kernel_rfl) (by kernel_rfl) (fun _ _ _ h => h) (Or.inr ⟨by rfl, rfl⟩) (by assumption) ?_
            change wpAnyH _ _ _ _ _ _ _ (Act.put _ (some 67) _) _
            simp only [Act.put, List.setIfInBounds_toArray, List.set_cons_zero, List.set_cons_succ]
            refine wpAnyH_take (i := 9) (v := undef) rfl (by kernel_rfl) (by kernel_rfl) (by kernel_rfl) (fun _ _ _ h => h) (Or.inr ⟨by rfl, rfl⟩) (by assumption) ?_
            change wpAnyH _ _ _ _ _ _ _ (Act.put _ (some 68) _) _
            simp only [Act.put, List.setIfInBounds_toArray, List.set_cons_zero, List.set_cons_succ]
            refine wpAnyH_take (i := 10) (v := .bool true) rfl (by kernel_rfl) (by kernel_rfl) (by kernel_rfl) (fun _ _ _ h => h) (Or.inl ⟨by rfl, fun w hSw => by obtain ⟨h1, h2⟩ := hSw; go_simp⟩) (by assumption) ?_
            change wpAnyH _ _ _ _ _ _ _ (Act.put _ (some 69) _) _
            simp only [Act.put, List.setIfInBounds_toArray, List.set_cons_zero, List.set_cons_succ]
            refine wpAnyH_ready (rs := [11]) (by kernel_rfl) (by simp) ?_
            refine AllReadyH.cons rfl (fun K hK => ?_) AllReadyH.nil
            refine wp_store_row 68 _ _ rfl w.heap.size (iv E1).toArray rfl rfl 68 (iv Z12).toArray HAZ.out (by simpa using HIE.out) (by simpa using HLE.out) (all_oneCell_toArray HOE.out) ?_
            refine hK.out _ _ ⟨(HARR.out.row_other HOB.out _).range, (cell_of_block (setRow_other wd w.heap.size vb _ HVB.out)).trans hs2.2⟩ (fun hHeld1 => ?_)
            clear hK K hHeld
            refine wpAnyH_take (i := 12) (v := .bool true) rfl (by kernel_rfl) (by kernel_rfl) (by kernel_rfl) (fun _ _ _ h => h) (Or.inl ⟨by rfl, fun w hSw => by go_simp⟩) (by assumption) ?_
            change wpAnyH _ _ _ _ _ _ _ (Act.put _ (some 3) _) _
            simp only [Act.put, List.setIfInBounds_toArray, List.set_cons_zero, List.set_cons_succ]
            refine wpAnyH_done (by kernel_rfl) ?_ _
            clear hHeld1
            go_wp2_with fail
            refine bodyPost_ret (v := .tuple #[.agg (iv E1).toArray, .bool true]) (ret_row2 Tryz.results87 _ _ w.heap.size 68 (iv E1) HRR.out rfl _ H68.out rfl HIE.out _ rfl) rfl ?_
            exact ⟨by rw [HPO.out]; exact ⟨E1, true, rfl, by rw [HFIN.out, if_pos (.inl HA1C.out)]; rfl, HLEN.out⟩, bel_row HBF.out (Nat.le_refl _) _⟩
          · by_cases ha7 : 7 < a
            · have HA7C := Lib.hid ha7
              refine wpAnyH_take (i := 0) (v := .agg (iv E1).toArray) rfl (by kernel_rfl) (by kernel_rfl) (by kernel_rfl) (fun _ _ _ h => h) (yieldsIf_load_mid (by rfl) _ _ rfl _ _ rfl _ _ (fun w h => h.1) hu68 rfl hiE) (by assumption) ?_
              change wpAnyH _ _ _ _ _ _ _ (Act.put _ (some 59) _) _
              simp only [Act.put, List.setIfInBounds_toArray, List.set_cons_zero, List.set_cons_succ]
              refine wpAnyH_take (i := 1) (v := .slice (some ⟨vb, vo, none⟩) 1 vcap) rfl (by kernel_rfl) (by kernel_rfl) (by kernel_rfl) (fun _ _ _ h => h) (Or.inl ⟨by rfl, fun w hSw => by obtain ⟨h1, h2⟩ := hSw; go_simp⟩) (by assumption) ?_
              change wpAnyH _ _ _ _ _ _ _ (Act.put _ (some 60) _) _
              simp only [Act.put, List.setIfInBounds_toArray, List.set_cons_zero, List.set_cons_succ]
              refine wpAnyH_take (i := 2) (v := .pointer (some ⟨vb, vo, none⟩)) rfl (by kernel_rfl) (by kernel_rfl) (by kernel_rfl) (fun _ _ _ h => h) (Or.inl ⟨by rfl, fun w hSw => by obtain ⟨h1, h2⟩ := hSw; go_simp⟩) (by assumption) ?_
              change wpAnyH _ _ _ _ _ _ _ (Act.put _ (some 61) _) _
              simp only [Act.put, List.setIfInBounds_toArray, List.set_cons_zero, List.set_cons_succ]
              refine wpAnyH_take (i := 3) (v := .int .i64 a) rfl (by kernel_rfl) (by kernel_rfl) (by kernel_rfl) (fun _ _ _ h => h) (Or.inl ⟨by rfl, fun w hSw => by obtain ⟨h1, h2⟩ := hSw; go_simp⟩) (by assumption) ?_
              change wpAnyH _ _ _ _ _ _ _ (Act.put _ (some 62) _) _
              simp only [Act.put, List.setIfInBounds_toArray, List.set_cons_zero, List.set_cons_succ]
              refine wpAnyH_take (i := 4) (v := .bool false) rfl (by kernel_rfl) (by kernel_rfl) (by kernel_rfl) (fun _ _ _ h => h) (Or.inl ⟨by rfl, fun w hSw => by obtain ⟨h1, h2⟩ := hSw; go_simp⟩) (by assumption) ?_
              change wpAnyH _ _ _ _ _ _ _ (Act.put _ (some 63) _) _
              simp only [Act.put, List.setIfInBounds_toArray, List.set_cons_zero, List.set_cons_succ]
              refine wpAnyH_take (i := 5) (v := .bool false) rfl (by kernel_rfl) (by kernel_rfl) (by kernel_rfl) (fun _ _ _ h => h) (Or.inl ⟨by rfl, fun w hSw => by obtain ⟨h1, h2⟩ := hSw; go_simp⟩) (by assumption) ?_
              change wpAnyH _ _ _ _ _ _ _ (Act.put _ (some 64) _) _
              simp only [Act.put, List.setIfInBounds_toArray, List.set_cons_zero, List.set_cons_succ]
              refine wpAnyH_take (i := 6) (v := .slice (some ⟨vb, vo, none⟩) 1 vcap) rfl (by kernel_rfl) (by kernel_rfl) (by kernel_rfl) (fun _ _ _ h => h) (Or.inl ⟨by rfl, fun w hSw => by obtain ⟨h1, h2⟩ := hSw; go_simp⟩) (by assumption) ?_
              change wpAnyH _ _ _ _ _ _ _ (Act.put _ (some 65) _) _
              simp only [Act.put, List.setIfInBounds_toArray, List.set_cons_zero, List.set_cons_succ]
              refine wpAnyH_take (i := 7) (v := .pointer (some ⟨vb, vo, none⟩)) rfl (by kernel_rfl) (by kernel_rfl) (by kernel_rfl) (fun _ _ _ h => h) (Or.inl ⟨by rfl, fun w hSw => by obtain ⟨h1, h2⟩ := hSw; go_simp⟩) (by assumption) ?_
              change wpAnyH _ _ _ _ _ _ _ (Act.put _ (some 66) _) _
              simp only [Act.put, List.setIfInBounds_toArray, List.set_cons_zero, List.set_cons_succ]
              refine wpAnyH_take (i := 8) (v := .int .i64 a) rfl (by kernel_rfl) (by kernel_rfl) (by kernel_rfl) (fun _ _ _ h => h) (Or.inl ⟨by rfl, fun w hSw => by obtain ⟨h1, h2⟩ := hSw; go_simp⟩) (by assumption) ?_
              change wpAnyH _ _ _ _ _ _ _ (Act.put _ (some 67) _) _
              simp only [Act.put, List.setIfInBounds_toArray, List.set_cons_zero, List.set_cons_succ]
              refine wpAnyH_take (i := 9) (v := .bool true) rfl (by kernel_rfl) (by kernel_rfl) (by kernel_rfl) (fun _ _ _ h => h) (Or.inl ⟨by rfl, fun w hSw => by obtain ⟨h1, h2⟩ := hSw; go_simp⟩) (by assumption) ?_
              change wpAnyH _ _ _ _ _ _ _ (Act.put _ (some 68) _) _
              simp only [Act.put, List.setIfInBounds_toArray, List.set_cons_zero, List.set_cons_succ]
              refine wpAnyH_take (i := 10) (v := .bool true) rfl (by kernel_rfl) (by kernel_rfl) (by kernel_rfl) (fun _ _ _ h => h) (Or.inl ⟨by rfl, fun w hSw => by obtain ⟨h1, h2⟩ := hSw; go_simp⟩) (by assumption) ?_
              change wpAnyH _ _ _ _ _ _ _ (Act.put _ (some 69) _) _
              simp only [Act.put, List.setIfInBounds_toArray, List.set_cons_zero, List.set_cons_succ]
              refine wpAnyH_ready (rs := [11]) (by kernel_rfl) (by simp) ?_
              refine AllReadyH.cons rfl (fun K hK => ?_) AllReadyH.nil
              refine wp_store_row 68 _ _ rfl w.heap.size (iv E1).toArray rfl rfl 68 (iv Z12).toArray HAZ.out (by simpa using HIE.out) (by simpa using HLE.out) (all_oneCell_toArray HOE.out) ?_
              refine hK.out _ _ ⟨(HARR.out.row_other HOB.out _).range, (cell_of_block (setRow_other wd w.heap.size vb _ HVB.out)).trans hs2.2⟩ (fun hHeld1 => ?_)
              clear hK K hHeld
              refine wpAnyH_take (i := 12) (v := .bool true) rfl (by kernel_rfl) (by kernel_rfl) (by kernel_rfl) (fun _ _ _ h => h) (Or.inl ⟨by rfl, fun w hSw => by go_simp⟩) (by assumption) ?_
              change wpAnyH _ _ _ _ _ _ _ (Act.put _ (some 3) _) _
              simp only [Act.put, List.setIfInBounds_toArray, List.set_cons_zero, List.set_cons_succ]
              refine wpAnyH_done (by kernel_rfl) ?_ _
              clear hHeld1
              go_wp2_with fail
              refine bodyPost_ret (v := .tuple #[.agg (iv E1).toArray, .bool true]) (ret_row2 Tryz.results87 _ _ w.heap.size 68 (iv E1) HRR.out rfl _ H68.out rfl HIE.out _ rfl) rfl ?_
              exact ⟨by rw [HPO.out]; exact ⟨E1, true, rfl, by rw [HFIN.out, if_pos (.inr HA7C.out)]; rfl, HLEN.out⟩, bel_row HBF.out (Nat.le_refl _) _⟩
            · have HA7C : Hid (¬ (a < 1 ∨ 7 < a)) := Lib.hid (by omega)
              refine wpAnyH_take (i := 0) (v := .agg (iv E1).toArray) rfl (by kernel_rfl) (by kernel_rfl) (by kernel_rfl) (fun _ _ _ h => h) (yieldsIf_load_mid (by rfl) _ _ rfl _ _ rfl _ _ (fun w h => h.1) hu68 rfl hiE) (by assumption) ?_
              change wpAnyH _ _ _ _ _ _ _ (Act.put _ (some 59) _) _
              simp only [Act.put, List.setIfInBounds_toArray, List.set_cons_zero, List.set_cons_succ]
              refine wpAnyH_take (i := 1) (v := .slice (some ⟨vb, vo, none⟩) 1 vcap) rfl (by kernel_rfl) (by kernel_rfl) (by kernel_rfl) (fun _ _ _ h => h) (Or.inl ⟨by rfl, fun w hSw => by obtain ⟨h1, h2⟩ := hSw; go_simp⟩) (by assumption) ?_
              change wpAnyH _ _ _ _ _ _ _ (Act.put _ (some 60) _) _
              simp only [Act.put, List.setIfInBounds_toArray, List.set_cons_zero, List.set_cons_succ]
              refine wpAnyH_take (i := 2) (v := .pointer (some ⟨vb, vo, none⟩)) rfl (by kernel_rfl) (by kernel_rfl) (by kernel_rfl) (fun _ _ _ h => h) (Or.inl ⟨by rfl, fun w hSw => by obtain ⟨h1, h2⟩ := hSw; go_simp⟩) (by assumption) ?_
              change wpAnyH _ _ _ _ _ _ _ (Act.put _ (some 61) _) _
              simp only [Act.put, List.setIfInBounds_toArray, List.set_cons_zero, List.set_cons_succ]
              refine wpAnyH_take (i := 3) (v := .int .i64 a) rfl (by kernel_rfl) (by kernel_rfl) (by kernel_rfl) (fun _ _ _ h => h) (Or.inl ⟨by rfl, fun w hSw => by obtain ⟨h1, h2⟩ := hSw; go_simp⟩) (by assumption) ?_
              change wpAnyH _ _ _ _ _ _ _ (Act.put _ (some 62) _) _
              simp only [Act.put, List.setIfInBounds_toArray, List.set_cons_zero, List.set_cons_succ]
              refine wpAnyH_take (i := 4) (v := .bool false) rfl (by kernel_rfl) (by kernel_rfl) (by kernel_rfl) (fun _ _ _ h => h) (Or.inl ⟨by rfl, fun w hSw => by obtain ⟨h1, h2⟩ := hSw; go_simp⟩) (by assumption) ?_
              change wpAnyH _ _ _ _ _ _ _ (Act.put _ (some 63) _) _
              simp only [Act.put, List.setIfInBounds_toArray, List.set_cons_zero, List.set_cons_succ]
              refine wpAnyH_take (i := 5) (v := .bool false) rfl (by kernel_rfl) (by kernel_rfl) (by kernel_rfl) (fun _ _ _ h => h) (Or.inl ⟨by rfl, fun w hSw => by obtain ⟨h1, h2⟩ := hSw; go_simp⟩) (by assumption) ?_
              change wpAnyH _ _ _ _ _ _ _ (Act.put _ (some 64) _) _
              simp only [Act.put, List.setIfInBounds_toArray, List.set_cons_zero, List.set_cons_succ]
              refine wpAnyH_take (i := 6) (v := .slice (some ⟨vb, vo, none⟩) 1 vcap) rfl (by kernel_rfl) (by kernel_rfl) (by kernel_rfl) (fun _ _ _ h => h) (Or.inl ⟨by rfl, fun w hSw => by obtain ⟨h1, h2⟩ := hSw; go_simp⟩) (by assumption) ?_
              change wpAnyH _ _ _ _ _ _ _ (Act.put _ (some 65) _) _
              simp only [Act.put, List.setIfInBounds_toArray, List.set_cons_zero, List.set_cons_succ]
              refine wpAnyH_take (i := 7) (v := .pointer (some ⟨vb, vo, none⟩)) rfl (by kernel_rfl) (by kernel_rfl) (by kernel_rfl) (fun _ _ _ h => h) (Or.inl ⟨by rfl, fun w hSw => by obtain ⟨h1, h2⟩ := hSw; go_simp⟩) (by assumption) ?_
              change wpAnyH _ _ _ _ _ _ _ (Act.put _ (some 66) _) _
              simp only [Act.put, List.setIfInBounds_toArray, List.set_cons_zero, List.set_cons_succ]
              refine wpAnyH_take (i := 8) (v := .int .i64 a) rfl (by kernel_rfl) (by kernel_rfl) (by kernel_rfl) (fun _ _ _ h => h) (Or.inl ⟨by rfl, fun w hSw => by obtain ⟨h1, h2⟩ := hSw; go_simp⟩) (by assumption) ?_
              change wpAnyH _ _ _ _ _ _ _ (Act.put _ (some 67) _) _
              simp only [Act.put, List.setIfInBounds_toArray, List.set_cons_zero, List.set_cons_succ]
              refine wpAnyH_take (i := 9) (v := .bool false) rfl (by kernel_rfl) (by kernel_rfl) (by kernel_rfl) (fun _ _ _ h => h) (Or.inl ⟨by rfl, fun w hSw => by obtain ⟨h1, h2⟩ := hSw; go_simp⟩) (by assumption) ?_
              change wpAnyH _ _ _ _ _ _ _ (Act.put _ (some 68) _) _
              simp only [Act.put, List.setIfInBounds_toArray, List.set_cons_zero, List.set_cons_succ]
              refine wpAnyH_take (i := 10) (v := .bool false) rfl (by kernel_rfl) (by kernel_rfl) (by kernel_rfl) (fun _ _ _ h => h) (Or.inl ⟨by rfl, fun w hSw => by obtain ⟨h1, h2⟩ := hSw; go_simp⟩) (by assumption) ?_
              change wpAnyH _ _ _ _ _ _ _ (Act.put _ (some 69) _) _
              simp only [Act.put, List.setIfInBounds_toArray, List.set_cons_zero, List.set_cons_succ]
              refine wpAnyH_ready (rs := [11]) (by kernel_rfl) (by simp) ?_
              refine AllReadyH.cons rfl (fun K hK => ?_) AllReadyH.nil
              refine wp_store_row 68 _ _ rfl w.heap.size (iv E1).toArray rfl rfl 68 (iv Z12).toArray HAZ.out (by simpa using HIE.out) (by simpa using HLE.out) (all_oneCell_toArray HOE.out) ?_
              refine hK.out _ _ ⟨(HARR.out.row_other HOB.out _).range, (cell_of_block (setRow_other wd w.heap.size vb _ HVB.out)).trans hs2.2⟩ (fun hHeld1 => ?_)
              clear hK K hHeld
              refine wpAnyH_take (i := 12) (v := .bool false) rfl (by kernel_rfl) (by kernel_rfl) (by kernel_rfl) (fun _ _ _ h => h) (Or.inl ⟨by rfl, fun w hSw => by go_simp⟩) (by assumption) ?_
              change wpAnyH _ _ _ _ _ _ _ (Act.put _ (some 3) _) _
              simp only [Act.put, List.setIfInBounds_toArray, List.set_cons_zero, List.set_cons_succ]
              refine wpAnyH_done (by kernel_rfl) ?_ _
              clear hHeld1
              go_wp2_with fail
              refine bodyPost_ret (v := .tuple #[.agg (iv E1).toArray, .bool false]) (ret_row2 Tryz.results87 _ _ w.heap.size 68 (iv E1) HRR.out rfl _ H68.out rfl HIE.out _ rfl) rfl ?_
              exact ⟨by rw [HPO.out]; exact ⟨E1, false, rfl, by rw [HFIN.out, if_neg HA7C.out]; rfl, HLEN.out⟩, bel_row HBF.out (Nat.le_refl _) _⟩
end Go.Proofs.YtpojhplnhppcpaaGreatDoor
