/-
  append of whatever slice; what the reference's Pending does. What the reference's Load and Set do. Lines whose cells are written, events that are recorded; what the reference's Flush does.
-/
import Derived.Test.YtmnncbgibngmiaaGreatDoorQZ3
import Derived.Test.YtmnncbgibngmiaaGreatDoorQN19
import Derived.Test.YtmnncbgibngmiaaGreatDoorQN24z
namespace Go.Proofs.YtmnncbgibngmiaaGreatDoor
open Go.RowKit Go.Maps
theorem run_append_rd (w : World) (t ty e : TypeId) (i : TypeInfo) (z : Value) (size bytes : Nat) (ht : Tryz.prog.underlying t = some (.slice e)) (hi : Tryz.prog.info? e = some i) (hz : i.zero = some z)
    (hsize : i.size = size) (hby : i.bytes = bytes) (hzs : z.cells.size = size) (hsz : 0 < size)
    (v : Value) (n : Nat) (xs : List Value) (hown : Sl w e size v n xs) (x : Value) (m : Nat) (news : List Value) (hx : Rd w x m news) (hl : news.length = m * size) (h1 : ∀ u ∈ news, u.oneCell' = true)
    (h63 : n + m ≤ maxLen) (hbytes : (n + m) * bytes ≤ 140737488355328) :
    ∃ v' w', (Builtin.append_ #[t, t] ty #[v, x]).run Tryz.prog w = .ok v' w' ∧ Sl w' e size v' (n + m) (xs ++ news) ∧ w.grownBy w' v.ownBlock ∧
      (v'.ownBlock = v.ownBlock ∨ v'.ownBlock = some w.heap.size) := by
  obtain ⟨A, c, rfl, hmc, _, hc⟩ := hx
  by_cases hm0 : 0 < m
  · obtain ⟨b, o, rfl, _, hcells⟩ := hc hm0
    exact run_append_sl (P := Tryz.prog) w t ty e i z size bytes ht hi hz hsize hby hzs hsz v n xs hown ⟨b, o, none⟩ m c news hl (fun j u hj => by rw [Addr.add_lit]; exact hcells j u hj) h1 h63 hbytes
  · obtain rfl : m = 0 := by omega
    obtain rfl : news = [] := List.eq_nil_of_length_eq_zero (by rw [hl, Nat.zero_mul])
    cases A with
    | some ad => exact run_append_sl (P := Tryz.prog) w t ty e i z size bytes ht hi hz hsize hby hzs hsz v n xs hown ad 0 c [] hl (fun j u hj => by cases hj) h1 h63 hbytes
    | none =>
      obtain ⟨A', cap, rfl, hncap, _⟩ := hown.shape
      refine ⟨.slice A' n cap, w, ?_, by rw [Nat.add_zero, List.append_nil]; exact hown, ⟨rfl, rfl, rfl, Nat.le_refl _, fun _ _ _ => rfl⟩, .inl rfl⟩
      have hroom : n + 0 ≤ cap := hncap
      have hf := run_firstCells_none (P := Tryz.prog) w size 0 0 c
      cases A' with
      | none => simp [Builtin.append_, run_underlying ht, sizeOf, typeInfo, hi, hsize, Builtin.lenOf, hncap, hf]
      | some ad => simp [Builtin.append_, run_underlying ht, sizeOf, typeInfo, hi, hsize, Builtin.lenOf, hncap, hf, storeCells]
theorem wpList_append_rd {ops : Array Oper} {rest : List Oper} {o : Oper} {a : Act} {Q : Exit → Act → World → Prop} {w : World} (hgd : o.guard = none) (s x : Operand) (t : TypeId)
    (ho : o.op = .call { callee := .builtin .append, args := #[s, x], argTypes := #[t, t] })
    (e : TypeId) (i : TypeInfo) (z : Value) (size bytes : Nat) (ht : Tryz.prog.underlying t = some (.slice e)) (hi : Tryz.prog.info? e = some i) (hz : i.zero = some z)
    (hsize : i.size = size) (hby : i.bytes = bytes) (hzs : z.cells.size = size) (hsz : 0 < size)
    (v : Value) (n : Nat) (xs : List Value) (hs : a.eval s = v) (hown : Sl w e size v n xs)
    (y : Value) (m : Nat) (news : List Value) (hx : a.eval x = y) (hy : Rd w y m news) (hl : news.length = m * size) (h1 : ∀ u ∈ news, u.oneCell' = true)
    (h63 : n + m ≤ maxLen) (hbytes : (n + m) * bytes ≤ 140737488355328)
    (h : ∀ v' w', Sl w' e size v' (n + m) (xs ++ news) → w.grownBy w' v.ownBlock → (v'.ownBlock = v.ownBlock ∨ v'.ownBlock = some w.heap.size) → wpList Tryz.prog ops Q rest (a.put o.dst v') w') : wpList Tryz.prog ops Q (o :: rest) a w := by
  refine wpList_plain hgd fun K hK => ?_
  obtain ⟨v', w', hr, h2, h3, h5⟩ := run_append_rd w t o.type e i z size bytes ht hi hz hsize hby hzs hsz v n xs hown y m news hy hl h1 h63 hbytes
  unfold Oper.wp execOp
  simp only [ho, resolve, invoke, builtin, Sem.run_bind, Sem.run_pure, Result.andThen_ok, List.map_toArray, List.map_cons, List.map_nil, hs, hx, hr]
  exact hK _ _ (h v' w' h2 h3 h5)
/-- A fresh row of no elements. -/
theorem Sl.empty (w : World) (e sz : Nat) : Sl (w.alloc (.cells #[] e)) e sz (.slice (some ⟨w.heap.size, 0, none⟩) 0 0) 0 [] :=
  ⟨by simp, .inr ⟨w.heap.size, 0, 0, #[], rfl, heap_alloc_last w _, Nat.le_refl _, Nat.zero_le _, by simp, by simp⟩⟩
set_option maxRecDepth 100000 in
set_option maxHeartbeats 8000000 in
set_option linter.unusedSimpArgs false in
theorem rPending_any (p : Nat) (z : Int) (m : PM) (F : Nat → Prop) (w : World) (hm : m.Ok) (hs : m.Small 1000) (h : Ref w p m F) :
    Calls Tryz.prog 33 #[.pointer (some ⟨p, 0, none⟩), .int .i64 z] w (Cloned w 66 2 (pendP m z).length (iv (flatS (pendP m z)))) := by
  have hha := rHas_any p z m F w h
  have hpn : pendP m z = if m.has z then (m.line z.toNat).pend else [] := rfl
  cases hh : m.has z with
  | false =>
    rw [hh] at hha hpn
    rw [hpn, if_neg (by simp)]
    have HH := Lib.hid hha
    clear hha hpn h hm
    go_enter Tryz.func33, Tryz.ntmps33
    go_wp2_with (go_at_call 66; refine HH.out.mono ?_; rintro e w' ⟨rfl, hw'⟩; obtain rfl := hw'.symm)
    go_ret
    exact ⟨.slice none 0 0, rfl, Sl.nil _ _ _, fun q hq => (by cases hq), Below.refl _ _⟩
  | true =>
    have hin : 0 ≤ z ∧ z < (m.L.length : Int) := by unfold PM.has at hh; simpa using hh
    obtain ⟨i, rfl⟩ : ∃ i : Nat, z = i := ⟨z.toNat, by omega⟩
    have hi : i < m.L.length := by omega
    rw [hh] at hha hpn
    rw [hpn, if_pos rfl, Int.toNat_natCast]
    have hpl := hs.pend _ (PM.line_mem hi)
    obtain ⟨d, o, cap, ev, X, h⟩ := h
    obtain ⟨v, _, _, _, _, h9, _, hsl⟩ := h.at hm hi
    have c0A := fun ob => cell_below (bel_new w ob) h.c0
    have h9A := fun ob => cell_below (bel_new w ob) h9
    have hcp := h.cap_
    have HRD := Lib.hid (Rd.of_sl hsl)
    have HLN := Lib.hid hsl.1
    have HV := Lib.hid hsl.shape
    generalize (m.line i).pend = ss at *
    generalize m.L.length = N at *
    obtain ⟨n, hn⟩ : ∃ n, ss.length = n := ⟨_, rfl⟩
    rw [hn] at HRD HLN HV hpl ⊢
    obtain ⟨VA, vcap, rfl, _⟩ := HV.out
    have hiI : (i : Int) < (N : Int) := by omega
    have HH := Lib.hid hha
    obtain ⟨i0, his, hz0, hz1, hz2⟩ := info_parts infoStore
    have HIS := Lib.hid his
    have HZ0 := Lib.hid hz0
    have HZ1 := Lib.hid hz1
    have HZ2 := Lib.hid hz2
    have HE := Lib.hid (Sl.empty w 66 2)
    have HRD1 := Lib.hid (HRD.out.below (bel_new w (.cells #[] 66)))
    clear hha hpn h hm hh h9 hsl his hz0 hz1 hz2 hs hn
    go_enter Tryz.func33, Tryz.ntmps33
    go_wp2_with (first
      | (go_at_call 66; refine HH.out.mono ?_; rintro e w' ⟨rfl, hw'⟩; obtain rfl := hw'.symm)
      | (at_builtin; refine wpList_append_rd rfl _ _ 49 rfl 66 i0 _ 2 16 Tryz.underlying49 HIS.out HZ0.out HZ1.out HZ2.out rfl (by decide) _ 0 [] rfl HE.out (.slice VA n vcap) n (iv (flatS ss)) rfl HRD1.out HLN.out (iv_one _) (by unfold maxLen; omega) (by omega) ?_))
    intro v' w3 hs3 hg3 ho3
    have hB : Below w.heap.size w w3 := (bel_new w (.cells #[] 66)).grown hg3 (by simp) (fun k hk => by simp [Value.ownBlock] at hk; omega)
    have HB3 := Lib.hid hB
    have HS3 := Lib.hid hs3
    have HO3 : Hid (∀ q, v'.ownBlock = some q → w.heap.size ≤ q) := Lib.hid fun q hq => by
      rcases ho3 with h5 | h5
      · rw [h5] at hq; simp [Value.ownBlock] at hq; omega
      · rw [h5] at hq; simp at hq; omega
    clear hB hs3 hg3 ho3
    go_wp2_with fail
    go_ret
    exact ⟨v', rfl, HS3.out, HO3.out, HB3.out⟩
end Go.Proofs.YtmnncbgibngmiaaGreatDoor
namespace Go.Proofs.YtmnncbgibngmiaaGreatDoor
open Go.RowKit Go.Maps
theorem has_i {m : PM} {k : Nat} (hk : k < m.L.length) : m.has (k : Int) = true := by
  unfold PM.has
  simp
  omega
theorem z8_getD (k : Nat) : Z8.getD k 0 = 0 := by
  unfold Z8
  match k with
  | 0 | 1 | 2 | 3 | 4 | 5 | 6 | 7 => rfl
  | k + 8 => rfl
set_option maxRecDepth 100000 in
set_option maxHeartbeats 8000000 in
set_option linter.unusedSimpArgs false in
theorem rLoad_any (p : Nat) (a : Int) (m : PM) (F : Nat → Prop) (w : World) (ha : I64 a) (hm : m.Ok) (h : Ref w p m F) :
    Calls Tryz.prog 52 #[.pointer (some ⟨p, 0, none⟩), .int .i64 a] w fun e w' => e = .returned (.tuple #[.int .i64 (loadP m a).1, .int .i64 (loadP m a).2]) ∧ Below w.heap.size w w' := by
  have HRF := Lib.hid h
  have HM := Lib.hid hm
  have HHS := Lib.hid fun z => rHas_any p z m F w h
  obtain ⟨R, hR⟩ : ∃ R, loadP m a = R := ⟨_, rfl⟩
  rw [hR]
  by_cases h0 : a < 0
  · have hA : m.hasA a = false := by unfold PM.hasA; simp; omega
    have hR2 : R = (0, 40) := by rw [← hR]; unfold loadP; rw [hA, if_pos rfl]
    subst hR2
    clear hA hR h hm HHS
    go_enter Tryz.func52, Tryz.ntmps52
    go_wp2_with fail
    refine bodyPost_ret (results_tmp2 rfl _ _ _) rfl ?_
    exact ⟨rfl, Below.refl _ _⟩
  · have h0' : 0 ≤ a := by omega
    unfold I64 at ha
    have hq : wrap64 (Int.tdiv a 8) = a / 8 := by
      have h1 : Int.tdiv a 8 = a / 8 := Int.tdiv_eq_ediv_of_nonneg h0'
      rw [h1, w64 _ (by omega) (by omega)]
    have hhas : m.has (a / 8) = m.hasA a := by
      unfold PM.has PM.hasA
      congr 1
      simp only [eq_iff_iff]
      omega
    have hh := HHS.out (a / 8)
    rw [hhas] at hh
    obtain ⟨q, hqe⟩ : ∃ q, a / 8 = q := ⟨_, rfl⟩
    rw [hqe] at hq hh
    have HQ := Lib.hid hqe
    cases hA : m.hasA a with
    | false =>
      have hR2 : R = (0, 40) := by rw [← hR]; unfold loadP; rw [hA, if_pos rfl]
      subst hR2
      rw [hA] at hh
      have HH := Lib.hid hh
      clear hA hR h hm HHS hh hqe hhas ha
      go_enter Tryz.func52, Tryz.ntmps52
      go_wp2_with (go_at_call 66; refine HH.out.mono ?_; rintro e w' ⟨rfl, hw'⟩; obtain rfl := hw'.symm)
      refine bodyPost_ret (results_tmp2 rfl _ _ _) rfl ?_
      exact ⟨rfl, Below.refl _ _⟩
    | true =>
      have hin : 0 ≤ a ∧ a < 8 * (m.L.length : Int) := by unfold PM.hasA at hA; simpa using hA
      obtain ⟨i, rfl⟩ : ∃ i : Nat, q = i := ⟨q.toNat, by omega⟩
      have hi : i < m.L.length := by omega
      obtain ⟨k, hk⟩ : ∃ k : Nat, a % 8 = k := ⟨(a % 8).toNat, by omega⟩
      have hk8 : k < 8 := by omega
      have hr : wrap64 (Int.tmod a 8) = (k : Int) := by
        have h1 : Int.tmod a 8 = a % 8 := Int.tmod_eq_emod_of_nonneg h0'
        rw [h1, hk, w64 _ (by omega) (by omega)]
      have hr2 : Int.tmod a 8 = (k : Int) := by
        have h1 : Int.tmod a 8 = a % 8 := Int.tmod_eq_emod_of_nonneg h0'
        rw [h1, hk]
      rw [hA] at hh
      have HH := Lib.hid hh
      have hR2 : R = ((m.line i).shows.getD k 0, (m.line i).err) := by
        rw [← hR]
        unfold loadP
        rw [hA, if_neg (by simp), hqe, hk, Int.toNat_natCast, Int.toNat_natCast]
      have hlo := hm.line hi
      have hst := rState_any p (i : Int) m F w hm h
      have hsi : stateP m (i : Int) = (((m.line i).state : Nat) : Int) := by
        unfold stateP
        rw [has_i hi, if_pos rfl, Int.toNat_natCast]
      rw [hsi] at hst
      have HST := Lib.hid hst
      have hsh8 : (m.line i).shows.length = 8 := (hlo.after _).1
      have HSH := Lib.hid fun W (hW : Below w.heap.size w W) => rShows_any p i m F W hi hm (h.below hW)
      rcases hlo.err with ⟨e1, e2⟩ | ⟨e1, e2, e3⟩
      · rw [e1] at hR2
        subst hR2
        have hnI : ¬ (((m.line i).state : Nat) : Int) = 2 := by omega
        generalize (m.line i).shows = SH at *
        generalize (m.line i).state = st at *
        have HI8 := Lib.hid (size22' hsh8)
        have HO8 := Lib.hid (iv_one SH)
        have HN8 : Hid ((iv SH).length = 8) := Lib.hid (by rw [iv_len, hsh8])
        have H22s := Lib.hid size22
        obtain ⟨val, hval⟩ : ∃ val, SH.getD k 0 = val := ⟨_, rfl⟩
        rw [hval]
        have HVAL : Hid ((iv SH)[k]? = some (.int .i64 val)) := Lib.hid (by rw [← hval]; exact iv_at (by omega))
        have hk8I : (k : Int) < 8 := by omega
        clear hA hR h hm HHS hh hhas hqe hk hi hlo hst hsi e1 e2 hval hsh8 hin ha
        go_enter Tryz.func52, Tryz.ntmps52
        go_wp2_with (go_at_call 66; refine HH.out.mono ?_; rintro e w' ⟨rfl, hw'⟩; obtain rfl := hw'.symm)
        refine HST.out.mono ?_
        rintro e w1 ⟨rfl, hb⟩
        have HB1 := Lib.hid hb
        have HSH1 := Lib.hid (HSH.out _ hb)
        clear hb HST HSH
        go_wp2_with fail
        refine HSH1.out.mono ?_
        rintro e w2 ⟨rfl, hb⟩
        have HB2 := Lib.hid (bel_on HB1.out hb)
        clear hb HB1 HSH1
        go_wp2_with ((with_reducible refine arm_new 39 (iv SH) 8 HN8.out H22s.out HO8.out _ ?_ rfl _ _ rfl ?_ ?_ ?_); (focus rfl); (focus rfl); (focus rfl); (refine nm_l ?_; intro w3 hw3; have hc3 : w3.cell? ⟨w2.heap.size, k, none⟩ = some (.int .i64 val) := (by rw [hw3]; exact (Arr.new _ _ _).cell HVAL.out); have HB3 : Hid (Below w.heap.size w w3) := Lib.hid (by rw [hw3]; exact bel_on HB2.out (bel_new _ _)); clear hw3; clear HB2; generalize w2.heap.size = bw at *))
        refine bodyPost_ret (results_tmp2 rfl _ _ _) rfl ?_
        exact ⟨rfl, HB3.out⟩
      · have hz : (m.line i).shows.getD k 0 = 0 := by
          have h4 := hlo.rot e2
          have h5 : (m.line i).shows = Z8 := by
            show applyS (m.line i).fixW ((m.line i).pend.take (m.line i).pend.length) = Z8
            rw [h4, e3]
            rfl
          rw [h5]
          exact z8_getD k
        rw [e1, hz] at hR2
        subst hR2
        rw [e2] at HST
        clear hA hR h hm HHS hh hhas hqe hk hi hlo hst hsi e1 e2 e3 hsh8 hin hz HSH ha
        go_enter Tryz.func52, Tryz.ntmps52
        go_wp2_with (go_at_call 66; refine HH.out.mono ?_; rintro e w' ⟨rfl, hw'⟩; obtain rfl := hw'.symm)
        refine HST.out.mono ?_
        rintro e w1 ⟨rfl, hb⟩
        have HB1 := Lib.hid hb
        clear hb HST
        go_wp2_with fail
        refine bodyPost_ret (results_tmp2 rfl _ _ _) rfl ?_
        exact ⟨rfl, HB1.out⟩
set_option maxRecDepth 100000 in
set_option maxHeartbeats 8000000 in
set_option linter.unusedSimpArgs false in
theorem rSet_any (p : Nat) (n : Int) (m : PM) (F : Nat → Prop) (w : World) (h : Ref w p m F) :
    Calls Tryz.prog 45 #[.pointer (some ⟨p, 0, none⟩), .int .i64 n] w fun e w' => e = .returned (.tuple #[]) ∧ RStep F w p (spanP m n) w' := by
  obtain ⟨d, o, cap, ev, X, h⟩ := h
  have c1 := h.c1
  have f1 := h.mem.free 1
  have HD : ∀ k, Hid (k = max n 0 → RStep F w p (spanP m n) (w.setCell ⟨p, 1, none⟩ (.int .i64 k))) := fun k => Lib.hid fun e => by
    subst e
    exact ⟨⟨d, o, cap, ev, X, (h.setSpan _).keep (fun _ _ => rfl) (fun k hk => .inl hk) fun k hk => by
        rcases hk with h1 | h1
        · simpa using h.lt k h1
        · exact h1.2⟩, Kept.setCell w _ h.ownP⟩
  clear h
  go_enter Tryz.func45, Tryz.ntmps45
  by_cases hz0 : 0 ≤ n
  · go_wp2_with fail
    refine bodyPost_end (results_none rfl _ _ _) rfl ?_
    exact ⟨rfl, (HD _).out (by omega)⟩
  · go_wp2_with fail
    refine bodyPost_end (results_none rfl _ _ _) rfl ?_
    exact ⟨rfl, (HD _).out (by omega)⟩
end Go.Proofs.YtmnncbgibngmiaaGreatDoor
namespace Go.Proofs.YtmnncbgibngmiaaGreatDoor
open Go.RowKit Go.Maps
theorem lnR_mark {l : PL} {v : Value} (h8 : l.ws.length = 8) (k : Nat) : (lnR (l, v)).set 10 (.int .i64 (k : Int)) = lnR ({ l with mark := k }, v) := by
  have hlen : (iv (l.ws ++ [l.code])).length = 9 := by rw [iv_len, List.length_append, h8]; rfl
  unfold lnR
  rw [List.set_append_right _ _ (by rw [hlen]; omega), hlen]
  rfl
theorem lnR_pend {l : PL} {v : Value} (h8 : l.ws.length = 8) (ss : List (Int × Int)) (u : Value) : (lnR (l, v)).set 9 u = lnR ({ l with pend := ss }, u) := by
  have hlen : (iv (l.ws ++ [l.code])).length = 9 := by rw [iv_len, List.length_append, h8]; rfl
  unfold lnR
  rw [List.set_append_right _ _ (by rw [hlen]; omega), hlen]
  rfl
section
variable {w w' w1 w2 : World} {p d o cap : Nat} {m : PM} {F F' : Nat → Prop} {ev : Value} {X : List (PL × Value)}
/-- A cell of a line is written. -/
theorem RefAt.cellLine (h : RefAt w p m F d o cap ev X) (hm : m.Ok) {i j : Nat} (hi : i < m.L.length) (hj : j < 11) {l' : PL} {v v' u : Value} (hx : X[i]? = some (m.line i, v)) (hu : (lnR (m.line i, v)).set j u = lnR (l', v'))
    (hv : Sl w 66 2 v' l'.pend.length (iv (flatS l'.pend))) (hF : ∀ k, F k → F' k) (hv' : ∀ k, v'.ownBlock = some k → F' k) (hlt : ∀ k, F' k → k < w.heap.size) :
    RefAt (w.setCell ⟨d, o + i * 11 + j, none⟩ u) p (m.upd i fun _ => l') F' d o cap ev (X.set i (l', v')) := by
  obtain ⟨cur, hc⟩ := h.lin.blk (g := d) rfl
  exact h.setLine hi (fun k _ hk => heap_setCell_other w _ k _ hk) (h.lineCell hm hi hj hx hu) (hv.keep fun g hg => heap_setCell_other w _ g _ (hv.ne_of hg hc (by decide))) hF hv' (fun k hk => by simpa using hlt k hk)
/-- A whole line is written. -/
theorem RefAt.putLine (h : RefAt w p m F d o cap ev X) (hm : m.Ok) {i : Nat} (hi : i < m.L.length) {l' : PL} {v' : Value} (h8 : l'.ws.length = 8)
    (hv : Sl w 66 2 v' l'.pend.length (iv (flatS l'.pend))) (hF : ∀ k, F k → F' k) (hv' : ∀ k, v'.ownBlock = some k → F' k) (hlt : ∀ k, F' k → k < w.heap.size) :
    RefAt (w.setCells d (o + i * 11) (lnR (l', v'))) p (m.upd i fun _ => l') F' d o cap ev (X.set i (l', v')) ∧ w.there d (o + i * 11) 11 := by
  obtain ⟨cur, hc⟩ := h.lin.blk (g := d) rfl
  obtain ⟨h1, h2⟩ := h.linePut hm hi (l' := l') (v' := v') h8
  exact ⟨h.setLine hi (fun k _ hk => heap_setCells hk _ _ w) h1 (hv.keep fun g hg => heap_setCells (hv.ne_of hg hc (by decide)) _ _ w) hF hv' (fun k hk => by rw [size_setCells]; exact hlt k hk), h2⟩
/-- What is left of a recorded event is one step. -/
theorem RefAt.cells2 (h : RefAt w1 p m F d o cap ev X) (hb : Below w1.heap.size w1 w2) {w3 : World} (hg : w2.grownBy w3 ev.ownBlock) : w3.cell? ⟨p, 2, none⟩ = some ev ∧ w3.frozen? ⟨p, 2, none⟩ = false := by
  have hne : some p ≠ ev.ownBlock := fun e => h.evs.ne_of e.symm h.mem (by decide) rfl
  have hp : w3.heap[p]? = w1.heap[p]? := (hg.block p (Nat.lt_of_lt_of_le h.mem.lt hb.size) hne).trans (hb.block p h.mem.lt)
  have hm3 : Arr w3 p _ _ := hp.trans h.mem
  exact ⟨hm3.cell rfl, hm3.free 2⟩
end
set_option maxRecDepth 100000 in
set_option maxHeartbeats 8000000 in
set_option linter.unusedSimpArgs false in
theorem rFlush_any (p : Nat) (z : Int) (m : PM) (F : Nat → Prop) (w : World) (hm : m.Ok) (hs : m.Small 1000) (h : Ref w p m F) :
    Calls Tryz.prog 46 #[.pointer (some ⟨p, 0, none⟩), .int .i64 z] w fun e w' => e = .returned (.int .i64 (rec_ (flushP m z) (evt 3 z 0 0 Z8)).1) ∧ RStep F w p (rec_ (flushP m z) (evt 3 z 0 0 Z8)).2 w' := by
  have hha := rHas_any p z m F w h
  obtain ⟨R, hR⟩ : ∃ R, rec_ (flushP m z) (evt 3 z 0 0 Z8) = R := ⟨_, rfl⟩
  rw [hR]
  unfold flushP at hR
  cases hh : m.has z with
  | false =>
    rw [hh, if_pos rfl, rec_1 (show (40 : Int) ≠ 0 by decide)] at hR
    subst hR
    rw [hh] at hha
    have HH := Lib.hid hha
    have HS := Lib.hid (RStep.refl h)
    clear hha h hm hs
    go_enter Tryz.func46, Tryz.ntmps46
    go_wp2_with (go_at_call 66; refine HH.out.mono ?_; rintro e w' ⟨rfl, hw'⟩; obtain rfl := hw'.symm)
    go_ret
    exact ⟨rfl, HS.out⟩
  | true =>
    have hin : 0 ≤ z ∧ z < (m.L.length : Int) := by unfold PM.has at hh; simpa using hh
    obtain ⟨i, rfl⟩ : ∃ i : Nat, z = i := ⟨z.toNat, by omega⟩
    have hi : i < m.L.length := by omega
    rw [hh] at hha
    rw [hh, if_neg (by simp), rec_0 rfl, Int.toNat_natCast] at hR
    subst hR
    have HH := Lib.hid hha
    obtain ⟨d, o, cap, ev, X, h⟩ := h
    obtain ⟨v, hx, _, _, _, h9, h10, hsl⟩ := h.at hm hi
    have c0 := h.c0
    have hcp := h.cap_
    obtain ⟨VA, vcap, rfl, _⟩ := hsl.shape
    have hd := h.below (bel_drew w)
    have h1 : RefAt (w.drew.setCell ⟨d, o + i * 11 + 10, none⟩ (.int .i64 ((m.line i).pend.length : Int))) p (m.upd i fun _ => (m.line i).flushed) F d o cap ev (X.set i ((m.line i).flushed, _)) :=
      hd.cellLine hm hi (by decide) hx (lnR_mark (hm.line hi).len _) (hsl.keep fun _ _ => rfl) (fun _ h => h) (fun k hk => h.ownG _ (List.mem_of_getElem? hx) k hk) hd.lt
    have hK1 : Kept F w (w.drew.setCell ⟨d, o + i * 11 + 10, none⟩ (.int .i64 ((m.line i).pend.length : Int))) := (Kept.of_below (bel_drew w)).then_ (Kept.setCell _ _ h.ownD)
    have f10 := h.lin.freeR (o + i * 11 + 10)
    have hne := hs.ev
    obtain ⟨W1, hW1⟩ : ∃ W1, w.drew.setCell ⟨d, o + i * 11 + 10, none⟩ (.int .i64 ((m.line i).pend.length : Int)) = W1 := ⟨_, rfl⟩
    rw [hW1] at h1 hK1
    have HW1 := Lib.hid hW1
    have hsz1 : W1.heap.size = w.heap.size := by rw [← hW1]; simp [World.setCell]
    have c2 := h.c2
    have hpd : p ≠ d := h.p_ne_d
    have hdp : d ≠ p := fun e => hpd e.symm
    have hm1 : m.upd i (fun _ => (m.line i).flushed) = m.upd i (·.flushed) := rfl
    rw [hm1] at h1
    have hev : (m.upd i (·.flushed)).ev = m.ev := rfl
    generalize m.upd i (·.flushed) = m1 at *
    obtain ⟨A, ecap, rfl, _⟩ := h1.evs.shape
    have HB1 := bel_new W1 (.cells (iv (evt 3 (i : Int) 0 0 Z8)).toArray 79)
    have HREC := Lib.hid fun (ev' : Value) (w3 : World) hsl hg ho => RStep.after hK1 (h1.recorded (evt 3 (i : Int) 0 0 Z8) HB1 (ev' := ev') (w3 := w3) hsl hg ho)
    have HC2 := Lib.hid fun (w3 : World) hg => h1.cells2 HB1 (w3 := w3) hg
    have HEV := Lib.hid (h1.evs.keep fun q hq => HB1.block q (h1.evs.lt hq))
    have HNW : Hid (∀ j u, (iv (evt 3 (i : Int) 0 0 Z8))[j]? = some u → (W1.alloc (.cells (iv (evt 3 (i : Int) 0 0 Z8)).toArray 79)).cell? ((⟨w.heap.size, 0, none⟩ : Addr).add j) = some u) := Lib.hid (fun j u hu => by
      rw [Addr.add_lit, Nat.zero_add, ← hsz1]
      exact (Arr.new W1 _ _).cell hu)
    have c21 := h1.c2
    have hne1 : m1.ev.length ≤ 1000 := by rw [hev]; exact hne
    obtain ⟨i0, his, hz0, hz1, hz2⟩ := info_parts infoEvent
    have HIS := Lib.hid his
    have HZ0 := Lib.hid hz0
    have HZ1 := Lib.hid hz1
    have HZ2 := Lib.hid hz2
    generalize m1.ev.length = NE at *
    generalize (m.line i).pend.length = pl at *
    generalize m.L.length = N at *
    have hiI : (i : Int) < (N : Int) := by omega
    clear hha hh h h1 hd hK1 HB1 hx hsl his hz0 hz1 hz2 hW1 hm1 hev hm hs hsz1
    go_enter Tryz.func46, Tryz.ntmps46
    go_wp2_with (go_at_call 66; refine HH.out.mono ?_; rintro e w' ⟨rfl, hw'⟩; obtain rfl := hw'.symm)
    go_still_tail 16, (by kernel_rfl)
    change wpList _ _ _ _ _ w.drew
    go_wp2_with (at_builtin; refine nm_l ?_; intro wA hwA; obtain rfl : wA = W1.alloc (.cells (iv (evt 3 (i : Int) 0 0 Z8)).toArray 79) := (by rw [hwA, ← HW1.out]; rfl); clear hwA; refine wpList_append_sl _ rfl _ _ 29 rfl 79 i0 _ 12 96 Tryz.underlying29 HIS.out HZ0.out HZ1.out HZ2.out rfl (by decide) (.slice A NE ecap) NE (iv m1.ev.flatten) rfl HEV.out ⟨w.heap.size, 0, none⟩ 1 1 (iv (evt 3 (i : Int) 0 0 Z8)) rfl rfl HNW.out (iv_one _) (by unfold maxLen; omega) (by omega) ?_; intro ev' w3 hsl hg ho; obtain ⟨EA2, ecap2, rfl, _⟩ := hsl.shape; have HFIN := Lib.hid (HREC.out _ _ hsl hg ho); obtain ⟨e2, ef2⟩ := HC2.out _ hg; clear hsl hg ho)
    go_ret
    exact ⟨rfl, HFIN.out⟩
end Go.Proofs.YtmnncbgibngmiaaGreatDoor
