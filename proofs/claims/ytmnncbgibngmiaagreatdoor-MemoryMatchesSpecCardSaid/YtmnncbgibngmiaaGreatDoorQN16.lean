/-
  What memory's From and New do.
-/
import Derived.Test.YtmnncbgibngmiaaGreatDoorQN14
namespace Go.Proofs.YtmnncbgibngmiaaGreatDoor
open Go.RowKit Go.Maps
/-- The blocks that are new. -/
def New (w w' : World) : Nat → Prop := fun k => w.heap.size ≤ k ∧ k < w'.heap.size
def flatI (img : List (List Int × Int)) : List Int := img.flatMap fun x => x.1 ++ [x.2]
/-- Is an image right? -/
def rightB (img : List (List Int × Int)) : Bool := decide (1 ≤ img.length ∧ img.length ≤ 4096) && img.all fun x => validB x.1 x.2
theorem flatI_from (img : List (List Int × Int)) : flatL (fromP img).L = flatI img := by
  unfold flatL flatI fromP
  rw [List.flatMap_map]
theorem from_line (img : List (List Int × Int)) (i : Nat) : ((fromP img).line i).pend = [] ∧ ((fromP img).line i).mark = 0 := by
  unfold fromP PM.line
  simp only
  rw [List.getD_eq_getElem?_getD, List.getElem?_map]
  cases img[i]? <;> exact ⟨rfl, rfl⟩
/-- A new memory: what it is built of. -/
theorem rep_new {w w1 : World} {v : Value} (img : List (List Int × Int)) (hb : Below w.heap.size w w1) (hs : Sl w1 57 9 v img.length (iv (flatI img))) (ho : ∀ k, v.ownBlock = some k → w.heap.size ≤ k) :
    Rep ((w1.alloc (.map #[] 0)).alloc (.cells #[v, .map (some w1.heap.size), .int .i64 0, .slice none 0 0] 61)) (w1.heap.size + 1) (fromP img) (New w ((w1.alloc (.map #[] 0)).alloc (.cells #[v, .map (some w1.heap.size), .int .i64 0, .slice none 0 0] 61))) := by
  have hz : ((w1.alloc (.map #[] 0)).alloc (.cells #[v, .map (some w1.heap.size), .int .i64 0, .slice none 0 0] 61)).heap.size = w1.heap.size + 2 := by simp
  have hz1 : (w1.alloc (.map #[] 0)).heap.size = w1.heap.size + 1 := by simp
  have hw := hb.size
  have hL : (fromP img).L.length = img.length := List.length_map ..
  refine ⟨v, w1.heap.size, .slice none 0 0, .map [], fun _ => .slice none 0 0, {
    mem := ?_, dur := ?_, map := ?_, evs := Sl.nil _ _ _, at_ := fun i _ => ?_, has_ := fun i _ => ?_, off := fun kl hk => by simp [Maps.has] at hk, pend := fun i _ => ?_, apart := fun i j _ _ _ h => by simp [Value.ownBlock] at h,
    ownP := ⟨by omega, by omega⟩, ownB := ⟨by omega, by omega⟩, ownD := fun k hk => ⟨ho k hk, by have := hs.lt hk; omega⟩, ownE := fun k hk => by simp [Value.ownBlock] at hk, ownG := fun i _ k hk => by simp [Value.ownBlock] at hk, lt := fun k hk => hk.2 }⟩
  · have := Arr.new (w1.alloc (.map #[] 0)) [v, .map (some w1.heap.size), .int .i64 0, .slice none 0 0] 61
    rw [hz1] at this
    exact this
  · rw [hL, flatI_from]
    exact hs.keep fun q hq => by
      have := hs.lt hq
      rw [Below.heap_alloc _ _ q (by omega), Below.heap_alloc _ _ q this]
  · have := World.ownsMap_made w1 Tryz.prog 3 heldR
    exact ownsMap_keep this (Below.heap_alloc _ _ _ (by omega))
  · rw [(from_line img i).2]
    rfl
  · rw [(from_line img i).1]
    simp [Maps.has]
  · rw [(from_line img i).1]
    exact Sl.nil _ _ _
theorem flatI_len {img : List (List Int × Int)} (h8 : ∀ x ∈ img, x.1.length = 8) : (flatI img).length = img.length * 9 := flatMap_len _ 9 img fun x hx => by rw [List.length_append, h8 x hx]; rfl
set_option maxRecDepth 100000 in
set_option maxHeartbeats 1000000 in
theorem cloneLineR_any (g o n cap : Nat) (xs : List Value) (w : World) (hlen : xs.length = n * 9) (hc : ∀ j u, xs[j]? = some u → w.cell? ⟨g, o + j, none⟩ = some u) (h1 : ∀ u ∈ xs, u.oneCell' = true) (hn : n ≤ 1000000) :
    Calls Tryz.prog 55 #[.slice (some ⟨g, o, none⟩) n cap] w (Cloned w 57 9 n xs) := by
  obtain ⟨i0, hi, hz0, hz1, hz2⟩ := info_parts infoLine
  have q : ∀ (w : World) (a : Option Addr) (n c n' c' : Nat), (binOp .eql 47 (.slice a n c) (.slice none n' c')).run Tryz.prog w = .ok (.bool a.isNone) w := fun w a n c n' c' => Lib.run_eql_slice_nil w _ _ a n c n' c' Tryz.underlying47
  have HC := Lib.hid hc
  have H1 := Lib.hid h1
  have HL := Lib.hid hlen
  have HI := Lib.hid hi
  have HZ0 := Lib.hid hz0
  have HZ1 := Lib.hid hz1
  have HZ2 := Lib.hid hz2
  clear hc h1 hlen hi hz0 hz1 hz2
  go_enter Tryz.func55, Tryz.ntmps55
  go_wp2_with (at_builtin; refine wpList_append_sl _ rfl _ _ 47 rfl 57 i0 _ 9 72 Tryz.underlying47 HI.out HZ0.out HZ1.out HZ2.out rfl (by decide) _ 0 [] rfl (Sl.of_row (World.ownsRow_made (base := 0) w #[] 0 (Nat.zero_le _) (Nat.zero_le _) (by simp))) ⟨g, o, none⟩ n cap xs rfl HL.out ?qc H1.out (by unfold maxLen; omega) (by omega) ?_)
  case qc =>
    intro j u hj
    rw [Addr.add_lit]
    have hcell := HC.out j u hj
    exact (World.cell?_alloc_lt w _ _ (block_lt_of_cell hcell)).trans hcell
  intro v' w1 hs hg ho
  have HS := Lib.hid hs
  have HB : Hid (Below w.heap.size w w1) := Lib.hid ((bel_new w _).grown hg (by simp) (by intro k hk; simp [Value.ownBlock] at hk; omega))
  have HO : Hid (∀ k, v'.ownBlock = some k → w.heap.size ≤ k) := Lib.hid (by
    intro k hk
    rcases ho with h | h
    · rw [hk] at h
      simp [Value.ownBlock] at h
      omega
    · rw [hk] at h
      simp at h
      omega)
  clear hs hg ho
  go_wp2_with fail
  go_ret
  exact ⟨_, rfl, by simpa using HS.out, HO.out, HB.out⟩
/-- A line of an image in the heap. -/
theorem imgLine {w : World} {d o : Nat} {img : List (List Int × Int)} (h8 : ∀ x ∈ img, x.1.length = 8) (hs : ∀ j u, (iv (flatI img))[j]? = some u → w.cell? ⟨d, o + j, none⟩ = some u) {k : Nat} (hk : k < img.length) :
    w.rangeAt d (o + k * 9) (iv (img[k].1 ++ [img[k].2])) := fun j v hv => by
  have hj : j < 9 := by
    have := (List.getElem?_eq_some_iff.1 hv).1
    rw [iv_len, List.length_append, h8 _ (List.getElem_mem hk)] at this
    simpa using this
  have hb := flat_block (fun x : List Int × Int => x.1 ++ [x.2]) 9 img k j hk (fun x hx => by rw [List.length_append, h8 x hx]; rfl) hj
  have := hs (k * 9 + j) v (by
    unfold iv at hv ⊢
    rw [List.getElem?_map] at hv ⊢
    unfold flatI
    rw [hb]
    exact hv)
  rw [← Nat.add_assoc] at this
  exact this
/-- What From comes to. -/
def FromPost (w : World) (img : List (List Int × Int)) (e : Ending) (w' : World) : Prop :=
  (rightB img = true ∧ ∃ p, e = .returned (.pointer (some ⟨p, 0, none⟩)) ∧ Rep w' p (fromP img) (New w w')) ∨ (rightB img = false ∧ e = .returned (.pointer none))
set_option maxRecDepth 100000 in
set_option maxHeartbeats 4000000 in
set_option linter.unusedSimpArgs false in
theorem from_any (img : List (List Int × Int)) (v : Value) (w : World) (h8 : ∀ x ∈ img, x.1.length = 8) (hn : img.length ≤ 5000) (hs : Rd w v img.length (iv (flatI img))) :
    Calls Tryz.prog 13 #[v] w fun e w' => FromPost w img e w' ∧ Below w.heap.size w w' := by
  have HS := Lib.hid hs
  obtain ⟨A, cap, rfl, hcap, hcm, hrr⟩ := hs
  have H8 := Lib.hid h8
  have HRR := Lib.hid hrr
  have HB0 : Hid (Below w.heap.size w w) := Lib.hid (Below.refl _ _)
  clear hrr h8
  by_cases h1 : img.length < 1
  · have hRR : rightB img = false := by unfold rightB; rw [show decide (1 ≤ img.length ∧ img.length ≤ 4096) = false by simp; omega]; rfl
    have hL0 : img.length = 0 := by omega
    rw [hL0] at hcap ⊢
    go_enter Tryz.func13, Tryz.ntmps13
    go_wp2_with fail
    go_ret
    exact ⟨.inr ⟨hRR, rfl⟩, Below.refl _ _⟩
  · by_cases h2 : 4096 < img.length
    · have hRR : rightB img = false := by unfold rightB; rw [show decide (1 ≤ img.length ∧ img.length ≤ 4096) = false by simp; omega]; rfl
      obtain ⟨n, hn'⟩ : ∃ n, img.length = n := ⟨_, rfl⟩
      rw [hn'] at h1 h2 hcap ⊢
      have h1I : ¬ (n : Int) < 1 := by omega
      have h2I : 4096 < (n : Int) := by omega
      go_enter Tryz.func13, Tryz.ntmps13
      go_wp2_with fail
      go_ret
      exact ⟨.inr ⟨hRR, rfl⟩, Below.refl _ _⟩
    · have hdec : decide (1 ≤ img.length ∧ img.length ≤ 4096) = true := by simp; omega
      have HRB : Hid (rightB img = img.all fun x => validB x.1 x.2) := Lib.hid (by unfold rightB; rw [hdec]; rfl)
      obtain ⟨bb, oo, rfl, hbl, hcells⟩ := HRR.out (by omega)
      have HCE := Lib.hid hcells
      have HBL := Lib.hid hbl
      have HCL := Lib.hid fun w1 (hb : Below w.heap.size w w1) => cloneLineR_any bb oo img.length cap (iv (flatI img)) w1 (by rw [iv_len, flatI_len H8.out]) (fun j u hj => (hb.cell (p := ⟨bb, oo + j, none⟩) hbl).trans (hcells j u hj)) (iv_one _) (by omega)
      clear hcells hbl
      obtain ⟨n, hn'⟩ : ∃ n, img.length = n := ⟨_, rfl⟩
      have HN := Lib.hid hn'
      rw [hn'] at h1 h2 hcap hn ⊢
      have HCL' := Lib.hid HCL.out
      have h1I : ¬ (n : Int) < 1 := by omega
      have h2I : ¬ 4096 < (n : Int) := by omega
      have HA0 : Hid (∀ x ∈ img.take 0, validB x.1 x.2 = true) := Lib.hid (by simp)
      have hu22 := Tryz.underlying39
      have hu68 := Tryz.underlying57
      clear hn' hdec HCL
      go_enter Tryz.func13, Tryz.ntmps13
      go_wp2_with fail
      go_loopw [15] (fun i wr => ∃ k : Nat, i = .int .i64 (k : Int) ∧ k ≤ n ∧ Hid (∀ x ∈ img.take k, validB x.1 x.2 = true) ∧ Hid (Below w.heap.size w wr)) (fun i _ => n - (intOf i).toNat)
      case atStart => exact ⟨0, rfl, by omega, HA0, HB0⟩
      case round =>
        clear HA0 HB0
        obtain ⟨k, rfl, hk, HAL, HB⟩ := hrel
        by_cases hlt : k < n
        · have hkc : k < img.length := by rw [HN.out]; exact hlt
          have hsw : ∀ j u, (iv (flatI img))[j]? = some u → wr.cell? ⟨bb, oo + j, none⟩ = some u := fun j u hj => (HB.out.cell (p := ⟨bb, oo + j, none⟩) HBL.out).trans (HCE.out j u hj)
          have hrow := imgLine H8.out hsw hkc
          have h8k := H8.out _ (List.getElem_mem hkc)
          have htk := take_snoc' img k hkc
          have HBAD : Hid (validB img[k].1 img[k].2 = false → rightB img = false) := Lib.hid fun h => by
            rw [HRB.out, Bool.eq_false_iff]
            intro h2
            rw [List.all_eq_true.1 h2 _ (List.getElem_mem hkc)] at h
            cases h
          have HNX : Hid (validB img[k].1 img[k].2 = true → ∀ x ∈ img.take (k + 1), validB x.1 x.2 = true) := Lib.hid fun h x hx => by
            rw [htk] at hx
            rcases List.mem_append.1 hx with h3 | h3
            · exact HAL.out x h3
            · simp only [List.mem_singleton] at h3
              rw [h3]
              exact h
          generalize img[k] = x at *
          obtain ⟨ws, c⟩ := x
          simp only at hrow h8k
          change Hid (validB ws c = false → rightB img = false) at HBAD
          change Hid (validB ws c = true → ∀ x ∈ img.take (k + 1), validB x.1 x.2 = true) at HNX
          have hl9 : (iv (ws ++ [c])).length = 9 := by rw [iv_len, List.length_append, h8k]; rfl
          have hi9 : (Tryz.prog.info? 57).map (·.size) = some (iv (ws ++ [c])).length := by rw [size68, hl9]
          have HO := Lib.hid (iv_one (ws ++ [c]))
          have HL9 := Lib.hid hl9
          have hA1 := Arr.new wr (iv (ws ++ [c])) 57
          have hr1 : (wr.alloc (.cells (iv (ws ++ [c])).toArray 57)).rangeAt wr.heap.size 0 (iv ws) := fun j v hv => hA1.range j v (by
            unfold iv at hv ⊢
            rw [List.map_append, List.getElem?_append_left (List.getElem?_eq_some_iff.1 hv).1]
            exact hv)
          have hc8 : (wr.alloc (.cells (iv (ws ++ [c])).toArray 57)).cell? ⟨wr.heap.size, 8, none⟩ = some (.int .i64 c) := hA1.cell (by
            unfold iv
            rw [List.getElem?_map, List.getElem?_append_right (by omega), h8k]
            rfl)
          have hi8 := size22' h8k
          have HAW := Lib.hid fun w => areWords_any ws w h8k
          have HIC := Lib.hid fun w => isCodeM_any c w
          have HB1 := Lib.hid (bel_on HB.out (bel_new wr (.cells (iv (ws ++ [c])).toArray 57)))
          have hkI : (k : Int) < (n : Int) := by omega
          clear hA1 hsw htk HAL h8k hl9
          obtain ⟨ok, hok⟩ : ∃ ok, ws.all okW = ok := ⟨_, rfl⟩
          obtain ⟨kc, hkc2⟩ : ∃ kc, okC c = kc := ⟨_, rfl⟩
          have hval := validB_eq ws c
          rw [hok, hkc2] at hval
          rw [hok] at HAW
          rw [hkc2] at HIC
          go_wp2_with (first
            | ((with_reducible refine arm_range 57 bb (oo + k * 9) (iv (ws ++ [c])) hrow _ hu68 rfl hi9 rfl _ rfl ?_ ?_); focus rfl)
            | ((with_reducible refine arm_new 57 (iv (ws ++ [c])) 9 ?_ size68 HO.out _ rfl rfl _ _ rfl ?_ ?_ ?_); (focus (rw [HL9.out])); (focus rfl); (focus rfl))
            | ((with_reducible refine arm_range 39 wr.heap.size 0 (iv ws) hr1 _ hu22 rfl hi8 rfl _ rfl ?_ ?_); focus rfl))
          refine (HAW.out _).mono ?_
          rintro e w2 ⟨rfl, hb2⟩
          have HB2 := Lib.hid (bel_on HB1.out hb2)
          have hc82 := cell_below hb2 hc8
          clear hb2 hc8 hr1 hrow HAW
          cases ok with
          | false =>
            have HV := Lib.hid (HBAD.out (by rw [hval]; rfl))
            go_wp2_with fail
            go_ret
            exact ⟨.inr ⟨HV.out, rfl⟩, HB2.out⟩
          | true =>
            cases kc with
            | false =>
              have HV := Lib.hid (HBAD.out (by rw [hval]; rfl))
              go_wp2_with (go_at_call 54; refine (HIC.out _).mono ?_; rintro e w' ⟨rfl, rfl⟩)
              go_ret
              exact ⟨.inr ⟨HV.out, rfl⟩, HB2.out⟩
            | true =>
              have HV := Lib.hid (HNX.out (by rw [hval]; rfl))
              go_wp2_with (go_at_call 54; refine (HIC.out _).mono ?_; rintro e w' ⟨rfl, rfl⟩)
              go_roundw
              case rel => exact ⟨k + 1, by simp, by omega, HV, HB2⟩
              case measure => simp [intOf]; omega
        · obtain rfl : k = n := by omega
          have hrt : rightB img = true := by
            rw [HRB.out, List.all_eq_true]
            have := HAL.out
            rw [List.take_of_length_le (by rw [HN.out]; exact Nat.le_refl _)] at this
            exact this
          have HRT := Lib.hid hrt
          have HC1 := Lib.hid (HCL'.out wr HB.out)
          rw [HN.out] at HC1
          clear hrt HAL HCL'
          go_wp2_with fail
          refine HC1.out.mono ?_
          rintro e w2 ⟨v', rfl, hs2, ho2, hb2⟩
          have HB2 := Lib.hid (bel_on HB.out hb2)
          rw [← HN.out] at hs2
          have HNEW := Lib.hid (rep_new (w := w) img HB2.out hs2 (fun q hq => Nat.le_trans HB.out.size (ho2 q hq)))
          obtain ⟨A', cap', rfl, _⟩ := hs2.shape
          rw [HN.out] at HNEW ⊢
          clear hs2 ho2 hb2 HC1
          have hmk := run_makeMap (P := Tryz.prog) 59 w2
          have HB3 : Hid (Below w.heap.size w ((w2.alloc (.map #[] 0)).alloc (.cells #[.slice A' k cap', .map (some w2.heap.size), .int .i64 0, .slice none 0 0] 61))) := Lib.hid (bel_on (bel_on HB2.out (bel_new _ _)) (bel_new _ _))
          go_wp2_with fail
          go_ret
          exact ⟨.inl ⟨HRT.out, _, rfl, HNEW.out⟩, HB3.out⟩
theorem made_zeros9 (n : Nat) : (madeCells #[.int .i64 0, .int .i64 0, .int .i64 0, .int .i64 0, .int .i64 0, .int .i64 0, .int .i64 0, .int .i64 0, .int .i64 0] n).toList = iv (List.replicate n 0) := by
  have hz : ∀ q : Fin 9, (#[Value.int .i64 0, .int .i64 0, .int .i64 0, .int .i64 0, .int .i64 0, .int .i64 0, .int .i64 0, .int .i64 0, .int .i64 0] : Array Value)[q.val]! = .int .i64 0 := fun q => by
    match q with
    | 0 | 1 | 2 | 3 | 4 | 5 | 6 | 7 | 8 => rfl
  have e : madeCells #[.int .i64 0, .int .i64 0, .int .i64 0, .int .i64 0, .int .i64 0, .int .i64 0, .int .i64 0, .int .i64 0, .int .i64 0] n = (Array.range n).map fun _ => Value.int .i64 0 := by
    unfold madeCells
    congr 1
    funext i
    exact hz ⟨i % 9, Nat.mod_lt _ (by decide)⟩
  rw [e]
  unfold iv
  rw [Array.toList_map, Array.toList_range, List.map_const', List.length_range, List.map_replicate]
theorem flatI_zero (n : Nat) : flatI (List.replicate n (Z8, 0)) = List.replicate (n * 9) 0 := by
  induction n with
  | zero => rfl
  | succ n ih =>
    rw [List.replicate_succ]
    show (Z8 ++ [0]) ++ flatI (List.replicate n (Z8, 0)) = _
    rw [ih, show (n + 1) * 9 = 9 + n * 9 by omega, ← List.replicate_append_replicate]
    rfl
theorem fromP_zero (n : Nat) : fromP (List.replicate n (Z8, 0)) = newP n := by
  unfold fromP newP
  rw [List.map_replicate]
  rfl
theorem rightB_zero {n : Nat} (h : 1 ≤ n ∧ n ≤ 4096) : rightB (List.replicate n (Z8, 0)) = true := by
  unfold rightB
  rw [List.length_replicate, Bool.and_eq_true]
  refine ⟨by simpa using h, ?_⟩
  rw [List.all_eq_true]
  intro x hx
  rw [(List.mem_replicate.1 hx).2]
  decide
/-- What New comes to. -/
def NewPost (w : World) (z : Int) (e : Ending) (w' : World) : Prop :=
  (∃ n : Nat, z = n ∧ 1 ≤ n ∧ n ≤ 4096 ∧ ∃ p, e = .returned (.pointer (some ⟨p, 0, none⟩)) ∧ Rep w' p (newP n) (New w w')) ∨ ((z < 1 ∨ 4096 < z) ∧ e = .returned (.pointer none))
set_option maxRecDepth 100000 in
set_option maxHeartbeats 4000000 in
theorem new_any (z : Int) (w : World) :
    Calls Tryz.prog 4 #[.int .i64 z] w fun e w' => NewPost w z e w' ∧ Below w.heap.size w w' := by
  by_cases h1 : z < 1
  · go_enter Tryz.func4, Tryz.ntmps4
    go_wp2_with fail
    go_ret
    exact ⟨.inr ⟨.inl (by omega), rfl⟩, Below.refl _ _⟩
  · by_cases h2 : 4096 < z
    · go_enter Tryz.func4, Tryz.ntmps4
      go_wp2_with fail
      go_ret
      exact ⟨.inr ⟨.inr (by omega), rfl⟩, Below.refl _ _⟩
    · obtain ⟨n, rfl⟩ : ∃ n : Nat, z = n := ⟨z.toNat, by omega⟩
      obtain ⟨i0, hi, hz0, hz1, hz2⟩ := info_parts infoLine
      have HI0 := Lib.hid hi
      have HZ0 := Lib.hid hz0
      have HZ1 := Lib.hid hz1
      have HZ2 := Lib.hid hz2
      have hn1 : 1 ≤ n := by omega
      have hn2 : n ≤ 4096 := by omega
      clear hi hz0 hz1 hz2
      go_enter Tryz.func4, Tryz.ntmps4
      go_wp2_with (at_make; refine wpList_make_full _ rfl _ _ 47 rfl w.heap.size 57 i0 _ 9 Tryz.underlying47 HI0.out HZ0.out HZ1.out .i64 .i64 _ _ n rfl rfl rfl rfl (by rw [HZ2.out]; omega) (by unfold maxLen; omega) (Nat.le_refl _) ?_; intro w1 hown hgrow)
      have hsl := Sl.of_row hown
      have hB1 : Below w.heap.size w w1 := (Below.refl _ _).grown hgrow (Nat.le_refl _) (fun k hk => by cases hk)
      have HB1 := Lib.hid hB1
      have HFR := Lib.hid (from_any (List.replicate n (Z8, 0)) _ w1 (fun x hx => by rw [(List.mem_replicate.1 hx).2]; rfl) (by rw [List.length_replicate]; omega) (by
        rw [List.length_replicate, flatI_zero, ← made_zeros9]
        exact Rd.of_sl hsl))
      clear hsl hown hgrow hB1
      go_wp2_with fail
      refine HFR.out.mono ?_
      rintro e w2 ⟨hp, hb2⟩
      rcases hp with ⟨_, p, rfl, hr⟩ | ⟨h9, _⟩
      · rw [fromP_zero] at hr
        have HB2 := Lib.hid (bel_on HB1.out hb2)
        have HR2 := Lib.hid (hr.wide (F' := New w w2) (fun k hk => ⟨Nat.le_trans HB1.out.size hk.1, hk.2⟩) fun k hk => hk.2)
        clear hr hb2 HFR
        go_wp2_with fail
        go_ret
        exact ⟨.inl ⟨n, rfl, hn1, hn2, p, rfl, HR2.out⟩, HB2.out⟩
      · rw [rightB_zero ⟨hn1, hn2⟩] at h9
        cases h9
end Go.Proofs.YtmnncbgibngmiaaGreatDoor
