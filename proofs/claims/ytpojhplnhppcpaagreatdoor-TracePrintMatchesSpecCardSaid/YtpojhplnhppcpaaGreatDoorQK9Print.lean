/-
  Print of long lists; what alumref05's Bare and Print do.
-/
import Derived.Test.YtpojhplnhppcpaaGreatDoorQK8Print
namespace Go.Proofs.YtpojhplnhppcpaaGreatDoor
open Go.RowKit Go.Maps
theorem Sl.rdK {w : World} {e sz n : Nat} {v : Value} {xs : List Value} (h : Sl w e sz v n xs) : Rd w v n xs := by
  obtain ⟨A, cap, rfl, h1, h2, h3, h4⟩ := h.shape
  refine ⟨A, cap, rfl, h1, h2, fun hn => ?_⟩
  cases A with
  | none => have := (h3 rfl).1; omega
  | some ad =>
    obtain ⟨a1, a2, a3⟩ := h4 ad rfl
    obtain ⟨b, o, sp⟩ := ad
    simp only at a1 a2 a3
    subst a1
    exact ⟨b, o, rfl, h.lt a2, a3⟩
theorem evt_line {x : List Int} (hl : x.length = 12) (hI : ∀ z ∈ x, I64 z) {e : Ending} (h : EvtPost (lineT x) e) : e = .returned (.tuple #[.agg (iv (bareT x)).toArray, .bool true]) := by
  obtain ⟨X, b, rfl, h1, _⟩ := h
  rw [evR_line hl hI] at h1
  cases b with
  | false => cases h1
  | true =>
    rw [if_pos rfl] at h1
    cases h1
    rfl
theorem bare_len (x : List Int) : (bareT x).length = 12 := by unfold bareT; rw [List.length_map, List.length_range]
set_option maxRecDepth 100000 in
set_option maxHeartbeats 8000000 in
set_option linter.unusedSimpArgs false in
theorem bare_any (x : List Int) (w : World) (hx : x.length = 12) (hxI : ∀ z ∈ x, I64 z) :
    Calls Tryz.prog 42 #[.agg (iv x).toArray] w fun e w' => e = .returned (.agg (iv (bareT x)).toArray) ∧ Below w.heap.size w w' := by
  have hll := line_len x hxI
  have HEV := Lib.hid fun w1 => (event_any (lineT x) w1 (by omega)).mono fun e w' h => (⟨evt_line hx hxI h.1, h.2⟩ : e = .returned (.tuple #[.agg (iv (bareT x)).toArray, .bool true]) ∧ Below w1.heap.size w1 w')
  have HLI := Lib.hid fun w1 => dline_any x w1 hx hxI
  obtain ⟨BX, hBX⟩ : ∃ BX, bareT x = BX := ⟨_, rfl⟩
  have HBL : Hid (BX.length = 12) := Lib.hid (by rw [← hBX]; exact bare_len x)
  rw [hBX] at HEV ⊢
  have HB1 := Lib.hid (bel_new w (.cells (iv x).toArray 68))
  have HA1 := Lib.hid (Arr.new w (iv x) 68)
  have hbz := bel_new (w.alloc (.cells (iv x).toArray 68)) (.cells (iv Z12).toArray 68)
  have HB2 := Lib.hid (bel_on HB1.out hbz)
  have HA2 := Lib.hid (HA1.out.keep hbz)
  have HR2 := Lib.hid (Arr.new (w.alloc (.cells (iv x).toArray 68)) (iv Z12) 68)
  obtain ⟨rb, hrb⟩ : ∃ rb, (w.alloc (.cells (iv x).toArray 68)).heap.size = rb := ⟨_, rfl⟩
  have hrbn : rb = w.heap.size + 1 := by rw [← hrb]; simp
  rw [hrb] at HR2
  have H68 := Lib.hid Tryz.underlying68
  have HIX : Hid ((Tryz.prog.info? 68).map (·.size) = some (iv x).length) := Lib.hid (by rw [size79, iv_len, hx])
  have HIB : Hid ((Tryz.prog.info? 68).map (·.size) = some (iv BX).length) := Lib.hid (by rw [size79, iv_len, HBL.out])
  have HOB := Lib.hid (iv_one BX)
  have HLB : Hid ((iv Z12).length = (iv BX).length) := Lib.hid (by rw [iv_len, iv_len, HBL.out]; rfl)
  obtain ⟨XV, hXV⟩ : ∃ XV, iv x = XV := ⟨_, rfl⟩
  rw [hXV] at HLI HB1 HA1 HB2 HA2 HR2 HIX hrb ⊢
  obtain ⟨W2, hW2⟩ : ∃ W2, (w.alloc (.cells XV.toArray 68)).alloc (.cells (iv Z12).toArray 68) = W2 := ⟨_, rfl⟩
  rw [hXV] at hbz
  change Hid (Below w.heap.size w ((w.alloc (.cells XV.toArray 68)).alloc (.cells (iv Z12).toArray 68))) at HB2
  change Hid (Arr ((w.alloc (.cells XV.toArray 68)).alloc (.cells (iv Z12).toArray 68)) w.heap.size 68 XV) at HA2
  change Hid (Arr ((w.alloc (.cells XV.toArray 68)).alloc (.cells (iv Z12).toArray 68)) rb 68 (iv Z12)) at HR2
  rw [hW2] at HB2 HA2 HR2
  have HW2 : Hid ((w.alloc (.cells XV.toArray 68)).alloc (.cells #[.int .i64 0, .int .i64 0, .int .i64 0, .int .i64 0, .int .i64 0, .int .i64 0, .int .i64 0, .int .i64 0, .int .i64 0, .int .i64 0, .int .i64 0, .int .i64 0] 68) = W2) := Lib.hid hW2
  have HRB := Lib.hid hrb
  clear hbz hW2 hXV hBX hll HA1 HB1 hrb HRB
  subst hrbn
  unfold strV at HLI HEV
  go_enter Tryz.func42, Tryz.ntmps42
  go_wp2_with (first
    | ((with_reducible refine arm_row 68 w.heap.size 68 _ HA2.out _ H68.out rfl HIX.out rfl _ rfl ?_ ?_); focus rfl)
    | (rw [HW2.out]))
  refine (HLI.out _).mono ?_
  rintro e w3 ⟨rfl, hb⟩
  have HB3 := Lib.hid (bel_on HB2.out hb)
  have HR3 := Lib.hid (HR2.out.keep hb)
  clear hb HB2 HR2 HA2 HW2 HLI
  go_wp2_with fail
  refine (HEV.out _).mono ?_
  rintro e w4 ⟨rfl, hb⟩
  have hbn := bel_new w4 (.cells (iv BX).toArray 68)
  have HB4 := Lib.hid (bel_on (bel_on HB3.out hb) hbn)
  have HR4 := Lib.hid ((HR3.out.keep hb).keep hbn)
  have HA4 := Lib.hid (Arr.new w4 (iv BX) 68)
  clear hb hbn HB3 HR3 HEV
  go_wp2_with (first
    | ((with_reducible refine arm_new 68 (iv BX) 12 ?_ size79 HOB.out _ rfl rfl _ _ rfl ?_ ?_ ?_); (focus (rw [iv_len, HBL.out])); (focus rfl); (focus rfl))
    | ((with_reducible refine arm_row 68 w4.heap.size 68 _ HA4.out _ H68.out rfl HIB.out rfl _ rfl ?_ ?_); focus rfl)
    | ((with_reducible refine arm_put 68 (w.heap.size + 1) 68 _ _ HR4.out HIB.out HLB.out HOB.out rfl _ _ rfl ?_ ?_ ?_); (focus rfl); (focus rfl)))
  refine bodyPost_ret (v := .agg (iv BX).toArray) (ret_row Tryz.results42 _ _ (w.heap.size + 1) 68 (iv BX) (HR4.out.row _) rfl _ H68.out rfl HIB.out) rfl ?_
  exact ⟨rfl, bel_row HB4.out (by omega) _⟩
set_option maxRecDepth 100000 in
set_option maxHeartbeats 8000000 in
set_option linter.unusedSimpArgs false in
theorem dprint_any (l : List (List Int)) (lv : Value) (w : World) (hl : EvI l) (hll : l.length ≤ 3000) (hlv : Rd w lv l.length (iv l.flatten)) :
    Calls Tryz.prog 43 #[lv] w fun e w' => e = .returned (strV (printT l)) ∧ Below w.heap.size w w' := by
  obtain ⟨PT, hPT⟩ : ∃ PT, printT l = PT := ⟨_, rfl⟩
  rw [hPT]
  have HPT := Lib.hid hPT
  have HL := Lib.hid hl
  obtain ⟨N, hN⟩ : ∃ N, l.length = N := ⟨_, rfl⟩
  have HN := Lib.hid hN
  obtain ⟨A, cap, rfl, hcap, hcm, hrr⟩ := hlv
  have HRR := Lib.hid hrr
  rw [hN] at hcap hll ⊢
  have H68 := Lib.hid Tryz.underlying68
  have HB0 : Hid (Below w.heap.size w w) := Lib.hid (Below.refl _ _)
  clear hrr hl hN hPT
  unfold strV
  go_enter Tryz.func43, Tryz.ntmps43
  go_wp2_with fail
  go_loopw [3, 4] (fun o i wr => ∃ (k : Nat), i = .int .i64 (k : Int) ∧ k ≤ N ∧ o = .string ⟨(printT (l.take k)).toArray⟩ ∧ Hid (Below w.heap.size w wr)) (fun _ i _ => N - (intOf i).toNat)
  case atStart => exact ⟨0, rfl, by omega, rfl, HB0⟩
  case round =>
    clear HB0
    obtain ⟨k, rfl, hk, rfl, HB⟩ := hrel
    by_cases hlt : k < N
    · have hkc : k < l.length := by rw [HN.out]; exact hlt
      have hkI : (k : Int) < (N : Int) := by omega
      obtain ⟨bb, oo, rfl, hbl, hcells⟩ := HRR.out (by omega)
      obtain ⟨hx12, hxI⟩ := HL.out _ (List.getElem_mem hkc)
      have rE : wr.rangeAt bb (oo + k * 12) (iv l[k]) := evLine (fun x hx => (HL.out x hx).1) (cells_at hcells HB.out hbl) hkc
      have hi12 : (Tryz.prog.info? 68).map (·.size) = some (iv l[k]).length := by rw [size79, iv_len, hx12]
      have HTK := Lib.hid (print_take l hkc)
      have HLI := Lib.hid fun w1 => dline_any l[k] w1 hx12 hxI
      have hpl : (printT (l.take k)).length ≤ 684000 := by
        have h1 := print_len (l.take k) fun x hx => HL.out x (List.mem_of_mem_take hx)
        rw [List.length_take] at h1
        omega
      have hlx := line_len l[k] hxI
      obtain ⟨XV, hXV⟩ : ∃ XV, iv l[k] = XV := ⟨_, rfl⟩
      rw [hXV] at rE hi12 HLI
      obtain ⟨LX, hLX⟩ : ∃ LX, lineT l[k] = LX := ⟨_, rfl⟩
      rw [hLX] at HTK HLI hlx
      obtain ⟨DN, hDN⟩ : ∃ DN, printT (l.take k) = DN := ⟨_, rfl⟩
      rw [hDN] at HTK hpl ⊢
      have hu68 := H68.out
      unfold strV at HLI
      clear hcells hDN hLX hXV hx12 hxI
      go_wp2_with ((with_reducible refine arm_range 68 bb (oo + k * 12) XV rE _ hu68 rfl hi12 rfl _ rfl ?_ ?_); focus rfl)
      refine (HLI.out _).mono ?_
      rintro e w3 ⟨rfl, hb⟩
      have HB3 := Lib.hid (bel_on HB.out hb)
      clear hb rE HB HLI
      obtain ⟨D2, hD2⟩ : ∃ D, DN ++ LX = D := ⟨_, rfl⟩
      obtain ⟨D3, hD3⟩ : ∃ D, D2 ++ [10] = D := ⟨_, rfl⟩
      have hd2 : D2.length = DN.length + LX.length := by rw [← hD2, List.length_append]
      have c1 := fun w => cat_run DN LX w (by omega)
      have c2 : ∀ w, (Op.stringOp .add ⟨D2.toArray⟩ ⟨#[10]⟩).run Tryz.prog w = .ok (.string ⟨(D2 ++ [10]).toArray⟩) w := fun w => cat_run D2 [10] w (by simp only [List.length_cons, List.length_nil]; omega)
      rw [hD2] at c1
      rw [hD3] at c2
      have HDK : Hid (D3 = printT (l.take (k + 1))) := Lib.hid (by rw [HTK.out, ← hD3, ← hD2, List.append_assoc])
      clear hD2 hD3 hd2 hlx hpl HTK
      go_wp2_with fail
      go_roundw
      case rel => exact ⟨k + 1, by simp, by omega, by rw [HDK.out], HB3⟩
      case measure => simp [intOf]; omega
    · obtain rfl : k = N := by omega
      have hkI : ¬ (k : Int) < (k : Int) := by omega
      have hfin : printT (l.take k) = PT := by rw [List.take_of_length_le (by rw [HN.out]; exact Nat.le_refl _)]; exact HPT.out
      rw [hfin]
      clear hfin
      go_wp2_with fail
      go_ret
      exact ⟨rfl, HB.out⟩
end Go.Proofs.YtpojhplnhppcpaaGreatDoor
