/-
  Print of long lists; what alumref05's Bare and Print do.
-/
import Derived.Test.YtpojhplnhppcpaaGreatDoorQK8Parse
namespace Go.Proofs.YtpojhplnhppcpaaGreatDoor
open Go.RowKit Go.Maps
theorem Sl.rdK {w : World} {e sz n : Nat} {v : Value} {xs : List Value} (h : Sl w e sz v n xs) : Rd w v n xs := by
  obtain ⟨A, cap, rfl, h1, h2, h3, h4⟩ := h.shape
  refine ⟨A, cap, rfl, h1, h2, fun hn => ?_⟩
  cases A with
  | none => have := (h3 rfl).1; omega
  | some ad =>
    obtain ⟨a1, a2, a3⟩ := h4 ad rfl
    obtain ⟨b, o, sp⟩ := ad
    simp only at a1 a2 a3
    subst a1
    exact ⟨b, o, rfl, h.lt a2, a3⟩
set_option maxRecDepth 100000 in
set_option maxHeartbeats 8000000 in
set_option linter.unusedSimpArgs false in
theorem print_big (l : List (List Int)) (lv : Value) (w : World) (hl : EvI l) (hll : l.length ≤ 3000) (hlv : Rd w lv l.length (iv l.flatten)) (hT : TabT w) :
    Calls Tryz.prog 40 #[lv] w fun e w' => e = .returned (strV (printT l)) ∧ Below w.heap.size w w' := by
  obtain ⟨PT, hPT⟩ : ∃ PT, printT l = PT := ⟨_, rfl⟩
  rw [hPT]
  have HPT := Lib.hid hPT
  have HL := Lib.hid hl
  have HT := Lib.hid hT
  have HTB := Lib.hid (Lib.tabBelow_of_tabIs hT.pow)
  obtain ⟨N, hN⟩ : ∃ N, l.length = N := ⟨_, rfl⟩
  have HN := Lib.hid hN
  obtain ⟨A, cap, rfl, hcap, hcm, hrr⟩ := hlv
  have HRR := Lib.hid hrr
  rw [hN] at hcap hll ⊢
  have hu68 := Tryz.underlying68
  obtain ⟨i0, hi, hz0, hz1, hz2⟩ := info_parts infoByte
  have HI0 := Lib.hid hi
  have HZ0 := Lib.hid hz0
  have HZ1 := Lib.hid hz1
  have HZ2 := Lib.hid hz2
  have HO0 : Hid (w.ownsRow w.heap.size 5 1 (.slice none 0 0) (printT (l.take 0)).length (Lib.byteCells (printT (l.take 0)))) := Lib.hid (World.ownsRow_nil _ _ _ _)
  have HB0 : Hid (Below w.heap.size w w) := Lib.hid (Below.refl _ _)
  clear hrr hl hN hT hPT hi hz0 hz1 hz2
  go_enter Tryz.func40, Tryz.ntmps40
  go_wp2_with fail
  go_loopw [3, 8] (fun s i wr => ∃ (k : Nat), i = .int .i64 (k : Int) ∧ k ≤ N ∧ Hid (wr.ownsRow w.heap.size 5 1 s (printT (l.take k)).length (Lib.byteCells (printT (l.take k)))) ∧ Hid (Below w.heap.size w wr)) (fun _ i _ => N - (intOf i).toNat)
  case atStart => exact ⟨0, rfl, by omega, HO0, HB0⟩
  case round =>
    clear HO0 HB0
    obtain ⟨k, rfl, hk, HO, HB⟩ := hrel
    by_cases hlt : k < N
    · have hkc : k < l.length := by rw [HN.out]; exact hlt
      have hkI : (k : Int) < (N : Int) := by omega
      obtain ⟨bb, oo, rfl, hbl, hcells⟩ := HRR.out (by omega)
      obtain ⟨hx12, hxI⟩ := HL.out _ (List.getElem_mem hkc)
      have rE : wr.rangeAt bb (oo + k * 12) (iv l[k]) := evLine (fun x hx => (HL.out x hx).1) (cells_at hcells HB.out hbl) hkc
      have hi12 : (Tryz.prog.info? 68).map (·.size) = some (iv l[k]).length := by rw [size79, iv_len, hx12]
      have HTK := Lib.hid (print_take l hkc)
      have HPL : Hid ((printT (l.take k)).length ≤ 684000) := Lib.hid (by
        have h1 := print_len (l.take k) fun x hx => HL.out x (List.mem_of_mem_take hx)
        rw [List.length_take] at h1
        omega)
      have HLL := Lib.hid (line_len _ hxI)
      generalize l[k] = x at *
      have HO' := Lib.hid (HO.out.alloc (.cells (iv x).toArray 68))
      have HB2 := Lib.hid (bel_on HB.out (bel_new wr (.cells (iv x).toArray 68)))
      have hAX := Arr.new wr (iv x) 68
      obtain ⟨DN, hDN⟩ : ∃ DN, printT (l.take k) = DN := ⟨_, rfl⟩
      rw [hDN] at HO HO' HPL HTK
      have HAL := Lib.hid (addLine_any w.heap.size DN.length x u3 (Lib.byteCells DN) _ hx12 hxI HO'.out HB2.out.size (by have := HPL.out; omega) (HTB.out.on HB2.out) (HT.out.words.keep HT.out.words.lt HB2.out))
      have HOI := Lib.hid (iv_one x)
      have HL12 := Lib.hid hx12
      obtain ⟨SA, sc, rfl⟩ : ∃ A cap, u3 = .slice A DN.length cap := by
        rcases HO.out.2 with ⟨rfl, hz⟩ | ⟨g, cap, cur, rfl, _⟩
        · rw [hz]
          exact ⟨none, 0, rfl⟩
        · exact ⟨_, cap, rfl⟩
      clear hcells hDN HO
      go_wp2_with (first
        | ((with_reducible refine arm_range 68 bb (oo + k * 12) (iv x) rE _ hu68 rfl hi12 rfl _ rfl ?_ ?_); focus rfl)
        | ((with_reducible refine arm_new 68 (iv x) 12 ?_ size79 HOI.out _ rfl rfl _ _ rfl ?_ ?_ ?_); (focus (rw [iv_len, HL12.out])); (focus rfl); (focus rfl))
        | ((with_reducible refine arm_row 68 wr.heap.size 68 (iv x) hAX _ hu68 rfl hi12 rfl _ rfl ?_ ?_); focus rfl))
      refine HAL.out.mono ?_
      rintro e w3 ⟨v3, rfl, hown3, ht3⟩
      have HB3 := Lib.hid (HB2.out.trans ht3.below)
      have HO3 := Lib.hid hown3
      obtain ⟨VA, vc, rfl⟩ : ∃ A cap, v3 = .slice A (DN.length + (lineT x).length) cap := by
        rcases hown3.2 with ⟨rfl, hz⟩ | ⟨g, cap, cur, rfl, _⟩
        · rw [hz]
          exact ⟨none, 0, rfl⟩
        · exact ⟨_, cap, rfl⟩
      have HOA : Hid ((w3.alloc (.cells #[.int .u8 10] 5)).ownsRow w.heap.size 5 1 (.slice VA (DN.length + (lineT x).length) vc) (DN.length + (lineT x).length) (Lib.byteCells DN ++ Lib.byteCells (lineT x))) := Lib.hid (hown3.alloc _)
      have HBA := Lib.hid (bel_on HB3.out (bel_new w3 (.cells #[.int .u8 10] 5)))
      obtain ⟨ll, hll2⟩ : ∃ ll, (lineT x).length = ll := ⟨_, rfl⟩
      rw [hll2] at HOA HLL ⊢
      have HLX := Lib.hid hll2
      clear hown3 ht3 HAL HO' rE hAX hll2
      go_wp2_with (at_builtin; refine wpList_append_own_at _ rfl _ _ 31 rfl w.heap.size 5 i0 _ 1 1 Tryz.underlying31 HI0.out HZ0.out HZ1.out HZ2.out rfl (by decide) _ (DN.length + ll) (Lib.byteCells DN ++ Lib.byteCells (lineT x)) rfl HOA.out ⟨w3.heap.size, 0, none⟩ 1 1 [.int .u8 10] rfl rfl (cell_one_new w3 (.int .u8 10) 5) (by intro u hu; simp only [List.mem_singleton] at hu; subst hu; rfl) (by have := HPL.out; have := HLL.out; unfold maxLen; omega) (by have := HPL.out; have := HLL.out; omega) HBA.out.size ?_; intro v4 w4 hown4 hg4 _ _; have HO4 := Lib.hid hown4; have HB4 := Lib.hid (HBA.out.grown hg4 HBA.out.size (fun q hq => (HOA.out.lt q hq).1)); clear hown4 hg4)
      have HO5 : Hid (w4.ownsRow w.heap.size 5 1 v4 (printT (l.take (k + 1))).length (Lib.byteCells (printT (l.take (k + 1))))) := Lib.hid (by
        have e1 : (Lib.byteCells DN ++ Lib.byteCells (lineT x)) ++ [Value.int .u8 10] = Lib.byteCells (DN ++ (lineT x ++ [10])) := by simp [Lib.byteCells]
        have e2 : DN.length + ll + 1 = (DN ++ (lineT x ++ [10])).length := by rw [← HLX.out]; simp only [List.length_append, List.length_cons, List.length_nil]; omega
        rw [HTK.out, ← e1, ← e2]
        exact HO4.out)
      go_roundw
      case rel => exact ⟨k + 1, by simp, by omega, HO5, HB4⟩
      case measure => simp [intOf]; omega
    · obtain rfl : k = N := by omega
      have hkI : ¬ (k : Int) < (k : Int) := by omega
      have hfin : printT (l.take k) = PT := by rw [List.take_of_length_le (by rw [HN.out]; exact Nat.le_refl _)]; exact HPT.out
      rw [hfin] at HO
      clear hfin
      rcases HO.out.2 with ⟨rfl, hz⟩ | ⟨g, bcap, cur, rfl, _, _, _, _, _, _⟩
      · obtain rfl : PT = [] := List.eq_nil_of_length_eq_zero hz
        have hcv : (convert 31 9 (.slice none 0 0)).run Tryz.prog wr = .ok (.string ⟨#[]⟩) wr := by kernel_rfl
        go_wp2_with fail
        go_ret
        exact ⟨rfl, HB.out⟩
      · have hcv := run_convert_bytes_back (P := Tryz.prog) wr 31 9 5 ⟨g, 0, none⟩ bcap PT Tryz.underlying31 Tryz.underlying5 Tryz.underlying9 (fun j hj => HO.out.cells (g := g) rfl j _ (by simp [Lib.byteCells, hj]))
        have HB9 := Lib.hid HB.out
        have HPT2 := Lib.hid HPT.out
        clear HPT
        go_wp2_with fail
        go_ret
        exact ⟨rfl, HB9.out⟩
end Go.Proofs.YtpojhplnhppcpaaGreatDoor
