/- What the reference's decoder of lists of digests does. -/
import Derived.Test.YtgnhkhcfelmnhaaLst4
namespace Go.Proofs.Ytgnhkhcfelmnhaa
open Go.RowKit
/-- A digest of which the first i bytes are laid. -/
def part (d : List UInt8) (i : Nat) : Array Value := (bv (d.take i) ++ List.replicate (16 - i) (Value.int .u8 0)).toArray
theorem part_zero (d : List UInt8) : part d 0 = #[.int .u8 0, .int .u8 0, .int .u8 0, .int .u8 0, .int .u8 0, .int .u8 0, .int .u8 0, .int .u8 0, .int .u8 0, .int .u8 0, .int .u8 0, .int .u8 0, .int .u8 0, .int .u8 0, .int .u8 0, .int .u8 0] := rfl
theorem part_full (d : List UInt8) (h : d.length = 16) : part d 16 = (bv d).toArray := by
  unfold part
  rw [List.take_of_length_le (by omega)]
  simp
theorem part_cell (d : List UInt8) (h : d.length = 16) (i : Nat) (hi : i < 16) : (part d i)[i]? = some (.int .u8 0) := by
  unfold part
  have h1 : (bv (d.take i)).length = i := by rw [bv_len, List.length_take]; omega
  rw [List.getElem?_toArray, List.getElem?_append_right (by omega), h1, Nat.sub_self]
  obtain ⟨k, hk⟩ : ∃ k, 16 - i = k + 1 := ⟨15 - i, by omega⟩
  rw [hk]
  rfl
theorem part_set (d : List UInt8) (h : d.length = 16) (i : Nat) (hi : i < 16) : (part d i).setIfInBounds i (.int .u8 ((d.getD i 0).toNat : Int)) = part d (i + 1) := by
  rw [getD_get d i (by omega)]
  unfold part
  have h1 : (bv (d.take i)).length = i := by rw [bv_len, List.length_take]; omega
  rw [List.setIfInBounds_toArray, List.set_append_right _ _ (by omega), h1, Nat.sub_self]
  obtain ⟨k, hk⟩ : ∃ k, 16 - i = k + 1 := ⟨15 - i, by omega⟩
  rw [hk, List.replicate_succ, show 16 - (i + 1) = k from by omega, List.set_cons_zero, List.take_succ_eq_append_getElem (by omega), bv_append, List.append_assoc]
  rfl
set_option maxRecDepth 100000 in
set_option maxHeartbeats 1000000 in
theorem rgetDigests_any (A : Option Addr) (cap : Nat) (l : List UInt8) (w : World) (_hcap : l.length ≤ cap) (hr : RV w A (bv l)) (hl : l.length ≤ 1073741824) :
    Calls Try.prog 35 #[.slice A l.length cap] w (DRes w (getS getD16 16 l)) := by
  have hC := rlen_any A cap l 16 w (by omega) (by omega) hr (by omega)
  have hf := getL_fits 16 (by omega) l
  have hE := getS_err (get := getD16) (size := 16) (l := l)
  have hM := getS_rel (get := getD16) (size := 16) (l := l)
  generalize getS getD16 16 l = r at *
  obtain ⟨n, u, f, hg⟩ : ∃ n u f, getL 16 l = (n, u, f) := ⟨_, _, _, rfl⟩
  rw [hg] at hC hf hE hM
  simp only at hf hE hM
  have HC : Hid (Calls Try.prog 46 #[.slice A l.length cap, .int .i64 16] w fun e w' => e = .returned (.tuple #[.int .i64 n, .int .i64 (u : Int), .int .i64 (f : Int)]) ∧ w = w') := hC
  clear hC hg
  by_cases hf0 : f = 0
  · subst hf0
    have hM := hM rfl
    clear hE
    have hf2 : 0 ≤ n ∧ 1 ≤ u ∧ u ≤ 10 ∧ u + n.toNat * 16 ≤ l.length := by
      rcases hf with h | h
      · exact ⟨h.2.1, h.2.2.1, h.2.2.2.1, h.2.2.2.2.1⟩
      · have := h.1; omega
    clear hf
    obtain ⟨hn, hu1, hu2, hu3⟩ := hf2
    obtain ⟨m, rfl⟩ := Int.eq_ofNat_of_zero_le hn
    simp only [Int.toNat_natCast] at hM hu3
    have HM := Lib.hid hM
    clear hM
    go_enter Try.func35, Try.ntmps35
    go_wp2_with (go_at_call 46; refine (HC.out).mono ?_; rintro e w1 ⟨rfl, rfl⟩)
    go_loopw [6, 8, 9] (fun y v t wr => ∃ (k j : Nat) (xs : List (List UInt8)), t = .int .i64 k ∧ k + j = m ∧ xs.length = k ∧ ∃ at_ : Nat, y = .int .i64 at_ ∧ at_ + j * 16 ≤ l.length ∧ Hid (MRel getD16 l r j at_ xs) ∧ OD wr w.heap.size v xs ∧ Below w.heap.size w wr) (fun _ _ t _ => m - (intOf t).toNat)
    case atStart => exact ⟨0, m, [], rfl, by omega, rfl, u, rfl, by omega, HM, World.ownsRow_nil _ _ _ _, Below.refl _ _⟩
    case round =>
      obtain ⟨k, j, xs, rfl, hkj, hxl, at_, rfl, hat, hM, ho, hb⟩ := hrel
      have hhs := hb.size
      have HXL := Lib.hid hxl
      clear hxl
      by_cases hlt : k < m
      · obtain ⟨i, rfl⟩ : ∃ i, j = i + 1 := ⟨j - 1, by omega⟩
        have hat0 : at_ + 16 ≤ l.length := by omega
        have HS : Hid (MRel getD16 l r i (at_ + 16) (xs ++ [(l.drop at_).take 16])) := MRel.step hM.out rfl
        have hd : ((l.drop at_).take 16).length = 16 := by rw [List.length_take, List.length_drop]; omega
        obtain ⟨b, o, rfl, hc⟩ := (hr.below hb) (by intro h; have h1 := congrArg List.length h; rw [bv_len] at h1; simp only [List.length_nil] at h1; omega)
        have hcell : ∀ q (hq : q < 16), wr.cell? ⟨b, o + (at_ + q), none⟩ = some (.int .u8 ((((l.drop at_).take 16).getD q 0).toNat : Int)) := fun q hq => by
          rw [hc (at_ + q) _ (bv_at (by omega)), getD_get _ q (by omega)]
          simp
        have HCL := Lib.hid hcell
        have HR := Lib.hid hr
        clear hr hc hcell
        generalize (l.drop at_).take 16 = d at *
        have HD := Lib.hid hd
        clear hd
        obtain ⟨wo, rfl⟩ : ∃ wo : World, wo = wr := ⟨_, rfl⟩
        go_wp2
        generalize hwg : wo.heap.size = g at *
        have HG := Lib.hid hwg
        clear hwg
        go_loopw [11] (fun t wr => ∃ q : Nat, t = .int .i64 q ∧ q ≤ 16 ∧ Below g wo wr ∧ Hid (wr.heap[g]? = some (.cells (part d q) 57 (0, 0)))) (fun t _ => 16 - (intOf t).toNat)
        case atStart => exact ⟨0, rfl, by omega, by rw [← HG.out]; exact (Below.refl _ _).alloc (Nat.le_refl _) _, by rw [← HG.out, part_zero]; exact heap_alloc_last _ _⟩
        case round =>
          obtain ⟨q, rfl, hq, hbi, HB⟩ := hrel
          by_cases hq16 : q < 16
          · have hcq : wr.cell? ⟨b, o + (at_ + q), none⟩ = some (.int .u8 ((d.getD q 0).toNat : Int)) := by
              have h1 := HCL.out q hq16
              rw [hbi.cell (p := ⟨b, o + (at_ + q), none⟩) (by rw [← HG.out]; exact block_lt_of_cell h1)]
              exact h1
            have hgq : wr.cell? ⟨g, q, none⟩ = some (.int .u8 0) := by
              rw [cell_of_row wr g q _ 57 (0, 0) HB.out]
              exact part_cell d HD.out q hq16
            have hfz := frozen_of_row wr g q _ 57 HB.out
            have HN : Hid ((wr.setCell ⟨g, q, none⟩ (.int .u8 ((d.getD q 0).toNat : Int))).heap[g]? = some (.cells (part d (q + 1)) 57 (0, 0))) := by
              refine Lib.hid ?_
              rw [heap_setCell_same wr g q _ 57 _ HB.out, part_set d HD.out q hq16]
            generalize d.getD q 0 = c at *
            go_wp2
            go_roundw
            case rel => exact ⟨q + 1, by go_num, by omega, hbi.setCell (Nat.le_refl _) _, HN⟩
            case measure => simp [intOf]; omega
          · obtain rfl : q = 16 := by omega
            have HB2 := HB.out
            rw [part_full d HD.out] at HB2
            obtain ⟨c0, c1, c2, c3, c4, c5, c6, c7, c8, c9, c10, c11, c12, c13, c14, c15, rfl⟩ := list16 d HD.out
            have hg0 : wr.cell? ⟨g, 0, none⟩ = some (.int .u8 (c0.toNat : Int)) := by rw [cell_of_row wr g 0 _ 57 (0, 0) HB2]; rfl
            have hg1 : wr.cell? ⟨g, 1, none⟩ = some (.int .u8 (c1.toNat : Int)) := by rw [cell_of_row wr g 1 _ 57 (0, 0) HB2]; rfl
            have hg2 : wr.cell? ⟨g, 2, none⟩ = some (.int .u8 (c2.toNat : Int)) := by rw [cell_of_row wr g 2 _ 57 (0, 0) HB2]; rfl
            have hg3 : wr.cell? ⟨g, 3, none⟩ = some (.int .u8 (c3.toNat : Int)) := by rw [cell_of_row wr g 3 _ 57 (0, 0) HB2]; rfl
            have hg4 : wr.cell? ⟨g, 4, none⟩ = some (.int .u8 (c4.toNat : Int)) := by rw [cell_of_row wr g 4 _ 57 (0, 0) HB2]; rfl
            have hg5 : wr.cell? ⟨g, 5, none⟩ = some (.int .u8 (c5.toNat : Int)) := by rw [cell_of_row wr g 5 _ 57 (0, 0) HB2]; rfl
            have hg6 : wr.cell? ⟨g, 6, none⟩ = some (.int .u8 (c6.toNat : Int)) := by rw [cell_of_row wr g 6 _ 57 (0, 0) HB2]; rfl
            have hg7 : wr.cell? ⟨g, 7, none⟩ = some (.int .u8 (c7.toNat : Int)) := by rw [cell_of_row wr g 7 _ 57 (0, 0) HB2]; rfl
            have hg8 : wr.cell? ⟨g, 8, none⟩ = some (.int .u8 (c8.toNat : Int)) := by rw [cell_of_row wr g 8 _ 57 (0, 0) HB2]; rfl
            have hg9 : wr.cell? ⟨g, 9, none⟩ = some (.int .u8 (c9.toNat : Int)) := by rw [cell_of_row wr g 9 _ 57 (0, 0) HB2]; rfl
            have hg10 : wr.cell? ⟨g, 10, none⟩ = some (.int .u8 (c10.toNat : Int)) := by rw [cell_of_row wr g 10 _ 57 (0, 0) HB2]; rfl
            have hg11 : wr.cell? ⟨g, 11, none⟩ = some (.int .u8 (c11.toNat : Int)) := by rw [cell_of_row wr g 11 _ 57 (0, 0) HB2]; rfl
            have hg12 : wr.cell? ⟨g, 12, none⟩ = some (.int .u8 (c12.toNat : Int)) := by rw [cell_of_row wr g 12 _ 57 (0, 0) HB2]; rfl
            have hg13 : wr.cell? ⟨g, 13, none⟩ = some (.int .u8 (c13.toNat : Int)) := by rw [cell_of_row wr g 13 _ 57 (0, 0) HB2]; rfl
            have hg14 : wr.cell? ⟨g, 14, none⟩ = some (.int .u8 (c14.toNat : Int)) := by rw [cell_of_row wr g 14 _ 57 (0, 0) HB2]; rfl
            have hg15 : wr.cell? ⟨g, 15, none⟩ = some (.int .u8 (c15.toNat : Int)) := by rw [cell_of_row wr g 15 _ 57 (0, 0) HB2]; rfl
            have hz1 := hbi.size
            have hgl : g < wr.heap.size := by
              rcases Nat.lt_or_ge g wr.heap.size with h | h
              · exact h
              · rw [Array.getElem?_eq_none h] at HB2; cases HB2
            have hb1 : Below wo.heap.size wo wr := by rw [HG.out]; exact hbi
            have ho1 : OD wr w.heap.size u8 xs := row_below ho hb1
            have hgb : w.heap.size ≤ wo.heap.size := by rw [HG.out]; exact hhs
            clear HB HB2
            go_wp2_with (at_builtin; go_loud (refine arm_digest (w := wr) [c0, c1, c2, c3, c4, c5, c6, c7, c8, c9, c10, c11, c12, c13, c14, c15] rfl (by rfl) _ _ (by rfl) w.heap.size u8 xs (by rfl) ho1 (by rfl) (by have := HXL.out; omega) (by omega) ?_); intro v3 w3 ho3 hb3)
            go_roundw
            case rel => exact ⟨k + 1, i, xs ++ [[c0, c1, c2, c3, c4, c5, c6, c7, c8, c9, c10, c11, c12, c13, c14, c15]], by go_num, by omega, by have := HXL.out; simp; omega, at_ + 16, by go_num, by omega, HS, ho3, (hb.trans (hb1.mono hgb)).trans hb3⟩
            case measure => simp [intOf]; omega
      · obtain rfl : j = 0 := by omega
        have hE := MRel.stop hM.out
        subst hE
        clear hr
        go_wp2
        go_ret3
        exact ⟨_, rfl, ho, hb⟩
  · have h1 : ((f : Int) == 0) = false := by simp; omega
    have h2 : ((f : Int) != 0) = true := by simp; omega
    have hE := hE hf0
    subst hE
    clear hf0 hf hr hM
    go_enter Try.func35, Try.ntmps35
    go_wp2_with (go_at_call 46; refine (HC.out).mono ?_; rintro e w1 ⟨rfl, rfl⟩)
    go_ret3
    exact ⟨_, rfl, World.ownsRow_nil _ _ _ _, Below.refl _ _⟩
end Go.Proofs.Ytgnhkhcfelmnhaa
