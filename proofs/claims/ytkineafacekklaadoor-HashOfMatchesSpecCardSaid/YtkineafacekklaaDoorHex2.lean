/- What the law's hex does. -/
import Derived.Test.YtkineafacekklaaDoorSumF
import Derived.Deep.RegionLaw
namespace Go.Proofs.YtkineafacekklaaDoor
open Go.RowKit
def hexc (n : Nat) : UInt8 := [48, 49, 50, 51, 52, 53, 54, 55, 56, 57, 97, 98, 99, 100, 101, 102].getD n 0
def hexL (l : List UInt8) : List UInt8 := l.flatMap fun b => [hexc (b.toNat / 16), hexc (b.toNat % 16)]
theorem hexL_len (l : List UInt8) : (hexL l).length = 2 * l.length := by
  unfold hexL
  induction l with
  | nil => rfl
  | cons z r ih => simp only [List.flatMap_cons, List.length_append, List.length_cons, ih, List.length_nil]; omega
theorem wp_two {o : Oper} {a : Act} {w : World} {K : Act → World → Prop} {Q : Exit → Act → World → Prop} (b1 b2 : UInt8) (s x : Operand) (ho : o.op = .call { callee := .builtin .append, args := #[s, x], argTypes := #[22, 22] })
    (B : Nat) (v : Value) (l : List UInt8) (hs : a.eval s = v) (hown : Own w B v l) (hx : a.eval x = .slice (some ⟨w.heap.size, 0, none⟩) 2 2)
    (hlen : l.length + 2 ≤ 140737488355328) (hB : B ≤ w.heap.size)
    (h : ∀ v' w', Own w' B v' (l ++ [b1, b2]) → Below B w w' → K (a.put o.dst v') w') : o.wp Tryd.prog a (w.alloc (.cells #[.int .u8 (b1.toNat : Int), .int .u8 (b2.toNat : Int)] 5)) K Q := by
  obtain ⟨i0, hi, hz0, hz1, hz2⟩ := info_parts info5
  refine wp_append_own _ s x 22 ho B 5 i0 (.int .u8 0) 1 1 Tryd.underlying22 hi hz0 hz1 hz2 rfl (by decide) v l.length (bv l) hs (World.ownsRow.alloc hown _) ⟨w.heap.size, 0, none⟩ 2 2 (bv [b1, b2]) hx rfl ?_ (bv_one _) (by unfold maxLen; omega) (by omega) (by simp; omega) ?_
  · intro j u hj
    rw [add_lit']
    exact range_new w (bv [b1, b2]) 5 j u hj
  intro v' w' ho' hg _
  refine h v' w' ?_ (((Below.refl B w).alloc hB _).grown hg (by simp; omega) hown.blk)
  unfold Own
  rw [bv_append, List.length_append]
  exact ho'
theorem hexg (i j : Nat) (hi : i = j) (hj : j < 16) : ∀ h : i < (⟨#[48, 49, 50, 51, 52, 53, 54, 55, 56, 57, 97, 98, 99, 100, 101, 102]⟩ : ByteArray).size, (⟨#[48, 49, 50, 51, 52, 53, 54, 55, 56, 57, 97, 98, 99, 100, 101, 102]⟩ : ByteArray)[i]'h = hexc j := by
  subst hi
  have h16 : i = 0 ∨ i = 1 ∨ i = 2 ∨ i = 3 ∨ i = 4 ∨ i = 5 ∨ i = 6 ∨ i = 7 ∨ i = 8 ∨ i = 9 ∨ i = 10 ∨ i = 11 ∨ i = 12 ∨ i = 13 ∨ i = 14 ∨ i = 15 := by omega
  rcases h16 with rfl | rfl | rfl | rfl | rfl | rfl | rfl | rfl | rfl | rfl | rfl | rfl | rfl | rfl | rfl | rfl <;> exact fun _ => rfl
set_option maxRecDepth 100000 in
set_option maxHeartbeats 400000 in
theorem hex_any (s : ByteArray) (w : World) (hl : s.size ≤ 1000) :
    Calls Tryd.prog 37 #[.string s] w fun e w' => e = .returned (.string ⟨(hexL s.data.toList).toArray⟩) ∧ Below w.heap.size w w' := by
  go_enter Tryd.func37, Tryd.ntmps37
  go_wp2_with fail
  go_loopw [4, 5] (fun v i wr => ∃ k : Nat, i = .int .i64 k ∧ k ≤ s.size ∧ Own wr w.heap.size v (hexL (s.data.toList.take k)) ∧ Hid (Below w.heap.size w wr)) (fun _ i _ => s.size - (intOf i).toNat)
  case atStart => exact ⟨0, rfl, by omega, Own.nil _ _, Lib.hid (Below.refl _ _)⟩
  case round =>
    obtain ⟨k, rfl, hk, ho, HB⟩ := hrel
    have hhs := HB.out.size
    by_cases hlt : k < s.size
    · have hkl : k < s.data.toList.length := by rw [Array.length_toList]; exact hlt
      have HT : Hid (hexL (s.data.toList.take (k + 1)) = hexL (s.data.toList.take k) ++ [hexc (s[k].toNat / 16), hexc (s[k].toNat % 16)]) := Lib.hid (by
        rw [List.take_succ_eq_append_getElem hkl]
        unfold hexL
        rw [List.flatMap_append]
        rfl)
      have hln : (hexL (s.data.toList.take k)).length ≤ 2000 := by rw [hexL_len, List.length_take]; omega
      have hu := s[k].toNat_lt
      have hv1 := hexg ((s[k].toNat : Int) / 16).toNat (s[k].toNat / 16) (by omega) (by omega)
      have hv2 := hexg ((s[k].toNat : Int) % 16).toNat (s[k].toNat % 16) (by omega) (by omega)
      generalize hexc (s[k].toNat / 16) = c1 at *
      generalize hexc (s[k].toNat % 16) = c2 at *
      have hw1 : IntKind.u8.wrap ((s[k].toNat : Int) / 16) = (s[k].toNat : Int) / 16 := by rw [IntKind.wrap_u8]; omega
      have hw2 : IntKind.u8.wrap ((s[k].toNat : Int) % 16) = (s[k].toNat : Int) % 16 := by rw [IntKind.wrap_u8]; omega
      have hx1 : (s[k].toNat : Int) / 16 < 16 := by omega
      have hx2 : (s[k].toNat : Int) % 16 < 16 := by omega
      have hm : (s[k].toNat : Int).tmod 16 = (s[k].toNat : Int) % 16 := Int.tmod_eq_emod_of_nonneg (by omega)
      have hx3 : 0 ≤ (s[k].toNat : Int) / 16 := by omega
      have hx4 : 0 ≤ (s[k].toNat : Int) % 16 := by omega
      go_wp2_with fail
      go_region_law ((rw [if_pos (by rfl)]; refine wp_two (w := wr.drew) c1 c2 _ _ rfl w.heap.size u4 _ rfl (ho.below (bel_drew wr)) rfl (by omega) hhs ?_; intro v' w1 ho1 hb1))
      all_goals
        go_wp2_with fail
        go_roundw
        case rel => exact ⟨k + 1, by go_num, by omega, by rw [HT.out]; exact ho1, Lib.hid (bel_on HB.out ((bel_drew wr).mono (Nat.le_refl _)) |>.trans hb1)⟩
        case measure => simp [intOf]; omega
    · obtain rfl : k = s.size := by omega
      have he : s.data.toList.take s.size = s.data.toList := List.take_of_length_le (by rw [Array.length_toList]; exact Nat.le_refl _)
      rw [he] at ho
      obtain ⟨A', cap', rfl, hc1, hc2, hrv⟩ := ho.form
      have hq := conv_str hrv cap'
      clear ho hrv
      generalize (hexL s.data.toList).length = q at *
      go_wp2
      go_ret
      exact ⟨rfl, HB.out⟩
end Go.Proofs.YtkineafacekklaaDoor
