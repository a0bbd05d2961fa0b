/-
  What trace's wordOf and kindOf do; the words of lines in their variable. What trace's addLine does: the line of an event, behind bytes that the caller owns.
-/
import Derived.Test.YtpojhplnhppcpaaGreatDoorQLay
import Derived.Lib.AppendIntMem
import Derived.Lib.AppendStr
import Derived.Lib.ItoaLen
namespace Go.Proofs.YtpojhplnhppcpaaGreatDoor
open Go.RowKit Go.Maps
def wordsT : List (List UInt8) := [[101, 118, 101, 110, 116], [115, 116, 111, 114, 101], [112, 117, 98, 108, 105, 115, 104], [102, 108, 117, 115, 104], [102, 101, 110, 99, 101], [101, 118, 105, 99, 116], [104, 101, 97, 108], [114, 111, 116]]
def strV (l : List UInt8) : Value := .string ⟨l.toArray⟩
/-- The words in their variable. -/
def TabW (w : World) : Prop := w.rangeAt 0 0 (wordsT.map strV)
/-- The word of a kind. -/
def wordK (k : Int) : List UInt8 := if 0 ≤ k ∧ k < 8 then wordsT.getD k.toNat [] else wordsT.getD 0 []
theorem TabW.at {w : World} (h : TabW w) {j : Nat} (hj : j < 8) : w.cell? ⟨0, j, none⟩ = some (strV (wordsT.getD j [])) := by
  have h1 := h j (strV (wordsT.getD j [])) (by
    have hl : j < wordsT.length := hj
    rw [List.getElem?_map, List.getElem?_eq_getElem hl, List.getD_eq_getElem?_getD, List.getElem?_eq_getElem hl]
    rfl)
  simpa using h1
theorem TabW.lt {w : World} (h : TabW w) : 0 < w.heap.size := block_lt_of_cell (h.at (j := 0) (by decide))
theorem TabW.keep {w w2 : World} {B : Nat} (h : TabW w) (hB : 0 < B) (hb : Below B w w2) : TabW w2 := fun j v hv => by
  rw [hb.cell (p := ⟨0, 0 + j, none⟩) hB]
  exact h j v hv
set_option maxRecDepth 100000 in
set_option maxHeartbeats 4000000 in
set_option linter.unusedSimpArgs false in
theorem wordOf_any (k : Int) (w : World) (hT : TabW w) :
    Calls Tryz.prog 114 #[.int .i64 k] w fun e w' => e = .returned (strV (wordK k)) ∧ w' = w := by
  by_cases h0 : 0 ≤ k ∧ k < 8
  · obtain ⟨j, rfl⟩ : ∃ j : Nat, k = (j : Int) := ⟨k.toNat, by omega⟩
    have hc := hT.at (j := j) (by omega)
    have hw : wordK (j : Int) = wordsT.getD j [] := by unfold wordK; rw [if_pos h0, Int.toNat_natCast]
    rw [hw]
    generalize wordsT.getD j [] = W at *
    unfold strV at hc ⊢
    have i0 : ¬ (j : Int) < 0 := by omega
    have i1 : (j : Int) < 8 := by omega
    have i2 : ¬ (8 : Int) ≤ (j : Int) := by omega
    have i3 : j < 8 := by omega
    clear h0 hw hT
    go_enter Tryz.func114, Tryz.ntmps114
    go_wp2_with fail
    go_ret
    exact ⟨rfl, rfl⟩
  · have hc := hT.at (j := 0) (by decide)
    have hw : wordK k = wordsT.getD 0 [] := by unfold wordK; rw [if_neg h0]
    rw [hw]
    generalize wordsT.getD 0 [] = W at *
    unfold strV at hc ⊢
    clear hw hT
    by_cases i0 : k < 0
    · go_enter Tryz.func114, Tryz.ntmps114
      go_wp2_with fail
      go_ret
      exact ⟨rfl, rfl⟩
    · have i2 : (8 : Int) ≤ k := by omega
      have i1 : ¬ k < 8 := by omega
      go_enter Tryz.func114, Tryz.ntmps114
      go_wp2_with fail
      go_ret
      exact ⟨rfl, rfl⟩
/-- The kind of a word. -/
def kindFrom (s : List UInt8) : Nat → Nat → Nat
  | 0, _ => 0
  | n + 1, j => if wordsT.getD j [] = s then j else kindFrom s n (j + 1)
def kindT (s : List UInt8) : Nat := kindFrom s 8 0
theorem kindT_lt (s : List UInt8) : kindT s < 8 := by
  have : ∀ n j, j + n ≤ 8 → kindFrom s n j < 8 := by
    intro n
    induction n with
    | zero => intro j _; exact Nat.zero_lt_succ 7
    | succ n ih =>
      intro j hj
      unfold kindFrom
      split
      · omega
      · exact ih (j + 1) (by omega)
  exact this 8 0 (Nat.le_refl _)
theorem index_w0 (w : World) : (Instr.index 160 (.agg #[.string ⟨#[101, 118, 101, 110, 116]⟩, .string ⟨#[115, 116, 111, 114, 101]⟩, .string ⟨#[112, 117, 98, 108, 105, 115, 104]⟩, .string ⟨#[102, 108, 117, 115, 104]⟩, .string ⟨#[102, 101, 110, 99, 101]⟩, .string ⟨#[101, 118, 105, 99, 116]⟩, .string ⟨#[104, 101, 97, 108]⟩, .string ⟨#[114, 111, 116]⟩]) (.int .i64 0)).run Tryz.prog w = .ok (.string ⟨#[101, 118, 101, 110, 116]⟩) w := by kernel_rfl
theorem index_w1 (w : World) : (Instr.index 160 (.agg #[.string ⟨#[101, 118, 101, 110, 116]⟩, .string ⟨#[115, 116, 111, 114, 101]⟩, .string ⟨#[112, 117, 98, 108, 105, 115, 104]⟩, .string ⟨#[102, 108, 117, 115, 104]⟩, .string ⟨#[102, 101, 110, 99, 101]⟩, .string ⟨#[101, 118, 105, 99, 116]⟩, .string ⟨#[104, 101, 97, 108]⟩, .string ⟨#[114, 111, 116]⟩]) (.int .i64 1)).run Tryz.prog w = .ok (.string ⟨#[115, 116, 111, 114, 101]⟩) w := by kernel_rfl
theorem index_w2 (w : World) : (Instr.index 160 (.agg #[.string ⟨#[101, 118, 101, 110, 116]⟩, .string ⟨#[115, 116, 111, 114, 101]⟩, .string ⟨#[112, 117, 98, 108, 105, 115, 104]⟩, .string ⟨#[102, 108, 117, 115, 104]⟩, .string ⟨#[102, 101, 110, 99, 101]⟩, .string ⟨#[101, 118, 105, 99, 116]⟩, .string ⟨#[104, 101, 97, 108]⟩, .string ⟨#[114, 111, 116]⟩]) (.int .i64 2)).run Tryz.prog w = .ok (.string ⟨#[112, 117, 98, 108, 105, 115, 104]⟩) w := by kernel_rfl
theorem index_w3 (w : World) : (Instr.index 160 (.agg #[.string ⟨#[101, 118, 101, 110, 116]⟩, .string ⟨#[115, 116, 111, 114, 101]⟩, .string ⟨#[112, 117, 98, 108, 105, 115, 104]⟩, .string ⟨#[102, 108, 117, 115, 104]⟩, .string ⟨#[102, 101, 110, 99, 101]⟩, .string ⟨#[101, 118, 105, 99, 116]⟩, .string ⟨#[104, 101, 97, 108]⟩, .string ⟨#[114, 111, 116]⟩]) (.int .i64 3)).run Tryz.prog w = .ok (.string ⟨#[102, 108, 117, 115, 104]⟩) w := by kernel_rfl
theorem index_w4 (w : World) : (Instr.index 160 (.agg #[.string ⟨#[101, 118, 101, 110, 116]⟩, .string ⟨#[115, 116, 111, 114, 101]⟩, .string ⟨#[112, 117, 98, 108, 105, 115, 104]⟩, .string ⟨#[102, 108, 117, 115, 104]⟩, .string ⟨#[102, 101, 110, 99, 101]⟩, .string ⟨#[101, 118, 105, 99, 116]⟩, .string ⟨#[104, 101, 97, 108]⟩, .string ⟨#[114, 111, 116]⟩]) (.int .i64 4)).run Tryz.prog w = .ok (.string ⟨#[102, 101, 110, 99, 101]⟩) w := by kernel_rfl
theorem index_w5 (w : World) : (Instr.index 160 (.agg #[.string ⟨#[101, 118, 101, 110, 116]⟩, .string ⟨#[115, 116, 111, 114, 101]⟩, .string ⟨#[112, 117, 98, 108, 105, 115, 104]⟩, .string ⟨#[102, 108, 117, 115, 104]⟩, .string ⟨#[102, 101, 110, 99, 101]⟩, .string ⟨#[101, 118, 105, 99, 116]⟩, .string ⟨#[104, 101, 97, 108]⟩, .string ⟨#[114, 111, 116]⟩]) (.int .i64 5)).run Tryz.prog w = .ok (.string ⟨#[101, 118, 105, 99, 116]⟩) w := by kernel_rfl
theorem index_w6 (w : World) : (Instr.index 160 (.agg #[.string ⟨#[101, 118, 101, 110, 116]⟩, .string ⟨#[115, 116, 111, 114, 101]⟩, .string ⟨#[112, 117, 98, 108, 105, 115, 104]⟩, .string ⟨#[102, 108, 117, 115, 104]⟩, .string ⟨#[102, 101, 110, 99, 101]⟩, .string ⟨#[101, 118, 105, 99, 116]⟩, .string ⟨#[104, 101, 97, 108]⟩, .string ⟨#[114, 111, 116]⟩]) (.int .i64 6)).run Tryz.prog w = .ok (.string ⟨#[104, 101, 97, 108]⟩) w := by kernel_rfl
theorem index_w7 (w : World) : (Instr.index 160 (.agg #[.string ⟨#[101, 118, 101, 110, 116]⟩, .string ⟨#[115, 116, 111, 114, 101]⟩, .string ⟨#[112, 117, 98, 108, 105, 115, 104]⟩, .string ⟨#[102, 108, 117, 115, 104]⟩, .string ⟨#[102, 101, 110, 99, 101]⟩, .string ⟨#[101, 118, 105, 99, 116]⟩, .string ⟨#[104, 101, 97, 108]⟩, .string ⟨#[114, 111, 116]⟩]) (.int .i64 7)).run Tryz.prog w = .ok (.string ⟨#[114, 111, 116]⟩) w := by kernel_rfl
set_option maxRecDepth 100000 in
set_option maxHeartbeats 4000000 in
set_option linter.unusedSimpArgs false in
theorem kindOf_any (s : List UInt8) (w : World) (hT : TabW w) :
    Calls Tryz.prog 84 #[strV s] w fun e w' => e = .returned (.int .i64 ((kindT s : Nat) : Int)) ∧ Below w.heap.size w w' := by
  have c0 : w.cell? ⟨0, 0, none⟩ = some (.string ⟨#[101, 118, 101, 110, 116]⟩) := hT.at (j := 0) (by decide)
  have c1 : w.cell? ⟨0, 1, none⟩ = some (.string ⟨#[115, 116, 111, 114, 101]⟩) := hT.at (j := 1) (by decide)
  have c2 : w.cell? ⟨0, 2, none⟩ = some (.string ⟨#[112, 117, 98, 108, 105, 115, 104]⟩) := hT.at (j := 2) (by decide)
  have c3 : w.cell? ⟨0, 3, none⟩ = some (.string ⟨#[102, 108, 117, 115, 104]⟩) := hT.at (j := 3) (by decide)
  have c4 : w.cell? ⟨0, 4, none⟩ = some (.string ⟨#[102, 101, 110, 99, 101]⟩) := hT.at (j := 4) (by decide)
  have c5 : w.cell? ⟨0, 5, none⟩ = some (.string ⟨#[101, 118, 105, 99, 116]⟩) := hT.at (j := 5) (by decide)
  have c6 : w.cell? ⟨0, 6, none⟩ = some (.string ⟨#[104, 101, 97, 108]⟩) := hT.at (j := 6) (by decide)
  have c7 : w.cell? ⟨0, 7, none⟩ = some (.string ⟨#[114, 111, 116]⟩) := hT.at (j := 7) (by decide)
  obtain ⟨R, hR⟩ : ∃ R, kindT s = R := ⟨_, rfl⟩
  rw [hR]
  have HR : Hid (R = kindFrom s 8 0) := Lib.hid hR.symm
  clear hR
  unfold strV
  go_enter Tryz.func84, Tryz.ntmps84
  clear hT
  go_wp2_with fail
  go_loopw [6] (fun i wr => ∃ j : Nat, i = .int .i64 (j : Int) ∧ j ≤ 8 ∧ Hid (R = kindFrom s (8 - j) j) ∧ Hid (Below w.heap.size w wr)) (fun i _ => 8 - (intOf i).toNat)
  case atStart => exact ⟨0, rfl, by omega, HR, Lib.hid (Below.refl _ _)⟩
  case round =>
    clear HR
    obtain ⟨j, rfl, hj, HR, HB⟩ := hrel
    by_cases hlt : j < 8
    · have hjI : (j : Int) < 8 := by omega
      have hst := HR.out
      rw [show 8 - j = (8 - (j + 1)) + 1 by omega] at hst
      change R = (if wordsT.getD j [] = s then j else kindFrom s (8 - (j + 1)) (j + 1)) at hst
      have HST := Lib.hid hst
      clear hst HR c0 c1 c2 c3 c4 c5 c6 c7
      have hc : j = 0 ∨ j = 1 ∨ j = 2 ∨ j = 3 ∨ j = 4 ∨ j = 5 ∨ j = 6 ∨ j = 7 := by omega
      rcases hc with rfl | rfl | rfl | rfl | rfl | rfl | rfl | rfl
      · have hix := index_w0 wr
        have hwk : wordsT.getD 0 [] = [101, 118, 101, 110, 116] := rfl
        rw [hwk] at HST
        by_cases hs : [101, 118, 101, 110, 116] = s
        · have hr : R = 0 := HST.out.trans (if_pos hs)
          subst hr
          subst hs
          go_wp2_with fail
          go_ret
          exact ⟨rfl, HB.out⟩
        · have HR2 : Hid (R = kindFrom s (8 - (0 + 1)) (0 + 1)) := Lib.hid (HST.out.trans (if_neg hs))
          have hse : (([101, 118, 101, 110, 116] : List UInt8) == s) = false := by rw [beq_eq_false_iff_ne]; exact hs
          clear HST hs
          go_wp2_with fail
          go_roundw
          case rel => exact ⟨0 + 1, by simp, by omega, HR2, HB⟩
          case measure => simp [intOf]
      · have hix := index_w1 wr
        have hwk : wordsT.getD 1 [] = [115, 116, 111, 114, 101] := rfl
        rw [hwk] at HST
        by_cases hs : [115, 116, 111, 114, 101] = s
        · have hr : R = 1 := HST.out.trans (if_pos hs)
          subst hr
          subst hs
          go_wp2_with fail
          go_ret
          exact ⟨rfl, HB.out⟩
        · have HR2 : Hid (R = kindFrom s (8 - (1 + 1)) (1 + 1)) := Lib.hid (HST.out.trans (if_neg hs))
          have hse : (([115, 116, 111, 114, 101] : List UInt8) == s) = false := by rw [beq_eq_false_iff_ne]; exact hs
          clear HST hs
          go_wp2_with fail
          go_roundw
          case rel => exact ⟨1 + 1, by simp, by omega, HR2, HB⟩
          case measure => simp [intOf]
      · have hix := index_w2 wr
        have hwk : wordsT.getD 2 [] = [112, 117, 98, 108, 105, 115, 104] := rfl
        rw [hwk] at HST
        by_cases hs : [112, 117, 98, 108, 105, 115, 104] = s
        · have hr : R = 2 := HST.out.trans (if_pos hs)
          subst hr
          subst hs
          go_wp2_with fail
          go_ret
          exact ⟨rfl, HB.out⟩
        · have HR2 : Hid (R = kindFrom s (8 - (2 + 1)) (2 + 1)) := Lib.hid (HST.out.trans (if_neg hs))
          have hse : (([112, 117, 98, 108, 105, 115, 104] : List UInt8) == s) = false := by rw [beq_eq_false_iff_ne]; exact hs
          clear HST hs
          go_wp2_with fail
          go_roundw
          case rel => exact ⟨2 + 1, by simp, by omega, HR2, HB⟩
          case measure => simp [intOf]
      · have hix := index_w3 wr
        have hwk : wordsT.getD 3 [] = [102, 108, 117, 115, 104] := rfl
        rw [hwk] at HST
        by_cases hs : [102, 108, 117, 115, 104] = s
        · have hr : R = 3 := HST.out.trans (if_pos hs)
          subst hr
          subst hs
          go_wp2_with fail
          go_ret
          exact ⟨rfl, HB.out⟩
        · have HR2 : Hid (R = kindFrom s (8 - (3 + 1)) (3 + 1)) := Lib.hid (HST.out.trans (if_neg hs))
          have hse : (([102, 108, 117, 115, 104] : List UInt8) == s) = false := by rw [beq_eq_false_iff_ne]; exact hs
          clear HST hs
          go_wp2_with fail
          go_roundw
          case rel => exact ⟨3 + 1, by simp, by omega, HR2, HB⟩
          case measure => simp [intOf]
      · have hix := index_w4 wr
        have hwk : wordsT.getD 4 [] = [102, 101, 110, 99, 101] := rfl
        rw [hwk] at HST
        by_cases hs : [102, 101, 110, 99, 101] = s
        · have hr : R = 4 := HST.out.trans (if_pos hs)
          subst hr
          subst hs
          go_wp2_with fail
          go_ret
          exact ⟨rfl, HB.out⟩
        · have HR2 : Hid (R = kindFrom s (8 - (4 + 1)) (4 + 1)) := Lib.hid (HST.out.trans (if_neg hs))
          have hse : (([102, 101, 110, 99, 101] : List UInt8) == s) = false := by rw [beq_eq_false_iff_ne]; exact hs
          clear HST hs
          go_wp2_with fail
          go_roundw
          case rel => exact ⟨4 + 1, by simp, by omega, HR2, HB⟩
          case measure => simp [intOf]
      · have hix := index_w5 wr
        have hwk : wordsT.getD 5 [] = [101, 118, 105, 99, 116] := rfl
        rw [hwk] at HST
        by_cases hs : [101, 118, 105, 99, 116] = s
        · have hr : R = 5 := HST.out.trans (if_pos hs)
          subst hr
          subst hs
          go_wp2_with fail
          go_ret
          exact ⟨rfl, HB.out⟩
        · have HR2 : Hid (R = kindFrom s (8 - (5 + 1)) (5 + 1)) := Lib.hid (HST.out.trans (if_neg hs))
          have hse : (([101, 118, 105, 99, 116] : List UInt8) == s) = false := by rw [beq_eq_false_iff_ne]; exact hs
          clear HST hs
          go_wp2_with fail
          go_roundw
          case rel => exact ⟨5 + 1, by simp, by omega, HR2, HB⟩
          case measure => simp [intOf]
      · have hix := index_w6 wr
        have hwk : wordsT.getD 6 [] = [104, 101, 97, 108] := rfl
        rw [hwk] at HST
        by_cases hs : [104, 101, 97, 108] = s
        · have hr : R = 6 := HST.out.trans (if_pos hs)
          subst hr
          subst hs
          go_wp2_with fail
          go_ret
          exact ⟨rfl, HB.out⟩
        · have HR2 : Hid (R = kindFrom s (8 - (6 + 1)) (6 + 1)) := Lib.hid (HST.out.trans (if_neg hs))
          have hse : (([104, 101, 97, 108] : List UInt8) == s) = false := by rw [beq_eq_false_iff_ne]; exact hs
          clear HST hs
          go_wp2_with fail
          go_roundw
          case rel => exact ⟨6 + 1, by simp, by omega, HR2, HB⟩
          case measure => simp [intOf]
      · have hix := index_w7 wr
        have hwk : wordsT.getD 7 [] = [114, 111, 116] := rfl
        rw [hwk] at HST
        by_cases hs : [114, 111, 116] = s
        · have hr : R = 7 := HST.out.trans (if_pos hs)
          subst hr
          subst hs
          go_wp2_with fail
          go_ret
          exact ⟨rfl, HB.out⟩
        · have HR2 : Hid (R = kindFrom s (8 - (7 + 1)) (7 + 1)) := Lib.hid (HST.out.trans (if_neg hs))
          have hse : (([114, 111, 116] : List UInt8) == s) = false := by rw [beq_eq_false_iff_ne]; exact hs
          clear HST hs
          go_wp2_with fail
          go_roundw
          case rel => exact ⟨7 + 1, by simp, by omega, HR2, HB⟩
          case measure => simp [intOf]
    · obtain rfl : j = 8 := by omega
      have hr : R = 0 := HR.out
      subst hr
      go_wp2_with fail
      go_ret
      exact ⟨rfl, HB.out⟩
end Go.Proofs.YtpojhplnhppcpaaGreatDoor
namespace Go.Proofs.YtpojhplnhppcpaaGreatDoor
open Go.RowKit Go.Maps
/-- The line of an event. -/
def fieldT (x : List Int) (i : Nat) : List UInt8 := 32 :: Lib.itoa (x.getD i 0)
def lineT (x : List Int) : List UInt8 := wordK (x.getD 0 0) ++ (idxK (x.getD 0 0)).flatMap (fieldT x)
/-- What a text function does to the heap: blocks from B on are written, and of those that were there only rows of bytes. -/
structure Txt (B : Nat) (w w' : World) : Prop where
  below : Below B w w'
  others : Lib.OthersKept 5 none w w'
theorem Txt.refl (B : Nat) (w : World) : Txt B w w := ⟨Below.refl _ _, Lib.OthersKept.refl _ _ _⟩
theorem Txt.trans {B : Nat} {w w1 w2 : World} (h : Txt B w w1) (k : Txt B w1 w2) : Txt B w w2 := ⟨h.below.trans k.below, h.others.trans k.others⟩
theorem Txt.of_below {B : Nat} {w w' : World} (hB : B ≤ w.heap.size) (h : Below w.heap.size w w') : Txt B w w' :=
  ⟨h.mono hB, fun k _ hk _ _ => (h.block k (lt_of_block hk)).trans hk⟩
theorem Txt.of_grown {B n : Nat} {w w' : World} {v : Value} {xs : List Value} (hown : w.ownsRow B 5 1 v n xs) (hB : B ≤ w.heap.size) (hg : w.grownBy w' v.ownBlock) : Txt B w w' := by
  refine ⟨(Below.refl B w).grown hg hB fun k hk => (hown.lt k hk).1, fun k o hk _ ho => (hg.block k (lt_of_block hk) fun e => ?_).trans hk⟩
  rcases hown.2 with ⟨rfl, _⟩ | ⟨g, cap, cur, rfl, _, hb, _⟩
  · simp [Value.ownBlock] at e
  · simp only [Value.ownBlock, Option.some.injEq] at e
    subst e
    rw [hb] at hk
    exact ho _ _ (Option.some.inj hk).symm
theorem Txt.size {B : Nat} {w w' : World} (h : Txt B w w') : w.heap.size ≤ w'.heap.size := h.below.size
/-- What is no row of bytes stays. -/
theorem Txt.arr {B b : Nat} {w w' : World} {t : TypeId} {cs : List Value} (h : Txt B w w') (hA : Arr w b t cs) (ht : t ≠ 5) : Arr w' b t cs := h.others b _ hA (by simp) fun c fz e => by
  simp only [Obj.cells.injEq] at e
  exact ht e.2.1
theorem Txt.sl {B e sz n : Nat} {w w' : World} {v : Value} {xs : List Value} (h : Txt B w w') (hS : Sl w e sz v n xs) (ht : e ≠ 5) : Sl w' e sz v n xs := hS.keep fun g hg => by
  rcases hS.2 with ⟨rfl, _⟩ | ⟨g', o, cap, cur, rfl, hb, _⟩
  · simp [Value.ownBlock] at hg
  · simp only [Value.ownBlock, Option.some.injEq] at hg
    subst hg
    rw [hb]
    exact h.others g' _ hb (by simp) fun c fz e2 => by
      simp only [Obj.cells.injEq] at e2
      exact ht e2.2.1
theorem iv_nth {x : List Int} {j : Nat} (h : j < x.length) : (iv x)[j]? = some (.int .i64 (x.getD j 0)) := by
  unfold iv
  rw [List.getElem?_map, List.getElem?_eq_getElem h, List.getD_eq_getElem?_getD, List.getElem?_eq_getElem h]
  rfl
theorem infoByte : (Tryz.prog.info? 5).map (fun i => (i.zero, i.size, i.bytes)) = some (some (.int .u8 0), 1, 1) := by kernel_rfl
theorem line_take (x : List Int) (is : List Nat) {j : Nat} (h : j < is.length) : (is.take (j + 1)).flatMap (fieldT x) = (is.take j).flatMap (fieldT x) ++ fieldT x is[j] := by
  rw [take_snoc' is j h, List.flatMap_append]
  simp
theorem idxK_small (k : Int) : (idxK k).length ≤ 10 ∧ ∀ i ∈ idxK k, i < 12 := by
  unfold idxK
  (repeat' split) <;> simp
theorem word_len (k : Int) : (wordK k).length ≤ 7 := by
  unfold wordK
  split
  · rename_i h
    have hc : k.toNat = 0 ∨ k.toNat = 1 ∨ k.toNat = 2 ∨ k.toNat = 3 ∨ k.toNat = 4 ∨ k.toNat = 5 ∨ k.toNat = 6 ∨ k.toNat = 7 := by omega
    rcases hc with h | h | h | h | h | h | h | h <;> rw [h] <;> decide
  · decide
theorem field_len (x : List Int) (hx : ∀ z ∈ x, I64 z) (i : Nat) : (fieldT x i).length ≤ 22 := by
  have h := getD_I hx i
  unfold I64 at h
  have := Lib.itoa_length_le (x.getD i 0) h.1 (by omega)
  unfold fieldT
  simp only [List.length_cons]
  omega
theorem fields_len (x : List Int) (hx : ∀ z ∈ x, I64 z) : ∀ is : List Nat, (is.flatMap (fieldT x)).length ≤ is.length * 22
  | [] => by simp
  | i :: r => by
    have h1 := field_len x hx i
    have h2 := fields_len x hx r
    simp only [List.flatMap_cons, List.length_append, List.length_cons]
    omega
theorem line_len (x : List Int) (hx : ∀ z ∈ x, I64 z) : (lineT x).length ≤ 227 := by
  have h1 := word_len (x.getD 0 0)
  have h2 := fields_len x hx (idxK (x.getD 0 0))
  have h3 := (idxK_small (x.getD 0 0)).1
  unfold lineT
  rw [List.length_append]
  omega
/-- append on a row of the caller's own, where the operation stands alone. -/
theorem wp_append_own {o : Oper} {a : Act} {K : Act → World → Prop} {Q : Exit → Act → World → Prop} {w : World} (s x : Operand) (t : TypeId)
    (ho : o.op = .call { callee := .builtin .append, args := #[s, x], argTypes := #[t, t] })
    (base : Nat) (e : TypeId) (i : TypeInfo) (z : Value) (size bytes : Nat) (ht : Tryz.prog.underlying t = some (.slice e)) (hi : Tryz.prog.info? e = some i) (hz : i.zero = some z)
    (hsize : i.size = size) (hby : i.bytes = bytes) (hzs : z.cells.size = size) (hsz : 0 < size)
    (v : Value) (n : Nat) (xs : List Value) (hs : a.eval s = v) (hown : w.ownsRow base e size v n xs)
    (ad : Addr) (m c : Nat) (news : List Value) (hx : a.eval x = .slice (some ad) m c) (hl : news.length = m * size) (hnews : ∀ j u, news[j]? = some u → w.cell? (ad.add j) = some u) (h1 : ∀ u ∈ news, u.oneCell' = true)
    (h63 : n + m ≤ maxLen) (hbytes : (n + m) * bytes ≤ 140737488355328) (hbase : base ≤ w.heap.size)
    (h : ∀ v' w', w'.ownsRow base e size v' (n + m) (xs ++ news) → w.grownBy w' v.ownBlock → K (a.put o.dst v') w') : o.wp Tryz.prog a w K Q := by
  obtain ⟨v', w', hr, h2, h3, _, _⟩ := run_append_own_at (P := Tryz.prog) w base t o.type e i z size bytes ht hi hz hsize hby hzs hsz v n xs hown ad m c news hl hnews h1 h63 hbytes hbase
  unfold Oper.wp execOp
  simp only [ho, resolve, invoke, builtin, Sem.run_bind, Sem.run_pure, Result.andThen_ok, List.map_toArray, List.map_cons, List.map_nil, hs, hx, hr]
  exact h v' w' h2 h3
set_option maxRecDepth 100000 in
set_option maxHeartbeats 8000000 in
set_option linter.unusedSimpArgs false in
theorem addLine_any (B n : Nat) (x : List Int) (sv : Value) (xs : List Value) (w : World) (hx : x.length = 12) (hxI : ∀ z ∈ x, I64 z) (hown : w.ownsRow B 5 1 sv n xs) (hB : B ≤ w.heap.size) (hn : n ≤ 1000000000)
    (htab : Lib.TabBelow Tryz.prog B w "internal/strconv.uint64pow10" .u64 Lib.pow10Tab) (hW : TabW w) :
    Calls Tryz.prog 82 #[sv, .agg (iv x).toArray] w fun e w' => ∃ v', e = .returned v' ∧ w'.ownsRow B 5 1 v' (n + (lineT x).length) (xs ++ Lib.byteCells (lineT x)) ∧ Txt B w w' := by
  have hb1 := bel_new w (.cells (iv x).toArray 68)
  have hA1 := Arr.new w (iv x) 68
  have HT1 := Lib.hid (Txt.of_below hB hb1)
  have hW1 : TabW (w.alloc (.cells (iv x).toArray 68)) := hW.keep hW.lt hb1
  have hown1 := hown.alloc (.cells (iv x).toArray 68)
  have e0 := hA1.cell (iv_nth (x := x) (j := 0) (by omega))
  obtain ⟨LN, hLN⟩ : ∃ LN, lineT x = LN := ⟨_, rfl⟩
  have HLN : Hid (LN = wordK (x.getD 0 0) ++ (idxK (x.getD 0 0)).flatMap (fieldT x)) := Lib.hid hLN.symm
  have HLL : Hid (LN.length ≤ 227) := Lib.hid (by rw [← hLN]; exact line_len x hxI)
  rw [hLN]
  have HFI := Lib.hid fun w2 (h : Arr w2 w.heap.size 68 (iv x)) => fields_any w.heap.size x w2 hx h
  have HXL := Lib.hid hx
  have HXI := Lib.hid hxI
  have HKS := Lib.hid (idxK_small (x.getD 0 0))
  have HWL := Lib.hid (word_len (x.getD 0 0))
  obtain ⟨k, hk⟩ : ∃ k, x.getD 0 0 = k := ⟨_, rfl⟩
  rw [hk] at e0 HLN HFI HKS HWL
  have HWO := Lib.hid (wordOf_any k _ hW1)
  have hsl : ∃ A cap, sv = .slice A n cap := by
    rcases hown.2 with ⟨rfl, hz⟩ | ⟨g, cap, cur, rfl, _⟩
    · subst hz
      exact ⟨none, 0, rfl⟩
    · exact ⟨_, cap, rfl⟩
  obtain ⟨SA, scap, rfl⟩ := hsl
  have HO1 := Lib.hid hown1
  have HA1 := Lib.hid hA1
  have HTB := Lib.hid htab
  have HBB : Hid (B ≤ (w.alloc (.cells (iv x).toArray 68)).heap.size) := Lib.hid (by simp; omega)
  have hnB := hB
  obtain ⟨W1, hW1'⟩ : ∃ W1, w.alloc (.cells (iv x).toArray 68) = W1 := ⟨_, rfl⟩
  rw [hW1'] at HT1 e0 HWO HO1 HA1 HBB
  obtain ⟨i0, hi, hz0, hz1, hz2⟩ := info_parts infoByte
  have HI0 := Lib.hid hi
  have HZ0 := Lib.hid hz0
  have HZ1 := Lib.hid hz1
  have HZ2 := Lib.hid hz2
  clear hx hxI hown hW hW1 hown1 htab hb1 hA1 hLN hk hi hz0 hz1 hz2
  go_enter Tryz.func82, Tryz.ntmps82
  go_wp2_with (first
    | (go_at_call 114; refine HWO.out.mono ?_; rintro e w' ⟨rfl, hw'⟩; obtain rfl := hw'.symm; unfold strV)
    | (at_builtin; go_loud (refine Lib.wpList_append_own_string _ rfl _ _ 31 9 rfl B 5 i0 Tryz.underlying31 Tryz.underlying9 HI0.out HZ0.out HZ1.out HZ2.out _ n xs rfl HO1.out ⟨(wordK k).toArray⟩ rfl (by unfold maxLen; have := HWL.out; simp [ByteArray.size]; omega) (by have := HWL.out; simp [ByteArray.size]; omega) HBB.out ?_); intro v2 w2 hown2 hg2 hnil2; refine Hid.out ?_))
  refine Lib.hid ?_
  --CONT
  have HT2 := Lib.hid (HT1.out.trans (Txt.of_grown HO1.out HBB.out hg2))
  have HT12 := Lib.hid (Txt.of_grown HO1.out HBB.out hg2)
  have HA2 : Hid (Arr w2 w.heap.size 68 (iv x)) := Lib.hid (HT12.out.arr HA1.out (by decide))
  have hown2' : w2.ownsRow B 5 1 v2 (n + (wordK k).length) (xs ++ Lib.byteCells (wordK k)) := hown2
  have HO2 := Lib.hid hown2'
  have HFI2 := Lib.hid (HFI.out w2 HA2.out)
  have hB2 : B ≤ w2.heap.size := Nat.le_trans HBB.out HT12.out.size
  obtain ⟨V2A, V2c, rfl⟩ : ∃ A cap, v2 = .slice A (n + (wordK k).length) cap := by
    rcases hown2'.2 with ⟨rfl, hz⟩ | ⟨g, cap, cur, rfl, _⟩
    · rw [hz]
      exact ⟨none, 0, rfl⟩
    · exact ⟨_, cap, rfl⟩
  obtain ⟨IS, hIS⟩ : ∃ IS, idxK k = IS := ⟨_, rfl⟩
  rw [hIS] at HLN HKS HFI2
  obtain ⟨WK, hWK⟩ : ∃ WK, wordK k = WK := ⟨_, rfl⟩
  rw [hWK] at HLN HWL HO2 ⊢
  clear hown2 hown2' hg2 hnil2 HT1 HT12 HFI HWO HA1 HO1 hIS hWK
  go_wp2_with fail
  refine HFI2.out.mono ?_
  rintro e w3 ⟨pv, rfl, hps⟩
  have HPS := Lib.hid hps
  have HT3 := Lib.hid (HT2.out.trans (Txt.of_below hB2 hps.below))
  have HA3 : Hid (Arr w3 w.heap.size 68 (iv x)) := Lib.hid (HA2.out.keep hps.below)
  have HO3 : Hid (w3.ownsRow B 5 1 (.slice V2A (n + WK.length) V2c) (n + WK.length) (xs ++ Lib.byteCells WK)) := Lib.hid (by
    refine ⟨HO2.out.1, ?_⟩
    rcases HO2.out.2 with h0 | ⟨g, cap, cur, hv, hb, hh, r⟩
    · exact .inl h0
    · exact .inr ⟨g, cap, cur, hv, hb, (hps.below.block g (lt_of_block hh)).trans hh, r⟩)
  have hB3 : B ≤ w3.heap.size := Nat.le_trans hB2 hps.below.size
  obtain ⟨PA, pcap, rfl, hpc, hpm, hp0, hpc2⟩ := hps.sl.shape
  have HPZ : Hid (PA = none → IS.length = 0) := Lib.hid fun h => (hp0 h).1
  have hpc3 : pcap ≤ 9223372036854775807 := by unfold maxLen at hpm; omega
  obtain ⟨M, hM⟩ : ∃ M, IS.length = M := ⟨_, rfl⟩
  have HM := Lib.hid hM
  have hM10 : M ≤ 10 := by rw [← hM]; exact HKS.out.1
  have HPSL := Lib.hid hps.sl
  rw [hM] at HPSL HPZ hpc ⊢
  have HD0 : Hid (WK = WK ++ (IS.take 0).flatMap (fieldT x)) := Lib.hid (by simp)
  have HO4 : Hid (w3.ownsRow B 5 1 (.slice V2A (n + WK.length) V2c) (n + (WK ++ (IS.take 0).flatMap (fieldT x)).length) (xs ++ Lib.byteCells (WK ++ (IS.take 0).flatMap (fieldT x)))) := Lib.hid (by rw [← HD0.out]; exact HO3.out)
  have HTT0 : Hid (Txt B w3 w3) := Lib.hid (Txt.refl _ _)
  clear hps HFI2 HT2 HA2 HO2 hp0 hpc2 hpm hM HD0 HO3
  go_wp2_with fail
  go_loopw [0, 14] (fun s i wr => ∃ (j : Nat), i = .int .i64 (j : Int) ∧ j ≤ M ∧ Hid (wr.ownsRow B 5 1 s (n + (WK ++ (IS.take j).flatMap (fieldT x)).length) (xs ++ Lib.byteCells (WK ++ (IS.take j).flatMap (fieldT x)))) ∧ Hid (Txt B w3 wr)) (fun _ i _ => M - (intOf i).toNat)
  case atStart => exact ⟨0, rfl, by omega, HO4, HTT0⟩
  case round =>
    clear HO4 HTT0
    obtain ⟨j, rfl, hj, HO, HT⟩ := hrel
    by_cases hlt : j < M
    · have hjI : (j : Int) < (M : Int) := by omega
      have hjl : j < IS.length := by rw [HM.out]; exact hlt
      cases PA with
      | none => exact absurd (HPZ.out rfl) (by omega)
      | some ad =>
      have hps2 := HT.out.sl HPSL.out (by decide)
      obtain ⟨_, _, hv9, _, _, _, hc9⟩ := hps2.shape
      simp only [Value.slice.injEq, true_and] at hv9
      obtain ⟨hv10, rfl⟩ := hv9
      obtain ⟨hsp, _, hcell⟩ := hc9 ad hv10.symm
      obtain ⟨pg, po, sp⟩ := ad
      simp only at hsp hcell
      subst hsp
      have cp : wr.cell? ⟨pg, po + j, none⟩ = some (.pointer (some ⟨w.heap.size, IS[j], none⟩)) := hcell j _ (by rw [List.getElem?_map, List.getElem?_eq_getElem hjl]; rfl)
      have hi12 := HKS.out.2 _ (List.getElem_mem hjl)
      have hAr := HT.out.arr HA3.out (by decide)
      have ce := hAr.cell (iv_nth (x := x) (j := IS[j]) (by have := HXL.out; omega))
      have HTK := Lib.hid (line_take x IS hjl)
      have hz := getD_I HXI.out IS[j]
      have HFL := Lib.hid (show fieldT x IS[j] = 32 :: Lib.itoa (x.getD IS[j] 0) from rfl)
      have HLEN : Hid ((WK ++ (IS.take j).flatMap (fieldT x)).length ≤ 227) := Lib.hid (by
        have h1 := fields_len x HXI.out (IS.take j)
        have h2 := HWL.out
        rw [List.length_append]
        rw [List.length_take] at h1
        omega)
      generalize IS[j] = i at *
      generalize x.getD i 0 = z at *
      obtain ⟨DN, hDN⟩ : ∃ DN, WK ++ (IS.take j).flatMap (fieldT x) = DN := ⟨_, rfl⟩
      rw [hDN] at HO HLEN
      have HDX : Hid (WK ++ (IS.take (j + 1)).flatMap (fieldT x) = DN ++ 32 :: Lib.itoa z) := Lib.hid (by rw [HTK.out, ← List.append_assoc, hDN, HFL.out])
      have hBr : B ≤ wr.heap.size := Nat.le_trans hB3 HT.out.size
      have HBA : Hid (B ≤ (wr.drew.alloc (.cells #[.int .u8 32] 5)).heap.size) := Lib.hid (by
        have : wr.heap.size ≤ (wr.drew.alloc (.cells #[.int .u8 32] 5)).heap.size := (bel_on (bel_drew wr) (bel_new wr.drew (.cells #[.int .u8 32] 5))).size
        omega)
      obtain ⟨hz0, hz1⟩ : -9223372036854775808 ≤ z ∧ z ≤ 9223372036854775807 := by unfold I64 at hz; omega
      have HIL := Lib.hid (Lib.itoa_length_le z hz0 hz1)
      have HTA : Hid (Txt B wr (wr.drew.alloc (.cells #[.int .u8 32] 5))) := Lib.hid (Txt.of_below hBr (bel_on (bel_drew wr) (bel_new wr.drew _)))
      have HOA : Hid ((wr.drew.alloc (.cells #[.int .u8 32] 5)).ownsRow B 5 1 u0 (n + DN.length) (xs ++ Lib.byteCells DN)) := Lib.hid ((HO.out.drew).alloc _)
      have ce2 : wr.drew.cell? ⟨w.heap.size, i, none⟩ = some (.int .i64 z) := ce
      have ce3 : (wr.drew.alloc (.cells #[.int .u8 32] 5)).cell? ⟨w.heap.size, i, none⟩ = some (.int .i64 z) := cell_below (bel_on (bel_drew wr) (bel_new wr.drew _)) ce
      have HNW : Hid (∀ j u, [Value.int .u8 32][j]? = some u → (wr.drew.alloc (.cells #[.int .u8 32] 5)).cell? ((⟨wr.drew.heap.size, 0, none⟩ : Addr).add j) = some u) := Lib.hid (cell_one_new wr.drew (.int .u8 32) 5)
      have hzs : wr.drew.heap.size = wr.heap.size := rfl
      obtain ⟨WA, hWA⟩ : ∃ WA, wr.drew.alloc (.cells #[.int .u8 32] 5) = WA := ⟨_, rfl⟩
      rw [hWA] at HBA HTA HOA ce3 HNW
      have HAR : Hid (∀ W, Txt B wr W → W.cell? ⟨w.heap.size, i, none⟩ = some (.int .i64 z)) := Lib.hid fun W hW => (cell_of_block (hW.arr hAr (by decide) |>.trans hAr.symm)).trans ce
      clear hcell hAr HTK HFL hDN hz hps2 hv10 hc9 HO
      go_wp2_with fail
      refine wp_region_held_drew (S := fun W => W.cell? ⟨w.heap.size, i, none⟩ = some (.int .i64 z)) (by kernel_rfl) ce2 (fun hHeld => ?_)
      refine wpAnyH_take (i := 0) (v := u0) rfl (by kernel_rfl) (by kernel_rfl) (by kernel_rfl) (fun _ _ _ h => h) (Or.inl ⟨by rfl, fun w hSw => by have h1 := hSw; go_simp⟩) (by assumption) ?_
      change wpAnyH _ _ _ _ _ _ _ (Act.put _ (some 18) _) _
      simp only [Act.put, List.setIfInBounds_toArray, List.set_cons_zero, List.set_cons_succ]
      refine wpAnyH_take (i := 3) (v := .pointer (some ⟨w.heap.size, i, none⟩)) rfl (by kernel_rfl) (by kernel_rfl) (by kernel_rfl) (fun _ _ _ h => h) (Or.inl ⟨by rfl, fun w hSw => by have h1 := hSw; go_simp⟩) (by assumption) ?_
      change wpAnyH _ _ _ _ _ _ _ (Act.put _ (some 21) _) _
      simp only [Act.put, List.setIfInBounds_toArray, List.set_cons_zero, List.set_cons_succ]
      refine wpAnyH_take (i := 4) (v := .pointer (some ⟨w.heap.size, i, none⟩)) rfl (by kernel_rfl) (by kernel_rfl) (by kernel_rfl) (fun _ _ _ h => h) (Or.inl ⟨by rfl, fun w hSw => by have h1 := hSw; go_simp⟩) (by assumption) ?_
      change wpAnyH _ _ _ _ _ _ _ (Act.put _ (some 22) _) _
      simp only [Act.put, List.setIfInBounds_toArray, List.set_cons_zero, List.set_cons_succ]
      refine wpAnyH_take (i := 5) (v := .int .i64 z) rfl (by kernel_rfl) (by kernel_rfl) (by kernel_rfl) (fun _ _ _ h => h) (Or.inl ⟨by rfl, fun w hSw => by have h1 := hSw; go_simp⟩) (by assumption) ?_
      change wpAnyH _ _ _ _ _ _ _ (Act.put _ (some 23) _) _
      simp only [Act.put, List.setIfInBounds_toArray, List.set_cons_zero, List.set_cons_succ]
      refine wpAnyH_ready (rs := [1]) (by kernel_rfl) (by simp) ?_
      refine AllReadyH.cons rfl (fun K hK => ?_) AllReadyH.nil
      go_simp
      refine hK.out _ _ ce3 (fun hHeld1 => ?_)
      clear hK K hHeld
      refine wpAnyH_ready (rs := [2]) (by kernel_rfl) (by simp) ?_
      refine AllReadyH.cons rfl (fun K hK => ?_) AllReadyH.nil
      refine wp_append_own _ _ 31 rfl B 5 i0 _ 1 1 Tryz.underlying31 HI0.out HZ0.out HZ1.out HZ2.out rfl (by decide) u0 (n + DN.length) (xs ++ Lib.byteCells DN) rfl HOA.out ⟨wr.drew.heap.size, 0, none⟩ 1 1 [.int .u8 32] rfl rfl HNW.out (by intro u hu; simp only [List.mem_singleton] at hu; subst hu; rfl) (by have := HLEN.out; unfold maxLen; omega) (by have := HLEN.out; omega) HBA.out ?_
      intro v5 w5 hown5 hg5
      have HO5 := Lib.hid hown5
      have HT5 := Lib.hid (HTA.out.trans (Txt.of_grown HOA.out HBA.out hg5))
      refine hK.out _ _ (HAR.out _ HT5.out) (fun hHeld2 => ?_)
      clear hK K hHeld1 hown5 hg5
      change wpAnyH _ _ _ _ _ _ _ (Act.put _ (some 20) _) _
      simp only [Act.put, List.setIfInBounds_toArray, List.set_cons_zero, List.set_cons_succ]
      refine wpAnyH_ready (rs := [6]) (by kernel_rfl) (by simp) ?_
      refine AllReadyH.cons rfl (fun K hK => ?_) AllReadyH.nil
      go_simp
      have hB5 : B ≤ w5.heap.size := Nat.le_trans hBr HT5.out.size
      refine (Any.strconv_AppendInt_10 Tryz.appI B _ z hz0 hz1 v5 _ w5 HO5.out hB5 (by have := HLEN.out; omega) (HTB.out.on ((HT3.out.trans HT.out).trans HT5.out).below)).mono ?_
      rintro e w6 ⟨v6, rfl, hown6, hb6, hk6⟩
      have HT6 : Hid (Txt B wr w6) := Lib.hid (HT5.out.trans ⟨hb6, hk6⟩)
      have HO6 : Hid (w6.ownsRow B 5 1 v6 (n + (WK ++ (IS.take (j + 1)).flatMap (fieldT x)).length) (xs ++ Lib.byteCells (WK ++ (IS.take (j + 1)).flatMap (fieldT x)))) := Lib.hid (by
        have e1 : (xs ++ Lib.byteCells DN ++ [Value.int .u8 32]) ++ Lib.byteCells (Lib.itoa z) = xs ++ Lib.byteCells (DN ++ 32 :: Lib.itoa z) := by simp [Lib.byteCells]
        have e2 : n + DN.length + 1 + (Lib.itoa z).length = n + (DN ++ 32 :: Lib.itoa z).length := by simp only [List.length_append, List.length_cons]; omega
        rw [HDX.out, ← e1, ← e2]
        exact hown6)
      have HT7 := Lib.hid (HT.out.trans HT6.out)
      refine hK.out _ _ (HAR.out _ HT6.out) (fun hHeld3 => ?_)
      clear hK K hHeld2 hown6 hb6 hk6
      refine wpAnyH_take (i := 7) (v := v6) rfl (by kernel_rfl) (by kernel_rfl) (by kernel_rfl) (fun _ _ _ h => h) (Or.inl ⟨by rfl, fun w hSw => by have h1 := hSw; go_simp⟩) (by assumption) ?_
      change wpAnyH _ _ _ _ _ _ _ (Act.put _ (some 0) _) _
      simp only [Act.put, List.setIfInBounds_toArray, List.set_cons_zero, List.set_cons_succ]
      refine wpAnyH_done (by kernel_rfl) ?_ _
      go_wp2_with fail
      go_roundw
      case rel => exact ⟨j + 1, by simp, by omega, HO6, HT7⟩
      case measure => simp [intOf]; omega
    · obtain rfl : j = M := by omega
      have hjI : ¬ (j : Int) < (j : Int) := by omega
      have hfin : LN = WK ++ (IS.take j).flatMap (fieldT x) := by rw [List.take_of_length_le (by rw [HM.out]; exact Nat.le_refl _)]; exact HLN.out
      rw [← hfin] at HO
      have HFO := Lib.hid HO.out
      clear hfin HO
      have HFT := Lib.hid (HT3.out.trans HT.out)
      go_wp2_with fail
      go_ret
      exact ⟨_, rfl, HFO.out, HFT.out⟩
end Go.Proofs.YtpojhplnhppcpaaGreatDoor
