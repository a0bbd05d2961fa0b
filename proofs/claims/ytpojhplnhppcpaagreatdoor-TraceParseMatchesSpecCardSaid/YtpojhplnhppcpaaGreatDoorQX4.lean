/-
  What trace's Print does. strings.Cut and strconv.Atoi as trace's Parse calls them. What trace's Parse does.
-/
import Derived.Test.YtpojhplnhppcpaaGreatDoorQX2
import Derived.Laws.IdiomStrings
import Derived.Lib.AtoiBound
import Derived.Deep.CutBlock
import Derived.WalkMore
namespace Go.Proofs.YtpojhplnhppcpaaGreatDoor
open Go.RowKit Go.Maps
def printT (l : List (List Int)) : List UInt8 := l.flatMap fun x => lineT x ++ [10]
/-- The tables that texts need. -/
structure TabT (w : World) : Prop where
  words : TabW w
  pow : Lib.TabIs Tryz.prog w "internal/strconv.uint64pow10" .u64 Lib.pow10Tab
theorem TabT.keep {w w' : World} (h : TabT w) (hb : Below w.heap.size w w') : TabT w' := ⟨h.words.keep h.words.lt hb, Lib.tabBelow_of_tabIs h.pow w' hb⟩
theorem print_take (l : List (List Int)) {k : Nat} (h : k < l.length) : printT (l.take (k + 1)) = printT (l.take k) ++ (lineT l[k] ++ [10]) := by
  unfold printT
  rw [take_snoc' l k h, List.flatMap_append]
  simp
theorem print_len : ∀ (l : List (List Int)), EvI l → (printT l).length ≤ l.length * 228
  | [], _ => Nat.zero_le _
  | x :: r, h => by
    have h1 := line_len x (h x (by simp)).2
    have h2 := print_len r fun y hy => h y (by simp [hy])
    unfold printT at h2 ⊢
    simp only [List.flatMap_cons, List.length_append, List.length_cons, List.length_nil]
    omega
set_option maxRecDepth 100000 in
set_option maxHeartbeats 8000000 in
set_option linter.unusedSimpArgs false in
theorem print_any (l : List (List Int)) (lv : Value) (w : World) (hl : EvI l) (hll : l.length ≤ 400) (hlv : Rd w lv l.length (iv l.flatten)) (hT : TabT w) :
    Calls Tryz.prog 40 #[lv] w fun e w' => e = .returned (strV (printT l)) ∧ Below w.heap.size w w' := by
  obtain ⟨PT, hPT⟩ : ∃ PT, printT l = PT := ⟨_, rfl⟩
  rw [hPT]
  have HPT := Lib.hid hPT
  have HL := Lib.hid hl
  have HT := Lib.hid hT
  have HTB := Lib.hid (Lib.tabBelow_of_tabIs hT.pow)
  obtain ⟨N, hN⟩ : ∃ N, l.length = N := ⟨_, rfl⟩
  have HN := Lib.hid hN
  obtain ⟨A, cap, rfl, hcap, hcm, hrr⟩ := hlv
  have HRR := Lib.hid hrr
  rw [hN] at hcap hll ⊢
  have hu68 := Tryz.underlying68
  obtain ⟨i0, hi, hz0, hz1, hz2⟩ := info_parts infoByte
  have HI0 := Lib.hid hi
  have HZ0 := Lib.hid hz0
  have HZ1 := Lib.hid hz1
  have HZ2 := Lib.hid hz2
  have HO0 : Hid (w.ownsRow w.heap.size 5 1 (.slice none 0 0) (printT (l.take 0)).length (Lib.byteCells (printT (l.take 0)))) := Lib.hid (World.ownsRow_nil _ _ _ _)
  have HB0 : Hid (Below w.heap.size w w) := Lib.hid (Below.refl _ _)
  clear hrr hl hN hT hPT hi hz0 hz1 hz2
  go_enter Tryz.func40, Tryz.ntmps40
  go_wp2_with fail
  go_loopw [3, 8] (fun s i wr => ∃ (k : Nat), i = .int .i64 (k : Int) ∧ k ≤ N ∧ Hid (wr.ownsRow w.heap.size 5 1 s (printT (l.take k)).length (Lib.byteCells (printT (l.take k)))) ∧ Hid (Below w.heap.size w wr)) (fun _ i _ => N - (intOf i).toNat)
  case atStart => exact ⟨0, rfl, by omega, HO0, HB0⟩
  case round =>
    clear HO0 HB0
    obtain ⟨k, rfl, hk, HO, HB⟩ := hrel
    by_cases hlt : k < N
    · have hkc : k < l.length := by rw [HN.out]; exact hlt
      have hkI : (k : Int) < (N : Int) := by omega
      obtain ⟨bb, oo, rfl, hbl, hcells⟩ := HRR.out (by omega)
      obtain ⟨hx12, hxI⟩ := HL.out _ (List.getElem_mem hkc)
      have rE : wr.rangeAt bb (oo + k * 12) (iv l[k]) := evLine (fun x hx => (HL.out x hx).1) (cells_at hcells HB.out hbl) hkc
      have hi12 : (Tryz.prog.info? 68).map (·.size) = some (iv l[k]).length := by rw [size79, iv_len, hx12]
      have HTK := Lib.hid (print_take l hkc)
      have HPL : Hid ((printT (l.take k)).length ≤ 91200) := Lib.hid (by
        have h1 := print_len (l.take k) fun x hx => HL.out x (List.mem_of_mem_take hx)
        rw [List.length_take] at h1
        omega)
      have HLL := Lib.hid (line_len _ hxI)
      generalize l[k] = x at *
      have HO' := Lib.hid (HO.out.alloc (.cells (iv x).toArray 68))
      have HB2 := Lib.hid (bel_on HB.out (bel_new wr (.cells (iv x).toArray 68)))
      have hAX := Arr.new wr (iv x) 68
      obtain ⟨DN, hDN⟩ : ∃ DN, printT (l.take k) = DN := ⟨_, rfl⟩
      rw [hDN] at HO HO' HPL HTK
      have HAL := Lib.hid (addLine_any w.heap.size DN.length x u3 (Lib.byteCells DN) _ hx12 hxI HO'.out HB2.out.size (by have := HPL.out; omega) (HTB.out.on HB2.out) (HT.out.words.keep HT.out.words.lt HB2.out))
      have HOI := Lib.hid (iv_one x)
      have HL12 := Lib.hid hx12
      obtain ⟨SA, sc, rfl⟩ : ∃ A cap, u3 = .slice A DN.length cap := by
        rcases HO.out.2 with ⟨rfl, hz⟩ | ⟨g, cap, cur, rfl, _⟩
        · rw [hz]
          exact ⟨none, 0, rfl⟩
        · exact ⟨_, cap, rfl⟩
      clear hcells hDN HO
      go_wp2_with (first
        | ((with_reducible refine arm_range 68 bb (oo + k * 12) (iv x) rE _ hu68 rfl hi12 rfl _ rfl ?_ ?_); focus rfl)
        | ((with_reducible refine arm_new 68 (iv x) 12 ?_ size79 HOI.out _ rfl rfl _ _ rfl ?_ ?_ ?_); (focus (rw [iv_len, HL12.out])); (focus rfl); (focus rfl))
        | ((with_reducible refine arm_row 68 wr.heap.size 68 (iv x) hAX _ hu68 rfl hi12 rfl _ rfl ?_ ?_); focus rfl))
      refine HAL.out.mono ?_
      rintro e w3 ⟨v3, rfl, hown3, ht3⟩
      have HB3 := Lib.hid (HB2.out.trans ht3.below)
      have HO3 := Lib.hid hown3
      obtain ⟨VA, vc, rfl⟩ : ∃ A cap, v3 = .slice A (DN.length + (lineT x).length) cap := by
        rcases hown3.2 with ⟨rfl, hz⟩ | ⟨g, cap, cur, rfl, _⟩
        · rw [hz]
          exact ⟨none, 0, rfl⟩
        · exact ⟨_, cap, rfl⟩
      have HOA : Hid ((w3.alloc (.cells #[.int .u8 10] 5)).ownsRow w.heap.size 5 1 (.slice VA (DN.length + (lineT x).length) vc) (DN.length + (lineT x).length) (Lib.byteCells DN ++ Lib.byteCells (lineT x))) := Lib.hid (hown3.alloc _)
      have HBA := Lib.hid (bel_on HB3.out (bel_new w3 (.cells #[.int .u8 10] 5)))
      obtain ⟨ll, hll2⟩ : ∃ ll, (lineT x).length = ll := ⟨_, rfl⟩
      rw [hll2] at HOA HLL ⊢
      have HLX := Lib.hid hll2
      clear hown3 ht3 HAL HO' rE hAX hll2
      go_wp2_with (at_builtin; refine wpList_append_own_at _ rfl _ _ 31 rfl w.heap.size 5 i0 _ 1 1 Tryz.underlying31 HI0.out HZ0.out HZ1.out HZ2.out rfl (by decide) _ (DN.length + ll) (Lib.byteCells DN ++ Lib.byteCells (lineT x)) rfl HOA.out ⟨w3.heap.size, 0, none⟩ 1 1 [.int .u8 10] rfl rfl (cell_one_new w3 (.int .u8 10) 5) (by intro u hu; simp only [List.mem_singleton] at hu; subst hu; rfl) (by have := HPL.out; have := HLL.out; unfold maxLen; omega) (by have := HPL.out; have := HLL.out; omega) HBA.out.size ?_; intro v4 w4 hown4 hg4 _ _; have HO4 := Lib.hid hown4; have HB4 := Lib.hid (HBA.out.grown hg4 HBA.out.size (fun q hq => (HOA.out.lt q hq).1)); clear hown4 hg4)
      have HO5 : Hid (w4.ownsRow w.heap.size 5 1 v4 (printT (l.take (k + 1))).length (Lib.byteCells (printT (l.take (k + 1))))) := Lib.hid (by
        have e1 : (Lib.byteCells DN ++ Lib.byteCells (lineT x)) ++ [Value.int .u8 10] = Lib.byteCells (DN ++ (lineT x ++ [10])) := by simp [Lib.byteCells]
        have e2 : DN.length + ll + 1 = (DN ++ (lineT x ++ [10])).length := by rw [← HLX.out]; simp only [List.length_append, List.length_cons, List.length_nil]; omega
        rw [HTK.out, ← e1, ← e2]
        exact HO4.out)
      go_roundw
      case rel => exact ⟨k + 1, by simp, by omega, HO5, HB4⟩
      case measure => simp [intOf]; omega
    · obtain rfl : k = N := by omega
      have hkI : ¬ (k : Int) < (k : Int) := by omega
      have hfin : printT (l.take k) = PT := by rw [List.take_of_length_le (by rw [HN.out]; exact Nat.le_refl _)]; exact HPT.out
      rw [hfin] at HO
      clear hfin
      rcases HO.out.2 with ⟨rfl, hz⟩ | ⟨g, bcap, cur, rfl, _, _, _, _, _, _⟩
      · obtain rfl : PT = [] := List.eq_nil_of_length_eq_zero hz
        have hcv : (convert 31 9 (.slice none 0 0)).run Tryz.prog wr = .ok (.string ⟨#[]⟩) wr := by kernel_rfl
        go_wp2_with fail
        go_ret
        exact ⟨rfl, HB.out⟩
      · have hcv := run_convert_bytes_back (P := Tryz.prog) wr 31 9 5 ⟨g, 0, none⟩ bcap PT Tryz.underlying31 Tryz.underlying5 Tryz.underlying9 (fun j hj => HO.out.cells (g := g) rfl j _ (by simp [Lib.byteCells, hj]))
        have HB9 := Lib.hid HB.out
        have HPT2 := Lib.hid HPT.out
        clear HPT
        go_wp2_with fail
        go_ret
        exact ⟨rfl, HB9.out⟩
end Go.Proofs.YtpojhplnhppcpaaGreatDoor
namespace Go.Proofs.YtpojhplnhppcpaaGreatDoor
open Go.RowKit Go.Maps
/-- What reading texts needs besides. -/
structure TabE (w : World) : Prop where
  maxLen : ∃ m, w.cell? ⟨1, 0, none⟩ = some (.int .i64 m)
  errS : ∃ tp p, w.var? Tryz.prog "strconv.ErrSyntax" = some #[.iface tp p]
  errR : ∃ tp p, w.var? Tryz.prog "strconv.ErrRange" = some #[.iface tp p]
theorem var_keep {w w' : World} {s : String} {cs : Array Value} (h : w.var? Tryz.prog s = some cs) (hb : Below w.heap.size w w') : w'.var? Tryz.prog s = some cs := by
  unfold World.var? at *
  cases hg : Tryz.prog.globalNamed s with
  | none => simp [hg] at h
  | some g =>
    simp only [hg, Option.bind_some] at h ⊢
    cases hb1 : w.heap[g]? with
    | none => simp [hb1] at h
    | some o =>
      have := hb.block g (lt_of_block hb1)
      rw [hb1] at h this
      rw [this]
      exact h
theorem TabE.keep {w w' : World} (h : TabE w) (hb : Below w.heap.size w w') : TabE w' := by
  obtain ⟨⟨m, hm⟩, ⟨t1, p1, h1⟩, ⟨t2, p2, h2⟩⟩ := h
  exact ⟨⟨m, cell_below hb hm⟩, ⟨t1, p1, var_keep h1 hb⟩, ⟨t2, p2, var_keep h2 hb⟩⟩
theorem cut_any (s sep : List UInt8) (w : World) (hs : s.length < 4000000000) (hT : TabE w) :
    Calls Tryz.prog 83 #[strV s, strV sep] w fun e w' => e = .returned (.tuple #[strV (Lib.cut s sep).1, strV (Lib.cut s sep).2.1, .bool (Lib.cut s sep).2.2]) ∧ Below w.heap.size w w' := by
  obtain ⟨m, hm⟩ := hT.maxLen
  refine (Any.strings_Cut Tryz.cut ⟨s.toArray⟩ ⟨sep.toArray⟩ m w (by simp [ByteArray.size]; omega) hm).mono ?_
  rintro e w' ⟨rfl, n, rfl⟩
  exact ⟨rfl, below_drewN (Below.refl _ _) n⟩
/-- What Atoi answers. -/
def AtoiPost (p : List UInt8) (e : Ending) : Prop := (∃ z, Lib.atoiAll p = .ok z ∧ e = .returned (.tuple #[.int .i64 z, .nilIface])) ∨ ((∀ z, Lib.atoiAll p ≠ .ok z) ∧ ∃ z ty q, e = .returned (.tuple #[.int .i64 z, .iface ty (.pointer (some q))]))
theorem atoi_any (p : List UInt8) (w : World) (hs : p.length < 4000000000) (hT : TabE w) :
    Calls Tryz.prog 86 #[strV p] w fun e w' => AtoiPost p e ∧ Below w.heap.size w w' := by
  obtain ⟨_, ⟨t1, p1, h1⟩, ⟨t2, p2, h2⟩⟩ := hT
  have hz : (⟨p.toArray⟩ : ByteArray).size = p.length := by simp [ByteArray.size]
  cases h : Lib.atoiAll p
  case ok z =>
    refine (Any.strconv_Atoi_ok Tryz.atoi ⟨p.toArray⟩ (by rw [hz]; omega) z h w).mono ?_
    rintro e w' ⟨rfl, hw⟩
    refine ⟨.inl ⟨z, h, rfl⟩, ?_⟩
    rcases hw with rfl | ⟨t, rfl⟩
    · exact Below.refl _ _
    · exact Lib.bytesWorld_below _ _ _
  case range =>
    refine (Any.strconv_Atoi_range_var Tryz.atoi ⟨p.toArray⟩ (by rw [hz]; omega) h t2 p2 w h2).mono ?_
    rintro e w' ⟨N, rfl, _, _, hb⟩
    exact ⟨.inr ⟨(fun z hz => by rw [h] at hz; cases hz), _, _, _, rfl⟩, hb⟩
  refine (Any.strconv_Atoi_syntax_var Tryz.atoi ⟨p.toArray⟩ (by rw [hz]; omega) h t1 p1 w h1).mono ?_
  rintro e w' ⟨N, rfl, _, _, hb⟩
  exact ⟨.inr ⟨(fun z hz => by rw [h] at hz; cases hz), _, _, _, rfl⟩, hb⟩
end Go.Proofs.YtpojhplnhppcpaaGreatDoor
namespace Go.Proofs.YtpojhplnhppcpaaGreatDoor
open Go.RowKit Go.Maps
def readF : List Nat → List UInt8 → List Int → Option (List Int)
  | [], _, v => some v
  | i :: r, parts, v => match Lib.atoiAll (Lib.cut parts [32]).1 with
    | .ok z => readF r (Lib.cut parts [32]).2.1 (v.set i z)
    | _ => none
def blankT (k : Nat) : List Int := (k : Int) :: List.replicate 11 0
def decodeT (line : List UInt8) : Option (List Int) :=
  match readF (idxK (kindT (Lib.cut line [32]).1)) (Lib.cut line [32]).2.1 (blankT (kindT (Lib.cut line [32]).1)) with
  | none => none
  | some v => if lineT v = line then some v else none
def scanT : Nat → List UInt8 → List (List Int) → List (List Int) × List UInt8
  | 0, s, acc => (acc, s)
  | n + 1, s, acc => if s = [] then (acc, []) else if (Lib.cut s [10]).2.2 then (match decodeT (Lib.cut s [10]).1 with
    | some v => scanT n (Lib.cut s [10]).2.1 (acc ++ [v])
    | none => (acc, s)) else (acc, s)
def parseT (s : List UInt8) : List (List Int) × List UInt8 := scanT s.length s []
theorem cut_len (s : List UInt8) : (Lib.cut s [10]).2.2 = true → (Lib.cut s [10]).2.1.length < s.length := by
  unfold Lib.cut
  split
  · rename_i h
    intro _
    have hne : s ≠ [] := by
      rintro rfl
      revert h
      decide
    show (s.drop ((Lib.index s [10]).toNat + 1)).length < s.length
    rw [List.length_drop]
    have := List.length_pos_iff.2 hne
    omega
  · intro h
    cases h
theorem cut_le1 (s sep : List UInt8) : (Lib.cut s sep).1.length ≤ s.length := by
  unfold Lib.cut
  split
  · show (s.take _).length ≤ s.length
    rw [List.length_take]
    omega
  · exact Nat.le_refl _
theorem cut_le2 (s sep : List UInt8) : (Lib.cut s sep).2.1.length ≤ s.length := by
  unfold Lib.cut
  split
  · show (s.drop _).length ≤ _
    rw [List.length_drop]
    omega
  · exact Nat.zero_le _
theorem set_I64 {v : List Int} (h : ∀ z ∈ v, I64 z) {i : Nat} {z : Int} (hz : I64 z) : ∀ y ∈ v.set i z, I64 y := fun y hy => by
  rcases List.mem_or_eq_of_mem_set hy with h1 | rfl
  · exact h y h1
  · exact hz
theorem add_zero_at (g j : Nat) : (⟨g, 0, none⟩ : Addr).add j = ⟨g, j, none⟩ := by unfold Addr.add; split <;> simp_all
theorem line_pos (x : List Int) : 0 < (lineT x).length := by
  have h : 0 < (wordK (x.getD 0 0)).length := by
    unfold wordK
    split
    · rename_i h
      have hc : (x.getD 0 0).toNat = 0 ∨ (x.getD 0 0).toNat = 1 ∨ (x.getD 0 0).toNat = 2 ∨ (x.getD 0 0).toNat = 3 ∨ (x.getD 0 0).toNat = 4 ∨ (x.getD 0 0).toNat = 5 ∨ (x.getD 0 0).toNat = 6 ∨ (x.getD 0 0).toNat = 7 := by omega
      rcases hc with h | h | h | h | h | h | h | h <;> rw [h] <;> decide
    · decide
  unfold lineT
  rw [List.length_append]
  omega
def strLen : Value → Nat
  | .string b => b.size
  | _ => 0
/-- What Parse answers. -/
def ParsePost (s : List UInt8) (w : World) (e : Ending) (w' : World) : Prop :=
  ((parseT s).2 ≠ [] ∧ e = .returned (.tuple #[.slice none 0 0, .int .i64 ((parseT s).1.length : Int), .int .i64 3])) ∨
  ((parseT s).2 = [] ∧ ∃ u, e = .returned (.tuple #[u, .int .i64 ((parseT s).1.length : Int), .int .i64 0]) ∧ Sl w' 68 12 u (parseT s).1.length (iv (parseT s).1.flatten) ∧ EvI (parseT s).1 ∧ ∀ q, u.ownBlock = some q → w.heap.size ≤ q)
set_option maxRecDepth 100000 in
set_option maxHeartbeats 8000000 in
set_option linter.unusedSimpArgs false in
theorem parse_any (s : List UInt8) (w : World) (hs : s.length ≤ 1000000) (hT : TabT w) (hE : TabE w) :
    Calls Tryz.prog 41 #[strV s] w fun e w' => ParsePost s w e w' ∧ Below w.heap.size w w' := by
  have HPO : Hid (∀ e w', ParsePost s w e w' = (((parseT s).2 ≠ [] ∧ e = .returned (.tuple #[.slice none 0 0, .int .i64 ((parseT s).1.length : Int), .int .i64 3])) ∨
    ((parseT s).2 = [] ∧ ∃ u, e = .returned (.tuple #[u, .int .i64 ((parseT s).1.length : Int), .int .i64 0]) ∧ Sl w' 68 12 u (parseT s).1.length (iv (parseT s).1.flatten) ∧ EvI (parseT s).1 ∧ ∀ q, u.ownBlock = some q → w.heap.size ≤ q))) := Lib.hid fun _ _ => rfl
  obtain ⟨PO, hPO⟩ : ∃ PO, ParsePost s w = PO := ⟨_, rfl⟩
  rw [hPO] at HPO ⊢
  obtain ⟨R, hR⟩ : ∃ R, parseT s = R := ⟨_, rfl⟩
  rw [hR] at HPO
  have HR : Hid (scanT s.length s [] = R) := Lib.hid hR
  have HTT := Lib.hid hT
  have HTE := Lib.hid hE
  have HTB := Lib.hid (Lib.tabBelow_of_tabIs hT.pow)
  have HB0 : Hid (Below w.heap.size w w) := Lib.hid (Below.refl _ _)
  have HSL0 : Hid (Sl w 68 12 (.slice none 0 0) ([] : List (List Int)).length (iv ([] : List (List Int)).flatten)) := Lib.hid (Sl.nil _ _ _)
  have HEV0 : Hid (EvI []) := Lib.hid fun x hx => by cases hx
  have HOW0 : Hid (∀ q, (Value.slice none 0 0).ownBlock = some q → w.heap.size ≤ q) := Lib.hid fun q hq => by simp [Value.ownBlock] at hq
  have hu68 := Tryz.underlying68
  clear hT hE hPO hR
  unfold strV
  go_enter Tryz.func41, Tryz.ntmps41
  go_wp2_with fail
  go_step3
  go_wp2_with fail
  go_step3
  go_upto_block 0 with fail
  go_cut [0, 5, 6, 7, 8, 9, 10, 11, 12, 14, 15, 16, 17] from 18 to 71 (fun s0 s5 _ _ _ _ _ _ _ _ _ _ _ wx => ∃ (s' : List UInt8) (acc : List (List Int)), s0 = .string ⟨s'.toArray⟩ ∧ Hid (R = (acc, s')) ∧ Hid (Sl wx 68 12 s5 acc.length (iv acc.flatten)) ∧ Hid (EvI acc) ∧ acc.length ≤ 1000000 ∧ Hid (∀ q, s5.ownBlock = some q → w.heap.size ≤ q) ∧ Hid (Below w.heap.size w wx))
  case first =>
    go_wp2_with fail
    go_loopw [0, 5] (fun s0 s5 wr => ∃ (f : Nat) (s' : List UInt8) (acc : List (List Int)), s0 = .string ⟨s'.toArray⟩ ∧ s'.length ≤ f ∧ acc.length + f ≤ s.length ∧ Hid (scanT f s' acc = R) ∧ Hid (Sl wr 68 12 s5 acc.length (iv acc.flatten)) ∧ Hid (EvI acc) ∧ Hid (∀ q, s5.ownBlock = some q → w.heap.size ≤ q) ∧ Hid (Below w.heap.size w wr)) (fun s0 _ _ => strLen s0)
    case atStart => exact ⟨s.length, s, [], rfl, Nat.le_refl _, by simp, HR, HSL0, HEV0, HOW0, HB0⟩
    case round =>
      clear HR HSL0 HEV0 HOW0 HB0
      obtain ⟨f, s', acc, rfl, hsf, haf, HSC, HSL, HEV, HOW, HB⟩ := hrel
      by_cases hs0 : s' = []
      · subst hs0
        have HR2 : Hid (R = (acc, [])) := Lib.hid (by
          rw [← HSC.out]
          cases f with
          | zero => rfl
          | succ n => show (if _ then _ else _) = _; rw [if_pos rfl])
        have hac : acc.length ≤ 1000000 := by omega
        go_wp2_with fail
        go_meet
        case rel => exact ⟨[], acc, rfl, HR2, HSL, HEV, hac, HOW, HB⟩
      · have hsb : (s' == ([] : List UInt8)) = false := by rw [beq_eq_false_iff_ne]; exact hs0
        have hpos := List.length_pos_iff.2 hs0
        obtain ⟨g, rfl⟩ : ∃ g, f = g + 1 := ⟨f - 1, by omega⟩
        have hsc : scanT (g + 1) s' acc = if s' = [] then (acc, []) else if (Lib.cut s' [10]).2.2 then (match decodeT (Lib.cut s' [10]).1 with
          | some v => scanT g (Lib.cut s' [10]).2.1 (acc ++ [v])
          | none => (acc, s')) else (acc, s') := rfl
        rw [if_neg hs0, HSC.out] at hsc
        have HCL := Lib.hid (cut_len s')
        have HC1 := Lib.hid (cut_le1 s' [10])
        have HE1 := Lib.hid (HTE.out.keep HB.out)
        have HCU := Lib.hid (cut_any s' [10] wr (by omega) HE1.out)
        obtain ⟨⟨line, below, ended⟩, hcut⟩ : ∃ c, Lib.cut s' [10] = c := ⟨_, rfl⟩
        rw [hcut] at hsc HCL HCU HC1
        simp only at hsc HCL HC1
        change Hid (Calls _ _ _ _ fun e w' => e = .returned (.tuple #[strV line, strV below, .bool ended]) ∧ Below wr.heap.size wr w') at HCU
        have HSX := Lib.hid hsc
        have HS0 := Lib.hid hs0
        unfold strV at HCU
        clear hsc hcut hs0 HSC
        go_wp2_with fail
        refine HCU.out.mono ?_
        rintro e w2 ⟨rfl, hb2⟩
        have HB2 := Lib.hid (bel_on HB.out hb2)
        have HSL2 : Hid (Sl w2 68 12 u5 acc.length (iv acc.flatten)) := Lib.hid (HSL.out.keep fun q hq => hb2.block q (HSL.out.lt hq))
        have HE2 := Lib.hid (HTE.out.keep HB2.out)
        have HCW := Lib.hid (cut_any line [32] w2 (by have := HC1.out; omega) HE2.out)
        have HC2 := Lib.hid (cut_le1 line [32])
        have HC3 := Lib.hid (cut_le2 line [32])
        have HDEC : Hid (decodeT line = match readF (idxK (kindT (Lib.cut line [32]).1)) (Lib.cut line [32]).2.1 (blankT (kindT (Lib.cut line [32]).1)) with
          | none => none
          | some v => if lineT v = line then some v else none) := Lib.hid rfl
        obtain ⟨⟨word, parts, more⟩, hcut2⟩ : ∃ c, Lib.cut line [32] = c := ⟨_, rfl⟩
        rw [hcut2] at HCW HC2 HC3 HDEC
        simp only at HC2 HC3
        change Hid (Calls _ _ _ _ fun e w' => e = .returned (.tuple #[strV word, strV parts, .bool more]) ∧ Below w2.heap.size w2 w') at HCW
        change Hid (decodeT line = match readF (idxK (kindT word)) parts (blankT (kindT word)) with
          | none => none
          | some v => if lineT v = line then some v else none) at HDEC
        unfold strV at HCW
        clear hb2 HCU hcut2 HE1 HSL
        go_wp2_with fail
        refine HCW.out.mono ?_
        rintro e w3 ⟨rfl, hb3⟩
        have HB3 := Lib.hid (bel_on HB2.out hb3)
        have HSL3 : Hid (Sl w3 68 12 u5 acc.length (iv acc.flatten)) := Lib.hid (HSL2.out.keep fun q hq => hb3.block q (HSL2.out.lt hq))
        have HKO := Lib.hid (kindOf_any word w3 (HTT.out.words.keep HTT.out.words.lt HB3.out))
        unfold strV at HKO
        obtain ⟨kd, hkd⟩ : ∃ kd, kindT word = kd := ⟨_, rfl⟩
        rw [hkd] at HKO HDEC
        have HKL : Hid (kd < 8) := Lib.hid (by rw [← hkd]; exact kindT_lt word)
        clear hb3 HCW hkd HE2 HSL2
        go_wp2_with fail
        refine HKO.out.mono ?_
        rintro e w4 ⟨rfl, hb4⟩
        have HB4 := Lib.hid (bel_on HB3.out hb4)
        have HSL4 : Hid (Sl w4 68 12 u5 acc.length (iv acc.flatten)) := Lib.hid (HSL3.out.keep fun q hq => hb4.block q (HSL3.out.lt hq))
        have hbn := bel_new w4 (.cells (iv (blankT kd)).toArray 68)
        have HB5 := Lib.hid (bel_on HB4.out hbn)
        have HQ4 : Hid (∀ q, u5.ownBlock = some q → q ≠ w4.heap.size) := Lib.hid fun q hq => by
          have := HSL4.out.lt hq
          omega
        have HSL5 : Hid (Sl (w4.alloc (.cells (iv (blankT kd)).toArray 68)) 68 12 u5 acc.length (iv acc.flatten)) := Lib.hid (HSL4.out.keep fun q hq => hbn.block q (HSL4.out.lt hq))
        have HA5 := Lib.hid (Arr.new w4 (iv (blankT kd)) 68)
        have HFI := Lib.hid (fields_any w4.heap.size (blankT kd) _ rfl HA5.out)
        change Hid (Calls _ _ _ _ fun e w' => ∃ v, e = .returned v ∧ PS _ w' w4.heap.size v (idxK (kd : Int))) at HFI
        change Hid (decodeT line = match readF (idxK (kd : Int)) parts (blankT kd) with
          | none => none
          | some v => if lineT v = line then some v else none) at HDEC
        obtain ⟨IS, hIS⟩ : ∃ IS, idxK (kd : Int) = IS := ⟨_, rfl⟩
        have HKS := Lib.hid (idxK_small (kd : Int))
        rw [hIS] at HFI HDEC HKS
        change Hid (Calls _ _ _ (w4.alloc (.cells #[.int .i64 (kd : Int), .int .i64 0, .int .i64 0, .int .i64 0, .int .i64 0, .int .i64 0, .int .i64 0, .int .i64 0, .int .i64 0, .int .i64 0, .int .i64 0, .int .i64 0] 68)) _) at HFI
        clear hb4 HKO hbn hIS HSL3 HSL4
        go_wp2_with fail
        refine HFI.out.mono ?_
        rintro e w5 ⟨pv, rfl, hps⟩
        obtain ⟨eb, heb⟩ : ∃ eb, w4.heap.size = eb := ⟨_, rfl⟩
        have HEB := Lib.hid heb
        have HQ5 : Hid (∀ q, u5.ownBlock = some q → q ≠ eb) := Lib.hid (by rw [← heb]; exact HQ4.out)
        rw [heb] at hps HA5 ⊢
        clear HQ4
        have hebw : w.heap.size ≤ eb := by rw [← heb]; exact HB4.out.size
        obtain ⟨W4, hW4⟩ : ∃ W4, w4.alloc (.cells (iv (blankT kd)).toArray 68) = W4 := ⟨_, rfl⟩
        have hebl : eb < W4.heap.size := by rw [← hW4, ← heb]; simp
        rw [hW4] at HB5 HSL5 HA5
        change PS (w4.alloc (.cells (iv (blankT kd)).toArray 68)) w5 eb pv IS at hps
        rw [hW4] at hps
        have HB6 := Lib.hid (bel_on HB5.out hps.below)
        have HSL6 : Hid (Sl w5 68 12 u5 acc.length (iv acc.flatten)) := Lib.hid (HSL5.out.keep fun q hq => hps.below.block q (HSL5.out.lt hq))
        have HA6 := Lib.hid (HA5.out.keep hps.below)
        have HPSL := Lib.hid hps.sl
        have HPOW : Hid (∀ q, pv.ownBlock = some q → q ≠ eb) := Lib.hid fun q hq => by
          have := hps.own q hq
          omega
        obtain ⟨PA, pcap, rfl, hpc, hpm, hp0, _⟩ := hps.sl.shape
        have HPZ : Hid (PA = none → IS.length = 0) := Lib.hid fun h => (hp0 h).1
        have hpc3 : pcap ≤ 9223372036854775807 := by unfold maxLen at hpm; omega
        obtain ⟨M, hM⟩ : ∃ M, IS.length = M := ⟨_, rfl⟩
        have HM := Lib.hid hM
        have hM10 : M ≤ 10 := by rw [← hM]; exact HKS.out.1
        rw [hM] at HPSL HPZ hpc HPOW ⊢
        obtain ⟨RF, hRF⟩ : ∃ RF, readF IS parts (blankT kd) = RF := ⟨_, rfl⟩
        rw [hRF] at HDEC
        have HRF0 : Hid (RF = readF (IS.drop 0) parts (blankT kd)) := Lib.hid hRF.symm
        have HI0 : Hid (∀ z ∈ blankT kd, I64 z) := Lib.hid (by
          have hkl := HKL.out
          intro z hz
          unfold blankT at hz
          rcases List.mem_cons.1 hz with rfl | hz
          · unfold I64; omega
          · have := List.eq_of_mem_replicate hz
            subst this
            unfold I64; omega)
        have HK0 : Hid (Kept (fun q => q = eb) w5 w5) := Lib.hid (Kept.refl _ _)
        have hpl : parts.length ≤ 1000000 := by have := HC3.out; have := HC1.out; omega
        have hbl0 : (blankT kd).length = 12 := rfl
        clear hps hp0 hpm HFI hM hRF heb hW4 HA5 HSL5 HKL
        go_wp2_with fail
        go_loopw [10, 37] (fun s10 i wr => ∃ (j : Nat) (prt : List UInt8) (v : List Int), s10 = .string ⟨prt.toArray⟩ ∧ i = .int .i64 (j : Int) ∧ j ≤ M ∧ prt.length ≤ 1000000 ∧ v.length = 12 ∧ Hid (∀ z ∈ v, I64 z) ∧ Hid (Arr wr eb 68 (iv v)) ∧ Hid (RF = readF (IS.drop j) prt v) ∧ Hid (Kept (fun q => q = eb) w5 wr)) (fun _ i _ => M - (intOf i).toNat)
        case atStart => exact ⟨0, parts, blankT kd, rfl, rfl, by omega, hpl, hbl0, HI0, HA6, HRF0, HK0⟩
        case round =>
          clear HI0 HA6 HRF0 HK0 hpl hbl0
          obtain ⟨j, prt, v, rfl, rfl, hj, hprl, hvl, HVI, HAV, HRF, HKP⟩ := hrel
          have HBW : Hid (Below w.heap.size w wr) := Lib.hid (HB6.out.trans (HKP.out.below (fun q _ hq => by subst hq; exact hebw) HB6.out.size))
          have HSLW : Hid (Sl wr 68 12 u5 acc.length (iv acc.flatten)) := Lib.hid (HSL6.out.keep fun q hq => HKP.out.block q (HSL6.out.lt hq) (HQ5.out q hq))
          by_cases hlt : j < M
          · have hjI : (j : Int) < (M : Int) := by omega
            have hjl : j < IS.length := by rw [HM.out]; exact hlt
            cases PA with
            | none => exact absurd (HPZ.out rfl) (by omega)
            | some ad =>
            have hps2 : Sl wr 138 1 (.slice (some ad) M pcap) M (IS.map (ptrV eb)) := HPSL.out.keep fun q hq => HKP.out.block q (HPSL.out.lt hq) (HPOW.out q hq)
            obtain ⟨_, _, hv9, _, _, _, hc9⟩ := hps2.shape
            simp only [Value.slice.injEq, true_and] at hv9
            obtain ⟨hv10, rfl⟩ := hv9
            obtain ⟨hsp, _, hcell⟩ := hc9 ad hv10.symm
            obtain ⟨pg, po, sp⟩ := ad
            simp only at hsp hcell
            subst hsp
            have cp : wr.cell? ⟨pg, po + j, none⟩ = some (.pointer (some ⟨eb, IS[j], none⟩)) := hcell j _ (by rw [List.getElem?_map, List.getElem?_eq_getElem hjl]; rfl)
            have hi12 := HKS.out.2 _ (List.getElem_mem hjl)
            have hrd := HRF.out
            rw [List.drop_eq_getElem_cons hjl] at hrd
            generalize IS[j] = i at *
            have HE1 := Lib.hid (HTE.out.keep HBW.out)
            have HCU := Lib.hid (cut_any prt [32] wr (by omega) HE1.out)
            have HC5 := Lib.hid (cut_le1 prt [32])
            have HC6 := Lib.hid (cut_le2 prt [32])
            change RF = (match Lib.atoiAll (Lib.cut prt [32]).1 with
              | .ok z => readF (IS.drop (j + 1)) (Lib.cut prt [32]).2.1 (v.set i z)
              | _ => none) at hrd
            obtain ⟨⟨p, rest, more2⟩, hcut3⟩ : ∃ c, Lib.cut prt [32] = c := ⟨_, rfl⟩
            rw [hcut3] at HCU HC5 HC6 hrd
            simp only at HC5 HC6 hrd
            change Hid (Calls _ _ _ _ fun e w' => e = .returned (.tuple #[strV p, strV rest, .bool more2]) ∧ Below wr.heap.size wr w') at HCU
            have HRD := Lib.hid hrd
            unfold strV at HCU
            clear hcell hps2 hc9 hv10 hcut3 hrd HRF
            go_wp2_with fail
            refine HCU.out.mono ?_
            rintro e w6 ⟨rfl, hb6⟩
            have HB7 := Lib.hid (bel_on HBW.out hb6)
            have HAT := Lib.hid (atoi_any p w6 (by have := HC5.out; omega) (HTE.out.keep HB7.out))
            have HA7 := Lib.hid (HAV.out.keep hb6)
            have HK7 : Hid (Kept (fun q => q = eb) w5 w6) := Lib.hid (HKP.out.then_ (Kept.of_below hb6))
            have HSL7 : Hid (Sl w6 68 12 u5 acc.length (iv acc.flatten)) := Lib.hid (HSLW.out.keep fun q hq => hb6.block q (HSLW.out.lt hq))
            unfold strV at HAT
            clear hb6 HCU HE1
            go_wp2_with fail
            refine HAT.out.mono ?_
            rintro e w7 ⟨hpost, hb7⟩
            have HB8 := Lib.hid (bel_on HB7.out hb7)
            have hA8 := HA7.out.keep hb7
            have HK8 : Hid (Kept (fun q => q = eb) w5 w7) := Lib.hid (HK7.out.then_ (Kept.of_below hb7))
            have HSL8 : Hid (Sl w7 68 12 u5 acc.length (iv acc.flatten)) := Lib.hid (HSL7.out.keep fun q hq => hb7.block q (HSL7.out.lt hq))
            clear hb7 HAT HA7 HK7 HSL7
            rcases hpost with ⟨z, hz, rfl⟩ | ⟨hno, z, ty, q, rfl⟩
            · have hzI : I64 z := by
                have := Lib.atoiAll_bounds hz
                unfold I64
                omega
              have HRN : Hid (RF = readF (IS.drop (j + 1)) rest (v.set i z)) := Lib.hid (by rw [HRD.out, hz])
              have HAN : Hid (Arr (w7.setCell ⟨eb, i, none⟩ (.int .i64 z)) eb 68 (iv (v.set i z))) := Lib.hid (by
                have := hA8.set i (.int .i64 z)
                rw [iv_set] at this
                exact this)
              have HKN : Hid (Kept (fun q => q = eb) w5 (w7.setCell ⟨eb, i, none⟩ (.int .i64 z))) := Lib.hid (HK8.out.then_ (Kept.setCell w7 (a := ⟨eb, i, none⟩) _ rfl))
              have HIN := Lib.hid (set_I64 (i := i) HVI.out hzI)
              have hvn : (v.set i z).length = 12 := by rw [List.length_set]; exact hvl
              have cz := hA8.cell (iv_nth (x := v) (j := i) (by omega))
              have fz := hA8.free i
              have hrl : rest.length ≤ 1000000 := by have := HC6.out; omega
              clear hz hzI HRD hA8 HK8
              go_wp2_with fail
              go_roundw
              case rel => exact ⟨j + 1, rest, _, rfl, by simp, by omega, hrl, hvn, HIN, HAN, HRN, HKN⟩
              case measure => simp [intOf]; omega
            · have HNO : Hid (R = (acc, s')) := Lib.hid (by
                have h1 : RF = none := by
                  rw [HRD.out]
                  cases hq : Lib.atoiAll p with
                  | ok z => exact absurd hq (hno z)
                  | _ => rfl
                have h2 : decodeT line = none := by rw [HDEC.out, h1]
                rw [HSX.out, h2]
                cases ended <;> rfl)
              have hac : acc.length ≤ 1000000 := by omega
              clear hno HRD hA8
              go_wp2_with fail
              go_meet
              case rel => exact ⟨s', acc, rfl, HNO, HSL8, HEV, hac, HOW, HB8⟩
          · obtain rfl : j = M := by omega
            have hjI : ¬ (j : Int) < (j : Int) := by omega
            have hrf : RF = some v := by
              have := HRF.out
              rw [List.drop_of_length_le (by rw [HM.out]; exact Nat.le_refl _)] at this
              exact this
            have HDV : Hid (decodeT line = if lineT v = line then some v else none) := Lib.hid (by rw [HDEC.out, hrf])
            have hac : acc.length ≤ 1000000 := by omega
            clear hrf HRF HDEC
            cases ended with
            | false =>
              have HNO : Hid (R = (acc, s')) := Lib.hid (by rw [HSX.out]; rfl)
              go_wp2_with fail
              go_meet
              case rel => exact ⟨s', acc, rfl, HNO, HSLW, HEV, hac, HOW, HBW⟩
            | true =>
              have hbs : below.length < s'.length := HCL.out rfl
              obtain ⟨c0, c1, c2, c3, c4, c5, c6, c7, c8, c9, c10, c11, hve⟩ := line12 hvl
              have hAV := HAV.out
              have HAD := Lib.hid (addLine_any w.heap.size 0 v (.slice none 0 0) [] wr hvl HVI.out (World.ownsRow_nil _ _ _ _) HBW.out.size (by omega) (HTB.out.on HBW.out) (HTT.out.words.keep HTT.out.words.lt HBW.out))
              have HWP : Hid (0 < (lineT v).length) := Lib.hid (line_pos v)
              rw [show (Value.agg (iv v).toArray) = .agg #[.int .i64 c0, .int .i64 c1, .int .i64 c2, .int .i64 c3, .int .i64 c4, .int .i64 c5, .int .i64 c6, .int .i64 c7, .int .i64 c8, .int .i64 c9, .int .i64 c10, .int .i64 c11] by rw [hve]; rfl] at HAD
              have e0 := hAV.cell (j := 0) (u := .int .i64 c0) (by rw [hve]; rfl)
              have e1 := hAV.cell (j := 1) (u := .int .i64 c1) (by rw [hve]; rfl)
              have e2 := hAV.cell (j := 2) (u := .int .i64 c2) (by rw [hve]; rfl)
              have e3 := hAV.cell (j := 3) (u := .int .i64 c3) (by rw [hve]; rfl)
              have e4 := hAV.cell (j := 4) (u := .int .i64 c4) (by rw [hve]; rfl)
              have e5 := hAV.cell (j := 5) (u := .int .i64 c5) (by rw [hve]; rfl)
              have e6 := hAV.cell (j := 6) (u := .int .i64 c6) (by rw [hve]; rfl)
              have e7 := hAV.cell (j := 7) (u := .int .i64 c7) (by rw [hve]; rfl)
              have e8 := hAV.cell (j := 8) (u := .int .i64 c8) (by rw [hve]; rfl)
              have e9 := hAV.cell (j := 9) (u := .int .i64 c9) (by rw [hve]; rfl)
              have e10 := hAV.cell (j := 10) (u := .int .i64 c10) (by rw [hve]; rfl)
              have e11 := hAV.cell (j := 11) (u := .int .i64 c11) (by rw [hve]; rfl)
              have HVE := Lib.hid hve
              clear hve
              go_wp2_with fail
              refine HAD.out.mono ?_
              rintro e w8 ⟨v8, rfl, hown8, ht8⟩
              have HB9 := Lib.hid (HBW.out.trans ht8.below)
              have HSL9 := Lib.hid (ht8.sl HSLW.out (by decide))
              have HA9 := Lib.hid (ht8.arr hAV (by decide))
              rw [Nat.zero_add, List.nil_append] at hown8
              obtain ⟨LT, hLT⟩ : ∃ LT, lineT v = LT := ⟨_, rfl⟩
              rw [hLT] at hown8 HWP HDV
              rcases hown8.2 with ⟨rfl, hz⟩ | ⟨g8, cap8, cur8, rfl, _⟩
              · have := HWP.out
                omega
              have hcv := run_convert_bytes_back (P := Tryz.prog) w8 31 9 5 ⟨g8, 0, none⟩ cap8 LT Tryz.underlying31 Tryz.underlying5 Tryz.underlying9 (fun j hj => hown8.cells (g := g8) rfl j _ (by simp [Lib.byteCells, hj]))
              by_cases heq : LT = line
              · have HR3 : Hid (scanT g below (acc ++ [v]) = R) := Lib.hid (by
                  have h1 : decodeT line = some v := by rw [HDV.out, if_pos heq]
                  rw [HSX.out, h1]
                  rfl)
                have HEV2 : Hid (EvI (acc ++ [v])) := Lib.hid fun y hy => by
                  rcases List.mem_append.1 hy with h1 | h1
                  · exact HEV.out y h1
                  · simp only [List.mem_singleton] at h1
                    subst h1
                    exact ⟨hvl, HVI.out⟩
                subst heq
                have hA9 := HA9.out
                have f0 := hA9.cell (j := 0) (u := .int .i64 c0) (by rw [HVE.out]; rfl)
                have f1 := hA9.cell (j := 1) (u := .int .i64 c1) (by rw [HVE.out]; rfl)
                have f2 := hA9.cell (j := 2) (u := .int .i64 c2) (by rw [HVE.out]; rfl)
                have f3 := hA9.cell (j := 3) (u := .int .i64 c3) (by rw [HVE.out]; rfl)
                have f4 := hA9.cell (j := 4) (u := .int .i64 c4) (by rw [HVE.out]; rfl)
                have f5 := hA9.cell (j := 5) (u := .int .i64 c5) (by rw [HVE.out]; rfl)
                have f6 := hA9.cell (j := 6) (u := .int .i64 c6) (by rw [HVE.out]; rfl)
                have f7 := hA9.cell (j := 7) (u := .int .i64 c7) (by rw [HVE.out]; rfl)
                have f8 := hA9.cell (j := 8) (u := .int .i64 c8) (by rw [HVE.out]; rfl)
                have f9 := hA9.cell (j := 9) (u := .int .i64 c9) (by rw [HVE.out]; rfl)
                have f10 := hA9.cell (j := 10) (u := .int .i64 c10) (by rw [HVE.out]; rfl)
                have f11 := hA9.cell (j := 11) (u := .int .i64 c11) (by rw [HVE.out]; rfl)
                obtain ⟨SA, sc, rfl, _⟩ := HSL9.out.shape
                have hbn := bel_new w8 (.cells #[.int .i64 c0, .int .i64 c1, .int .i64 c2, .int .i64 c3, .int .i64 c4, .int .i64 c5, .int .i64 c6, .int .i64 c7, .int .i64 c8, .int .i64 c9, .int .i64 c10, .int .i64 c11] 68)
                have HNW : Hid (∀ j u, [Value.int .i64 c0, Value.int .i64 c1, Value.int .i64 c2, Value.int .i64 c3, Value.int .i64 c4, Value.int .i64 c5, Value.int .i64 c6, Value.int .i64 c7, Value.int .i64 c8, Value.int .i64 c9, Value.int .i64 c10, Value.int .i64 c11][j]? = some u → (w8.alloc (.cells #[.int .i64 c0, .int .i64 c1, .int .i64 c2, .int .i64 c3, .int .i64 c4, .int .i64 c5, .int .i64 c6, .int .i64 c7, .int .i64 c8, .int .i64 c9, .int .i64 c10, .int .i64 c11] 68)).cell? ((⟨w8.heap.size, 0, none⟩ : Addr).add j) = some u) := Lib.hid fun j u hj => by
                  have h1 := (Arr.new w8 [Value.int .i64 c0, Value.int .i64 c1, Value.int .i64 c2, Value.int .i64 c3, Value.int .i64 c4, Value.int .i64 c5, Value.int .i64 c6, Value.int .i64 c7, Value.int .i64 c8, Value.int .i64 c9, Value.int .i64 c10, Value.int .i64 c11] 68).cell hj
                  rw [add_zero_at]
                  exact h1
                have HSN : Hid (Sl (w8.alloc (.cells #[.int .i64 c0, .int .i64 c1, .int .i64 c2, .int .i64 c3, .int .i64 c4, .int .i64 c5, .int .i64 c6, .int .i64 c7, .int .i64 c8, .int .i64 c9, .int .i64 c10, .int .i64 c11] 68)) 68 12 (.slice SA acc.length sc) acc.length (iv acc.flatten)) := Lib.hid (HSL9.out.keep fun q hq => hbn.block q (HSL9.out.lt hq))
                have HBN := Lib.hid (bel_on HB9.out hbn)
                have HON := Lib.hid (iv_one v)
                have hvv : iv v = [Value.int .i64 c0, Value.int .i64 c1, Value.int .i64 c2, Value.int .i64 c3, Value.int .i64 c4, Value.int .i64 c5, Value.int .i64 c6, Value.int .i64 c7, Value.int .i64 c8, Value.int .i64 c9, Value.int .i64 c10, Value.int .i64 c11] := by rw [HVE.out]; rfl
                rw [hvv] at HON
                obtain ⟨i0, hi, hz0, hz1, hz2⟩ := info_parts infoEvent
                have HI0 := Lib.hid hi
                have HZ0 := Lib.hid hz0
                have HZ1 := Lib.hid hz1
                have HZ2 := Lib.hid hz2
                have HCB : Hid (∀ v' w', Sl w' 68 12 v' (acc.length + 1) (iv acc.flatten ++ [Value.int .i64 c0, Value.int .i64 c1, Value.int .i64 c2, Value.int .i64 c3, Value.int .i64 c4, Value.int .i64 c5, Value.int .i64 c6, Value.int .i64 c7, Value.int .i64 c8, Value.int .i64 c9, Value.int .i64 c10, Value.int .i64 c11]) → (w8.alloc (.cells #[.int .i64 c0, .int .i64 c1, .int .i64 c2, .int .i64 c3, .int .i64 c4, .int .i64 c5, .int .i64 c6, .int .i64 c7, .int .i64 c8, .int .i64 c9, .int .i64 c10, .int .i64 c11] 68)).grownBy w' (Value.slice SA acc.length sc).ownBlock → (v'.ownBlock = (Value.slice SA acc.length sc).ownBlock ∨ v'.ownBlock = some (w8.alloc (.cells #[.int .i64 c0, .int .i64 c1, .int .i64 c2, .int .i64 c3, .int .i64 c4, .int .i64 c5, .int .i64 c6, .int .i64 c7, .int .i64 c8, .int .i64 c9, .int .i64 c10, .int .i64 c11] 68)).heap.size) →
                    Sl w' 68 12 v' (acc ++ [v]).length (iv (acc ++ [v]).flatten) ∧ (∀ q, v'.ownBlock = some q → w.heap.size ≤ q) ∧ Below w.heap.size w w') := Lib.hid fun v' w' h1 h2 h3 => by
                  refine ⟨?_, fun q hq => ?_, HBN.out.grown h2 HBN.out.size fun q hq => HOW.out q hq⟩
                  · rw [List.length_append, List.flatten_append, show iv (acc.flatten ++ [v].flatten) = iv acc.flatten ++ iv v by unfold iv; rw [List.map_append]; simp, hvv]
                    exact h1
                  · rcases h3 with h3 | h3
                    · exact HOW.out q (h3 ▸ hq)
                    · rw [h3] at hq
                      cases hq
                      exact HBN.out.size
                have hbm : below.length ≤ g := by omega
                have hag : (acc ++ [v]).length + g ≤ s.length := by rw [List.length_append]; simp only [List.length_cons, List.length_nil]; omega
                clear hAV hA9 HAD hown8 ht8 hLT HDV HSX hi hz0 hz1 hz2 hbn hvv e0 e1 e2 e3 e4 e5 e6 e7 e8 e9 e10 e11
                go_wp2_with (at_builtin; (refine arm_append_sl _ _ 24 rfl rfl 68 i0 _ 12 96 Tryz.underlying24 HI0.out HZ0.out HZ1.out HZ2.out rfl (by decide) (.slice SA acc.length sc) acc.length (iv acc.flatten) rfl HSN.out ⟨w8.heap.size, 0, none⟩ 1 1 [Value.int .i64 c0, Value.int .i64 c1, Value.int .i64 c2, Value.int .i64 c3, Value.int .i64 c4, Value.int .i64 c5, Value.int .i64 c6, Value.int .i64 c7, Value.int .i64 c8, Value.int .i64 c9, Value.int .i64 c10, Value.int .i64 c11] rfl rfl HNW.out HON.out (by unfold maxLen; omega) (by omega) ?_); intro v' w9 h1 h2 h3; have HX := Lib.hid (HCB.out v' w9 h1 h2 h3); obtain ⟨XA, xc, rfl, _⟩ := h1.shape; clear h1 h2 h3)
                go_roundw
                case rel => exact ⟨g, below, acc ++ [v], rfl, hbm, hag, HR3, Lib.hid HX.out.1, HEV2, Lib.hid HX.out.2.1, Lib.hid HX.out.2.2⟩
                case measure => simp [strLen, ByteArray.size]; omega
              · have HNO : Hid (R = (acc, s')) := Lib.hid (by
                  have h1 : decodeT line = none := by rw [HDV.out, if_neg heq]
                  rw [HSX.out, h1]
                  rfl)
                have hneq : (LT == line) = false := by rw [beq_eq_false_iff_ne]; exact heq
                clear hAV HAD hown8 ht8 hLT HDV heq e0 e1 e2 e3 e4 e5 e6 e7 e8 e9 e10 e11
                go_wp2_with fail
                go_meet
                case rel => exact ⟨s', acc, rfl, HNO, HSL9, HEV, hac, HOW, HB9⟩
  case rest =>
    clear HR HSL0 HEV0 HOW0 HB0
    obtain ⟨s', acc, rfl, HR2, HSL, HEV, hac, HOW, HB⟩ := hcut
    obtain ⟨SA, sc, rfl, _⟩ := HSL.out.shape
    by_cases hs0 : s' = []
    · subst hs0
      have HF : Hid (PO (.returned (.tuple #[.slice SA acc.length sc, .int .i64 (acc.length : Int), .int .i64 0])) wc) := Lib.hid (by
        rw [HPO.out, HR2.out]
        exact .inr ⟨rfl, _, rfl, HSL.out, HEV.out, HOW.out⟩)
      go_wp2_with fail
      try rw [Exit.noGoto_ret]
      go_ret3
      exact ⟨HF.out, HB.out⟩
    · have hsb : (s' == ([] : List UInt8)) = false := by rw [beq_eq_false_iff_ne]; exact hs0
      have HF : Hid (PO (.returned (.tuple #[.slice none 0 0, .int .i64 (acc.length : Int), .int .i64 3])) wc) := Lib.hid (by
        rw [HPO.out, HR2.out]
        exact .inl ⟨hs0, rfl⟩)
      go_wp2_with fail
      try rw [Exit.noGoto_ret]
      go_ret3
      exact ⟨HF.out, HB.out⟩
end Go.Proofs.YtpojhplnhppcpaaGreatDoor
