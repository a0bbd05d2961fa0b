/- What Add of a stream does. -/
import Derived.Test.YtkineafacekklaaDoorBegin
import Derived.Test.YtkineafacekklaaDoorSha4
namespace Go.Proofs.YtkineafacekklaaDoor
open Go.RowKit
section
variable {ops : Array Oper} {rest : List Oper} {o : Oper} {a : Act} {Q : Exit → Act → World → Prop} {w : World}
theorem mtake_bv (t : ByteArray) (n : Nat) : List.take n (List.map (fun x : UInt8 => Value.int IntKind.u8 (x.toNat : Int)) t.data.toList) = bv (t.data.toList.take n) := by
  unfold bv; rw [List.map_take]
/-- copy out of a string. -/
theorem arm_copy (g t f n dl dc : Nat) (A cs C : List Value) (s : ByteArray) (hA : Arr w g t (A ++ (cs ++ C))) (hf : A.length = f) (hl : cs.length = n) (hn : min s.size dl = n)
    (hgd : o.guard = none) (x y : Operand) (ho : o.op = .call { callee := .builtin .copy, args := #[x, y], argTypes := #[22, 9] }) (hx : a.eval x = .slice (some ⟨g, f, none⟩) dl dc) (hy : a.eval y = .string s)
    (h : ∀ w', Arr w' g t (A ++ (bv (s.data.toList.take n) ++ C)) → (∀ k, k ≠ g → w'.heap[k]? = w.heap[k]?) → (∀ B, B ≤ g → Below B w w') → wpList Tryd.prog ops Q rest (a.put o.dst (.int .i64 (n : Int))) w') : wpList Tryd.prog ops Q (o :: rest) a w := by
  subst hf
  have hn' : Nat.min s.size dl = n := hn
  have hsz : s.data.toList.length = s.size := by rw [Array.length_toList]; rfl
  have hlen : (bv (s.data.toList.take n)).length = n := by rw [bv_len, List.length_take, hsz]; omega
  have hst := run_storeCells_cells (P := Tryd.prog) g A.length (bv (s.data.toList.take n)) 0 w (by
      intro j hj
      rw [hlen] at hj
      have := hA.mid.isSome j (by omega)
      simpa using this) (by intro j _; exact hA.free _) (bv_one _)
  refine wpList_plain hgd fun K hK => ?_
  have hrun : (Builtin.copy_ #[22, 9] o.type #[.slice (some ⟨g, A.length, none⟩) dl dc, .string s]).run Tryd.prog w = .ok (goInt n) (w.setCells g A.length (bv (s.data.toList.take n))) := by
    obtain ⟨i5, hi5, hs5⟩ := Option.map_eq_some_iff.1 size5
    simp only [Nat.add_zero] at hst
    simp [Builtin.copy_, run_underlying Tryd.underlying22, Builtin.lenOf, Builtin.firstCells, sizeOf, typeInfo, hi5, hn']
    rw [mtake_bv, hst]
    rfl
  unfold Oper.wp
  simp [execOp, ho, resolve, invoke, builtin, hx, hy, hrun, Result.andThen]
  refine hK _ _ (h _ ?_ (fun k hk => heap_setCells g _ _ _ k hk) (fun B hB => bel_setCells hB _ _ _ (Below.refl _ _)))
  have := arr_setCells (t := t) (bv (s.data.toList.take n)) A.length w _ hA
  rwa [setAll_mid A _ cs C (by rw [hlen]; exact hl)] at this
end
theorem slice51 (g f L : Nat) (w : World) : (Instr.sliceAt 51 (.pointer (some ⟨g, f, none⟩)) (some (.int .u64 ((L : Int) % 64))) none none).run Tryd.prog w = .ok (.slice (some ⟨g, f + L % 64, none⟩) (64 - L % 64) (64 - L % 64)) w := by
  obtain ⟨i5, hi5, hs5⟩ := Option.map_eq_some_iff.1 size5
  have h1 : 0 ≤ (L : Int) % 64 := by omega
  have h2 : (L : Int) % 64 ≤ 64 := by omega
  have h3 : ((L : Int) % 64).toNat = L % 64 := by omega
  have h4 : ¬ (64 = L % 64) := by omega
  simp [Instr.sliceAt, Instr.sureAddr, Instr.sliceBounds, Instr.sliceBound, asIntOf, run_underlying Tryd.underlying51, sizeOf, typeInfo, hi5, hs5, h1, h2, h3, h4, add_lit']
def lenS : Value → Nat | .string b => b.size | _ => 0
theorem stm_split (m : List UInt8) (n : Nat) : stm m = (uv (hashN m (m.length / 64)).list ++ bv ((blk m).take (m.length % 64))) ++ (bv (((blk m).drop (m.length % 64)).take n) ++ (bv ((blk m).drop (m.length % 64 + n)) ++ [Value.int .u64 (m.length : Int)])) := by
  unfold stm stc
  have e : blk m = (blk m).take (m.length % 64) ++ (((blk m).drop (m.length % 64)).take n ++ (blk m).drop (m.length % 64 + n)) := by
    rw [← List.drop_drop, List.take_append_drop, List.take_append_drop]
  have e2 : bv (blk m) = bv ((blk m).take (m.length % 64)) ++ (bv (((blk m).drop (m.length % 64)).take n) ++ bv ((blk m).drop (m.length % 64 + n))) := by
    rw [← bv_append, ← bv_append, ← e]
  rw [e2]
  simp only [List.append_assoc]
/-- The block with a piece of the message written into it. -/
def nb (m p : List UInt8) : List UInt8 := (blk m).take (m.length % 64) ++ (p ++ (blk m).drop (m.length % 64 + p.length))
theorem nb_len (m p : List UInt8) (h : m.length % 64 + p.length ≤ 64) : (nb m p).length = 64 := by
  unfold nb
  rw [List.length_append, List.length_append, List.length_take, List.length_drop, blk_len]
  omega
theorem stm_join (v : V8) (m p : List UInt8) (n : Nat) (h : p.length = n) (x : Nat) : (uv v.list ++ bv ((blk m).take (m.length % 64))) ++ (bv p ++ (bv ((blk m).drop (m.length % 64 + n)) ++ [Value.int .u64 (x : Int)])) = stc v (nb m p) x := by
  subst h
  unfold stc nb
  rw [bv_append, bv_append]
  simp only [List.append_assoc]
theorem stc_set (v : V8) (b : List UInt8) (n k : Nat) (h : b.length = 64) : (stc v b n).set 72 (.int .u64 (k : Int)) = stc v b k := by
  unfold stc
  rw [List.set_append_right _ _ (by rw [uv8]; decide), uv8, List.set_append_right _ _ (by rw [bv_len, h]; decide), bv_len, h]
  rfl
theorem stc_arr {w : World} {g t : Nat} {v : V8} {b : List UInt8} {n : Nat} (h : Arr w g t (stc v b n)) (hb : b.length = 64) (k : Nat) (z : Int) (hz : z = (k : Int)) : Arr (w.setCell ⟨g, 72, none⟩ (.int .u64 z)) g t (stc v b k) := by
  subst hz
  rw [← stc_set v b n k hb]
  exact h.set 72 _
theorem stm_part (m p : List UInt8) (h : m.length % 64 + p.length < 64) : stm (m ++ p) = stc (hashN m (m.length / 64)) (nb m p) (m.length + p.length) := by
  unfold stm nb
  rw [hash_part m p h, blk_part m p h, List.length_append]
theorem stm_full (m p : List UInt8) (h : m.length % 64 + p.length = 64) : stm (m ++ p) = stc (comp (hashN m (m.length / 64)) (nb m p)) Z51 (m.length + p.length) := by
  unfold stm
  rw [hash_full m p h, blk_empty m p h, List.length_append]
  rfl
theorem ext_toList (s : ByteArray) (n : Nat) : (s.extract n s.size).data.toList = s.data.toList.drop n := by
  rw [ByteArray.data_extract, Array.toList_extract]
  have e : s.data.toList.length = s.size := by rw [Array.length_toList]; rfl
  simp only [List.extract]
  rw [List.take_of_length_le (by rw [List.length_drop, e]; exact Nat.le_refl _)]
theorem size53' {l : List Value} (h : l.length = 73) : (Tryd.prog.info? 53).map (·.size) = some l.length := by rw [size53, h]
set_option maxRecDepth 100000 in
set_option maxHeartbeats 1000000 in
theorem adds_any (m : List UInt8) (t : ByteArray) (w : World) (hl : m.length + t.size ≤ 140737488355328) (hT : Tab w 1) :
    Calls Tryd.prog 32 #[.agg (stm m).toArray, .string t] w fun e w' => e = .returned (.agg (stm (m ++ t.data.toList)).toArray) ∧ Below w.heap.size w w' := by
  have hz53 := zero53
  have HT := Lib.hid hT
  clear hT
  go_enter Tryd.func32, Tryd.ntmps32
  go_wp2_with fail
  go_loopw [1, 5] (fun s1 _ wr => ∃ (m' : List UInt8) (s : ByteArray), s1 = .string s ∧ Hid (m ++ t.data.toList = m' ++ s.data.toList) ∧ m'.length + s.size ≤ 140737488355328 ∧ Hid (Arr wr w.heap.size 53 (stm m')) ∧ Hid (Arr wr (w.heap.size + 1) 53 zst) ∧ Hid (Below w.heap.size w wr)) (fun s1 _ _ => lenS s1)
  case atStart => exact ⟨m, t, rfl, Lib.hid rfl, hl, Lib.hid (a2_0 _ _ _), Lib.hid (a2_1 _ _ _), Lib.hid (bel2 _ _ _)⟩
  case round =>
    obtain ⟨m', s, rfl, HM, hlen, HA, HZ, HB⟩ := hrel
    have hc72 := stc_last HA.out (blk_len m')
    have hf72 := HA.out.free 72
    have hblk := blk_len m'
    by_cases hlt : 0 < s.size
    · obtain ⟨n, hn⟩ : ∃ n, min s.size (64 - m'.length % 64) = n := ⟨_, rfl⟩
      have hn1 : m'.length % 64 + n ≤ 64 := by omega
      have hn0 : 0 < n := by omega
      have hns : n ≤ s.size := by omega
      have HS := Lib.hid (stm_split m' n)
      have HA1 := HA.out
      rw [HS.out] at HA1
      have HA2 := Lib.hid HA1
      have hcl : (bv (((blk m').drop (m'.length % 64)).take n)).length = n := by rw [bv_len, List.length_take, List.length_drop, hblk]; omega
      have hal : (uv (hashN m' (m'.length / 64)).list ++ bv ((blk m').take (m'.length % 64))).length = 8 + m'.length % 64 := by rw [List.length_append, uv8, bv_len, List.length_take, hblk]; omega
      have HCL := Lib.hid hcl
      have HAL := Lib.hid hal
      have HN := Lib.hid hn
      clear hcl hal hn HA1 hblk
      have hat : ((m'.length : Int) % 64) < 64 := by omega
      have hat0 : 0 ≤ ((m'.length : Int) % 64) := by omega
      have hne : ¬ (64 = m'.length % 64) := by omega
      have hsl := slice51 w.heap.size 8 m'.length
      obtain ⟨p, hp⟩ : ∃ p, s.data.toList.take n = p := ⟨_, rfl⟩
      have hsz : s.data.toList.length = s.size := by rw [Array.length_toList]; rfl
      have hpl : p.length = n := by rw [← hp, List.length_take]; omega
      have HP := Lib.hid hp
      have HPL := Lib.hid hpl
      have HJ := Lib.hid (stm_join (hashN m' (m'.length / 64)) m' p n hpl m'.length)
      have HNB := Lib.hid (nb_len m' p (by omega))
      have HOK := Lib.hid (hashN_ok m' (m'.length / 64))
      have HD : Hid (m ++ t.data.toList = (m' ++ p) ++ (s.extract n s.size).data.toList) := Lib.hid (by rw [HM.out, ext_toList, ← HP.out, List.append_assoc, List.take_append_drop])
      have hes : (s.extract n s.size).size = s.size - n := by simp
      have HES := Lib.hid hes
      clear hp hpl hsz hes HM
      by_cases hfull : m'.length % 64 + n = 64
      · have HF := Lib.hid (stm_full m' p (by rw [HPL.out]; exact hfull))
        have hcond : (((m'.length : Int) + (n : Int)) % 64 == 0) = true := by rw [beq_iff_eq]; omega
        have HFU := Lib.hid hfull
        clear hfull
        have HZ72 : Hid ((m'.length : Int) + (n : Int) = ((m'.length + p.length : Nat) : Int)) := Lib.hid (by rw [HPL.out]; omega)
        have HS73 : Hid ((Tryd.prog.info? 53).map (·.size) = some (stc (hashN m' (m'.length / 64)) (nb m' p) (m'.length + p.length)).length) := Lib.hid (size53' (stc_len _ _ _ HNB.out))
        have HS74 : Hid ((Tryd.prog.info? 53).map (·.size) = some (stm (m' ++ p)).length) := Lib.hid (size53' (stm_len _))
        have HLL : Hid ((stc (hashN m' (m'.length / 64)) (nb m' p) (m'.length + p.length)).length = (stm (m' ++ p)).length) := Lib.hid (by rw [stc_len _ _ _ HNB.out, stm_len])
        have HON : Hid (∀ u ∈ stm (m' ++ p), u.oneCell' = true) := Lib.hid (stc_one _ _ _)
        go_wp2_with (first
          | ((with_reducible refine arm_copy w.heap.size 53 (8 + m'.length % 64) n (64 - m'.length % 64) (64 - m'.length % 64) _ _ _ s HA2.out HAL.out HCL.out HN.out rfl _ _ rfl ?_ ?_ ?_); (focus rfl); (focus rfl); intro w2 hA5 hoth hbe; rw [HP.out, HJ.out] at hA5; have HA5 := Lib.hid hA5; have HZ2 : Hid (Arr w2 (w.heap.size + 1) 53 zst) := Lib.hid ((hoth _ (by simp)).trans HZ.out); have HB2 := Lib.hid (HB.out.trans (hbe w.heap.size (Nat.le_refl _))); clear hA5 hoth hbe hsl hc72 hf72; have hc72 := stc_last HA5.out HNB.out; have hf72 := HA5.out.free 72)
          | ((with_reducible refine arm_row 53 w.heap.size 53 (stc (hashN m' (m'.length / 64)) (nb m' p) (m'.length + p.length)) (stc_arr HA5.out HNB.out (m'.length + p.length) _ HZ72.out) _ Tryd.underlying53 rfl HS73.out rfl _ rfl ?_ ?_); (focus rfl); have HA7 := Lib.hid (stc_arr HA5.out HNB.out (m'.length + p.length) _ HZ72.out); have HB3 := Lib.hid (HB2.out.setCell (p := ⟨w.heap.size, 72, none⟩) (Nat.le_refl _) (.int .u64 ((m'.length : Int) + (n : Int)))); have HZ3 := Lib.hid (HZ2.out.other (a := ⟨w.heap.size, 72, none⟩) (by simp) (.int .u64 ((m'.length : Int) + (n : Int)))); clear hc72 hf72; generalize w2.setCell ⟨w.heap.size, 72, none⟩ (.int .u64 ((m'.length : Int) + (n : Int))) = w3 at *)
          | (go_at_call 47; (refine (compd_any _ _ _ _ HNB.out HOK.out (HT.out.keep HB3.out)).mono ?_); rintro e w4 ⟨rfl, hb4⟩; have HA8 := Lib.hid (HA7.out.keep hb4); have HZ4 := Lib.hid (HZ3.out.keep hb4); have HB4 := Lib.hid (bel_on HB3.out hb4); clear hb4; rw [← HF.out])
          | ((with_reducible refine arm_put 53 w.heap.size 53 _ (stm (m' ++ p)) HA8.out HS74.out HLL.out HON.out rfl _ _ rfl ?_ ?_ ?_); (focus rfl); (focus rfl)))
        simp only [Act.put]
        go_roundw
        case rel => exact ⟨m' ++ p, s.extract n s.size, rfl, HD, by rw [HES.out, List.length_append, HPL.out]; omega, Lib.hid (HA8.out.row _), Lib.hid (HZ4.out.row_other (by simp) _), Lib.hid (bel_row HB4.out (Nat.le_refl _) _)⟩
        case measure => simp only [lenS]; have := HES.out; omega
      · have HF := Lib.hid (stm_part m' p (by rw [HPL.out]; omega))
        have hcond : (((m'.length : Int) + (n : Int)) % 64 == 0) = false := by rw [beq_eq_false_iff_ne]; omega
        have HFU := Lib.hid hfull
        clear hfull
        have HZ72 : Hid ((m'.length : Int) + (n : Int) = ((m'.length + p.length : Nat) : Int)) := Lib.hid (by rw [HPL.out]; omega)
        go_wp2_with ((with_reducible refine arm_copy w.heap.size 53 (8 + m'.length % 64) n (64 - m'.length % 64) (64 - m'.length % 64) _ _ _ s HA2.out HAL.out HCL.out HN.out rfl _ _ rfl ?_ ?_ ?_); (focus rfl); (focus rfl); intro w2 hA5 hoth hbe; rw [HP.out, HJ.out] at hA5; have HA5 := Lib.hid hA5; have HZ2 : Hid (Arr w2 (w.heap.size + 1) 53 zst) := Lib.hid ((hoth _ (by simp)).trans HZ.out); have HB2 := Lib.hid (HB.out.trans (hbe w.heap.size (Nat.le_refl _))); clear hA5 hoth hbe hsl hc72 hf72; have hc72 := stc_last HA5.out HNB.out; have hf72 := HA5.out.free 72)
        go_roundw
        case rel => exact ⟨m' ++ p, s.extract n s.size, rfl, HD, by rw [HES.out, List.length_append, HPL.out]; omega, Lib.hid (by rw [HF.out]; exact stc_arr HA5.out HNB.out _ _ HZ72.out), Lib.hid (HZ2.out.other (by simp) _), Lib.hid (HB2.out.setCell (Nat.le_refl _) _)⟩
        case measure => simp only [lenS]; have := HES.out; omega
    · have hs0 : s.size = 0 := by omega
      have hd0 : s.data.toList = [] := List.eq_nil_of_length_eq_zero (by rw [Array.length_toList]; exact hs0)
      have HM2 : Hid (m ++ t.data.toList = m') := Lib.hid (by rw [HM.out, hd0, List.append_nil])
      have HS74 : Hid ((Tryd.prog.info? 53).map (·.size) = some (stm m').length) := Lib.hid (size53' (stm_len _))
      have HLL : Hid (zst.length = (stm m').length) := Lib.hid (by rw [stm_len, zst_len])
      have HON : Hid (∀ u ∈ stm m', u.oneCell' = true) := Lib.hid (stc_one _ _ _)
      clear hd0 hc72 hf72 hblk
      go_wp2_with (first
        | ((with_reducible refine arm_row 53 w.heap.size 53 (stm m') HA.out _ Tryd.underlying53 rfl HS74.out rfl _ rfl ?_ ?_); focus rfl)
        | ((with_reducible refine arm_put 53 (w.heap.size + 1) 53 zst (stm m') HZ.out HS74.out HLL.out HON.out rfl _ _ rfl ?_ ?_ ?_); (focus rfl); (focus rfl)))
      exact bodyPost_ret (v := .agg (stm m').toArray) (ret_row Tryd.results32 _ _ (w.heap.size + 1) 53 _ (HZ.out.row _) rfl _ Tryd.underlying53 rfl HS74.out) rfl ⟨by rw [HM2.out], bel_row HB.out (by omega) _⟩
end Go.Proofs.YtkineafacekklaaDoor
