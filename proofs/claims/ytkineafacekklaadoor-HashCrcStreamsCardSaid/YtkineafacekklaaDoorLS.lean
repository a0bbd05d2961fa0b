/- HashCrcStreams answers true. -/
import Derived.Test.YtkineafacekklaaDoorSan
import Derived.Test.YtkineafacekklaaDoorLH
import Derived.Test.YtkineafacekklaaDoorFew
import Derived.Test.YtkineafacekklaaDoorConv2
import Derived.StillTailTactics
import Derived.Test.YtkineafacekklaaDoorCrc4
namespace Go.Proofs.YtkineafacekklaaDoor
open Go.RowKit
theorem cat_take (ss : List ByteArray) (k : Nat) (h : k < ss.length) : cat (ss.take (k + 1)) = cat (ss.take k) ++ ss[k].data.toList := by
  unfold cat; exact flat_take _ ss k h
theorem cat_len (ss : List ByteArray) (h : ∀ s ∈ ss, s.size ≤ 400) : (cat ss).length ≤ 400 * ss.length := by
  unfold cat
  exact flat_len _ 400 ss fun s hs => by rw [size_toList]; exact h s hs
set_option maxRecDepth 100000 in
set_option maxHeartbeats 1000000 in
theorem lawS_out (A : Option Addr) (n cap : Nat) (ss : List ByteArray) (t : ByteArray) (q : Int) (w : World) (hn : ss.length = n) (hr : RV w A (sv ss)) (hT : Tab w 1) (h : fewB ss = false ∨ 400 < t.size) :
    Calls Tryd.prog 4 #[.slice A n cap, .string t, .int .u8 q] w fun e w' => e = .returned (.bool true) ∧ Below w.heap.size w w' := by
  have HT := Lib.hid hT
  have HF := Lib.hid fun w' (h : RV w' A (sv ss)) => few_any A n cap ss w' hn h
  have HR := Lib.hid hr
  clear hT hr hn
  go_enter Tryd.func4, Tryd.ntmps4
  go_wp2_with fail
  refine (san_any _ HT.out).mono ?_
  rintro e w1 ⟨rfl, hb1⟩
  have HB1 := Lib.hid hb1
  clear hb1
  rcases Bool.eq_false_or_eq_true (fewB ss) with hf | hf
  · have h4 : (400 : Int) < (t.size : Int) := by
      rw [hf] at h
      rcases h with h | h
      · exact absurd h (by decide)
      · omega
    rw [hf] at HF
    clear h
    go_wp2_with fail
    refine (HF.out _ (HR.out.below HB1.out)).mono ?_
    rintro e w2 ⟨rfl, rfl⟩
    go_wp2_with fail
    go_ret
    exact ⟨rfl, HB1.out⟩
  · rw [hf] at HF
    clear h
    go_wp2_with fail
    refine (HF.out _ (HR.out.below HB1.out)).mono ?_
    rintro e w2 ⟨rfl, rfl⟩
    go_wp2_with fail
    go_ret
    exact ⟨rfl, HB1.out⟩
set_option maxRecDepth 100000 in
set_option maxHeartbeats 1000000 in
theorem lawS_in (A : Option Addr) (n cap : Nat) (ss : List ByteArray) (t : ByteArray) (q : Nat) (w : World) (hn : ss.length = n) (hcap : n ≤ cap) (hr : RV w A (sv ss)) (hT : Tab w 1) (hf : fewB ss = true) (ht : t.size ≤ 400) (hq : q < 256) :
    Calls Tryd.prog 4 #[.slice A n cap, .string t, .int .u8 (q : Int)] w fun e w' => e = .returned (.bool true) ∧ Below w.heap.size w w' := by
  have hfew := fewB_of hf
  have hl12 : n ≤ 12 := by rw [← hn]; exact hfew.1
  have HS := Lib.hid hfew.2
  have HT := Lib.hid hT
  have HF := Lib.hid fun w' (h : RV w' A (sv ss)) => few_any A n cap ss w' hn h
  rw [hf] at HF
  have HN := Lib.hid hn
  have HR := Lib.hid hr
  clear hT hr hn hf hfew
  have hcutlt : q % (n + 1) ≤ n := by have := Nat.mod_lt q (show 0 < n + 1 by omega); omega
  have hmod : (q : Int) % ((n : Int) + 1) = ((q % (n + 1) : Nat) : Int) := by norm_cast
  generalize q % (n + 1) = c at *
  have hsum : IntKind.i64.wrap ((n : Int) + 1) = (n : Int) + 1 := by rw [i64_wraps]; omega
  go_enter Tryd.func4, Tryd.ntmps4
  go_wp2_with fail
  refine (san_any _ HT.out).mono ?_
  rintro e w1 ⟨rfl, hb1⟩
  have HB1 := Lib.hid hb1
  clear hb1
  have hit : (t.size : Int) ≤ 400 := by omega
  go_wp2_with fail
  refine (HF.out _ (HR.out.below HB1.out)).mono ?_
  rintro e w2 ⟨rfl, rfl⟩
  go_wp2_with fail
  refine (begin_any _).mono ?_
  rintro e w3 ⟨rfl, hb3⟩
  have HB3 := Lib.hid (bel_on HB1.out hb3)
  clear hb3 HB1
  go_wp2_with fail
  refine name_world ?_
  intro W hW
  have hA9 : W.heap[w3.heap.size]? = some (.cells #[.int .u64 (MASK : Int)] 30 (0, 0)) := by rw [hW]; exact heap_alloc_last w3 _
  have hB9 : Below w.heap.size w W := by rw [hW]; exact bel_on HB3.out (bel_new _ _)
  have hb9 : w.heap.size ≤ w3.heap.size := HB3.out.size
  have HA9 := Lib.hid hA9
  have HB9 := Lib.hid hB9
  clear hW hA9 hB9 HB3
  generalize w3.heap.size = b9 at *
  go_loopw [10] (fun i wr => ∃ (k r : Nat), i = .int .i64 k ∧ k ≤ c ∧ Hid (r = run MASK (cat (ss.take k))) ∧ r < 1099511627776 ∧ wr.heap[b9]? = some (.cells #[.int .u64 (r : Int)] 30 (0, 0)) ∧ Below w.heap.size w wr) (fun i _ => c - (intOf i).toNat)
  case atStart => exact ⟨0, MASK, rfl, by omega, Lib.hid rfl, MASK_lt, HA9.out, HB9.out⟩
  case round =>
    clear HA9 HB9
    obtain ⟨k, r, rfl, hk, hR, hr40, hbx, hb⟩ := hrel
    have hhs := hb.size
    by_cases hlt : k < c
    · have hkl : k < ss.length := by rw [HN.out]; omega
      obtain ⟨b, o, rfl, hc⟩ := HR.out.at_ (w' := wr) hb (k := k) (sv_at hkl)
      have hs4 := HS.out _ (List.getElem_mem hkl)
      have HTK : Hid (run MASK (cat (ss.take (k + 1))) = run (run MASK (cat (ss.take k))) ss[k].data.toList) := Lib.hid (by rw [cat_take ss k hkl, run_append])
      generalize ss[k] = s at *
      have hc0 := cell_of_one hbx
      have HB := Lib.hid hbx
      have hkn : k < n := by omega
      clear hbx
      go_wp2_with fail
      go_still_tail 5, (by kernel_rfl)
      change wpList _ _ _ _ _ wr.drew
      have hbd := bel_drew wr
      have HD := Lib.hid (blk_keep HB.out hbd)
      have hb' := bel_on hb hbd
      have hz3 : wr.drew.heap.size = wr.heap.size := rfl
      generalize wr.drew = w4 at *
      clear hbd hc0 HB hb hc
      go_wp2_with fail
      refine (add_any r s _ hr40 (by omega)).mono ?_
      rintro e w5 ⟨rfl, hb5⟩
      have HB5 := Lib.hid (blk_keep HD.out hb5)
      have hc5 := cell_of_one HB5.out
      have hf5 := free_of_one HB5.out
      have hlt2 := run_lt (l := s.data.toList) hr40
      go_wp2_with fail
      go_roundw
      case rel => exact ⟨k + 1, _, by go_num, by omega, Lib.hid (by rw [HTK.out, ← hR.out]), hlt2, one_setCell HB5.out, (bel_on hb' hb5).setCell hb9 _⟩
      case measure => simp [intOf]; omega
    · obtain rfl : k = c := by omega
      have HR0 : Hid (r = run MASK (cat (ss.take k))) := hR
      have hr0 := hr40
      have hc0 := cell_of_one hbx
      have HX := Lib.hid hbx
      have HBB := Lib.hid hb
      clear hbx hb hlt
      go_wp2_with fail
      refine name_world ?_
      intro W hW
      have hA : W.heap[b9]? = some (.cells #[.int .u64 (r : Int)] 30 (0, 0)) := by rw [hW]; exact blk_keep HX.out (bel_new _ _)
      have hS : W.heap[wr.heap.size]? = some (.cells #[.int .u64 (r : Int)] 30 (0, 0)) := by rw [hW]; exact heap_alloc_last wr _
      have hBW : Below w.heap.size w W := by rw [hW]; exact bel_on HBB.out (bel_new _ _)
      have hb11 : b9 < wr.heap.size := lt_of_block HX.out
      have HA := Lib.hid hA
      have HSV := Lib.hid hS
      have HBW := Lib.hid hBW
      clear hW hA hS hBW HBB HX hc0
      generalize wr.heap.size = b11 at *
      go_loopw [12] (fun i wr => ∃ (j r2 : Nat), i = .int .i64 j ∧ k ≤ j ∧ j ≤ n ∧ Hid (r2 = run MASK (cat (ss.take j))) ∧ r2 < 1099511627776 ∧ wr.heap[b9]? = some (.cells #[.int .u64 (r2 : Int)] 30 (0, 0)) ∧ Hid (wr.heap[b11]? = some (.cells #[.int .u64 (r : Int)] 30 (0, 0))) ∧ Below w.heap.size w wr) (fun i _ => n - (intOf i).toNat)
      case atStart => exact ⟨k, r, rfl, Nat.le_refl _, hcutlt, HR0, hr0, HA.out, HSV, HBW.out⟩
      case round =>
        clear HA HSV HBW
        obtain ⟨j, r2, rfl, hkj, hj, hR2, hr2, hbx, hsv, hb⟩ := hrel
        have hhs := hb.size
        by_cases hlt : j < n
        · have hkl : j < ss.length := by rw [HN.out]; omega
          obtain ⟨b, o, rfl, hc⟩ := HR.out.at_ (w' := wr) hb (k := j) (sv_at hkl)
          have hs4 := HS.out _ (List.getElem_mem hkl)
          have HTK : Hid (run MASK (cat (ss.take (j + 1))) = run (run MASK (cat (ss.take j))) ss[j].data.toList) := Lib.hid (by rw [cat_take ss j hkl, run_append])
          generalize ss[j] = s at *
          have hc0 := cell_of_one hbx
          have HB := Lib.hid hbx
          clear hbx
          go_wp2_with fail
          go_still_tail 5, (by kernel_rfl)
          change wpList _ _ _ _ _ wr.drew
          have hbd := bel_drew wr
          have HD := Lib.hid (blk_keep HB.out hbd)
          have HS4 := Lib.hid (blk_keep hsv.out hbd)
          have hb' := bel_on hb hbd
          have hz3 : wr.drew.heap.size = wr.heap.size := rfl
          generalize wr.drew = w4 at *
          clear hbd hc0 HB hb hc hsv
          go_wp2_with fail
          refine (add_any r2 s _ hr2 (by omega)).mono ?_
          rintro e w5 ⟨rfl, hb5⟩
          have HB5 := Lib.hid (blk_keep HD.out hb5)
          have HS5 := Lib.hid (blk_keep HS4.out hb5)
          have hc5 := cell_of_one HB5.out
          have hf5 := free_of_one HB5.out
          have hlt2 := run_lt (l := s.data.toList) hr2
          go_wp2_with fail
          go_roundw
          case rel => exact ⟨j + 1, _, by go_num, by omega, by omega, Lib.hid (by rw [HTK.out, ← hR2.out]), hlt2, one_setCell HB5.out, Lib.hid ((Below.heap_setCell _ _ _ _ (by simp; omega)).trans HS5.out), (bel_on hb' hb5).setCell hb9 _⟩
          case measure => simp [intOf]; omega
        · obtain rfl : j = n := by omega
          have HR9 : Hid (r2 = run MASK (cat ss)) := Lib.hid (by have := hR2.out; rwa [List.take_of_length_le (by rw [HN.out]; exact Nat.le_refl _)] at this)
          have hc11 := cell_of_one hsv.out
          have HX := Lib.hid hbx
          have HBB := Lib.hid hb
          clear hbx hb hlt hR2
          go_wp2_with fail
          refine (add_any r t _ hr0 (by omega)).mono ?_
          rintro e w5 ⟨rfl, hb5⟩
          have HX5 := Lib.hid (blk_keep HX.out hb5)
          have HS5 := Lib.hid (blk_keep hsv.out hb5)
          have HB5 := Lib.hid (bel_on HBB.out hb5)
          have hlt3 := run_lt (l := t.data.toList) hr0
          have HR3 : Hid (run r t.data.toList = run MASK (cat (ss.take k) ++ t.data.toList)) := Lib.hid (by rw [run_append, ← HR0.out])
          generalize run r t.data.toList = r3 at *
          clear hc11 hsv HX HBB hb5
          go_wp2_with fail
          have HX6 := Lib.hid (blk_keep HX5.out (bel_new w5 (.cells #[.int .u64 (r3 : Int)] 30)))
          have HS6 := Lib.hid (blk_keep HS5.out (bel_new w5 (.cells #[.int .u64 (r3 : Int)] 30)))
          have HB6 := Lib.hid (bel_on HB5.out (bel_new w5 (.cells #[.int .u64 (r3 : Int)] 30)))
          have HT6 : Hid ((w5.alloc (.cells #[.int .u64 (r3 : Int)] 30)).heap[w5.heap.size]? = some (.cells #[.int .u64 (r3 : Int)] 30 (0, 0))) := Lib.hid (heap_alloc_last w5 _)
          generalize w5.alloc (.cells #[.int .u64 (r3 : Int)] 30) = w6 at *
          generalize w5.heap.size = b13 at *
          clear HX5 HS5 HB5
          refine (joined_any A j cap ss w6 HN.out (HR.out.below HB6.out) hl12 HS.out).mono ?_
          rintro e w7 ⟨⟨X, rfl, hX⟩, rfl⟩
          have hXs : X.size ≤ 4800 := by
            have h1 := cat_len ss HS.out
            rw [← hX, size_toList] at h1
            have := HN.out
            omega
          have HXC := Lib.hid hX
          clear hX
          go_wp2_with fail
          have hrt : RV w6 A (sv (ss.take k)) := by
            have h := (HR.out.below HB6.out).take k
            rw [show (sv ss).take k = sv (ss.take k) by simp [sv]] at h
            exact h
          refine (joined_any A k cap (ss.take k) w6 (by rw [List.length_take, HN.out]; omega) hrt (by omega) (fun s hs => HS.out s (List.mem_of_mem_take hs))).mono ?_
          rintro e w8 ⟨⟨Y, rfl, hY⟩, rfl⟩
          have hYs : Y.size ≤ 4800 := by
            have h1 := cat_len (ss.take k) (fun s hs => HS.out s (List.mem_of_mem_take hs))
            rw [← hY, size_toList, List.length_take] at h1
            omega
          have HYC := Lib.hid hY
          obtain ⟨Z, hZ⟩ : ∃ Z, Y ++ t = Z := ⟨_, rfl⟩
          have HZC : Hid (Z.data.toList = cat (ss.take k) ++ t.data.toList) := Lib.hid (by rw [← hZ, ← HYC.out]; simp)
          have hZs : Z.size ≤ 6000 := by rw [← hZ, ByteArray.size_append]; omega
          clear hY hrt
          have HV1 : Hid (crc X.data.toList = r2 ^^^ MASK) := Lib.hid (by rw [HXC.out, HR9.out]; rfl)
          have HV2 : Hid (crc Y.data.toList = r ^^^ MASK) := Lib.hid (by rw [HYC.out, HR0.out]; rfl)
          have HV3 : Hid (crc Z.data.toList = r3 ^^^ MASK) := Lib.hid (by rw [HZC.out, HR3.out]; rfl)
          have hc9 := cell_of_one HX6.out
          go_wp2_with fail
          refine (value_any r2 _ hr2).mono ?_
          rintro e w9 ⟨rfl, hb9'⟩
          have hbs1 := run_bytes w9 X
          have hq1 := crc40_any (some ⟨w9.heap.size, 0, none⟩) X.size (grownCap w9 X.size 0 5) X.data.toList (Lib.bytesWorld w9 5 X) (size_toList X) (rv_bytes w9 X) (by omega)
          rw [HV1.out] at hq1
          have hk := bel_on hb9' (bel_bytes w9 X)
          have HS10 := Lib.hid (blk_keep HS6.out hk)
          have HT10 := Lib.hid (blk_keep HT6.out hk)
          have HB10 := Lib.hid (bel_on HB6.out hk)
          have HQ1 := Lib.hid hq1
          clear hq1 hk hb9' hc9
          generalize grownCap w9 X.size 0 5 = gc1 at *
          generalize Lib.bytesWorld w9 5 X = w10 at *
          generalize r2 ^^^ MASK = e2 at *
          go_wp2_with fail
          refine HQ1.out.mono ?_
          rintro e w11 ⟨rfl, hb11'⟩
          have HS11 := Lib.hid (blk_keep HS10.out hb11')
          have HT11 := Lib.hid (blk_keep HT10.out hb11')
          have HB11 := Lib.hid (bel_on HB10.out hb11')
          clear hb11' hbs1 HQ1 HS10 HT10 HB10
          have hc11 := cell_of_one HS11.out
          go_wp2_with fail
          refine (value_any r _ hr0).mono ?_
          rintro e w12 ⟨rfl, hb12'⟩
          have hbs2 := run_bytes w12 Y
          have hq2 := crc40_any (some ⟨w12.heap.size, 0, none⟩) Y.size (grownCap w12 Y.size 0 5) Y.data.toList (Lib.bytesWorld w12 5 Y) (size_toList Y) (rv_bytes w12 Y) (by omega)
          rw [HV2.out] at hq2
          have hk := bel_on hb12' (bel_bytes w12 Y)
          have HT13 := Lib.hid (blk_keep HT11.out hk)
          have HB13 := Lib.hid (bel_on HB11.out hk)
          have HQ2 := Lib.hid hq2
          clear hq2 hk hb12' hc11 HS11 HT11 HB11
          generalize grownCap w12 Y.size 0 5 = gc2 at *
          generalize Lib.bytesWorld w12 5 Y = w13 at *
          generalize r ^^^ MASK = e1 at *
          go_wp2_with fail
          refine HQ2.out.mono ?_
          rintro e w14 ⟨rfl, hb14'⟩
          have HT14 := Lib.hid (blk_keep HT13.out hb14')
          have HB14 := Lib.hid (bel_on HB13.out hb14')
          clear hb14' hbs2 HQ2 HT13 HB13
          have hc13 := cell_of_one HT14.out
          go_wp2_with fail
          refine (value_any r3 _ hlt3).mono ?_
          rintro e w15 ⟨rfl, hb15'⟩
          have hbs3 := run_bytes w15 Z
          have hq3 := crc40_any (some ⟨w15.heap.size, 0, none⟩) Z.size (grownCap w15 Z.size 0 5) Z.data.toList (Lib.bytesWorld w15 5 Z) (size_toList Z) (rv_bytes w15 Z) (by omega)
          rw [HV3.out] at hq3
          have hk := bel_on hb15' (bel_bytes w15 Z)
          have HB16 := Lib.hid (bel_on HB14.out hk)
          have HQ3 := Lib.hid hq3
          clear hq3 hk hb15' hc13 HT14 HB14
          generalize grownCap w15 Z.size 0 5 = gc3 at *
          generalize Lib.bytesWorld w15 5 Z = w16 at *
          generalize r3 ^^^ MASK = e3 at *
          go_wp2_with fail
          refine HQ3.out.mono ?_
          rintro e w17 ⟨rfl, hb17'⟩
          go_wp2_with fail
          go_ret
          exact ⟨rfl, bel_on HB16.out hb17'⟩
theorem lawS (A : Option Addr) (n cap : Nat) (ss : List ByteArray) (t : ByteArray) (q : Int) (w : World) (hn : ss.length = n) (hcap : n ≤ cap) (hr : RV w A (sv ss)) (hq : 0 ≤ q ∧ q < 256) (hT : Tab w 1) :
    Calls Tryd.prog 4 #[.slice A n cap, .string t, .int .u8 q] w fun e w' => e = .returned (.bool true) ∧ Below w.heap.size w w' := by
  obtain ⟨p, rfl⟩ : ∃ p : Nat, q = (p : Int) := ⟨q.toNat, by omega⟩
  by_cases h : fewB ss = true ∧ t.size ≤ 400
  · exact lawS_in A n cap ss t p w hn hcap hr hT h.1 h.2 (by omega)
  · refine lawS_out A n cap ss t p w hn hr hT ?_
    rcases Bool.eq_false_or_eq_true (fewB ss) with hf | hf
    · exact .inr (by have : ¬ t.size ≤ 400 := fun h2 => h ⟨hf, h2⟩; omega)
    · exact .inl hf
end Go.Proofs.YtkineafacekklaaDoor
