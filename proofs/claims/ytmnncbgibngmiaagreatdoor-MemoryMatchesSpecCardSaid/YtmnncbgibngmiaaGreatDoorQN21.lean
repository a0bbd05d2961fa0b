/-
  The examples of the chapter: the law's sanity. A memory on which a script was performed.
-/
import Derived.Test.YtmnncbgibngmiaaGreatDoorQN19
namespace Go.Proofs.YtmnncbgibngmiaaGreatDoor
open Go.RowKit Go.Maps
/-- A slice that is none of a memory's. -/
structure Out (w : World) (F : Nat → Prop) (e sz : Nat) (v : Value) (n : Nat) (xs : List Value) : Prop where
  sl : Sl w e sz v n xs
  off : ∀ k, v.ownBlock = some k → ¬ F k
theorem Out.step {w w' : World} {F : Nat → Prop} {e sz n p : Nat} {v : Value} {xs : List Value} {m : PM} (h : Out w F e sz v n xs) (s : Step F w p m w') : Out w' (Ex F w w') e sz v n xs :=
  ⟨h.sl.keep fun q hq => s.2.block q (h.sl.lt hq) (h.off q hq), fun k hk => by
    rintro (h1 | h1)
    · exact h.off k hk h1
    · have := h.sl.lt hk
      omega⟩
theorem Out.stay {w w' : World} {F : Nat → Prop} {e sz n : Nat} {v : Value} {xs : List Value} (h : Out w F e sz v n xs) (hb : Below w.heap.size w w') : Out w' F e sz v n xs :=
  ⟨h.sl.keep fun q hq => hb.block q (h.sl.lt hq), h.off⟩
theorem Has.begin {w w1 : World} {p n : Nat} (hT : Tab w) (hb : Below w.heap.size w w1) (hr : Rep w1 p (newP n) (New w w1)) (hn : 1 ≤ n ∧ n ≤ 4096) : Has w w1 p (newP n) (New w w1) :=
  ⟨hr, (newP_ok hn).1, hT.keep hb, fun h => by have := hT.lt; have := h.1; omega, hb, fun _ h => h.1⟩
/-- A clone made meanwhile. -/
theorem Has.out {w0 w w' : World} {p : Nat} {m : PM} {F : Nat → Prop} (h : Has w0 w p m F) {e sz n : Nat} {v : Value} {xs : List Value} (hs : Sl w' e sz v n xs) (ho : ∀ k, v.ownBlock = some k → w.heap.size ≤ k) : Out w' F e sz v n xs :=
  ⟨hs, fun k hk hF => by have := h.rep.lt k hF; have := ho k hk; omega⟩
def W1 : List Int := [1, 0, 0, 0, 0, 0, 0, 0]
def sm0 : PM := newP 2
def sm1 : PM := (storeP sm0 1 9 5).2
def sm2 : PM := (crashP sm1 []).2
def sm3 : PM := (storeP sm2 1 8 1).2
def sm4 : PM := (rec_ (flushP sm3 1) (evt 3 1 0 0 Z8)).2
def sm5 : PM := (storeP sm4 1 8 2).2
def sm6 : PM := (fenceP sm5).add (evt 4 0 0 0 Z8)
def sm7 : PM := (crashP sm6 []).2
def sm8 : PM := (rec_ (rotP sm7 0 W1 0) (evt 7 0 0 0 W1)).2
theorem sr1 : (storeP sm0 1 9 5).1 = 0 := by decide +kernel
theorem sl1 : loadP sm1 9 = (5, 0) := by decide +kernel
theorem sr2 : (crashP sm1 []).1 = 0 := by decide +kernel
theorem sl2 : loadP sm2 9 = (0, 0) := by decide +kernel
theorem sr3 : (storeP sm2 1 8 1).1 = 0 := by decide +kernel
theorem sr4 : (rec_ (flushP sm3 1) (evt 3 1 0 0 Z8)).1 = 0 := by decide +kernel
theorem sr5 : (storeP sm4 1 8 2).1 = 0 := by decide +kernel
theorem sr7 : (crashP sm6 []).1 = 0 := by decide +kernel
theorem sl7 : loadP sm7 8 = (1, 0) := by decide +kernel
theorem sr8 : (rec_ (rotP sm7 0 W1 0) (evt 7 0 0 0 W1)).1 = 0 := by decide +kernel
theorem sl8 : loadP sm8 0 = (0, 0) := by decide +kernel
theorem ss8 : stateP sm8 0 = 1 := by decide +kernel
theorem si1 : (flatL sm1.L).getD 10 7 = 0 := by decide +kernel
theorem sn1 : sm1.L.length = 2 := by decide +kernel
theorem sg0 : sm0.Ok ∧ sm0.Small 0 := ⟨(newP_ok ⟨by decide, by decide⟩).1, (newP_ok ⟨by decide, by decide⟩).2.1⟩
theorem sg1 : sm1.Ok ∧ sm1.Small 1 := have h := put_good sg0.1 sg0.2 1 9 5 (by omega) (small_i64 (by omega)); ⟨h.ok, h.small⟩
theorem sg2 : sm2.Ok ∧ sm2.Small 2 := have h := crash_good sg1.1 sg1.2 []; ⟨h.ok, h.small⟩
theorem sg3 : sm3.Ok ∧ sm3.Small 3 := have h := put_good sg2.1 sg2.2 1 8 1 (by omega) (small_i64 (by omega)); ⟨h.ok, h.small⟩
theorem sg4 : sm4.Ok ∧ sm4.Small 4 := have h := flush_good sg3.1 sg3.2 1 (small_i64 (by omega)); ⟨h.ok, h.small⟩
theorem sg5 : sm5.Ok ∧ sm5.Small 5 := have h := put_good sg4.1 sg4.2 1 8 2 (by omega) (small_i64 (by omega)); ⟨h.ok, h.small⟩
theorem sg6 : sm6.Ok ∧ sm6.Small 6 := have h := fence_good sg5.1 sg5.2; ⟨h.ok, h.small⟩
theorem sg7 : sm7.Ok ∧ sm7.Small 7 := have h := crash_good sg6.1 sg6.2 []; ⟨h.ok, h.small⟩
theorem sg8 : sm8.Ok ∧ sm8.Small 8 := have h := rot_good sg7.1 sg7.2 0 W1 0 (small_i64 (by omega)) rfl; ⟨h.ok, h.small⟩
theorem small_m {m : PM} {n : Nat} (h : m.Small n) (hn : n ≤ 100) : m.Small 1000000 := h.mono (by omega)
theorem i9 : I64 9 := small_i64 (by omega)
theorem i8 : I64 8 := small_i64 (by omega)
theorem i1 : I64 1 := small_i64 (by omega)
theorem i0 : I64 0 := small_i64 (by omega)
set_option maxRecDepth 100000 in
set_option maxHeartbeats 8000000 in
theorem sanity_any (w : World) (hT : Tab w) :
    Calls Tryz.prog 6 #[] w fun e w' => e = .returned (.bool true) ∧ Below w.heap.size w w' := by
  have HT := Lib.hid hT
  clear hT
  go_enter Tryz.func6, Tryz.ntmps6
  go_wp2_with fail
  refine (new_any 2 w).mono ?_
  rintro e w1 ⟨hp, hb⟩
  rcases hp with ⟨n, hn, hn1, hn2, p, rfl, hr⟩ | ⟨h9, _⟩
  case inr => omega
  obtain rfl : n = 2 := by omega
  have H0 : Hid (Has w w1 p sm0 (New w w1)) := Lib.hid (Has.begin HT.out hb hr ⟨hn1, hn2⟩)
  obtain ⟨F0, hF0⟩ : ∃ F0, F0 = New w w1 := ⟨_, rfl⟩
  rw [← hF0] at H0
  clear hr hb hF0 hn hn1 hn2
  go_wp2_with fail
  refine (store_any p 9 5 sm0 F0 w1 sg0.1 (small_m sg0.2 (by omega)) H0.out.rep H0.out.tab i9).mono ?_
  rintro e w2 ⟨rfl, hst⟩
  have H1 : Hid (Has w w2 p sm1 (Ex F0 w1 w2)) := Lib.hid (H0.out.step hst sg1.1)
  obtain ⟨F1, hF⟩ : ∃ F', F' = Ex F0 w1 w2 := ⟨_, rfl⟩
  rw [← hF] at H1
  clear hst hF H0
  rw [show (rec_ (putP sm0 9 5) (evt 1 9 5 sm0.span Z8)).1 = 0 from sr1]
  go_wp2_with fail
  refine (load_any p 9 sm1 F1 w2 i9 sg1.1 H1.out.rep H1.out.tab).mono ?_
  rintro e w3 ⟨rfl, hb⟩
  have H2 := Lib.hid (H1.out.stay hb)
  clear hb H1
  rw [sl1]
  go_wp2_with fail
  refine (image_any p sm1 F1 w3 sg1.1.few H2.out.rep).mono ?_
  rintro e w4 ⟨img, rfl, hs, ho, hb⟩
  have O3 := Lib.hid (H2.out.out hs ho)
  have H3 := Lib.hid (H2.out.stay hb)
  obtain ⟨IA, icap, rfl, hic, _⟩ := hs.shape
  rw [sn1] at O3 hic ⊢
  clear hs ho hb H2
  go_wp2_with fail
  refine (crash_any p [] (.slice none 0 0) sm1 F1 w4 sg1.1 H3.out.rep H3.out.tab H3.out.not1 (Rd.of_sl (Sl.nil _ 81 2)) (fun q hq => by simp at hq) (fun c hc => by simp at hc)).mono ?_
  rintro e w5 ⟨rfl, hst⟩
  have H4 : Hid (Has w w5 p sm2 (Ex F1 w4 w5)) := Lib.hid (H3.out.step hst sg2.1)
  have O4 := Lib.hid (O3.out.step hst)
  obtain ⟨F2, hF⟩ : ∃ F', F' = Ex F1 w4 w5 := ⟨_, rfl⟩
  rw [← hF] at H4 O4
  clear hst hF H3 O3
  rw [sr2]
  go_wp2_with fail
  refine (load_any p 9 sm2 F2 w5 i9 sg2.1 H4.out.rep H4.out.tab).mono ?_
  rintro e w6 ⟨rfl, hb⟩
  have H5 := Lib.hid (H4.out.stay hb)
  have O5 := Lib.hid (O4.out.stay hb)
  clear hb H4 O4
  rw [sl2]
  go_wp2_with fail
  refine (store_any p 8 1 sm2 F2 w6 sg2.1 (small_m sg2.2 (by omega)) H5.out.rep H5.out.tab i8).mono ?_
  rintro e w7 ⟨rfl, hst⟩
  have H6 : Hid (Has w w7 p sm3 (Ex F2 w6 w7)) := Lib.hid (H5.out.step hst sg3.1)
  have O6 := Lib.hid (O5.out.step hst)
  obtain ⟨F3, hF⟩ : ∃ F', F' = Ex F2 w6 w7 := ⟨_, rfl⟩
  rw [← hF] at H6 O6
  clear hst hF H5 O5
  rw [show (rec_ (putP sm2 8 1) (evt 1 8 1 sm2.span Z8)).1 = 0 from sr3]
  go_wp2_with fail
  refine (flushC_any p 1 sm3 F3 w7 sg3.1 (small_m sg3.2 (by omega)) H6.out.rep).mono ?_
  rintro e w8 ⟨rfl, hst⟩
  have H7 : Hid (Has w w8 p sm4 (Ex F3 w7 w8)) := Lib.hid (H6.out.step hst sg4.1)
  have O7 := Lib.hid (O6.out.step hst)
  obtain ⟨F4, hF⟩ : ∃ F', F' = Ex F3 w7 w8 := ⟨_, rfl⟩
  rw [← hF] at H7 O7
  clear hst hF H6 O6
  rw [sr4]
  go_wp2_with fail
  refine (store_any p 8 2 sm4 F4 w8 sg4.1 (small_m sg4.2 (by omega)) H7.out.rep H7.out.tab i8).mono ?_
  rintro e w9 ⟨rfl, hst⟩
  have H8 : Hid (Has w w9 p sm5 (Ex F4 w8 w9)) := Lib.hid (H7.out.step hst sg5.1)
  have O8 := Lib.hid (O7.out.step hst)
  obtain ⟨F5, hF⟩ : ∃ F', F' = Ex F4 w8 w9 := ⟨_, rfl⟩
  rw [← hF] at H8 O8
  clear hst hF H7 O7
  rw [show (rec_ (putP sm4 8 2) (evt 1 8 2 sm4.span Z8)).1 = 0 from sr5]
  go_wp2_with fail
  refine (fenceC_any p sm5 F5 w9 sg5.1 (small_m sg5.2 (by omega)) H8.out.rep H8.out.tab H8.out.not1).mono ?_
  rintro e w10 ⟨rfl, hst⟩
  have H9 : Hid (Has w w10 p sm6 (Ex F5 w9 w10)) := Lib.hid (H8.out.step hst sg6.1)
  have O9 := Lib.hid (O8.out.step hst)
  obtain ⟨F6, hF⟩ : ∃ F', F' = Ex F5 w9 w10 := ⟨_, rfl⟩
  rw [← hF] at H9 O9
  clear hst hF H8 O8
  go_wp2_with fail
  refine (crash_any p [] (.slice none 0 0) sm6 F6 w10 sg6.1 H9.out.rep H9.out.tab H9.out.not1 (Rd.of_sl (Sl.nil _ 81 2)) (fun q hq => by simp at hq) (fun c hc => by simp at hc)).mono ?_
  rintro e w11 ⟨rfl, hst⟩
  have H10 : Hid (Has w w11 p sm7 (Ex F6 w10 w11)) := Lib.hid (H9.out.step hst sg7.1)
  have O10 := Lib.hid (O9.out.step hst)
  obtain ⟨F7, hF⟩ : ∃ F', F' = Ex F6 w10 w11 := ⟨_, rfl⟩
  rw [← hF] at H10 O10
  clear hst hF H9 O9
  rw [sr7]
  go_wp2_with fail
  refine (load_any p 8 sm7 F7 w11 i8 sg7.1 H10.out.rep H10.out.tab).mono ?_
  rintro e w12 ⟨rfl, hb⟩
  have H11 := Lib.hid (H10.out.stay hb)
  have O11 := Lib.hid (O10.out.stay hb)
  clear hb H10 O10
  rw [sl7]
  go_wp2_with fail
  refine (rotC_any p 0 W1 0 sm7 F7 w12 sg7.1 (small_m sg7.2 (by omega)) H11.out.rep rfl).mono ?_
  rintro e w13 ⟨rfl, hst⟩
  have H12 : Hid (Has w w13 p sm8 (Ex F7 w12 w13)) := Lib.hid (H11.out.step hst sg8.1)
  have O12 := Lib.hid (O11.out.step hst)
  obtain ⟨F8, hF⟩ : ∃ F', F' = Ex F7 w12 w13 := ⟨_, rfl⟩
  rw [← hF] at H12 O12
  clear hst hF H11 O11
  rw [sr8]
  go_wp2_with fail
  refine (load_any p 0 sm8 F8 w13 i0 sg8.1 H12.out.rep H12.out.tab).mono ?_
  rintro e w14 ⟨rfl, hb⟩
  have H13 := Lib.hid (H12.out.stay hb)
  have O13 := Lib.hid (O12.out.stay hb)
  clear hb H12 O12
  rw [sl8]
  obtain ⟨bb, oo, hA⟩ : ∃ bb oo, IA = some ⟨bb, oo, none⟩ := by
    rcases O13.out.sl.2 with ⟨h0, _⟩ | ⟨g, o, cap', cur, hv, _⟩
    · simp at h0
    · simp only [Value.slice.injEq] at hv
      exact ⟨g, o, hv.1⟩
  subst hA
  have hcl : w14.cell? ⟨bb, oo + 9 + 1, none⟩ = some (.int .i64 0) := by
    rw [Nat.add_assoc]
    refine O13.out.sl.cells rfl 10 _ ?_
    have hl : 10 < (flatL sm1.L).length := by decide +kernel
    have := si1
    unfold iv
    rw [List.getElem?_map, List.getElem?_eq_getElem hl]
    rw [List.getD_eq_getElem?_getD, List.getElem?_eq_getElem hl] at this
    simp only [Option.getD_some] at this
    rw [this]
    rfl
  have hst := state_any p 0 sm8 F8 w14 i0 sg8.1 H13.out.rep H13.out.tab
  rw [ss8] at hst
  have HST := Lib.hid hst
  clear hst
  go_wp2_with fail
  refine HST.out.mono ?_
  rintro e w15 ⟨rfl, hb⟩
  have HB1 := Lib.hid (bel_on H13.out.below hb)
  clear hb HST
  go_wp2_with fail
  refine (new_any 0 w15).mono ?_
  rintro e w16 ⟨hp, hb⟩
  rcases hp with ⟨k, hk, hk1, _⟩ | ⟨_, rfl⟩
  · omega
  have HB2 := Lib.hid (bel_on HB1.out hb)
  clear hb
  go_wp2_with fail
  go_ret
  exact ⟨rfl, HB2.out⟩
end Go.Proofs.YtmnncbgibngmiaaGreatDoor
namespace Go.Proofs.YtmnncbgibngmiaaGreatDoor
open Go.RowKit Go.Maps
/-- A script in the heap. -/
def Script (w : World) (v : Value) (xs : List POp) : Prop :=
  ∃ cvs : List Value, cvs.length = xs.length ∧ Rd w v xs.length (List.zipWith opV xs cvs).flatten ∧ (∀ x ∈ xs, x.Ok) ∧
    ∀ (j : Nat) (x : POp) (c : Value), xs[j]? = some x → cvs[j]? = some c → Rd w c x.cs.length (iv (flatS x.cs))
theorem zip_len (xs : List POp) (cvs : List Value) (hx : ∀ x ∈ xs, x.Ok) : ∀ y ∈ List.zipWith opV xs cvs, y.length = 12 := fun y hy => by
  obtain ⟨i, hi, rfl⟩ := List.mem_iff_getElem.1 hy
  rw [List.getElem_zipWith]
  exact opV_len (hx _ (List.getElem_mem _)) _
theorem flat_get {l : List (List Value)} {n : Nat} (h : ∀ x ∈ l, x.length = n) {k j : Nat} (hk : k < l.length) (hj : j < n) : l.flatten[k * n + j]? = l[k][j]? := by
  induction l generalizing k with
  | nil => simp at hk
  | cons x r ih =>
    have hx := h x (by simp)
    cases k with
    | zero =>
      rw [List.flatten_cons, Nat.zero_mul, Nat.zero_add, List.getElem?_append_left (by omega)]
      rfl
    | succ k =>
      rw [List.flatten_cons, show (k + 1) * n + j = n + (k * n + j) by rw [Nat.add_mul]; omega, List.getElem?_append_right (by omega), hx, Nat.add_sub_cancel_left, ih (fun y hy => h y (by simp [hy])) (by simpa using hk)]
      rfl
theorem Script.keep {w w' : World} {v : Value} {xs : List POp} (h : Script w v xs) (hb : Below w.heap.size w w') : Script w' v xs := by
  obtain ⟨cvs, h1, h2, h3, h4⟩ := h
  exact ⟨cvs, h1, h2.below hb, h3, fun j x c hx hc => (h4 j x c hx hc).below hb⟩
/-- One call of a script. -/
theorem Script.at {w : World} {A : Option Addr} {cap : Nat} {xs : List POp} (h : Script w (.slice A xs.length cap) xs) {j : Nat} (hj : j < xs.length) :
    ∃ d o c, A = some ⟨d, o, none⟩ ∧ w.rangeAt d (o + j * 12) (opV xs[j] c) ∧ Rd w c xs[j].cs.length (iv (flatS xs[j].cs)) := by
  obtain ⟨cvs, h1, h2, h3, h4⟩ := h
  obtain ⟨_, _, hv9, _, _, h2⟩ := h2
  simp only [Value.slice.injEq, true_and] at hv9
  obtain ⟨rfl, rfl⟩ := hv9
  obtain ⟨d, o, rfl, _, h2⟩ := h2 (by omega)
  have hj2 : j < cvs.length := by omega
  have hz : j < (List.zipWith opV xs cvs).length := by rw [List.length_zipWith]; omega
  refine ⟨d, o, cvs[j], rfl, fun i v hv => ?_, h4 j _ _ (List.getElem?_eq_getElem hj) (List.getElem?_eq_getElem hj2)⟩
  have hi : i < 12 := by
    have := (List.getElem?_eq_some_iff.1 hv).1
    rw [opV_len (h3 _ (List.getElem_mem hj))] at this
    exact this
  have := flat_get (zip_len xs cvs h3) hz hi
  rw [List.getElem_zipWith, hv] at this
  have hc := h2 _ _ this
  rw [← Nat.add_assoc] at hc
  exact hc
theorem i64_and7 (z : Int) : ∃ k : Nat, k ≤ 7 ∧ bits .and .i64 z 7 = (k : Int) := by
  refine ⟨(BitVec.ofInt 64 z &&& BitVec.ofInt 64 7).toNat, ?_, ?_⟩
  · rw [BitVec.toNat_and]
    exact Nat.and_le_right
  · have h : (BitVec.ofInt 64 z &&& BitVec.ofInt 64 7).toNat ≤ 7 := by
      rw [BitVec.toNat_and]
      exact Nat.and_le_right
    show IntKind.i64.wrap ((BitVec.ofInt 64 z &&& BitVec.ofInt 64 7).toNat : Nat) = _
    rw [wrapEq, w64 _ (by omega) (by omega)]
end Go.Proofs.YtmnncbgibngmiaaGreatDoor
