/- WireCanonical answers true: its walk. -/
import Derived.Test.YtgnhkhcfelmnhaaSane
import Derived.Test.YtgnhkhcfelmnhaaArgs
import Derived.Test.YtgnhkhcfelmnhaaIs
import Derived.Test.YtgnhkhcfelmnhaaMath6
namespace Go.Proofs.Ytgnhkhcfelmnhaa
open Go.RowKit
/-- Byte strings as Go's strings. -/
def mk (l : List UInt8) : ByteArray := ⟨l.toArray⟩
theorem mk_toList (l : List UInt8) : (mk l).data.toList = l := by simp [mk]
theorem mk_size (l : List UInt8) : (mk l).size = l.length := by rw [← size_toList, mk_toList]
theorem encS_mk (l : List UInt8) : encS (mk l) = encB l := by unfold encS encB; rw [mk_size, mk_toList]
theorem encL_mk (ts : List (List UInt8)) : encL encS (ts.map mk) = encL encB ts := by
  unfold encL
  rw [List.length_map, List.flatMap_map, show (fun a => encS (mk a)) = encB from funext encS_mk]
theorem sv_mk (ts : List (List UInt8)) : sv (ts.map mk) = tv ts := by
  unfold sv tv
  rw [List.map_map]
  rfl
theorem getB_size (l : List UInt8) : (getB l).1.length ≤ l.length := by
  unfold getB
  split
  · simp
  · simp only [List.length_take, List.length_drop]; omega
theorem many_sizes (l : List UInt8) : ∀ k at_, ∀ s ∈ (many getB l k at_).1, s.length ≤ l.length := by
  intro k
  induction k with
  | zero => intro at_ s hs; simp [many] at hs
  | succ k ih =>
    intro at_ s hs
    rw [many] at hs
    split at hs
    · simp at hs
    · split at hs
      · simp at hs
      · rcases List.mem_cons.1 hs with h | h
        · have := getB_size (l.drop at_)
          rw [List.length_drop] at this
          rw [h]
          omega
        · exact ih _ s h
theorem getS_sizes (l : List UInt8) : ∀ s ∈ (getS getB 1 l).1, s.length ≤ l.length := by
  unfold getS
  split
  · simp
  · exact many_sizes l _ _
theorem many_i64 (l : List UInt8) : ∀ k at_, ∀ z ∈ (many getI l k at_).1, I64 z := by
  intro k
  induction k with
  | zero => intro at_ s hs; simp [many] at hs
  | succ k ih =>
    intro at_ s hs
    rw [many] at hs
    split at hs
    · simp at hs
    · rename_i h0
      split at hs
      · simp at hs
      · rcases List.mem_cons.1 hs with h | h
        · rcases getI_fits (l.drop at_) with h1 | h1
          · rw [h]; exact h1.2.1
          · omega
        · exact ih _ s h
theorem getS_i64 (l : List UInt8) : ∀ z ∈ (getS getI 1 l).1, I64 z := by
  unfold getS
  split
  · simp
  · exact many_i64 l _ _
theorem getI_i64 (l : List UInt8) : I64 (getI l).1 := by
  rcases getI_fits l with h | h
  · exact h.2.1
  · rw [h.2.1]; unfold I64; omega
theorem texts_len (ts : List (List UInt8)) (c : Nat) (h : ∀ s ∈ ts, s.length ≤ c) : (encL encB ts).length ≤ 10 + (10 + c) * ts.length := by
  have h1 := flat_len encB (10 + c) ts (fun s hs => by
    have h2 := h s hs
    have h3 := enc_len s.length
    unfold encB
    rw [List.length_append]
    omega)
  have h2 := enc_len ts.length
  unfold encL
  rw [List.length_append]
  omega
/-- The box of the argument, in every later world. -/
theorem boxed {w wk : World} {v : Value} (h : Below (w.alloc (.cells #[v] 28)).heap.size (w.alloc (.cells #[v] 28)) wk) : wk.cell? ⟨w.heap.size, 0, none⟩ = some v := by
  rw [h.cell (p := ⟨w.heap.size, 0, none⟩) (by simp)]
  rw [cell_of_row (w.alloc (.cells #[v] 28)) w.heap.size 0 #[v] 28 (0, 0) (heap_alloc_last w _)]
  rfl
set_option maxRecDepth 100000 in
set_option maxHeartbeats 4000000 in
theorem lawK_big (A : Option Addr) (n cap : Nat) (w : World) (hb : 2000 < n) (hn : n ≤ 9223372036854775807) :
    Calls Try.prog 7 #[.slice A n cap] w fun e w' => e = .returned (.bool true) ∧ Below w.heap.size w w' := by
  go_enter Try.func7, Try.ntmps7
  go_wp2_with (go_at_call 12; refine (sanity_any _).mono ?_; rintro e w1 ⟨rfl, hb1⟩)
  go_ret
  exact ⟨rfl, bel_on (bel_new w _) hb1⟩
theorem is_any {W : World} {A : Option Addr} {B : Nat} {v : Value} {cap u f : Nat} {r l : List UInt8} {g : Nat} (w : World) (ho : Own w B v r) (hl : RV w A (bv l)) (hcap : l.length ≤ cap)
    (h : f = 0 → r = l.take u ∧ u ≤ l.length) (hc : w.cell? ⟨g, 0, none⟩ = some (.slice A l.length cap)) (_hw : Below W.heap.size W w) :
    Calls Try.prog 37 #[v, .int .i64 u, .int .i64 f, .pointer (some ⟨g, 0, none⟩)] w fun e w' => e = .returned (.bool true) ∧ w = w' := by
  by_cases hf : f = 0
  · subst hf
    obtain ⟨h1, h2⟩ := h rfl
    obtain ⟨A', k, rfl, _, _, hR⟩ := ho.form
    exact is_ok A' A _ k _ cap u r l g w rfl rfl hR hl hcap h2 h1 hc
  · exact is_err v u f g w hf
set_option maxRecDepth 100000 in
set_option maxHeartbeats 4000000 in
theorem lawK_small (A : Option Addr) (cap : Nat) (l : List UInt8) (w : World) (hcap : l.length ≤ cap) (hr : RV w A (bv l)) (hs : l.length ≤ 2000) :
    Calls Try.prog 7 #[.slice A l.length cap] w fun e w' => e = .returned (.bool true) ∧ Below w.heap.size w w' := by
  obtain ⟨W, hW⟩ : ∃ W, W = w.alloc (.cells #[.slice A l.length cap] 28) := ⟨_, rfl⟩
  have hwW : Below w.heap.size w W := by rw [hW]; exact bel_new w _
  have hrW := hr.below hwW
  have hbox : ∀ wk, Below W.heap.size W wk → wk.cell? ⟨w.heap.size, 0, none⟩ = some (.slice A l.length cap) := fun wk hb => boxed (by rw [← hW]; exact hb)
  have HBOX := Lib.hid hbox
  have c24 := getInt_any A cap l W hrW (by omega)
  have c26 := getBytes_any A cap l W hcap hrW (by omega)
  have c28 := fun (w' : World) (hb : Below W.heap.size W w') => getInts_any A cap l w' hcap (hrW.below hb) (by omega)
  have c31 := fun (w' : World) (hb : Below W.heap.size W w') => getStrings_any A cap l w' hcap (hrW.below hb) (by omega)
  have c34 := fun (w' : World) (hb : Below W.heap.size W w') => getDigests_any A cap l w' hcap (hrW.below hb) (by omega)
  have hsz1 := getS_len getI 1 (by omega) l
  have hsz2 := getS_len getB 1 (by omega) l
  have hsz3 := getS_len getD16 16 (by omega) l
  have hd16 := getS_d16 l
  have hb1 := getB_size l
  have hb2 := getS_sizes l
  have hi1 := getI_i64 l
  have hi2 := getS_i64 l
  have k1 := getI_canon l
  have k2 := @getB_canon l
  have k3 := @getS_canon Int getI enc 1 (Nat.le_refl _) getI_canon l
  have k4 := @getS_canon (List UInt8) getB encB 1 (Nat.le_refl _) (fun l' x c h => getB_canon h) l
  have k5 := @getD_canon l
  generalize getS getI 1 l = r3 at *
  generalize getS getB 1 l = r4 at *
  generalize getS getD16 16 l = r5 at *
  generalize getI l = r1 at *
  generalize getB l = r2 at *
  obtain ⟨z, u1, f1⟩ := r1
  obtain ⟨s, u2, f2⟩ := r2
  obtain ⟨xs, u3, f3⟩ := r3
  obtain ⟨ts, u4, f4⟩ := r4
  obtain ⟨ds, u5, f5⟩ := r5
  simp only at hsz1 hsz2 hsz3 hd16 hb1 hb2 hi1 hi2
  have K1 : Hid (f1 = 0 → enc z = l.take u1 ∧ u1 ≤ l.length) := Lib.hid fun h => by subst h; exact k1 z u1 rfl
  have K2 : Hid (f2 = 0 → encB s = l.take u2 ∧ u2 ≤ l.length) := Lib.hid fun h => by subst h; exact k2 rfl
  have K3 : Hid (f3 = 0 → encL enc xs = l.take u3 ∧ u3 ≤ l.length) := Lib.hid fun h => by subst h; exact k3 rfl
  have K4 : Hid (f4 = 0 → encL encB ts = l.take u4 ∧ u4 ≤ l.length) := Lib.hid fun h => by subst h; exact k4 rfl
  have K5 : Hid (f5 = 0 → encL id ds = l.take u5 ∧ u5 ≤ l.length) := Lib.hid fun h => by subst h; exact k5 rfl
  have hxl : xs.length ≤ 2000 := by omega
  have htl : ts.length ≤ 2000 := by omega
  have hdl : ds.length ≤ 2000 := by omega
  have hsl : s.length ≤ 2000 := by omega
  have htx := texts_len ts 2000 (fun q hq => Nat.le_trans (hb2 q hq) hs)
  have htx2 : (10 + 2000) * ts.length ≤ (10 + 2000) * 2000 := Nat.mul_le_mul_left _ htl
  have htb : (encL encS (ts.map mk)).length + 10 ≤ 140737488355328 := by rw [encL_mk]; omega
  have HTB := Lib.hid htb
  have HD := Lib.hid hd16
  have HI1 := Lib.hid hi1
  have HI2 := Lib.hid hi2
  have C24 : Hid (Calls Try.prog 24 #[.slice A l.length cap] W fun e w' => e = .returned (.tuple #[.int .i64 z, .int .i64 (u1 : Int), .int .i64 (f1 : Int)]) ∧ W = w') := c24
  have C26 : Hid (Calls Try.prog 26 #[.slice A l.length cap] W fun e w' => e = .returned (.tuple #[.string (mk s), .int .i64 (u2 : Int), .int .i64 (f2 : Int)]) ∧ W = w') := c26
  have C28 := Lib.hid c28
  have C31 := Lib.hid c31
  have C34 := Lib.hid c34
  have HRW := Lib.hid hrW
  have HWW := Lib.hid hwW
  have HW := Lib.hid hW
  have HS : Hid (encS (mk s) = encB s) := Lib.hid (encS_mk s)
  have hms : (mk s).size ≤ 2000 := by rw [mk_size]; exact hsl
  clear c24 c26 c28 c31 c34 hr hrW hd16 hb2 hi1 hi2 k1 k2 k3 k4 k5 hbox htx htx2 htb hsz1 hsz2 hsz3
  have hcell := HBOX.out W (Below.refl _ _)
  go_enter Try.func7, Try.ntmps7
  clear hW hwW
  go_wp2_with fail
  rw [← HW.out]
  refine C24.out.mono ?_
  rintro e w0 ⟨rfl, rfl⟩
  go_wp2_with fail
  refine C26.out.mono ?_
  rintro e w0 ⟨rfl, rfl⟩
  go_wp2_with fail
  refine (C28.out W (Below.refl _ _)).mono ?_
  rintro e w1 ⟨v1, rfl, ho1, hb1⟩
  have hc1 := HBOX.out w1 hb1
  go_wp2_with fail
  refine (C31.out w1 hb1).mono ?_
  rintro e w2 ⟨v2, rfl, ho2, hb2⟩
  have q2 := bel_on hb1 hb2
  have hc2 := HBOX.out w2 q2
  go_wp2_with fail
  refine (C34.out w2 q2).mono ?_
  rintro e w3 ⟨v3, rfl, ho3, hb3⟩
  have q3 := bel_on q2 hb3
  have hc3 := HBOX.out w3 q3
  go_wp2_with fail
  refine (sanity_any w3).mono ?_
  rintro e w4 ⟨rfl, hb4⟩
  have q4 := bel_on q3 hb4
  clear hc1 hc2 hc3
  go_wp2_with fail
  refine (int_any z w4 HI1.out).mono ?_
  rintro e w5 ⟨v5, rfl, ho5, hb5⟩
  have q5 := bel_on q4 hb5
  go_wp2_with fail
  refine (is_any (W := W) w5 ho5 (HRW.out.below q5) hcap K1.out (HBOX.out w5 q5) q5).mono ?_
  rintro e w5' ⟨rfl, rfl⟩
  go_wp2_with fail
  refine (bytes_any (mk s) w5 (by omega)).mono ?_
  rintro e w6 ⟨v6, rfl, ho6, hb6⟩
  have q6 := bel_on q5 hb6
  have ho6' : Own w6 w5.heap.size v6 (encB s) := by rw [← HS.out]; exact ho6
  go_wp2_with fail
  refine (is_any (W := W) w6 ho6' (HRW.out.below q6) hcap K2.out (HBOX.out w6 q6) q6).mono ?_
  rintro e w6' ⟨rfl, rfl⟩
  obtain ⟨A1, c1, rfl, _, _, hR1⟩ := row_form ho1
  go_wp2_with fail
  refine (ints_any A1 c1 xs w6 HI2.out (((((hR1.below hb2).below hb3).below hb4).below hb5).below hb6) (by omega)).mono ?_
  rintro e w7 ⟨v7, rfl, ho7, hb7⟩
  have q7 := bel_on q6 hb7
  go_wp2_with fail
  refine (is_any (W := W) w7 ho7 (HRW.out.below q7) hcap K3.out (HBOX.out w7 q7) q7).mono ?_
  rintro e w7' ⟨rfl, rfl⟩
  obtain ⟨A2, c2, rfl, _, _, hR2⟩ := row_form ho2
  have hR2' : RV w7 A2 (sv (ts.map mk)) := by rw [sv_mk]; exact ((((hR2.below hb3).below hb4).below hb5).below hb6).below hb7
  have hst := strings_any A2 c2 (ts.map mk) w7 hR2' HTB.out (by rw [List.length_map]; omega)
  rw [List.length_map, encL_mk] at hst
  have HST := Lib.hid hst
  clear hst
  go_wp2_with fail
  refine (HST.out).mono ?_
  rintro e w8 ⟨v8, rfl, ho8, hb8⟩
  have q8 := bel_on q7 hb8
  clear HST
  go_wp2_with fail
  refine (is_any (W := W) w8 ho8 (HRW.out.below q8) hcap K4.out (HBOX.out w8 q8) q8).mono ?_
  rintro e w8' ⟨rfl, rfl⟩
  obtain ⟨A3, c3, rfl, _, _, hR3⟩ := row_form ho3
  go_wp2_with fail
  refine (digests_any A3 c3 ds w8 (((((hR3.below hb4).below hb5).below hb6).below hb7).below hb8) HD.out (by omega)).mono ?_
  rintro e w9 ⟨v9, rfl, ho9, hb9⟩
  have q9 := bel_on q8 hb9
  go_wp2_with fail
  refine (is_any (W := W) w9 ho9 (HRW.out.below q9) hcap K5.out (HBOX.out w9 q9) q9).mono ?_
  rintro e w9' ⟨rfl, rfl⟩
  go_wp2
  go_ret
  exact ⟨rfl, bel_on HWW.out q9⟩
end Go.Proofs.Ytgnhkhcfelmnhaa
