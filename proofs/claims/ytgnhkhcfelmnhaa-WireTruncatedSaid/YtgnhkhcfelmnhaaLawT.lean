/- WireTruncated answers true: its walk. -/
import Derived.Test.YtgnhkhcfelmnhaaLawX
import Derived.Test.YtgnhkhcfelmnhaaCuts
namespace Go.Proofs.Ytgnhkhcfelmnhaa
open Go.RowKit
theorem mem_total {x : List UInt8} : ∀ {ts : List (List UInt8)}, x ∈ ts → x.length ≤ total ts
  | [], h => by cases h
  | y :: r, h => by
    have e : total (y :: r) = y.length + total r := rfl
    rcases List.mem_cons.1 h with h | h
    · rw [h, e]; omega
    · have := mem_total h; omega
set_option maxRecDepth 100000 in
set_option maxHeartbeats 8000000 in
theorem lawT_small (z : Int) (hz : I64 z) (s : ByteArray) (A2 A3 A4 : Option Addr) (c2 c3 c4 : Nat) (l : List Int) (ss : List ByteArray) (ds : List (List UInt8)) (w : World) (hl : ∀ z ∈ l, I64 z) (hd : ∀ d ∈ ds, d.length = 16) (hr2 : RV w A2 (iv l)) (hr3 : RV w A3 (sv ss)) (hr4 : RV w A4 (dv ds))
    (hb : s.size + 10 * l.length + 16 * ds.length ≤ 400) (hx : ss.length ≤ 40) (hm : ss.length + total (ss.map fun s => s.data.toList) ≤ 2000) :
    Calls Try.prog 9 #[.int .i64 z, .string s, .slice A2 l.length c2, .slice A3 ss.length c3, .slice A4 ds.length c4] w fun e w' => e = .returned (.bool true) ∧ Below w.heap.size w w' := by
  have hf := few_any A3 c3 ss.length (ss.map fun s => s.data.toList) w (by simp) (by rw [sv_tv]; exact hr3) (by omega)
  rw [decide_eq_true hm] at hf
  have htl := total_len (ss.map fun s => s.data.toList)
  rw [← encL_ss, List.length_map] at htl
  have HF := Lib.hid hf
  have HL := Lib.hid hl
  have HD := Lib.hid hd
  have hssl : ss.length ≤ 2000 := by omega
  have hsl : (encL encS ss).length + 10 ≤ 100000 := by omega
  have hel := encS_len s
  have hsz := size_toList s
  have hp0 := (enc_shape hz).1
  have hp1 := encB_pos s.data.toList (by omega)
  rw [← encS_encB] at hp1
  have hp2 := encL_pos enc l (by omega)
  have hp3 := encL_pos id ds (by omega)
  have hp4 := encL_pos encS ss (by omega)
  have hq0 := enc_len z
  have hq2 := encL_le enc 10 l (fun z _ => enc_len z)
  have hq3 := encL_le id 16 ds (fun d h => Nat.le_of_eq (hd d h))
  have HE : Hid (encL encS ss = encL encB (ss.map fun s => s.data.toList)) := Lib.hid (encL_ss ss)
  have HN : Hid ((ss.map fun s => s.data.toList).length = ss.length) := Lib.hid (by simp)
  have HS : Hid (∀ x ∈ ss.map (fun s => s.data.toList), x.length ≤ 100000) := by
    refine Lib.hid fun x hx => ?_
    have h1 : x.length ≤ total (ss.map fun s => s.data.toList) := mem_total hx
    omega
  clear hf hl hd hm htl
  go_enter Try.func9, Try.ntmps9
  go_wp2_with fail
  refine HF.out.mono ?_
  rintro e w0 ⟨rfl, rfl⟩
  go_wp2_with fail
  refine (int_any z w hz).mono ?_
  rintro e w1 ⟨v1, rfl, ho1, hb1⟩
  have k1 := hb1
  go_wp2_with fail
  refine (bytes_any s w1 (by omega)).mono ?_
  rintro e w2 ⟨v2, rfl, ho2, hb2⟩
  change Own w2 w1.heap.size v2 (encS s) at ho2
  have k2 := bel_on k1 hb2
  go_wp2_with fail
  refine (ints_any A2 c2 l w2 HL.out (hr2.below k2) (by omega)).mono ?_
  rintro e w3 ⟨v3, rfl, ho3, hb3⟩
  have k3 := bel_on k2 hb3
  go_wp2_with fail
  refine (strings_any A3 c3 ss w3 (hr3.below k3) (by omega) (by omega)).mono ?_
  rintro e w4 ⟨v4, rfl, ho4, hb4⟩
  have k4 := bel_on k3 hb4
  go_wp2_with fail
  refine (digests_any A4 c4 ds w4 (hr4.below k4) HD.out (by omega)).mono ?_
  rintro e w5 ⟨v5, rfl, ho5, hb5⟩
  have k5 := bel_on k4 hb5
  obtain ⟨b1, o1, m1, rfl, hm1, hR1⟩ := ((((ho1.below hb2).below hb3).below hb4).below hb5).some_ hp0
  obtain ⟨b2, o2, m2, rfl, hm2, hR2⟩ := (((ho2.below hb3).below hb4).below hb5).some_ hp1
  obtain ⟨b3, o3, m3, rfl, hm3, hR3⟩ := ((ho3.below hb4).below hb5).some_ hp2
  obtain ⟨b4, o4, m4, rfl, hm4, hR4⟩ := (ho4.below hb5).some_ hp4
  obtain ⟨b5, o5, m5, rfl, hm5, hR5⟩ := ho5.some_ hp3
  go_wp2_with fail
  have hn0 : RV (w5.alloc (.cells #[.slice (some ⟨b1, o1, none⟩) (enc z).length m1, .slice (some ⟨b2, o2, none⟩) (encS s).length m2, .slice (some ⟨b3, o3, none⟩) (encL enc l).length m3, .slice (some ⟨b4, o4, none⟩) (encL encS ss).length m4, .slice (some ⟨b5, o5, none⟩) (encL id ds).length m5] 28)) (some ⟨w5.heap.size, 0, none⟩) [.slice (some ⟨b1, o1, none⟩) (enc z).length m1, .slice (some ⟨b2, o2, none⟩) (encS s).length m2, .slice (some ⟨b3, o3, none⟩) (encL enc l).length m3, .slice (some ⟨b4, o4, none⟩) (encL encS ss).length m4, .slice (some ⟨b5, o5, none⟩) (encL id ds).length m5] := RV.new w5 [.slice (some ⟨b1, o1, none⟩) (enc z).length m1, .slice (some ⟨b2, o2, none⟩) (encS s).length m2, .slice (some ⟨b3, o3, none⟩) (encL enc l).length m3, .slice (some ⟨b4, o4, none⟩) (encL encS ss).length m4, .slice (some ⟨b5, o5, none⟩) (encL id ds).length m5] 28
  have hb6 : Below w5.heap.size w5 (w5.alloc (.cells #[.slice (some ⟨b1, o1, none⟩) (enc z).length m1, .slice (some ⟨b2, o2, none⟩) (encS s).length m2, .slice (some ⟨b3, o3, none⟩) (encL enc l).length m3, .slice (some ⟨b4, o4, none⟩) (encL encS ss).length m4, .slice (some ⟨b5, o5, none⟩) (encL id ds).length m5] 28)) := (Below.refl _ _).alloc (Nat.le_refl _) _
  generalize w5.alloc (.cells #[.slice (some ⟨b1, o1, none⟩) (enc z).length m1, .slice (some ⟨b2, o2, none⟩) (encS s).length m2, .slice (some ⟨b3, o3, none⟩) (encL enc l).length m3, .slice (some ⟨b4, o4, none⟩) (encL encS ss).length m4, .slice (some ⟨b5, o5, none⟩) (encL id ds).length m5] 28) = w6 at hn0 hb6 ⊢
  have k6 := bel_on k5 hb6
  have hR1 := hR1.below hb6
  have hR2 := hR2.below hb6
  have hR3 := hR3.below hb6
  have hR4 := hR4.below hb6
  have hR5 := hR5.below hb6
  generalize w5.heap.size = g at *
  go_loopw [49] (fun t wr => ∃ k : Int, t = .int .i64 k ∧ 0 ≤ k ∧ k ≤ 5 ∧ Below w6.heap.size w6 wr) (fun t _ => 5 - (intOf t).toNat)
  case atStart => exact ⟨0, rfl, by omega, by omega, Below.refl _ _⟩
  case round =>
    obtain ⟨k, rfl, hk0, hk, hb7⟩ := hrel
    obtain ⟨wo, rfl⟩ : ∃ wo : World, wo = wr := ⟨_, rfl⟩
    obtain ⟨_, _, e0, hn⟩ := (hn0.below hb7) (by simp)
    cases e0
    have h0 : wo.cell? ⟨g, 0, none⟩ = some (.slice (some ⟨b1, o1, none⟩) (enc z).length m1) := hn 0 _ rfl
    have h1 : wo.cell? ⟨g, 1, none⟩ = some (.slice (some ⟨b2, o2, none⟩) (encS s).length m2) := by have h := hn 1 _ rfl; rwa [Nat.zero_add] at h
    have h2 : wo.cell? ⟨g, 2, none⟩ = some (.slice (some ⟨b3, o3, none⟩) (encL enc l).length m3) := by have h := hn 2 _ rfl; rwa [Nat.zero_add] at h
    have h3 : wo.cell? ⟨g, 3, none⟩ = some (.slice (some ⟨b4, o4, none⟩) (encL encS ss).length m4) := by have h := hn 3 _ rfl; rwa [Nat.zero_add] at h
    have h4 : wo.cell? ⟨g, 4, none⟩ = some (.slice (some ⟨b5, o5, none⟩) (encL id ds).length m5) := by have h := hn 4 _ rfl; rwa [Nat.zero_add] at h
    clear hn
    have hk5 : k = 0 ∨ k = 1 ∨ k = 2 ∨ k = 3 ∨ k = 4 ∨ k = 5 := by omega
    rcases hk5 with rfl | rfl | rfl | rfl | rfl | rfl
    · clear h1 h2 h3 h4
      go_wp2_with fail
      go_loopw [57] (fun t wi => ∃ i : Nat, t = .int .i64 i ∧ Below wo.heap.size wo wi) (fun t _ => (enc z).length - (intOf t).toNat)
      case atStart => exact ⟨0, rfl, Below.refl _ _⟩
      case round =>
        obtain ⟨i, rfl, hbi⟩ := hrel
        have hRi := (hR1.below hb7).below hbi
        by_cases hiN : i < (enc z).length
        · have hi : i < (enc z).length := by omega
          have hC := Lib.hid (cut_int (some ⟨b1, o1, none⟩) i m1 z hz wr hi hRi)
          clear hRi
          go_wp2_with fail
          refine hC.out.mono ?_
          rintro e w8 ⟨v8, n8, rfl, hb8⟩
          go_wp2_with fail
          go_roundw
          case rel => exact ⟨i + 1, by go_num, bel_on hbi hb8⟩
          case measure => simp [intOf]; omega
        · clear hRi
          go_wp2_with fail
          go_roundw
          case rel => exact ⟨1, by go_num, by omega, by omega, bel_on hb7 hbi⟩
          case measure => simp [intOf]
    · clear h0 h2 h3 h4
      go_wp2_with fail
      go_loopw [57] (fun t wi => ∃ i : Nat, t = .int .i64 i ∧ Below wo.heap.size wo wi) (fun t _ => (encS s).length - (intOf t).toNat)
      case atStart => exact ⟨0, rfl, Below.refl _ _⟩
      case round =>
        obtain ⟨i, rfl, hbi⟩ := hrel
        have hRi := (hR2.below hb7).below hbi
        by_cases hiN : i < (encS s).length
        · have hi : i < (encS s).length := by omega
          have hC := Lib.hid (cut_bytes (some ⟨b2, o2, none⟩) i m2 s.data.toList wr (by omega) (by omega) hi hRi)
          clear hRi
          go_wp2_with fail
          refine hC.out.mono ?_
          rintro e w8 ⟨v8, n8, rfl, hb8⟩
          go_wp2_with fail
          go_roundw
          case rel => exact ⟨i + 1, by go_num, bel_on hbi hb8⟩
          case measure => simp [intOf]; omega
        · clear hRi
          go_wp2_with fail
          go_roundw
          case rel => exact ⟨2, by go_num, by omega, by omega, bel_on hb7 hbi⟩
          case measure => simp [intOf]
    · clear h0 h1 h3 h4
      go_wp2_with fail
      go_loopw [57] (fun t wi => ∃ i : Nat, t = .int .i64 i ∧ Below wo.heap.size wo wi) (fun t _ => (encL enc l).length - (intOf t).toNat)
      case atStart => exact ⟨0, rfl, Below.refl _ _⟩
      case round =>
        obtain ⟨i, rfl, hbi⟩ := hrel
        have hRi := (hR3.below hb7).below hbi
        by_cases hiN : i < (encL enc l).length
        · have hi : i < (encL enc l).length := by omega
          have hC := Lib.hid (cut_ints (some ⟨b3, o3, none⟩) i m3 l wr HL.out (by omega) (by omega) hi hRi)
          clear hRi
          go_wp2_with fail
          refine hC.out.mono ?_
          rintro e w8 ⟨v8, n8, rfl, hb8⟩
          go_wp2_with fail
          go_roundw
          case rel => exact ⟨i + 1, by go_num, bel_on hbi hb8⟩
          case measure => simp [intOf]; omega
        · clear hRi
          go_wp2_with fail
          go_roundw
          case rel => exact ⟨3, by go_num, by omega, by omega, bel_on hb7 hbi⟩
          case measure => simp [intOf]
    · clear h0 h1 h2 h4
      by_cases h500 : (encL encS ss).length ≤ 500
      · skip
        go_wp2_with fail
        go_loopw [57] (fun t wi => ∃ i : Nat, t = .int .i64 i ∧ Below wo.heap.size wo wi) (fun t _ => (encL encS ss).length - (intOf t).toNat)
        case atStart => exact ⟨0, rfl, Below.refl _ _⟩
        case round =>
          obtain ⟨i, rfl, hbi⟩ := hrel
          have hRi := (hR4.below hb7).below hbi
          by_cases hiN : i < (encL encS ss).length
          · have hi : i < (encL encS ss).length := by omega
            have hC := Lib.hid (cut_texts (some ⟨b4, o4, none⟩) i m4 (ss.map fun s => s.data.toList) wr HS.out (by have := HN.out; omega) (by omega) (by have := congrArg List.length HE.out; omega) (HE.out ▸ hi) (HE.out ▸ hRi))
            clear hRi
            go_wp2_with fail
            refine hC.out.mono ?_
            rintro e w8 ⟨v8, n8, rfl, hb8⟩
            go_wp2_with fail
            go_roundw
            case rel => exact ⟨i + 1, by go_num, bel_on hbi hb8⟩
            case measure => simp [intOf]; omega
          · clear hRi
            go_wp2_with fail
            go_roundw
            case rel => exact ⟨4, by go_num, by omega, by omega, bel_on hb7 hbi⟩
            case measure => simp [intOf]
      · skip
        go_wp2_with fail
        go_loopw [57] (fun t wi => ∃ i : Nat, t = .int .i64 i ∧ Below wo.heap.size wo wi) (fun t _ => 500 - (intOf t).toNat)
        case atStart => exact ⟨0, rfl, Below.refl _ _⟩
        case round =>
          obtain ⟨i, rfl, hbi⟩ := hrel
          have hRi := (hR4.below hb7).below hbi
          by_cases hiN : i < 500
          · have hi : i < (encL encS ss).length := by omega
            have hC := Lib.hid (cut_texts (some ⟨b4, o4, none⟩) i m4 (ss.map fun s => s.data.toList) wr HS.out (by have := HN.out; omega) (by omega) (by have := congrArg List.length HE.out; omega) (HE.out ▸ hi) (HE.out ▸ hRi))
            clear hRi
            go_wp2_with fail
            refine hC.out.mono ?_
            rintro e w8 ⟨v8, n8, rfl, hb8⟩
            go_wp2_with fail
            go_roundw
            case rel => exact ⟨i + 1, by go_num, bel_on hbi hb8⟩
            case measure => simp [intOf]; omega
          · clear hRi
            go_wp2_with fail
            go_roundw
            case rel => exact ⟨4, by go_num, by omega, by omega, bel_on hb7 hbi⟩
            case measure => simp [intOf]
    · clear h0 h1 h2 h3
      go_wp2_with fail
      go_loopw [57] (fun t wi => ∃ i : Nat, t = .int .i64 i ∧ Below wo.heap.size wo wi) (fun t _ => (encL id ds).length - (intOf t).toNat)
      case atStart => exact ⟨0, rfl, Below.refl _ _⟩
      case round =>
        obtain ⟨i, rfl, hbi⟩ := hrel
        have hRi := (hR5.below hb7).below hbi
        by_cases hiN : i < (encL id ds).length
        · have hi : i < (encL id ds).length := by omega
          have hC := Lib.hid (cut_digests (some ⟨b5, o5, none⟩) i m5 ds wr HD.out (by omega) (by omega) hi hRi)
          clear hRi
          go_wp2_with fail
          refine hC.out.mono ?_
          rintro e w8 ⟨v8, n8, rfl, hb8⟩
          go_wp2_with fail
          go_roundw
          case rel => exact ⟨i + 1, by go_num, bel_on hbi hb8⟩
          case measure => simp [intOf]; omega
        · clear hRi
          go_wp2_with fail
          go_roundw
          case rel => exact ⟨5, by go_num, by omega, by omega, bel_on hb7 hbi⟩
          case measure => simp [intOf]
    · clear h0 h1 h2 h3 h4
      go_wp2_with fail
      refine (sanity_any wo).mono ?_
      rintro e w9 ⟨rfl, hb9⟩
      go_wp2_with fail
      go_ret
      exact ⟨rfl, bel_on (bel_on k6 hb7) hb9⟩
end Go.Proofs.Ytgnhkhcfelmnhaa
