/- What the reference's Crc40 does. -/
import Derived.Test.YtkineafacekklaaDoorWords
namespace Go.Proofs.YtkineafacekklaaDoor
open Go.RowKit
theorem bit_arg (c j : Nat) (hc : c < 256) : bits .and .u64 ((c : Int) / 2 ^ (7 - j)) 1 = ((c / 2 ^ (7 - j) % 2 : Nat) : Int) := by
  have hle : c / 2 ^ (7 - j) ≤ c := Nat.div_le_self _ _
  have e : (c : Int) / 2 ^ (7 - j) = ((c / 2 ^ (7 - j) : Nat) : Int) := by
    rw [show ((2 : Int) ^ (7 - j)) = ((2 ^ (7 - j) : Nat) : Int) by simp]
    rfl
  rw [e, and1_64 _ (by omega)]
set_option maxRecDepth 100000 in
set_option maxHeartbeats 1000000 in
theorem rcrc_any (A : Option Addr) (n cap : Nat) (l : List UInt8) (w : World) (hn : l.length = n) (hr : RV w A (bv l)) (hl : n ≤ 140737488355328) :
    Calls Tryd.prog 17 #[.slice A n cap] w fun e w' => e = .returned (.int .i64 (crc l : Nat)) ∧ w = w' := by
  have HN := Lib.hid hn
  clear hn
  go_enter Tryd.func17, Tryd.ntmps17
  go_wp2
  go_loop [3, 4, 5] (fun x i _ => ∃ (k r : Nat), i = .int .i64 k ∧ k ≤ n ∧ x = .int .u64 (r : Int) ∧ Hid (r = run MASK (l.take k)) ∧ r < 1099511627776) (fun _ i _ => n - (intOf i).toNat)
  case atStart => exact ⟨0, MASK, rfl, by omega, rfl, Lib.hid rfl, MASK_lt⟩
  case round =>
    obtain ⟨k, r, rfl, hk, rfl, hR, hr40⟩ := hrel
    by_cases hlt : k < n
    · have hkl : k < l.length := by rw [HN.out]; exact hlt
      obtain ⟨b, o, rfl, hc⟩ := hr.at_ (w' := w) (Below.refl _ _) (k := k) (bv_at hkl)
      have HT := Lib.hid (run_take MASK l k hkl)
      have hu := l[k].toNat_lt
      generalize l[k].toNat = x at *
      clear hr
      go_wp2
      go_loop [3, 5] (fun y i => ∃ (j s : Nat), i = .int .i64 j ∧ j ≤ 8 ∧ y = .int .u64 (s : Int) ∧ Hid (s = stepsN x j r) ∧ s < 1099511627776) (fun _ i => 8 - (intOf i).toNat)
      case atStart => exact ⟨0, r, rfl, by omega, rfl, Lib.hid rfl, hr40⟩
      case round =>
        obtain ⟨j, s, rfl, hj, rfl, hS, hs40⟩ := hrel
        by_cases hlj : j < 8
        · have HA := Lib.hid (bit_arg x j (by omega))
          go_wp2_with fail
          refine (step_any s (x / 2 ^ (7 - j) % 2) _ _ HA.out hs40 (Nat.mod_lt _ (by decide))).mono ?_
          rintro e w2 ⟨rfl, rfl⟩
          go_wp2_with fail
          go_round
          case rel => exact ⟨j + 1, _, by go_num, by omega, rfl, Lib.hid (by rw [hS.out]; rfl), by rw [hS.out]; exact stepsN_lt (k := j + 1) hr40⟩
          case measure => simp [intOf]; omega
        · obtain rfl : j = 8 := by omega
          go_wp2
          go_round
          case rel => exact ⟨k + 1, s, by go_num, by omega, rfl, Lib.hid (by rw [HT.out, ← hR.out, hS.out, steps8 _ _ (by omega)]), hs40⟩
          case measure => simp [intOf]; omega
    · obtain rfl : k = n := by omega
      have HE : Hid (r = run MASK l) := Lib.hid (by rw [hR.out, List.take_of_length_le (by rw [HN.out]; exact Nat.le_refl _)])
      clear hr
      have hx := xor40 r MASK hr40 MASK_lt
      have hxl := xor_lt hr40 MASK_lt
      have HF : Hid (r ^^^ MASK = crc l) := Lib.hid (by rw [HE.out]; rfl)
      rw [show ((MASK : Nat) : Int) = 1099511627775 from rfl] at hx
      generalize r ^^^ MASK = y at *
      go_wp2
      go_ret
      exact ⟨ret_i64 (by rw [HF.out]), rfl⟩
end Go.Proofs.YtkineafacekklaaDoor
