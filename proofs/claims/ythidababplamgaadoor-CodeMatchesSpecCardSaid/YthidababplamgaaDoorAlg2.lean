/- One bit is corrected, two are found. -/
import Derived.Test.YthidababplamgaaDoorAlg
namespace Go.Proofs.YthidababplamgaaDoor
open Go.RowKit
theorem chkF_psn {k b : Nat} (h : okBit k b = true) : chkF (psn k b) 1 = (1, k, b) := by
  rw [chk_find rfl, find_psn h]
  rfl
theorem chk_one {ws : List Nat} {k b : Nat} (h8 : ws.length = 8) (hs : ∀ x ∈ ws, x < 1099511627776) (h : okBit k b = true) :
    chkZ (ci (flipR ws (encN ws) k b).1) (((flipR ws (encN ws) k b).2 : Nat) : Int) = (1, k, b) := by
  obtain ⟨_, hs', hc'⟩ := flip_nine h8 hs (encN_lt h8 hs) h
  rw [chkZ_ci hs' hc', synT_flip h8 h, (encN_clean h8 hs).1, popT_flip h8 h, Nat.zero_xor]
  have h2 : (popT ws (encN ws) + 1) % 2 = 1 := by have := (encN_clean h8 hs).2; omega
  rw [h2, chkF_psn h]
theorem fix_one {ws : List Nat} {k b : Nat} (h8 : ws.length = 8) (hs : ∀ x ∈ ws, x < 1099511627776) (h : okBit k b = true) :
    fixZ (ci (flipR ws (encN ws) k b).1) (((flipR ws (encN ws) k b).2 : Nat) : Int) = (ci ws, ((encN ws : Nat) : Int), 0) := by
  obtain ⟨_, hs', hc'⟩ := flip_nine h8 hs (encN_lt h8 hs) h
  unfold fixZ
  rw [valid_ci hs', decide_eq_true hc', if_pos rfl, chk_one h8 hs h, if_neg (by simp), if_pos rfl, nw_ci, Int.toNat_natCast]
  show (ci (flipR (flipR ws (encN ws) k b).1 (flipR ws (encN ws) k b).2 k b).1, (((flipR (flipR ws (encN ws) k b).1 (flipR ws (encN ws) k b).2 k b).2 : Nat) : Int), 0) = _
  rw [flip_back h8 h]
theorem distZ_ci {ws us : List Nat} {c d : Nat} (hs : ∀ x ∈ ws, x < 1099511627776) (hu : ∀ x ∈ us, x < 1099511627776) (hc : c < 1024) (hd : d < 1024) (hl : ws.length = us.length) :
    distZ (ci ws) (c : Int) (ci us) (d : Int) = ((popL (xorL (ws ++ [c]) (us ++ [d])) : Nat) : Int) := by
  unfold distZ
  rw [valid_ci hs, valid_ci hu, decide_eq_true hc, decide_eq_true hd, if_pos ⟨rfl, rfl⟩, nw_ci, nw_ci, Int.toNat_natCast, Int.toNat_natCast, popT_xor _ _ _ _ hl]
theorem dist_flip {ws : List Nat} {c k b : Nat} (h8 : ws.length = 8) (hs : ∀ x ∈ ws, x < 1099511627776) (hc : c < 1024) (h : okBit k b = true) :
    distZ (ci ws) (c : Int) (ci (flipR ws c k b).1) (((flipR ws c k b).2 : Nat) : Int) = 1 := by
  obtain ⟨hl, hs', hc'⟩ := flip_nine h8 hs hc h
  rw [distZ_ci hs hs' hc hc' (by omega), flipR_flp h8 h, dist_one _ k b (by have := okBit_k h; simp; omega) (okBit_b h)]
  rfl
theorem dist_flip2 {ws : List Nat} {c k b k' b' : Nat} (h8 : ws.length = 8) (hs : ∀ x ∈ ws, x < 1099511627776) (hc : c < 1024) (h : okBit k b = true) (h' : okBit k' b' = true) (hne : ¬ (k = k' ∧ b = b')) :
    distZ (ci ws) (c : Int) (ci (flipR (flipR ws c k b).1 (flipR ws c k b).2 k' b').1) (((flipR (flipR ws c k b).1 (flipR ws c k b).2 k' b').2 : Nat) : Int) = 2 := by
  obtain ⟨hl, hs', hc'⟩ := flip_nine h8 hs hc h
  obtain ⟨hl2, hs2, hc2⟩ := flip_nine hl hs' hc' h'
  rw [distZ_ci hs hs2 hc hc2 (by omega), flipR_flp hl h', flipR_flp h8 h, dist_two _ k b k' b' (by have := okBit_k h; simp; omega) (okBit_b h) (by have := okBit_k h'; simp; omega) (okBit_b h') hne]
  rfl
theorem chk_two {ws : List Nat} {k b k' b' : Nat} (h8 : ws.length = 8) (hs : ∀ x ∈ ws, x < 1099511627776) (h : okBit k b = true) (h' : okBit k' b' = true) (hne : ¬ (k = k' ∧ b = b')) :
    chkZ (ci (flipR (flipR ws (encN ws) k b).1 (flipR ws (encN ws) k b).2 k' b').1) (((flipR (flipR ws (encN ws) k b).1 (flipR ws (encN ws) k b).2 k' b').2 : Nat) : Int) = (2, 0, 0) := by
  obtain ⟨hl, hs', hc'⟩ := flip_nine h8 hs (encN_lt h8 hs) h
  obtain ⟨hl2, hs2, hc2⟩ := flip_nine hl hs' hc' h'
  rw [chkZ_ci hs2 hc2, synT_flip hl h', synT_flip h8 h, popT_flip hl h', (encN_clean h8 hs).1, Nat.zero_xor]
  have h1 := popT_flip (c := encN ws) h8 h
  have h2 : (popT (flipR ws (encN ws) k b).1 (flipR ws (encN ws) k b).2 + 1) % 2 = 0 := by have := (encN_clean h8 hs).2; omega
  have h3 : ¬ psn k b ^^^ psn k' b' = 0 := fun e => hne (psn_inj h h' ((xor_zero_iff _ _).1 e))
  rw [h2]
  unfold chkF
  rw [if_neg (by omega), if_pos rfl]
theorem fix_rot {ws : List Nat} {c : Nat} (hs : ∀ x ∈ ws, x < 1099511627776) (hc : c < 1024) (h : (chkZ (ci ws) (c : Int)).1 = 2) : fixZ (ci ws) (c : Int) = (Z8, 0, 9) := by
  unfold fixZ
  rw [valid_ci hs, decide_eq_true hc, if_pos rfl, if_pos h]
theorem fix_two {ws : List Nat} {k b k' b' : Nat} (h8 : ws.length = 8) (hs : ∀ x ∈ ws, x < 1099511627776) (h : okBit k b = true) (h' : okBit k' b' = true) (hne : ¬ (k = k' ∧ b = b')) :
    fixZ (ci (flipR (flipR ws (encN ws) k b).1 (flipR ws (encN ws) k b).2 k' b').1) (((flipR (flipR ws (encN ws) k b).1 (flipR ws (encN ws) k b).2 k' b').2 : Nat) : Int) = (Z8, 0, 9) := by
  obtain ⟨hl, hs', hc'⟩ := flip_nine h8 hs (encN_lt h8 hs) h
  obtain ⟨_, hs2, hc2⟩ := flip_nine hl hs' hc' h'
  exact fix_rot hs2 hc2 (by rw [chk_two h8 hs h h' hne])
end Go.Proofs.YthidababplamgaaDoor
