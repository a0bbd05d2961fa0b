/-
  What flips do to lines with their codes. One bit is corrected, two are found.
-/
import Derived.Test.YtmnncbgibngmiaaGreatDoorQC5
namespace Go.Proofs.YtmnncbgibngmiaaGreatDoor
open Go.RowKit
theorem okBit_cast {k b : Nat} (h : okBit k b = true) : (k < 8 ∧ dataB (k : Int) (b : Int) = true) ∨ (k = 8 ∧ dataB (k : Int) (b : Int) = false ∧ codeB (k : Int) (b : Int) = true) := by
  unfold okBit at h
  simp at h
  by_cases hk : k < 8
  · left
    refine ⟨hk, ?_⟩
    unfold dataB
    simp
    omega
  · right
    refine ⟨by omega, ?_, ?_⟩
    · unfold dataB
      simp
      omega
    · unfold codeB
      simp
      omega
theorem nine_get8 (ws : List Nat) (c : Nat) (h8 : ws.length = 8) : (ws ++ [c]).getD 8 0 = c := by
  rw [List.getD_eq_getElem?_getD, List.getElem?_append_right (by omega), h8]
  rfl
theorem flipR_flp {ws : List Nat} {c k b : Nat} (h8 : ws.length = 8) (h : okBit k b = true) : (flipR ws c k b).1 ++ [(flipR ws c k b).2] = flp (ws ++ [c]) k b := by
  unfold flipR
  rcases okBit_cast h with ⟨hk, hd⟩ | ⟨hk, hd, hc⟩
  · rw [hd, if_pos rfl, Int.toNat_natCast, Int.toNat_natCast]
    unfold flp
    show ws.set k _ ++ [c] = _
    rw [List.set_append_left _ _ (by omega)]
    congr 3
    rw [List.getD_eq_getElem?_getD, List.getD_eq_getElem?_getD, List.getElem?_append_left (by omega)]
  · rw [hd, hc, if_neg (by decide), if_pos rfl, Int.toNat_natCast]
    subst hk
    unfold flp
    rw [nine_get8 ws c h8, List.set_append_right _ _ (by omega), h8]
    rfl
/-- A line, a code and a bit give a line and a code again. -/
theorem flip_nine {ws : List Nat} {c k b : Nat} (h8 : ws.length = 8) (hs : ∀ x ∈ ws, x < 1099511627776) (hc : c < 1024) (h : okBit k b = true) :
    (flipR ws c k b).1.length = 8 ∧ (∀ x ∈ (flipR ws c k b).1, x < 1099511627776) ∧ (flipR ws c k b).2 < 1024 := by
  have hn := (nine_of h8 hs hc).flp h
  have e := flipR_flp (c := c) h8 h
  have hl : (flipR ws c k b).1.length = 8 := by rw [flipR_len, h8]
  rw [← e] at hn
  refine ⟨hl, fun x hx => hn.small x (List.mem_append_left _ hx), ?_⟩
  have := hn.code
  rwa [nine_get8 _ _ hl] at this
theorem app_inj {a b : List Nat} {x y : Nat} (hl : a.length = b.length) (h : a ++ [x] = b ++ [y]) : a = b ∧ x = y := by
  obtain ⟨h1, h2⟩ := List.append_inj h hl
  exact ⟨h1, by simpa using h2⟩
theorem flip_back {ws : List Nat} {c k b : Nat} (h8 : ws.length = 8) (h : okBit k b = true) : flipR (flipR ws c k b).1 (flipR ws c k b).2 k b = (ws, c) := by
  have hl : (flipR ws c k b).1.length = 8 := by rw [flipR_len, h8]
  have e := flipR_flp (ws := (flipR ws c k b).1) (c := (flipR ws c k b).2) hl h
  rw [flipR_flp h8 h, flp_flp] at e
  obtain ⟨e1, e2⟩ := app_inj (by rw [flipR_len, flipR_len]) e
  exact Prod.ext e1 e2
theorem synT_flip {ws : List Nat} {c k b : Nat} (h8 : ws.length = 8) (h : okBit k b = true) : synT (flipR ws c k b).1 (flipR ws c k b).2 = synT ws c ^^^ psn k b := by
  unfold synT
  rw [flipR_flp h8 h, synL_flp b (okBit_b h) _ 0 k (by have := okBit_k h; simp; omega), Nat.zero_add]
theorem popT_flip {ws : List Nat} {c k b : Nat} (h8 : ws.length = 8) (h : okBit k b = true) : popT (flipR ws c k b).1 (flipR ws c k b).2 % 2 = (popT ws c + 1) % 2 := by
  unfold popT
  rw [flipR_flp h8 h, popL_flp b (okBit_b h) _ k (by have := okBit_k h; simp; omega)]
  split
  · rename_i ht
    have := popL_pos (okBit_b h) _ k ht
    omega
  · rfl
theorem xorL_app (a b : List Nat) (x y : Nat) (h : a.length = b.length) : xorL (a ++ [x]) (b ++ [y]) = xorL a b ++ [x ^^^ y] := by
  unfold xorL
  rw [List.zipWith_append h]
  rfl
theorem popT_xor (a b : List Nat) (x y : Nat) (h : a.length = b.length) : popT (xorL a b) (x ^^^ y) = popL (xorL (a ++ [x]) (b ++ [y])) := by
  unfold popT
  rw [xorL_app a b x y h]
theorem xorL_self : ∀ (x : List Nat), popL (xorL x x) = 0 ∧ ∀ k, (xorL x x).getD k 0 = 0 := by
  intro x
  induction x with
  | nil => exact ⟨rfl, fun k => rfl⟩
  | cons n x ih =>
    have e : xorL (n :: x) (n :: x) = (n ^^^ n) :: xorL x x := rfl
    rw [e, Nat.xor_self]
    refine ⟨by simp only [popL, popW_zero, ih.1], fun k => ?_⟩
    cases k with
    | zero => rfl
    | succ k => exact ih.2 k
theorem xorL_flp (x y : List Nat) (k b : Nat) (hl : y.length = x.length) (hk : k < x.length) : xorL x (flp y k b) = flp (xorL x y) k b := by
  refine List.ext_getElem (by rw [xorL_len x _ (by rw [flp_len, hl]), flp_len, xorL_len x y hl]) fun j h1 h2 => ?_
  have hj : j < x.length := by rw [xorL_len x _ (by rw [flp_len, hl])] at h1; exact h1
  have e1 := xorL_get x (flp y k b) (by rw [flp_len, hl]) j hj
  have e2 := flp_get (xorL x y) k b j (by rw [xorL_len x y hl]; exact hk)
  have e3 := flp_get y k b j (by omega)
  have e4 := xorL_get x y hl k hk
  have e5 := xorL_get x y hl j hj
  rw [List.getD_eq_getElem?_getD, List.getElem?_eq_getElem h1] at e1
  rw [List.getD_eq_getElem?_getD, List.getElem?_eq_getElem h2] at e2
  refine e1.trans (Eq.trans ?_ e2.symm)
  rw [e3]
  by_cases h : j = k
  · subst h
    rw [if_pos rfl, if_pos rfl, e4, Nat.xor_assoc]
  · rw [if_neg h, if_neg h, e5]
theorem dist_one (x : List Nat) (k b : Nat) (hk : k < x.length) (hb : b < 40) : popL (xorL x (flp x k b)) = 1 := by
  rw [xorL_flp x x k b rfl hk, popL_flp b hb _ k (by rw [xorL_len x x rfl]; exact hk), (xorL_self x).2 k, Nat.zero_testBit, (xorL_self x).1]
  rfl
theorem dist_two (x : List Nat) (k b k' b' : Nat) (hk : k < x.length) (hb : b < 40) (hk' : k' < x.length) (hb' : b' < 40) (hne : ¬ (k = k' ∧ b = b')) : popL (xorL x (flp (flp x k b) k' b')) = 2 := by
  rw [xorL_flp x _ k' b' (by rw [flp_len]) hk', xorL_flp x x k b rfl hk, popL_flp b' hb' _ k' (by rw [flp_len, xorL_len x x rfl]; exact hk'), flp_get _ k b k' (by rw [xorL_len x x rfl]; exact hk),
    popL_flp b hb _ k (by rw [xorL_len x x rfl]; exact hk), (xorL_self x).2 k, (xorL_self x).2 k', Nat.zero_testBit, (xorL_self x).1]
  have ht : ((if k' = k then 0 ^^^ 2 ^ b else 0).testBit b') = false := by
    split
    · rename_i h
      rw [Nat.zero_xor, Nat.testBit_two_pow]
      simp
      intro h2
      exact hne ⟨h.symm, h2⟩
    · exact Nat.zero_testBit _
  rw [ht]
  rfl
/-- The clean codes. -/
theorem popW_code (s t : Nat) (hs : s < 512) (ht : t < 2) : popW (s + 512 * t) 40 = popW s 40 + t := by
  have all : ∀ s : Fin 512, ∀ t : Fin 2, popW (s.val + 512 * t.val) 40 = popW s.val 40 + t.val := by decide +kernel
  exact all ⟨s, hs⟩ ⟨t, ht⟩
theorem popT_eq (ws : List Nat) (c : Nat) : popT ws c = popL ws + popW c 40 := by
  unfold popT
  rw [popL_append]
  simp [popL]
theorem xor_zero_iff (a b : Nat) : a ^^^ b = 0 ↔ a = b := by
  constructor
  · intro h
    have := congrArg (· ^^^ b) h
    simpa [Nat.xor_assoc] using this
  · intro h
    rw [h, Nat.xor_self]
theorem clean_iff {ws : List Nat} {c : Nat} (h8 : ws.length = 8) (hs : ∀ x ∈ ws, x < 1099511627776) (hc : c < 1024) : (synT ws c = 0 ∧ popT ws c % 2 = 0) ↔ c = encN ws := by
  have h0 := synT_eq ws 0 h8 (by decide)
  have hS : synT ws 0 < 512 := synT_lt h8 hs (by decide)
  have e0 : synT ws 0 = synL 0 ws := by rw [h0]; simp
  rw [synT_eq ws c h8 hc, xor_zero_iff, popT_eq]
  unfold encN
  rw [e0] at hS ⊢
  rw [popT_eq]
  generalize synL 0 ws = S at *
  generalize popL ws = P at *
  have hp := popW_code (c % 512) (c / 512) (by omega) (by omega)
  have ec : c % 512 + 512 * (c / 512) = c := by omega
  rw [ec] at hp
  constructor
  · rintro ⟨h1, h2⟩
    rw [h1] at hp ec
    omega
  · intro h
    have h1 : c % 512 = S := by omega
    refine ⟨h1, ?_⟩
    rw [h1] at hp
    omega
theorem encN_lt {ws : List Nat} (h8 : ws.length = 8) (hs : ∀ x ∈ ws, x < 1099511627776) : encN ws < 1024 := by
  have hS : synT ws 0 < 512 := synT_lt h8 hs (by decide)
  unfold encN
  omega
theorem encN_clean {ws : List Nat} (h8 : ws.length = 8) (hs : ∀ x ∈ ws, x < 1099511627776) : synT ws (encN ws) = 0 ∧ popT ws (encN ws) % 2 = 0 := (clean_iff h8 hs (encN_lt h8 hs)).2 rfl
theorem encZ_ci {ws : List Nat} (hs : ∀ x ∈ ws, x < 1099511627776) : encZ (ci ws) = ((encN ws : Nat) : Int) := by
  unfold encZ
  rw [all_ci hs, if_pos rfl, nw_ci]
theorem chkZ_ci {ws : List Nat} {c : Nat} (hs : ∀ x ∈ ws, x < 1099511627776) (hc : c < 1024) : chkZ (ci ws) (c : Int) = chkF (synT ws c) (popT ws c % 2) := by
  unfold chkZ
  rw [valid_ci hs, decide_eq_true hc, if_pos rfl, nw_ci, Int.toNat_natCast]
theorem chkF_clean (s p : Nat) : (chkF s p).1 = 0 ↔ s = 0 ∧ p = 0 := by
  unfold chkF
  split
  · rename_i h
    exact ⟨fun _ => h, fun _ => rfl⟩
  · rename_i h
    split
    · exact ⟨fun h2 => by simp at h2, fun h2 => absurd h2 h⟩
    · split
      · exact ⟨fun h2 => by simp at h2, fun h2 => absurd h2 h⟩
      · exact ⟨fun h2 => by simp at h2, fun h2 => absurd h2 h⟩
theorem chkZ_clean {ws : List Nat} {c : Nat} (h8 : ws.length = 8) (hs : ∀ x ∈ ws, x < 1099511627776) (hc : c < 1024) : (chkZ (ci ws) (c : Int)).1 = 0 ↔ c = encN ws := by
  rw [chkZ_ci hs hc, chkF_clean]
  exact clean_iff h8 hs hc
theorem chkZ_enc {ws : List Nat} (h8 : ws.length = 8) (hs : ∀ x ∈ ws, x < 1099511627776) : chkZ (ci ws) ((encN ws : Nat) : Int) = (0, 0, 0) := by
  rw [chkZ_ci hs (encN_lt h8 hs), (encN_clean h8 hs).1, (encN_clean h8 hs).2]
  rfl
theorem fixZ_enc {ws : List Nat} (h8 : ws.length = 8) (hs : ∀ x ∈ ws, x < 1099511627776) : fixZ (ci ws) ((encN ws : Nat) : Int) = (ci ws, ((encN ws : Nat) : Int), 0) := by
  unfold fixZ
  rw [valid_ci hs, decide_eq_true (encN_lt h8 hs), if_pos rfl, chkZ_enc h8 hs, if_neg (by decide), if_neg (by decide)]
end Go.Proofs.YtmnncbgibngmiaaGreatDoor
namespace Go.Proofs.YtmnncbgibngmiaaGreatDoor
open Go.RowKit
theorem chkF_psn {k b : Nat} (h : okBit k b = true) : chkF (psn k b) 1 = (1, k, b) := by
  rw [chk_find rfl, find_psn h]
  rfl
theorem chk_one {ws : List Nat} {k b : Nat} (h8 : ws.length = 8) (hs : ∀ x ∈ ws, x < 1099511627776) (h : okBit k b = true) :
    chkZ (ci (flipR ws (encN ws) k b).1) (((flipR ws (encN ws) k b).2 : Nat) : Int) = (1, k, b) := by
  obtain ⟨_, hs', hc'⟩ := flip_nine h8 hs (encN_lt h8 hs) h
  rw [chkZ_ci hs' hc', synT_flip h8 h, (encN_clean h8 hs).1, popT_flip h8 h, Nat.zero_xor]
  have h2 : (popT ws (encN ws) + 1) % 2 = 1 := by have := (encN_clean h8 hs).2; omega
  rw [h2, chkF_psn h]
theorem fix_one {ws : List Nat} {k b : Nat} (h8 : ws.length = 8) (hs : ∀ x ∈ ws, x < 1099511627776) (h : okBit k b = true) :
    fixZ (ci (flipR ws (encN ws) k b).1) (((flipR ws (encN ws) k b).2 : Nat) : Int) = (ci ws, ((encN ws : Nat) : Int), 0) := by
  obtain ⟨_, hs', hc'⟩ := flip_nine h8 hs (encN_lt h8 hs) h
  unfold fixZ
  rw [valid_ci hs', decide_eq_true hc', if_pos rfl, chk_one h8 hs h, if_neg (by simp), if_pos rfl, nw_ci, Int.toNat_natCast]
  show (ci (flipR (flipR ws (encN ws) k b).1 (flipR ws (encN ws) k b).2 k b).1, (((flipR (flipR ws (encN ws) k b).1 (flipR ws (encN ws) k b).2 k b).2 : Nat) : Int), 0) = _
  rw [flip_back h8 h]
theorem distZ_ci {ws us : List Nat} {c d : Nat} (hs : ∀ x ∈ ws, x < 1099511627776) (hu : ∀ x ∈ us, x < 1099511627776) (hc : c < 1024) (hd : d < 1024) (hl : ws.length = us.length) :
    distZ (ci ws) (c : Int) (ci us) (d : Int) = ((popL (xorL (ws ++ [c]) (us ++ [d])) : Nat) : Int) := by
  unfold distZ
  rw [valid_ci hs, valid_ci hu, decide_eq_true hc, decide_eq_true hd, if_pos ⟨rfl, rfl⟩, nw_ci, nw_ci, Int.toNat_natCast, Int.toNat_natCast, popT_xor _ _ _ _ hl]
theorem dist_flip {ws : List Nat} {c k b : Nat} (h8 : ws.length = 8) (hs : ∀ x ∈ ws, x < 1099511627776) (hc : c < 1024) (h : okBit k b = true) :
    distZ (ci ws) (c : Int) (ci (flipR ws c k b).1) (((flipR ws c k b).2 : Nat) : Int) = 1 := by
  obtain ⟨hl, hs', hc'⟩ := flip_nine h8 hs hc h
  rw [distZ_ci hs hs' hc hc' (by omega), flipR_flp h8 h, dist_one _ k b (by have := okBit_k h; simp; omega) (okBit_b h)]
  rfl
theorem dist_flip2 {ws : List Nat} {c k b k' b' : Nat} (h8 : ws.length = 8) (hs : ∀ x ∈ ws, x < 1099511627776) (hc : c < 1024) (h : okBit k b = true) (h' : okBit k' b' = true) (hne : ¬ (k = k' ∧ b = b')) :
    distZ (ci ws) (c : Int) (ci (flipR (flipR ws c k b).1 (flipR ws c k b).2 k' b').1) (((flipR (flipR ws c k b).1 (flipR ws c k b).2 k' b').2 : Nat) : Int) = 2 := by
  obtain ⟨hl, hs', hc'⟩ := flip_nine h8 hs hc h
  obtain ⟨hl2, hs2, hc2⟩ := flip_nine hl hs' hc' h'
  rw [distZ_ci hs hs2 hc hc2 (by omega), flipR_flp hl h', flipR_flp h8 h, dist_two _ k b k' b' (by have := okBit_k h; simp; omega) (okBit_b h) (by have := okBit_k h'; simp; omega) (okBit_b h') hne]
  rfl
theorem chk_two {ws : List Nat} {k b k' b' : Nat} (h8 : ws.length = 8) (hs : ∀ x ∈ ws, x < 1099511627776) (h : okBit k b = true) (h' : okBit k' b' = true) (hne : ¬ (k = k' ∧ b = b')) :
    chkZ (ci (flipR (flipR ws (encN ws) k b).1 (flipR ws (encN ws) k b).2 k' b').1) (((flipR (flipR ws (encN ws) k b).1 (flipR ws (encN ws) k b).2 k' b').2 : Nat) : Int) = (2, 0, 0) := by
  obtain ⟨hl, hs', hc'⟩ := flip_nine h8 hs (encN_lt h8 hs) h
  obtain ⟨hl2, hs2, hc2⟩ := flip_nine hl hs' hc' h'
  rw [chkZ_ci hs2 hc2, synT_flip hl h', synT_flip h8 h, popT_flip hl h', (encN_clean h8 hs).1, Nat.zero_xor]
  have h1 := popT_flip (c := encN ws) h8 h
  have h2 : (popT (flipR ws (encN ws) k b).1 (flipR ws (encN ws) k b).2 + 1) % 2 = 0 := by have := (encN_clean h8 hs).2; omega
  have h3 : ¬ psn k b ^^^ psn k' b' = 0 := fun e => hne (psn_inj h h' ((xor_zero_iff _ _).1 e))
  rw [h2]
  unfold chkF
  rw [if_neg (by omega), if_pos rfl]
theorem fix_rot {ws : List Nat} {c : Nat} (hs : ∀ x ∈ ws, x < 1099511627776) (hc : c < 1024) (h : (chkZ (ci ws) (c : Int)).1 = 2) : fixZ (ci ws) (c : Int) = (Z8, 0, 9) := by
  unfold fixZ
  rw [valid_ci hs, decide_eq_true hc, if_pos rfl, if_pos h]
theorem fix_two {ws : List Nat} {k b k' b' : Nat} (h8 : ws.length = 8) (hs : ∀ x ∈ ws, x < 1099511627776) (h : okBit k b = true) (h' : okBit k' b' = true) (hne : ¬ (k = k' ∧ b = b')) :
    fixZ (ci (flipR (flipR ws (encN ws) k b).1 (flipR ws (encN ws) k b).2 k' b').1) (((flipR (flipR ws (encN ws) k b).1 (flipR ws (encN ws) k b).2 k' b').2 : Nat) : Int) = (Z8, 0, 9) := by
  obtain ⟨hl, hs', hc'⟩ := flip_nine h8 hs (encN_lt h8 hs) h
  obtain ⟨_, hs2, hc2⟩ := flip_nine hl hs' hc' h'
  exact fix_rot hs2 hc2 (by rw [chk_two h8 hs h h' hne])
end Go.Proofs.YtmnncbgibngmiaaGreatDoor
