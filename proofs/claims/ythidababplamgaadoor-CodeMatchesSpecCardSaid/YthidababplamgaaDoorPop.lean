/- How the standard library counts the bits of a number, in plain numbers. -/
import Derived.Test.YthidababplamgaaDoorMath
import Derived.Laws.BitsAllLaws
import Derived.Laws.Bits64
namespace Go.Proofs.YthidababplamgaaDoor
theorem land_split (X Y : Nat) : X &&& Y = (X % 256 &&& Y % 256) + 256 * (X / 256 &&& Y / 256) := by
  have h1 : (X &&& Y) % 256 = X % 256 &&& Y % 256 := Nat.and_mod_two_pow (n := 8)
  have h2 : (X &&& Y) / 256 = X / 256 &&& Y / 256 := by
    have := Nat.shiftRight_and_distrib (a := X) (b := Y) (i := 8)
    simpa [Nat.shiftRight_eq_div_pow] using this
  rw [← h1, ← h2]
  omega
/-- The mask of n bytes. -/
def msk (c : Nat) : Nat → Nat
  | 0 => 0
  | n + 1 => c + 256 * msk c n
theorem land_msk (X c n : Nat) (hc : c < 256) : X &&& msk c (n + 1) = (X % 256 &&& c) + 256 * (X / 256 &&& msk c n) := by
  rw [land_split]
  have h1 : msk c (n + 1) % 256 = c := by unfold msk; omega
  have h2 : msk c (n + 1) / 256 = msk c n := by rw [msk]; omega
  rw [h1, h2]
def G1 (n x : Nat) : Nat := (x / 2 &&& msk 85 n) + (x &&& msk 85 n)
def G2 (n x : Nat) : Nat := (x / 4 &&& msk 51 n) + (x &&& msk 51 n)
def G3 (n x : Nat) : Nat := (x / 16 + x) &&& msk 15 n
def g1 (a : Nat) : Nat := (a / 2 &&& 85) + (a &&& 85)
def g2 (a : Nat) : Nat := (a / 4 &&& 51) + (a &&& 51)
def g3 (a : Nat) : Nat := (a / 16 + a) &&& 15
theorem G1_step (n a b : Nat) (ha : a < 256) : G1 (n + 1) (a + 256 * b) = g1 a + 256 * G1 n b := by
  unfold G1 g1
  rw [land_msk _ _ _ (by decide), land_msk _ _ _ (by decide)]
  have e1 : (a + 256 * b) / 2 % 256 = a / 2 + 128 * (b % 2) := by omega
  have e2 : (a + 256 * b) / 2 / 256 = b / 2 := by omega
  have e3 : (a + 256 * b) % 256 = a := by omega
  have e4 : (a + 256 * b) / 256 = b := by omega
  have key : ∀ a : Fin 256, ∀ p : Fin 2, (a.val / 2 + 128 * p.val) &&& 85 = a.val / 2 &&& 85 := by decide +kernel
  have k : (a / 2 + 128 * (b % 2)) &&& 85 = a / 2 &&& 85 := key ⟨a, ha⟩ ⟨b % 2, by omega⟩
  rw [e1, e2, e3, e4, k]
  omega
theorem G2_step (n a b : Nat) (ha : a < 256) : G2 (n + 1) (a + 256 * b) = g2 a + 256 * G2 n b := by
  unfold G2 g2
  rw [land_msk _ _ _ (by decide), land_msk _ _ _ (by decide)]
  have e1 : (a + 256 * b) / 4 % 256 = a / 4 + 64 * (b % 4) := by omega
  have e2 : (a + 256 * b) / 4 / 256 = b / 4 := by omega
  have e3 : (a + 256 * b) % 256 = a := by omega
  have e4 : (a + 256 * b) / 256 = b := by omega
  have key : ∀ a : Fin 256, ∀ p : Fin 4, (a.val / 4 + 64 * p.val) &&& 51 = a.val / 4 &&& 51 := by decide +kernel
  have k : (a / 4 + 64 * (b % 4)) &&& 51 = a / 4 &&& 51 := key ⟨a, ha⟩ ⟨b % 4, by omega⟩
  rw [e1, e2, e3, e4, k]
  omega
theorem G3_step (n a b : Nat) (ha : a ≤ 68) (hb : b % 16 ≤ 4) : G3 (n + 1) (a + 256 * b) = g3 a + 256 * G3 n b := by
  unfold G3 g3
  rw [land_msk _ _ _ (by decide)]
  have e1 : ((a + 256 * b) / 16 + (a + 256 * b)) % 256 = (a / 16 + a) + 16 * (b % 16) := by omega
  have e2 : ((a + 256 * b) / 16 + (a + 256 * b)) / 256 = b / 16 + b := by omega
  have e3 : ((a / 16 + a) + 16 * (b % 16)) &&& 15 = (a / 16 + a) &&& 15 := by
    rw [nat_mask4, nat_mask4]
    omega
  rw [e1, e2, e3]
/-- All three steps. -/
def GG (n x : Nat) : Nat := G3 n (G2 n (G1 n x))
def gg (a : Nat) : Nat := g3 (g2 (g1 a))
theorem G_zero (n : Nat) : G1 n 0 = 0 ∧ G2 n 0 = 0 ∧ G3 n 0 = 0 := by
  refine ⟨?_, ?_, ?_⟩ <;> simp [G1, G2, G3]
theorem g_small (a : Nat) (ha : a < 256) : g1 a < 256 ∧ g2 (g1 a) ≤ 68 ∧ g2 (g1 a) % 16 ≤ 4 ∧ gg a = popW a 8 ∧ gg a ≤ 8 := by
  have all : ∀ a : Fin 256, g1 a < 256 ∧ g2 (g1 a) ≤ 68 ∧ g2 (g1 a) % 16 ≤ 4 ∧ gg a = popW a 8 ∧ gg a ≤ 8 := by decide +kernel
  exact all ⟨a, ha⟩
theorem low16 (n x : Nat) : G2 (n + 1) (G1 (n + 1) x) % 16 ≤ 4 := by
  have e : x = x % 256 + 256 * (x / 256) := by omega
  have hs := g_small (x % 256) (by omega)
  rw [e, G1_step _ _ _ (by omega), G2_step _ _ _ hs.1]
  omega
theorem GG_step (n a b : Nat) (ha : a < 256) : GG (n + 2) (a + 256 * b) = gg a + 256 * GG (n + 1) b := by
  have hs := g_small a ha
  unfold GG gg
  rw [G1_step _ _ _ ha, G2_step _ _ _ hs.1, G3_step _ _ _ hs.2.1 (low16 n b)]
theorem popW_eq (x y : Nat) : ∀ b, (∀ i, i < b → x.testBit i = y.testBit i) → popW x b = popW y b := by
  intro b
  induction b with
  | zero => intro _; rfl
  | succ b ih =>
    intro h
    unfold popW
    rw [ih (fun i hi => h i (by omega)), h b (by omega)]
theorem popW_add (x k : Nat) : ∀ m, popW x (k + m) = popW x k + popW (x / 2 ^ k) m := by
  intro m
  induction m with
  | zero => simp [popW]
  | succ m ih =>
    show popW x (k + m) + (if x.testBit (k + m) then 1 else 0) = popW x k + (popW (x / 2 ^ k) m + (if (x / 2 ^ k).testBit m then 1 else 0))
    rw [ih, Nat.testBit_div_two_pow, Nat.add_comm k m]
    omega
theorem popW_byte (a b m : Nat) (ha : a < 256) : popW (a + 256 * b) (8 + m) = popW a 8 + popW b m := by
  rw [popW_add]
  have e : (a + 256 * b) / 2 ^ 8 = b := by
    show (a + 256 * b) / 256 = b
    omega
  rw [e]
  congr 1
  refine popW_eq _ _ _ fun i hi => ?_
  have h1 : (a + 256 * b) % 2 ^ 8 = a := by
    show (a + 256 * b) % 256 = a
    omega
  have h2 := Nat.testBit_mod_two_pow (a + 256 * b) 8 i
  rw [h1] at h2
  rw [h2]
  simp [hi]
/-- What the six steps of the standard library come to. -/
theorem ones_eq (x y1 y2 : Nat) (hx : x < 1099511627776) (h1 : y1 = GG 8 x + GG 8 x / 256) (h2 : y2 = y1 + y1 / 65536) : (y2 + y2 / 4294967296) % 128 = popW x 40 ∧ GG 8 x < 1099511627776 := by
  obtain ⟨a0, a1, a2, a3, a4, ha0, ha1, ha2, ha3, ha4, rfl⟩ : ∃ a0 a1 a2 a3 a4, a0 < 256 ∧ a1 < 256 ∧ a2 < 256 ∧ a3 < 256 ∧ a4 < 256 ∧ x = a0 + 256 * (a1 + 256 * (a2 + 256 * (a3 + 256 * (a4 + 256 * 0)))) :=
    ⟨x % 256, x / 256 % 256, x / 65536 % 256, x / 16777216 % 256, x / 4294967296 % 256, by omega, by omega, by omega, by omega, by omega, by omega⟩
  have hz : GG (2 + 1) 0 = 0 := by unfold GG; rw [(G_zero _).1, (G_zero _).2.1, (G_zero _).2.2]
  rw [GG_step 6 _ _ ha0, GG_step 5 _ _ ha1, GG_step 4 _ _ ha2, GG_step 3 _ _ ha3, GG_step 2 _ _ ha4, hz] at h1 ⊢
  rw [show (40 : Nat) = 8 + (8 + (8 + (8 + (8 + 0)))) from rfl, popW_byte _ _ _ ha0, popW_byte _ _ _ ha1, popW_byte _ _ _ ha2, popW_byte _ _ _ ha3, popW_byte _ _ _ ha4]
  have b0 := g_small a0 ha0
  have b1 := g_small a1 ha1
  have b2 := g_small a2 ha2
  have b3 := g_small a3 ha3
  have b4 := g_small a4 ha4
  rw [← b0.2.2.2.1, ← b1.2.2.2.1, ← b2.2.2.2.1, ← b3.2.2.2.1, ← b4.2.2.2.1]
  have c0 := b0.2.2.2.2
  have c1 := b1.2.2.2.2
  have c2 := b2.2.2.2.2
  have c3 := b3.2.2.2.2
  have c4 := b4.2.2.2.2
  clear b0 b1 b2 b3 b4 hz
  generalize gg a0 = p0 at *
  generalize gg a1 = p1 at *
  generalize gg a2 = p2 at *
  generalize gg a3 = p3 at *
  generalize gg a4 = p4 at *
  have hp : popW 0 0 = 0 := rfl
  rw [hp]
  have q1 : (p0 + 256 * (p1 + 256 * (p2 + 256 * (p3 + 256 * (p4 + 256 * 0))))) / 256 = p1 + 256 * p2 + 65536 * p3 + 16777216 * p4 := by omega
  have q2 : y1 = (p0 + p1) + 256 * (p1 + p2) + 65536 * ((p2 + p3) + 256 * (p3 + p4) + 65536 * p4) := by omega
  have q3 : y1 / 65536 = (p2 + p3) + 256 * (p3 + p4) + 65536 * p4 := by omega
  have q4 : y2 = (p0 + p1 + p2 + p3) + 256 * (p1 + p2 + p3 + p4) + 65536 * ((p2 + p3 + p4) + 256 * (p3 + p4)) + 4294967296 * p4 := by omega
  have q5 : y2 / 4294967296 = p4 := by omega
  refine ⟨?_, by omega⟩
  rw [q5]
  omega
theorem popW_le (x : Nat) : ∀ b, popW x b ≤ b := by
  intro b
  induction b with
  | zero => simp [popW]
  | succ b ih => unfold popW; split <;> omega
theorem masks : msk 85 8 = 6148914691236517205 ∧ msk 51 8 = 3689348814741910323 ∧ msk 15 8 = 1085102592571150095 := by decide
theorem G_le (x : Nat) : G1 8 x < 18446744073709551616 ∧ G2 8 (G1 8 x) < 18446744073709551616 ∧ G2 8 (G1 8 x) / 16 + G2 8 (G1 8 x) < 18446744073709551616 := by
  have m1 : ∀ X, X &&& msk 85 8 ≤ 6148914691236517205 := fun X => by rw [← masks.1]; exact Nat.and_le_right
  have m2 : ∀ X, X &&& msk 51 8 ≤ 3689348814741910323 := fun X => by rw [← masks.2.1]; exact Nat.and_le_right
  have a1 := m1 (x / 2)
  have a2 := m1 x
  have a3 := m2 (G1 8 x / 4)
  have a4 := m2 (G1 8 x)
  refine ⟨by unfold G1; omega, by unfold G2; omega, ?_⟩
  unfold G2
  omega
end Go.Proofs.YthidababplamgaaDoor
