/- SHA-256 as plain numbers. -/
namespace Go.Proofs.YtkineafacekklaaDoor
def rot (n x : Nat) : Nat := x / 2 ^ n ||| x * 2 ^ (32 - n) % 4294967296
def sg0 (x : Nat) : Nat := rot 7 x ^^^ rot 18 x ^^^ x / 8
def sg1 (x : Nat) : Nat := rot 17 x ^^^ rot 19 x ^^^ x / 1024
def bs0 (x : Nat) : Nat := rot 2 x ^^^ rot 13 x ^^^ rot 22 x
def bs1 (x : Nat) : Nat := rot 6 x ^^^ rot 11 x ^^^ rot 25 x
def add (a b : Nat) : Nat := (a + b) % 4294967296
def nextW (l : List Nat) (t : Nat) : Nat := add (add (add (l.getD (t - 16) 0) (sg0 (l.getD (t - 15) 0))) (l.getD (t - 7) 0)) (sg1 (l.getD (t - 2) 0))
def extW (l : List Nat) : Nat → List Nat
  | 0 => l
  | k + 1 => extW l k ++ [nextW (extW l k) (16 + k)]
def extW' : Nat → List Nat → List Nat
  | 0, l => l
  | k + 1, l => extW' k (l ++ [nextW l l.length])
def be4 (a b c d : Nat) : Nat := ((a * 256 + b) * 256 + c) * 256 + d
def word (b : List UInt8) (i : Nat) : Nat := be4 (b.getD (4 * i) 0).toNat (b.getD (4 * i + 1) 0).toNat (b.getD (4 * i + 2) 0).toNat (b.getD (4 * i + 3) 0).toNat
def words16 (b : List UInt8) : List Nat := (List.range 16).map (word b)
def sched (b : List UInt8) : List Nat := extW (words16 b) 48
structure V8 where
  a : Nat
  b : Nat
  c : Nat
  d : Nat
  e : Nat
  f : Nat
  g : Nat
  h : Nat
def KS : List Nat := [
0x428a2f98, 0x71374491, 0xb5c0fbcf, 0xe9b5dba5, 0x3956c25b, 0x59f111f1, 0x923f82a4, 0xab1c5ed5,
0xd807aa98, 0x12835b01, 0x243185be, 0x550c7dc3, 0x72be5d74, 0x80deb1fe, 0x9bdc06a7, 0xc19bf174,
0xe49b69c1, 0xefbe4786, 0x0fc19dc6, 0x240ca1cc, 0x2de92c6f, 0x4a7484aa, 0x5cb0a9dc, 0x76f988da,
0x983e5152, 0xa831c66d, 0xb00327c8, 0xbf597fc7, 0xc6e00bf3, 0xd5a79147, 0x06ca6351, 0x14292967,
0x27b70a85, 0x2e1b2138, 0x4d2c6dfc, 0x53380d13, 0x650a7354, 0x766a0abb, 0x81c2c92e, 0x92722c85,
0xa2bfe8a1, 0xa81a664b, 0xc24b8b70, 0xc76c51a3, 0xd192e819, 0xd6990624, 0xf40e3585, 0x106aa070,
0x19a4c116, 0x1e376c08, 0x2748774c, 0x34b0bcb5, 0x391c0cb3, 0x4ed8aa4a, 0x5b9cca4f, 0x682e6ff3,
0x748f82ee, 0x78a5636f, 0x84c87814, 0x8cc70208, 0x90befffa, 0xa4506ceb, 0xbef9a3f7, 0xc67178f2]
def tx (v : V8) (k w : Nat) : Nat := add (add (add (add v.h (bs1 v.e)) (v.e &&& v.f ^^^ (v.e ^^^ 4294967295) &&& v.g)) k) w
def ty (v : V8) : Nat := add (bs0 v.a) ((v.a &&& v.b ^^^ v.a &&& v.c) ^^^ v.b &&& v.c)
def rnd (v : V8) (k w : Nat) : V8 := ⟨add (tx v k w) (ty v), v.a, v.b, v.c, add v.d (tx v k w), v.e, v.f, v.g⟩
def rnds (W : List Nat) (v : V8) : Nat → V8
  | 0 => v
  | t + 1 => rnd (rnds W v t) (KS.getD t 0) (W.getD t 0)
def rnds' : List Nat → List Nat → V8 → V8
  | k :: K, w :: W, v => rnds' K W (rnd v k w)
  | _, _, v => v
def addV (v u : V8) : V8 := ⟨add v.a u.a, add v.b u.b, add v.c u.c, add v.d u.d, add v.e u.e, add v.f u.f, add v.g u.g, add v.h u.h⟩
def comp (v : V8) (b : List UInt8) : V8 := addV v (rnds (sched b) v 64)
def comp' (v : V8) (b : List UInt8) : V8 := addV v (rnds' KS (extW' 48 (words16 b)) v)
def IV : V8 := ⟨0x6a09e667, 0xbb67ae85, 0x3c6ef372, 0xa54ff53a, 0x510e527f, 0x9b05688c, 0x1f83d9ab, 0x5be0cd19⟩
def hashN (m : List UInt8) : Nat → V8
  | 0 => IV
  | n + 1 => comp (hashN m n) ((m.drop (64 * n)).take 64)
def V8.list (v : V8) : List Nat := [v.a, v.b, v.c, v.d, v.e, v.f, v.g, v.h]
/-- The padding of a message of n bytes. -/
def padOf (n : Nat) : List UInt8 := 128 :: (List.replicate ((119 - n % 64) % 64) 0 ++ (List.range 8).map fun i => UInt8.ofNat (8 * n / 2 ^ (56 - 8 * i)))
def pad (l : List UInt8) : List UInt8 := l ++ padOf l.length
def out (v : V8) : List UInt8 := (List.range 32).map fun i => UInt8.ofNat (v.list.getD (i / 4) 0 / 2 ^ (24 - 8 * (i % 4)))
def sha (l : List UInt8) : List UInt8 := out (hashN (pad l) ((pad l).length / 64))
def abc : List UInt8 := [0xba,0x78,0x16,0xbf,0x8f,0x01,0xcf,0xea,0x41,0x41,0x40,0xde,0x5d,0xae,0x22,0x23,0xb0,0x03,0x61,0xa3,0x96,0x17,0x7a,0x9c,0xb4,0x10,0xff,0x61,0xf2,0x00,0x15,0xad]
theorem extW_len (l : List Nat) (k : Nat) : (extW l k).length = l.length + k := by
  induction k with
  | zero => rfl
  | succ k ih => simp [extW, ih]; omega
theorem extW_fast (l : List Nat) (hl : l.length = 16) : ∀ n k, extW l (n + k) = extW' n (extW l k) := by
  intro n
  induction n with
  | zero => intro k; rw [Nat.zero_add]; rfl
  | succ n ih =>
    intro k
    rw [show n + 1 + k = n + (k + 1) by omega, ih]
    show extW' n (extW l k ++ [nextW (extW l k) (16 + k)]) = extW' n (extW l k ++ [nextW (extW l k) (extW l k).length])
    rw [extW_len, hl]
theorem rnds_fast (v : V8) : ∀ (K W : List Nat) (t : Nat), t ≤ 64 → W.length = t → K.length = t → ∀ v0 W0, rnds W0 v0 (64 - t) = v → W0.drop (64 - t) = W → KS.drop (64 - t) = K → rnds W0 v0 64 = rnds' K W v := by
  intro K W t
  induction t generalizing v K W with
  | zero =>
    intro _ hW hK v0 W0 hv _ _
    rw [List.eq_nil_of_length_eq_zero hW, List.eq_nil_of_length_eq_zero hK]
    exact hv
  | succ t ih =>
    intro ht hW hK v0 W0 hv hdW hdK
    match K, W, hK, hW with
    | k :: K, w :: W, hK, hW =>
      have e1 : 64 - t = 64 - (t + 1) + 1 := by omega
      have hk : KS.getD (64 - (t + 1)) 0 = k := by
        have := congrArg (·[0]?) hdK
        simp only [List.getElem?_drop, Nat.add_zero] at this
        rw [List.getD, this]; rfl
      have hw : W0.getD (64 - (t + 1)) 0 = w := by
        have := congrArg (·[0]?) hdW
        simp only [List.getElem?_drop, Nat.add_zero] at this
        rw [List.getD, this]; rfl
      refine ih (rnd v k w) K W (by omega) (by simpa using hW) (by simpa using hK) v0 W0 ?_ ?_ ?_
      · rw [e1]
        show rnd (rnds W0 v0 (64 - (t + 1))) _ _ = _
        rw [hv, hk, hw]
      · rw [e1, ← List.drop_drop, hdW]; rfl
      · rw [e1, ← List.drop_drop, hdK]; rfl
theorem words16_len (b : List UInt8) : (words16 b).length = 16 := by simp [words16]
theorem sched_len (b : List UInt8) : (sched b).length = 64 := by unfold sched; rw [extW_len, words16_len]
theorem comp_fast (v : V8) (b : List UInt8) : comp v b = comp' v b := by
  unfold comp comp'
  have h := extW_fast (words16 b) (words16_len b) 48 0
  have h2 := rnds_fast v KS (sched b) 64 (Nat.le_refl _) (sched_len b) rfl v (sched b) rfl rfl rfl
  rw [h2]
  unfold sched
  rw [h]
  rfl
theorem sha_abc : sha [97, 98, 99] = abc := by
  have h : sha [97, 98, 99] = out (comp IV (pad [97, 98, 99])) := rfl
  rw [h, comp_fast]
  decide +kernel
theorem sha_one : (sha [1]).take 16 = [0x4b,0xf5,0x12,0x2f,0x34,0x45,0x54,0xc5,0x3b,0xde,0x2e,0xbb,0x8c,0xd2,0xb7,0xe3] := by
  have h : sha [1] = out (comp IV (pad [1])) := rfl
  rw [h, comp_fast]
  decide +kernel
end Go.Proofs.YtkineafacekklaaDoor
