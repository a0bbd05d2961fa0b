/-
  What prefixes of the pending stores make of what was durable: the law's want, as plain data.
-/
import Derived.Test.YtmnncbgibngmiaaDoorQN30
namespace Go.Proofs.YtmnncbgibngmiaaDoor
open Go.RowKit Go.Maps
set_option linter.unusedVariables false
theorem set_flat (z : Int) : ∀ (S : List (List Int)) (k j : Nat), (∀ x ∈ S, x.length = 8) → (h : k < S.length) → j < 8 → S.flatten.set (k * 8 + j) z = (S.set k (S[k].set j z)).flatten
  | [], k, j, _, h, _ => by cases h
  | x :: r, 0, j, h8, h, hj => by
    have hx := h8 x (by simp)
    show (x ++ r.flatten).set (0 * 8 + j) z = x.set j z ++ r.flatten
    rw [Nat.zero_mul, Nat.zero_add, List.set_append_left _ _ (by omega)]
  | x :: r, k + 1, j, h8, h, hj => by
    have hx := h8 x (by simp)
    show (x ++ r.flatten).set ((k + 1) * 8 + j) z = x ++ (r.set k (r[k]'(by simpa using h) |>.set j z)).flatten
    rw [List.set_append_right _ _ (by omega), ← set_flat z r k j (fun y hy => h8 y (by simp [hy])) (by simpa using h) hj]
    congr 2
    omega
theorem set_iv {S : List (List Int)} {k j : Nat} {z : Int} (h8 : ∀ x ∈ S, x.length = 8) (h : k < S.length) (hj : j < 8) : (iv S.flatten).set (k * 8 + j) (.int .i64 z) = iv (S.set k ((S.getD k []).set j z)).flatten := by
  have e : S.getD k [] = S[k] := by rw [List.getD_eq_getElem?_getD, List.getElem?_eq_getElem h]; rfl
  rw [e, ← set_flat z S k j h8 h hj]
  unfold iv
  rw [List.map_set]
def wantIn (S : List (List Int)) (i : Nat) (ps : List (Int × Int)) (q : Nat) : List (List Int) := S.set i (applyS (S.getD i []) (ps.take q))
theorem wantIn_zero {S : List (List Int)} {i : Nat} (ps : List (Int × Int)) (h : i < S.length) : wantIn S i ps 0 = S := by
  unfold wantIn
  have e : S.getD i [] = S[i] := by rw [List.getD_eq_getElem?_getD, List.getElem?_eq_getElem h]; rfl
  show S.set i (applyS (S.getD i []) []) = S
  rw [e]
  exact List.set_getElem_self h
theorem wantIn_len (S : List (List Int)) (i : Nat) (ps : List (Int × Int)) (q : Nat) : (wantIn S i ps q).length = S.length := List.length_set
theorem wantIn_8 {S : List (List Int)} {i : Nat} (ps : List (Int × Int)) (q : Nat) (h8 : ∀ x ∈ S, x.length = 8) (h : i < S.length) : ∀ x ∈ wantIn S i ps q, x.length = 8 := fun x hx => by
  rcases List.mem_or_eq_of_mem_set hx with h1 | rfl
  · exact h8 x h1
  · rw [applyS_len, List.getD_eq_getElem?_getD, List.getElem?_eq_getElem h]
    exact h8 _ (List.getElem_mem h)
theorem wantIn_step {S : List (List Int)} {i q : Nat} {ps : List (Int × Int)} (h : i < S.length) (hq : q < ps.length) :
    (wantIn S i ps q).set i (((wantIn S i ps q).getD i []).set ps[q].1.toNat ps[q].2) = wantIn S i ps (q + 1) := by
  have e : (wantIn S i ps q).getD i [] = applyS (S.getD i []) (ps.take q) := by
    unfold wantIn
    rw [List.getD_eq_getElem?_getD, List.getElem?_set_self h]
    rfl
  rw [e]
  unfold wantIn
  rw [List.set_set, take_snoc' ps q hq, applyS_snoc]
  rfl
/-- What cuts make of it. -/
def wantSt (m : PM) (S : List (List Int)) (cs : List (Int × Int)) : List (List Int) := cs.foldl (fun S c => wantIn S c.1.toNat (m.line c.1.toNat).pend c.2.toNat) S
theorem wantSt_app (m : PM) (S : List (List Int)) (a b : List (Int × Int)) : wantSt m S (a ++ b) = wantSt m (wantSt m S a) b := List.foldl_append
theorem wantSt_take {m : PM} {S : List (List Int)} {cs : List (Int × Int)} {t i kp : Nat} (ht : t < cs.length) (hc : cs[t] = ((i : Int), (kp : Int))) :
    wantSt m S (cs.take (t + 1)) = wantIn (wantSt m S (cs.take t)) i (m.line i).pend kp := by
  rw [take_snoc' cs t ht, wantSt_app, hc]
  show wantIn _ (i : Int).toNat (m.line (i : Int).toNat).pend (kp : Int).toNat = _
  rw [Int.toNat_natCast, Int.toNat_natCast]
theorem wants_at (m : PM) (K : Nat) (g : Nat → Int) (S : List (List Int)) (hS : S.length = m.L.length) : ∀ n, n ≤ m.L.length → (wantSt m S (cutsTo m K g n)).length = m.L.length ∧
    ∀ i, i < m.L.length → (wantSt m S (cutsTo m K g n)).getD i [] = if i < n then applyS (S.getD i []) ((m.line i).pend.take (cutN m K g i)) else S.getD i []
  | 0, _ => ⟨hS, fun i _ => rfl⟩
  | n + 1, h => by
    obtain ⟨ihl, ih⟩ := wants_at m K g S hS n (by omega)
    unfold cutsTo
    rw [wantSt_app]
    by_cases hb : cutB m K n = true
    · rw [if_pos hb]
      have e : wantSt m (wantSt m S (cutsTo m K g n)) [((n : Int), g n)] = wantIn (wantSt m S (cutsTo m K g n)) n (m.line n).pend (g n).toNat := by
        show wantIn _ (n : Int).toNat (m.line (n : Int).toNat).pend (g n).toNat = _
        rw [Int.toNat_natCast]
      rw [e]
      refine ⟨by rw [wantIn_len, ihl], fun i hi => ?_⟩
      by_cases hn : n = i
      · subst hn
        unfold wantIn
        rw [List.getD_eq_getElem?_getD, List.getElem?_set_self (by omega), if_pos (by omega), ih n hi, if_neg (by omega)]
        unfold cutN
        rw [if_pos hb]
        rfl
      · have e2 : (wantIn (wantSt m S (cutsTo m K g n)) n (m.line n).pend (g n).toNat).getD i [] = (wantSt m S (cutsTo m K g n)).getD i [] := by
          unfold wantIn
          rw [List.getD_eq_getElem?_getD, List.getElem?_set_ne hn, ← List.getD_eq_getElem?_getD]
        rw [e2, ih i hi]
        by_cases h2 : i < n
        · rw [if_pos h2, if_pos (by omega)]
        · rw [if_neg h2, if_neg (by omega)]
    · rw [if_neg hb]
      refine ⟨ihl, fun i hi => ?_⟩
      show (wantSt m S (cutsTo m K g n)).getD i [] = _
      rw [ih i hi]
      by_cases hn : i = n
      · subst hn
        rw [if_neg (by omega), if_pos (by omega)]
        unfold cutN
        rw [if_neg hb]
        rfl
      · by_cases h2 : i < n
        · rw [if_pos h2, if_pos (by omega)]
        · rw [if_neg h2, if_neg (by omega)]
def baseS (m : PM) : List (List Int) := m.L.map PL.fixW
theorem baseS_len (m : PM) : (baseS m).length = m.L.length := List.length_map ..
theorem baseS_at {m : PM} {i : Nat} (h : i < m.L.length) : (baseS m).getD i [] = (m.line i).fixW := by
  unfold baseS
  rw [List.getD_eq_getElem?_getD, List.getElem?_map, List.getElem?_eq_getElem h, PM.line_eq h]
  rfl
theorem baseS_8 {m : PM} (hm : m.Ok) : ∀ x ∈ baseS m, x.length = 8 := fun x hx => by
  obtain ⟨l, hl, rfl⟩ := List.mem_map.1 hx
  exact (hm.lines l hl).fixW.1
/-- What is seen after the failure. -/
theorem wants_seen {m : PM} (hm : m.Ok) {K : Nat} {g : Nat → Int} (hg : ∀ i, i < m.L.length → 0 ≤ g i ∧ g i ≤ ((m.line i).pend.length : Int)) :
    wantSt m (baseS m) (cutsTo m K g m.L.length) = (crashP m (cutsTo m K g m.L.length)).2.seen := by
  obtain ⟨_, hl, _, ha⟩ := crash_at (K := K) hg
  obtain ⟨wl, wa⟩ := wants_at m K g (baseS m) (baseS_len m) m.L.length (Nat.le_refl _)
  generalize (crashP m (cutsTo m K g m.L.length)).2 = m7 at *
  generalize wantSt m (baseS m) (cutsTo m K g m.L.length) = T at *
  have hsl : m7.seen.length = m.L.length := by unfold PM.seen; rw [List.length_map, hl]
  refine List.ext_getElem (by rw [wl, hsl]) fun i h1 h2 => ?_
  have hi : i < m.L.length := by omega
  have e1 : T[i] = T.getD i [] := by rw [List.getD_eq_getElem?_getD, List.getElem?_eq_getElem h1]; rfl
  have e2 : m7.seen[i] = (m7.line i).shows := by rw [PM.line_eq (by omega)]; exact List.getElem_map _
  rw [e1, e2, wa i hi, if_pos hi, baseS_at hi, ha i hi, (hm.line hi).cut_shows]
  rfl
theorem wantSt_8 {m : PM} : ∀ (cs : List (Int × Int)) (S : List (List Int)), (∀ x ∈ S, x.length = 8) → (∀ c ∈ cs, c.1.toNat < S.length) → (wantSt m S cs).length = S.length ∧ ∀ x ∈ wantSt m S cs, x.length = 8
  | [], S, h, _ => ⟨rfl, h⟩
  | c :: r, S, h, hc => by
    have h1 := wantIn_8 (m.line c.1.toNat).pend c.2.toNat h (hc c (by simp))
    have h2 := wantSt_8 (m := m) r (wantIn S c.1.toNat (m.line c.1.toNat).pend c.2.toNat) h1 (fun d hd => by rw [wantIn_len]; exact hc d (by simp [hd]))
    rw [wantIn_len] at h2
    exact h2
theorem fromI_seen (m : PM) : (fromP (imgOf m)).seen = baseS m := by
  unfold PM.seen fromP imgOf baseS
  simp only
  rw [List.map_map, List.map_map]
  rfl
theorem fromI_len (m : PM) : (fromP (imgOf m)).L.length = m.L.length := by
  unfold fromP imgOf
  simp
theorem rightI {m : PM} (hm : m.Ok) : rightB (imgOf m) = true := by
  unfold rightB imgOf
  rw [List.length_map, Bool.and_eq_true, decide_eq_true_eq, List.all_eq_true]
  refine ⟨⟨hm.pos, hm.few⟩, fun x hx => ?_⟩
  obtain ⟨l, hl, rfl⟩ := List.mem_map.1 hx
  exact (hm.lines l hl).val
theorem cuts_are {m : PM} {K : Nat} {g : Nat → Int} (hg : ∀ i, i < m.L.length → 0 ≤ g i ∧ g i ≤ ((m.line i).pend.length : Int)) :
    ∀ c ∈ cutsTo m K g m.L.length, ∃ i kp : Nat, i < m.L.length ∧ kp ≤ (m.line i).pend.length ∧ c = ((i : Int), (kp : Int)) := fun c hc => by
  obtain ⟨i, hi, _, rfl⟩ := cutsTo_has _ _ _ _ c hc
  have h1 := hg i hi
  exact ⟨i, (g i).toNat, hi, by omega, by rw [Int.toNat_of_nonneg h1.1]⟩
/-- What a slice of rows allows. -/
theorem Sl.free {w : World} {e sz n b o cap : Nat} {xs : List Value} (h : Sl w e sz (.slice (some ⟨b, o, none⟩) n cap) n xs) (j : Nat) : w.frozen? ⟨b, j, none⟩ = false := by
  rcases h.2 with ⟨h0, _⟩ | ⟨g, o', cap', cur, hv, hb, _⟩
  · cases h0
  · simp only [Value.slice.injEq, Option.some.injEq, Addr.mk.injEq, and_true, true_and] at hv
    obtain ⟨⟨rfl, rfl⟩, rfl⟩ := hv
    exact frozen_of_row w b j cur e hb
theorem Rd.stayK {w w' : World} {F : Nat → Prop} {n : Nat} {v : Value} {xs : List Value} (h : Rd w v n xs) (hk : Kept F w w') (hF : ∀ q, 0 < n → v.ownBlock = some q → ¬ F q) : Rd w' v n xs :=
  h.keep hk.size fun q h0 hq => hk.block q (h.lt h0 hq) (hF q h0 hq)
theorem and7 {d : Nat} (h : d < 8) : bits .and .i64 (d : Int) 7 = (d : Int) := by
  have : ∀ k : Fin 8, bits .and .i64 ((k.val : Nat) : Int) 7 = ((k.val : Nat) : Int) := by decide
  exact this ⟨d, h⟩
end Go.Proofs.YtmnncbgibngmiaaDoor
