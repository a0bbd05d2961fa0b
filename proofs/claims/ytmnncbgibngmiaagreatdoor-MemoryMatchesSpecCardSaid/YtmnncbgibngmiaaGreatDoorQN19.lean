/-
  What calls leave of a memory: it stays right, it grows by one at most. What the law's do does; a memory that a law holds in its hands.
-/
import Derived.Test.YtmnncbgibngmiaaGreatDoorQN17
namespace Go.Proofs.YtmnncbgibngmiaaGreatDoor
open Go.RowKit Go.Maps
theorem PL.Ok.push {l : PL} (h : l.Ok) {a v : Int} (ha : 0 ≤ a ∧ a < 8) (hv : okW v = true) (hs : l.state ≠ 2) : (l.push (a, v)).Ok where
  len := h.len
  val := h.val
  pend := fun s hm => by
    rcases List.mem_append.1 hm with h1 | h1
    · exact h.pend s h1
    · simp only [List.mem_singleton] at h1
      subst h1
      exact ⟨ha.1, ha.2, hv⟩
  mark := by
    have := h.mark
    show l.mark ≤ (l.pend ++ [(a, v)]).length
    rw [List.length_append]
    omega
  rot := fun h2 => absurd h2 hs
theorem PL.Ok.flushed {l : PL} (h : l.Ok) : l.flushed.Ok := ⟨h.len, h.val, h.pend, Nat.le_refl _, h.rot⟩
theorem PL.made_ok {ws : List Int} (h8 : ws.length = 8) (ha : ws.all okW = true) : (PL.made ws).Ok := ⟨h8, (enc_facts h8 ha).1, fun s hs => by simp [PL.made] at hs, Nat.le_refl _, fun _ => rfl⟩
theorem PL.Ok.rotted {l : PL} (h : l.Ok) {ws : List Int} {c : Int} (h8 : ws.length = 8) (hv : validB ws c = true) (hp : l.pend = []) : (l.rotted ws c).Ok := by
  obtain ⟨vs, vc, hvs, hvc, hvl, hvw, hvb⟩ := valid_nat h.val
  obtain ⟨us, uc, hus, huc, hul, huw, hub⟩ := valid_nat hv
  rw [h.len] at hvl
  rw [h8] at hul
  have hx : ∀ x ∈ xorL vs us, x < 1099511627776 := xorL_lt (by omega) hvw huw
  have e : l.rotted ws c = { l with ws := ci (xorL vs us), code := ((vc ^^^ uc : Nat) : Int) } := by
    unfold PL.rotted xorI
    rw [hvs, hvc, hus, huc, nw_ci, nw_ci, Int.toNat_natCast, Int.toNat_natCast]
  rw [e]
  have hl8 : (ci (xorL vs us)).length = 8 := by rw [ci_len, xorL_len vs us (by omega), hvl]
  refine ⟨hl8, ?_, fun s hs => by rw [show ({ l with ws := ci (xorL vs us), code := ((vc ^^^ uc : Nat) : Int) } : PL).pend = l.pend from rfl, hp] at hs; simp at hs, h.mark, fun _ => hp⟩
  show validB (ci (xorL vs us)) ((vc ^^^ uc : Nat) : Int) = true
  rw [valid_ci hx]
  exact decide_eq_true (Nat.xor_lt_two_pow (n := 10) hvb hub)
theorem PM.Ok.ofL {m : PM} (h : m.Ok) (f : PL → PL) (hf : ∀ l ∈ m.L, (f l).Ok) : ({ m with L := m.L.map f } : PM).Ok where
  pos := by show 1 ≤ (m.L.map f).length; rw [List.length_map]; exact h.pos
  few := by show (m.L.map f).length ≤ 4096; rw [List.length_map]; exact h.few
  lines := fun l hl => by
    obtain ⟨x, hx, rfl⟩ := List.mem_map.1 hl
    exact hf x hx
  span0 := h.span0
  span := h.span
  evs := h.evs
theorem PM.Ok.add {m : PM} (h : m.Ok) {e : List Int} (he : e.length = 12) (hi : ∀ z ∈ e, I64 z) : (m.add e).Ok :=
  ⟨h.pos, h.few, h.lines, h.span0, h.span, fun x hx => by
    rcases List.mem_append.1 hx with h1 | h1
    · exact h.evs x h1
    · simp only [List.mem_singleton] at h1
      subst h1
      exact ⟨he, hi⟩⟩
theorem evt_i64 {k a v s : Int} {ws : List Int} (hk : I64 k) (ha : I64 a) (hv : I64 v) (hs : I64 s) (hw : ∀ z ∈ ws, I64 z) : ∀ z ∈ evt k a v s ws, I64 z := by
  intro z hz
  unfold evt at hz
  simp only [List.cons_append, List.nil_append, List.mem_cons] at hz
  rcases hz with rfl | rfl | rfl | rfl | hz
  · exact hk
  · exact ha
  · exact hv
  · exact hs
  · exact hw z hz
theorem small_i64 {k : Int} (h : 0 ≤ k ∧ k < 100) : I64 k := by unfold I64; omega
/-- The memory is right, has as many lines, and no more than n of whatever. -/
structure PM.Good (m m' : PM) (n : Nat) : Prop where
  ok : m'.Ok
  len : m'.L.length = m.L.length
  small : m'.Small n
theorem PM.Good.refl {m : PM} {n : Nat} (h : m.Ok) (hs : m.Small n) : PM.Good m m (n + 1) := ⟨h, rfl, hs.mono (by omega)⟩
theorem PM.Small.upd {m : PM} {n k : Nat} (h : m.Small n) {i : Nat} {f : PL → PL} (hk : n ≤ k) (hf : (f (m.line i)).pend.length ≤ k) : (m.upd i f).Small k :=
  ⟨Nat.le_trans h.ev hk, fun l hl => by
    rcases List.mem_or_eq_of_mem_set hl with h1 | rfl
    · exact Nat.le_trans (h.pend l h1) hk
    · exact hf⟩
theorem PM.Small.add {m : PM} {n : Nat} (h : m.Small n) (e : List Int) : (m.add e).Small (n + 1) := ⟨by
  have := h.ev
  show (m.ev ++ [e]).length ≤ n + 1
  rw [List.length_append]
  simp
  omega, fun l hl => Nat.le_trans (h.pend l hl) (by omega)⟩
/-- A call that is recorded. -/
theorem rec_good {m : PM} {r : Int × PM} {e : List Int} {n : Nat} (hr : r.1 ≠ 0 → r.2 = m) (hm : m.Ok) (hs : m.Small n) (h0 : r.1 = 0 → r.2.Ok ∧ r.2.L.length = m.L.length ∧ r.2.ev = m.ev ∧ (∀ l ∈ r.2.L, l.pend.length ≤ n + 1) ∧ e.length = 12 ∧ ∀ z ∈ e, I64 z) : PM.Good m (rec_ r e).2 (n + 1) := by
  by_cases h : r.1 = 0
  · obtain ⟨h1, h2, h3, h4, h5, h6⟩ := h0 h
    rw [rec_0 h]
    refine ⟨h1.add h5 h6, h2, ⟨?_, h4⟩⟩
    show (r.2.ev ++ [e]).length ≤ n + 1
    rw [h3, List.length_append]
    have := hs.ev
    simp
    omega
  · rw [rec_1 h, hr h]
    exact PM.Good.refl hm hs
theorem settle_pend (l : PL) (n : Nat) : (l.settle n).pend.length ≤ l.pend.length := by
  unfold PL.settle
  split
  · exact Nat.le_refl _
  · show (l.pend.drop n).length ≤ _
    rw [List.length_drop]
    omega
theorem upd_pend {m : PM} {n : Nat} (hs : m.Small n) {i : Nat} {f : PL → PL} (hf : (f (m.line i)).pend.length ≤ n + 1) : ∀ l ∈ (m.upd i f).L, l.pend.length ≤ n + 1 := fun l hl => by
  rcases List.mem_or_eq_of_mem_set hl with h1 | rfl
  · exact Nat.le_trans (hs.pend l h1) (by omega)
  · exact hf
theorem put_good {m : PM} {n : Nat} (hm : m.Ok) (hs : m.Small n) (k a v : Int) (hk : 0 ≤ k ∧ k < 100) (ha : I64 a) : PM.Good m (storeP m k a v).2 (n + 1) := by
  unfold storeP
  refine rec_good (fun h => ?_) hm hs fun h => ?_
  · unfold putP at h ⊢
    split
    · rfl
    · rename_i h1
      rw [if_neg h1] at h
      split
      · rfl
      · rename_i h2
        rw [if_neg h2] at h
        split
        · rfl
        · rename_i h3
          rw [if_neg h3] at h
          exact absurd rfl h
  · unfold putP at h ⊢
    split at h
    · cases h
    · rename_i h1
      rw [if_neg h1]
      split at h
      · cases h
      · rename_i h2
        rw [if_neg h2]
        split at h
        · cases h
        · rename_i h3
          rw [if_neg h3]
          have hh : m.hasA a = true := by simpa using h1
          have hr : 0 ≤ a ∧ a < 8 * m.L.length := by unfold PM.hasA at hh; simpa using hh
          have hi : (a / 8).toNat < m.L.length := by omega
          have hv : okW v = true := by simpa using h2
          have hok : (m.upd (a / 8).toNat (·.push (a % 8, v))).Ok := hm.upd ((hm.line hi).push ⟨by omega, by omega⟩ hv h3)
          refine ⟨hok, PM.upd_len .., rfl, upd_pend hs ?_, evt_len _ _ _ _ rfl, evt_i64 (small_i64 hk) ha (okW_i64 hv) hm.span z8_i64⟩
          show ((m.line (a / 8).toNat).pend ++ [_]).length ≤ n + 1
          rw [List.length_append]
          have := hs.pend _ (PM.line_mem hi)
          simp
          omega
theorem flush_good {m : PM} {n : Nat} (hm : m.Ok) (hs : m.Small n) (a : Int) (ha : I64 a) : PM.Good m (rec_ (flushP m a) (evt 3 a 0 0 Z8)).2 (n + 1) := by
  refine rec_good (fun h => ?_) hm hs fun h => ?_
  · unfold flushP at h ⊢
    split
    · rfl
    · rename_i h1
      rw [if_neg h1] at h
      exact absurd rfl h
  · unfold flushP at h ⊢
    split at h
    · cases h
    · rename_i h1
      rw [if_neg h1]
      have hh : m.has a = true := by simpa using h1
      have hr : 0 ≤ a ∧ a < m.L.length := by unfold PM.has at hh; simpa using hh
      have hi : a.toNat < m.L.length := by omega
      have hok : (m.upd a.toNat (·.flushed)).Ok := hm.upd (hm.line hi).flushed
      refine ⟨hok, PM.upd_len .., rfl, upd_pend hs ?_, evt_len _ _ _ _ rfl, evt_i64 (small_i64 (by omega)) ha (small_i64 (by omega)) (small_i64 (by omega)) z8_i64⟩
      have := hs.pend _ (PM.line_mem hi)
      show (m.line a.toNat).pend.length ≤ n + 1
      omega
theorem fence_good {m : PM} {n : Nat} (hm : m.Ok) (hs : m.Small n) : PM.Good m ((fenceP m).add (evt 4 0 0 0 Z8)) (n + 1) := by
  have h1 : (fenceP m).Ok := hm.ofL _ fun l hl => (hm.lines l hl).settle _
  have h2 : (fenceP m).Small n := ⟨hs.ev, fun l hl => by
    obtain ⟨x, hx, rfl⟩ := List.mem_map.1 hl
    exact Nat.le_trans (settle_pend x _) (hs.pend x hx)⟩
  exact ⟨h1.add (evt_len _ _ _ _ rfl) (evt_i64 (small_i64 (by omega)) (small_i64 (by omega)) (small_i64 (by omega)) (small_i64 (by omega)) z8_i64), List.length_map .., h2.add _⟩
theorem evict_good {m : PM} {n : Nat} (hm : m.Ok) (hs : m.Small n) (a v : Int) (ha : I64 a) (hv : I64 v) : PM.Good m (rec_ (evictP m a v) (evt 5 a v 0 Z8)).2 (n + 1) := by
  refine rec_good (fun h => ?_) hm hs fun h => ?_
  · unfold evictP at h ⊢
    split
    · rfl
    · rename_i h1
      rw [if_neg h1] at h
      split
      · rfl
      · rename_i h2
        rw [if_neg h2] at h
        exact absurd rfl h
  · unfold evictP at h ⊢
    split at h
    · cases h
    · rename_i h1
      rw [if_neg h1]
      split at h
      · cases h
      · rename_i h2
        rw [if_neg h2]
        have hh : m.has a = true := by simpa using h1
        have hr : 0 ≤ a ∧ a < m.L.length := by unfold PM.has at hh; simpa using hh
        have hi : a.toNat < m.L.length := by omega
        refine ⟨settle_ok hm hi, PM.upd_len .., rfl, upd_pend hs ?_, evt_len _ _ _ _ rfl, evt_i64 (small_i64 (by omega)) ha hv (small_i64 (by omega)) z8_i64⟩
        have := hs.pend _ (PM.line_mem hi)
        have := settle_pend (m.line a.toNat) v.toNat
        omega
theorem heal_good {m : PM} {n : Nat} (hm : m.Ok) (hs : m.Small n) (a : Int) (ws : List Int) (ha : I64 a) (h8 : ws.length = 8) : PM.Good m (rec_ (healP m a ws) (evt 6 a 0 0 ws)).2 (n + 1) := by
  refine rec_good (fun h => ?_) hm hs fun h => ?_
  · unfold healP at h ⊢
    split
    · rfl
    · rename_i h1
      rw [if_neg h1] at h
      split
      · rfl
      · rename_i h2
        rw [if_neg h2] at h
        exact absurd rfl h
  · unfold healP at h ⊢
    split at h
    · cases h
    · rename_i h1
      rw [if_neg h1]
      split at h
      · cases h
      · rename_i h2
        rw [if_neg h2]
        have hw : ws.all okW = true := by simpa using h2
        have hok : (m.upd a.toNat fun _ => PL.made ws).Ok := hm.upd (PL.made_ok h8 hw)
        refine ⟨hok, PM.upd_len .., rfl, upd_pend hs (by simp [PL.made]), evt_len _ _ _ _ h8, evt_i64 (small_i64 (by omega)) ha (small_i64 (by omega)) (small_i64 (by omega)) fun z hz => okW_i64 (all_ok hw z hz)⟩
theorem rot_good {m : PM} {n : Nat} (hm : m.Ok) (hs : m.Small n) (a : Int) (ws : List Int) (c : Int) (ha : I64 a) (h8 : ws.length = 8) : PM.Good m (rec_ (rotP m a ws c) (evt 7 a c 0 ws)).2 (n + 1) := by
  refine rec_good (fun h => ?_) hm hs fun h => ?_
  · unfold rotP at h ⊢
    split
    · rfl
    · rename_i h1
      rw [if_neg h1] at h
      split
      · rfl
      · rename_i h2
        rw [if_neg h2] at h
        split
        · rfl
        · rename_i h3
          rw [if_neg h3] at h
          exact absurd rfl h
  · unfold rotP at h ⊢
    split at h
    · cases h
    · rename_i h1
      rw [if_neg h1]
      split at h
      · cases h
      · rename_i h2
        rw [if_neg h2]
        split at h
        · cases h
        · rename_i h3
          rw [if_neg h3]
          have hh : m.has a = true := by simpa using h1
          have hr : 0 ≤ a ∧ a < m.L.length := by unfold PM.has at hh; simpa using hh
          have hi : a.toNat < m.L.length := by omega
          have hv : validB ws c = true := by simpa using h2
          have hp : (m.line a.toNat).pend = [] := by simpa using h3
          obtain ⟨hw, hc0, hc1⟩ := valid_words hv
          have hok : (m.upd a.toNat (·.rotted ws c)).Ok := hm.upd ((hm.line hi).rotted h8 hv hp)
          refine ⟨hok, PM.upd_len .., rfl, upd_pend hs ?_, evt_len _ _ _ _ h8, evt_i64 (small_i64 (by omega)) ha (by unfold I64; omega) (small_i64 (by omega)) fun z hz => okW_i64 (all_ok hw z hz)⟩
          show (m.line a.toNat).pend.length ≤ n + 1
          rw [hp]
          simp
theorem settles_good (cs : List (Int × Int)) : ∀ (m : PM) (last : Int) {n : Nat}, m.Ok → m.Small n → cutsOk m last cs = true → PM.Good m (settles m cs) n := by
  induction cs with
  | nil => intro m last n hm hs _; exact ⟨hm, rfl, hs⟩
  | cons c r ih =>
    intro m last n hm hs hc
    obtain ⟨q1, q2, q3, q4, q5⟩ := cutsOk_cons hc
    have hr : 0 ≤ c.1 ∧ c.1 < m.L.length := by unfold PM.has at q2; simpa using q2
    have hi : c.1.toNat < m.L.length := by omega
    have h2 : (m.upd c.1.toNat (·.settle c.2.toNat)).Small n := hs.upd (Nat.le_refl _) (Nat.le_trans (settle_pend _ _) (hs.pend _ (PM.line_mem hi)))
    obtain ⟨g1, g2, g3⟩ := ih (m.upd c.1.toNat (·.settle c.2.toNat)) c.1 (settle_ok hm hi) h2 (by rw [cutsOk_upd hi _ _ (by omega)]; exact q5)
    exact ⟨g1, g2.trans (PM.upd_len ..), g3⟩
theorem lost_good {m : PM} (h : m.Ok) : m.lost.Ok ∧ m.lost.L.length = m.L.length ∧ m.lost.Small 0 :=
  ⟨⟨by show 1 ≤ (m.L.map PL.lost).length; rw [List.length_map]; exact h.pos, by show (m.L.map PL.lost).length ≤ 4096; rw [List.length_map]; exact h.few, fun l hl => by
    obtain ⟨x, hx, rfl⟩ := List.mem_map.1 hl
    exact (h.lines x hx).lost, Int.le_refl _, (show I64 0 from small_i64 (by omega)), fun e he => by simp [PM.lost] at he⟩, List.length_map .., ⟨Nat.le_refl _, fun l hl => by
    obtain ⟨x, hx, rfl⟩ := List.mem_map.1 hl
    simp [PL.lost]⟩⟩
theorem crash_good {m : PM} {n : Nat} (hm : m.Ok) (hs : m.Small n) (cs : List (Int × Int)) : PM.Good m (crashP m cs).2 (n + 1) := by
  unfold crashP
  split
  · exact PM.Good.refl hm hs
  · rename_i h
    have hc : cutsOk m (-1) cs = true := by simpa using h
    obtain ⟨g1, g2, g3⟩ := settles_good cs m (-1) hm hs hc
    obtain ⟨l1, l2, l3⟩ := lost_good g1
    exact ⟨l1, l2.trans g2, l3.mono (by omega)⟩
theorem span_good {m : PM} {n : Nat} (hm : m.Ok) (hs : m.Small n) (z : Int) (hz : I64 z) : PM.Good m (spanP m z) (n + 1) :=
  ⟨⟨hm.pos, hm.few, hm.lines, by show 0 ≤ max z 0; omega, by unfold I64 at *; show _ ∧ _; constructor <;> (show _ ; simp only [spanP]; omega), hm.evs⟩, rfl, ⟨Nat.le_trans hs.ev (by omega), fun l hl => Nat.le_trans (hs.pend l hl) (by omega)⟩⟩
theorem forget_good {m : PM} {n : Nat} (hm : m.Ok) (hs : m.Small n) : PM.Good m (forgetP m) (n + 1) :=
  ⟨⟨hm.pos, hm.few, hm.lines, hm.span0, hm.span, fun e he => by simp [forgetP] at he⟩, rfl, ⟨by simp [forgetP], fun l hl => Nat.le_trans (hs.pend l hl) (by omega)⟩⟩
/-- A call as it comes in. -/
structure POp.Ok (x : POp) : Prop where
  k : I64 x.k
  a : I64 x.a
  b : I64 x.b
  len : x.ws.length = 8
  ws : ∀ z ∈ x.ws, I64 z
  cs : ∀ c ∈ x.cs, I64 c.1 ∧ I64 c.2
theorem doP_good {m : PM} {n : Nat} (hm : m.Ok) (hs : m.Small n) (x : POp) (hx : x.Ok) : PM.Good m (doP m x).2 (n + 1) := by
  unfold doP
  split
  · exact put_good hm hs 1 _ _ (by omega) hx.a
  · split
    · exact put_good hm hs 2 _ _ (by omega) hx.a
    · split
      · exact span_good hm hs _ hx.a
      · split
        · exact flush_good hm hs _ hx.a
        · split
          · exact fence_good hm hs
          · split
            · exact evict_good hm hs _ _ hx.a hx.b
            · split
              · exact heal_good hm hs _ _ hx.a hx.len
              · split
                · exact rot_good hm hs _ _ _ hx.a hx.len
                · split
                  · exact crash_good hm hs _
                  · split
                    · exact forget_good hm hs
                    · exact PM.Good.refl hm hs
theorem newP_ok {n : Nat} (h : 1 ≤ n ∧ n ≤ 4096) : (newP n).Ok ∧ (newP n).Small 0 ∧ (newP n).L.length = n := by
  have hl : (newP n).L.length = n := List.length_replicate ..
  refine ⟨⟨by omega, by omega, fun l hm => ?_, Int.le_refl _, small_i64 (by simp [newP]), fun e he => by simp [newP] at he⟩, ⟨Nat.le_refl _, fun l hm => ?_⟩, hl⟩
  · rw [(List.mem_replicate.1 hm).2]
    exact PL.zero_ok
  · rw [(List.mem_replicate.1 hm).2]
    simp [PL.zero]
theorem fromP_ok {img : List (List Int × Int)} (h8 : ∀ x ∈ img, x.1.length = 8) (h : rightB img = true) : (fromP img).Ok ∧ (fromP img).Small 0 ∧ (fromP img).L.length = img.length := by
  have hl : (fromP img).L.length = img.length := List.length_map ..
  unfold rightB at h
  simp only [Bool.and_eq_true, decide_eq_true_eq, List.all_eq_true] at h
  refine ⟨⟨by omega, by omega, fun l hm => ?_, Int.le_refl _, small_i64 (by simp [fromP]), fun e he => by simp [fromP] at he⟩, ⟨Nat.le_refl _, fun l hm => ?_⟩, hl⟩
  · obtain ⟨x, hx, rfl⟩ := List.mem_map.1 hm
    exact ⟨h8 x hx, h.2 x hx, fun s hs => by simp at hs, Nat.le_refl _, fun _ => rfl⟩
  · obtain ⟨x, hx, rfl⟩ := List.mem_map.1 hm
    simp
end Go.Proofs.YtmnncbgibngmiaaGreatDoor
namespace Go.Proofs.YtmnncbgibngmiaaGreatDoor
open Go.RowKit Go.Maps
/-- A memory of blocks that are new since w0, while the table stands. -/
structure Has (w0 w : World) (p : Nat) (m : PM) (F : Nat → Prop) : Prop where
  rep : Rep w p m F
  ok : m.Ok
  tab : Tab w
  not1 : ¬ F 1
  below : Below w0.heap.size w0 w
  new : ∀ k, F k → w0.heap.size ≤ k
theorem Has.step {w0 w w' : World} {p : Nat} {m m' : PM} {F : Nat → Prop} (h : Has w0 w p m F) (s : Step F w p m' w') (hok : m'.Ok) : Has w0 w' p m' (Ex F w w') where
  rep := s.1
  ok := hok
  tab := h.tab.kept h.not1 s.2
  not1 := Ex.not1 h.tab h.not1
  below := h.below.trans (s.2.below (fun k _ hk => h.new k hk) h.below.size)
  new := fun k hk => by
    rcases hk with h1 | h1
    · exact h.new k h1
    · exact Nat.le_trans h.below.size h1.1
theorem Has.stay {w0 w w' : World} {p : Nat} {m : PM} {F : Nat → Prop} (h : Has w0 w p m F) (hb : Below w.heap.size w w') : Has w0 w' p m F :=
  ⟨h.rep.below hb, h.ok, h.tab.keep hb, h.not1, bel_on h.below hb, h.new⟩
/-- Another memory is written. -/
theorem Has.other {w0 w w' : World} {p : Nat} {m : PM} {F H : Nat → Prop} (h : Has w0 w p m F) (hk : Kept H w w') (hd : ∀ k, F k → ¬ H k) (h1 : ¬ H 1) (hn : ∀ k, H k → w0.heap.size ≤ k) : Has w0 w' p m F :=
  ⟨h.rep.kept hk hd, h.ok, h.tab.kept h1 hk, h.not1, h.below.trans (hk.below (fun k _ hk => hn k hk) h.below.size), h.new⟩
theorem size61 {cs : List Value} (h : cs.length = 12) : (Tryz.prog.info? 42).map (·.size) = some cs.toArray.size := by
  rw [List.size_toArray, h]
  kernel_rfl
/-- A call as a value. -/
def opV (x : POp) (cv : Value) : List Value := iv ([x.k, x.a, x.b] ++ x.ws) ++ [cv]
theorem opV_len {x : POp} (hx : x.Ok) (cv : Value) : (opV x cv).length = 12 := by
  unfold opV
  rw [List.length_append, iv_len, List.length_append, hx.len]
  rfl
theorem doP_0 {m : PM} {x : POp} (h : x.k = 0) : doP m x = ((0, (storeP m 1 x.a x.b).1), (storeP m 1 x.a x.b).2) := by unfold doP; simp [h]
theorem doP_1 {m : PM} {x : POp} (h : x.k = 1) : doP m x = ((0, (storeP m 2 x.a x.b).1), (storeP m 2 x.a x.b).2) := by unfold doP; simp [h]
theorem doP_2 {m : PM} {x : POp} (h : x.k = 2) : doP m x = ((0, 0), spanP m x.a) := by unfold doP; simp [h]
theorem doP_3 {m : PM} {x : POp} (h : x.k = 3) : doP m x = ((0, (rec_ (flushP m x.a) (evt 3 x.a 0 0 Z8)).1), (rec_ (flushP m x.a) (evt 3 x.a 0 0 Z8)).2) := by unfold doP; simp [h]
theorem doP_4 {m : PM} {x : POp} (h : x.k = 4) : doP m x = ((0, 0), (fenceP m).add (evt 4 0 0 0 Z8)) := by unfold doP; simp [h]
theorem doP_5 {m : PM} {x : POp} (h : x.k = 5) : doP m x = ((0, (rec_ (evictP m x.a x.b) (evt 5 x.a x.b 0 Z8)).1), (rec_ (evictP m x.a x.b) (evt 5 x.a x.b 0 Z8)).2) := by unfold doP; simp [h]
theorem doP_6 {m : PM} {x : POp} (h : x.k = 6) : doP m x = ((0, (rec_ (healP m x.a x.ws) (evt 6 x.a 0 0 x.ws)).1), (rec_ (healP m x.a x.ws) (evt 6 x.a 0 0 x.ws)).2) := by unfold doP; simp [h]
theorem doP_7 {m : PM} {x : POp} (h : x.k = 7) : doP m x = ((0, (rec_ (rotP m x.a x.ws x.b) (evt 7 x.a x.b 0 x.ws)).1), (rec_ (rotP m x.a x.ws x.b) (evt 7 x.a x.b 0 x.ws)).2) := by unfold doP; simp [h]
theorem doP_8 {m : PM} {x : POp} (h : x.k = 8) : doP m x = ((0, (crashP m x.cs).1), (crashP m x.cs).2) := by unfold doP; simp [h]
theorem doP_9 {m : PM} {x : POp} (h : x.k = 9) : doP m x = ((0, 0), forgetP m) := by unfold doP; simp [h]
theorem doP_d {m : PM} {x : POp} (h0 : ¬ x.k = 0) (h1 : ¬ x.k = 1) (h2 : ¬ x.k = 2) (h3 : ¬ x.k = 3) (h4 : ¬ x.k = 4) (h5 : ¬ x.k = 5) (h6 : ¬ x.k = 6) (h7 : ¬ x.k = 7) (h8 : ¬ x.k = 8) (h9 : ¬ x.k = 9) : doP m x = (loadP m x.a, m) := by
  unfold doP
  simp [h0, h1, h2, h3, h4, h5, h6, h7, h8, h9]
set_option maxRecDepth 100000 in
set_option maxHeartbeats 8000000 in
theorem do_any (p : Nat) (x : POp) (cv : Value) (m : PM) (F : Nat → Prop) (w : World) (hx : x.Ok) (hm : m.Ok) (hs : m.Small 1000000) (h : Rep w p m F) (hT : Tab w) (hF : ¬ F 1)
    (hcs : Rd w cv x.cs.length (iv (flatS x.cs))) (hcv : ∀ q, 0 < x.cs.length → cv.ownBlock = some q → ¬ F q) :
    Calls Tryz.prog 11 #[.pointer (some ⟨p, 0, none⟩), .agg (opV x cv).toArray] w fun e w' => e = .returned (.tuple #[.int .i64 (doP m x).1.1, .int .i64 (doP m x).1.2]) ∧ Step F w p (doP m x).2 w' := by
  have hb := bel_new w (.cells (opV x cv).toArray 42)
  have hA := Arr.new w (opV x cv) 42
  have hi := size61 (opV_len hx cv)
  have HST := Lib.hid fun (m' : PM) (w' : World) (s : Step F (w.alloc (.cells (opV x cv).toArray 42)) p m' w') => Step.after (Kept.of_below hb) s
  have hr := h.below hb
  have hT1 := hT.keep hb
  have hcs1 := hcs.below hb
  obtain ⟨A, cap, rfl, _⟩ := hcs
  obtain ⟨k, a, b, ws, cs⟩ := x
  have h8 : ws.length = 8 := hx.len
  have e0 := hA.cell (j := 0) (u := .int .i64 k) rfl
  have e1 := hA.cell (j := 1) (u := .int .i64 a) rfl
  have e2 := hA.cell (j := 2) (u := .int .i64 b) rfl
  have e3 : (w.alloc (.cells (opV ⟨k, a, b, ws, cs⟩ (.slice A cs.length cap)).toArray 42)).rangeAt w.heap.size 3 (iv ws) := fun j v hv => by
    refine hA.cell ?_
    have hj := (List.getElem?_eq_some_iff.1 hv).1
    rw [iv_len] at hj
    unfold opV
    rw [List.getElem?_append_left (by rw [iv_len, List.length_append]; simp; omega)]
    unfold iv at hv ⊢
    rw [List.map_append, List.getElem?_append_right (by simp)]
    simpa [Nat.add_comm 3 j] using hv
  have e11 : (w.alloc (.cells (opV ⟨k, a, b, ws, cs⟩ (.slice A cs.length cap)).toArray 42)).cell? ⟨w.heap.size, 11, none⟩ = some (.slice A cs.length cap) := hA.cell (by
    unfold opV
    rw [List.getElem?_append_right (by rw [iv_len, List.length_append, h8]; exact Nat.le_refl _), iv_len, List.length_append, h8]
    rfl)
  have hi8 := size22' h8
  have hu22 := Tryz.underlying39
  have ha : I64 a := hx.a
  have hbI : I64 b := hx.b
  have HCS := Lib.hid hx.cs
  simp only at hcs1 hcv
  obtain ⟨R, hR⟩ : ∃ R, doP m ⟨k, a, b, ws, cs⟩ = R := ⟨_, rfl⟩
  rw [hR]
  generalize (opV ⟨k, a, b, ws, cs⟩ (.slice A cs.length cap)) = OV at *
  clear hA hb h hT
  by_cases q0 : k = 0
  · rw [doP_0 (show (POp.mk k a b ws cs).k = 0 from q0)] at hR
    subst q0
    have HC := Lib.hid (store_any p a b m F _ hm hs hr hT1 ha)
    subst hR
    clear hs hm hr hT1 hcs1 hcv hx
    go_enter Tryz.func11, Tryz.ntmps11
    go_wp2_with fail
    refine HC.out.mono ?_
    rintro e w2 ⟨rfl, hst⟩
    have HS := Lib.hid (HST.out _ _ hst)
    clear hst HST HC
    go_wp2_with fail
    refine bodyPost_ret (results_tmp2 rfl _ _ _) rfl ?_
    exact ⟨rfl, HS.out⟩
  by_cases q1 : k = 1
  · rw [doP_1 (show (POp.mk k a b ws cs).k = 1 from q1)] at hR
    subst q1
    have HC := Lib.hid (publish_any p a b m F _ hm hs hr hT1 ha)
    subst hR
    clear hs hm hr hT1 hcs1 hcv hx
    go_enter Tryz.func11, Tryz.ntmps11
    go_wp2_with fail
    refine HC.out.mono ?_
    rintro e w2 ⟨rfl, hst⟩
    have HS := Lib.hid (HST.out _ _ hst)
    clear hst HST HC
    go_wp2_with fail
    refine bodyPost_ret (results_tmp2 rfl _ _ _) rfl ?_
    exact ⟨rfl, HS.out⟩
  by_cases q2 : k = 2
  · rw [doP_2 (show (POp.mk k a b ws cs).k = 2 from q2)] at hR
    subst q2
    have HC := Lib.hid (span_any p a m F _ hr)
    subst hR
    clear hs hm hr hT1 hcs1 hcv hx
    go_enter Tryz.func11, Tryz.ntmps11
    go_wp2_with fail
    refine HC.out.mono ?_
    rintro e w2 ⟨rfl, hst⟩
    have HS := Lib.hid (HST.out _ _ hst)
    clear hst HST HC
    go_wp2_with fail
    refine bodyPost_ret (results_tmp2 rfl _ _ _) rfl ?_
    exact ⟨rfl, HS.out⟩
  by_cases q3 : k = 3
  · rw [doP_3 (show (POp.mk k a b ws cs).k = 3 from q3)] at hR
    subst q3
    have HC := Lib.hid (flushC_any p a m F _ hm hs hr)
    subst hR
    clear hs hm hr hT1 hcs1 hcv hx
    go_enter Tryz.func11, Tryz.ntmps11
    go_wp2_with fail
    refine HC.out.mono ?_
    rintro e w2 ⟨rfl, hst⟩
    have HS := Lib.hid (HST.out _ _ hst)
    clear hst HST HC
    go_wp2_with fail
    refine bodyPost_ret (results_tmp2 rfl _ _ _) rfl ?_
    exact ⟨rfl, HS.out⟩
  by_cases q4 : k = 4
  · rw [doP_4 (show (POp.mk k a b ws cs).k = 4 from q4)] at hR
    subst q4
    have HC := Lib.hid (fenceC_any p m F _ hm hs hr hT1 hF)
    subst hR
    clear hs hm hr hT1 hcs1 hcv hx
    go_enter Tryz.func11, Tryz.ntmps11
    go_wp2_with fail
    refine HC.out.mono ?_
    rintro e w2 ⟨rfl, hst⟩
    have HS := Lib.hid (HST.out _ _ hst)
    clear hst HST HC
    go_wp2_with fail
    refine bodyPost_ret (results_tmp2 rfl _ _ _) rfl ?_
    exact ⟨rfl, HS.out⟩
  by_cases q5 : k = 5
  · rw [doP_5 (show (POp.mk k a b ws cs).k = 5 from q5)] at hR
    subst q5
    have HC := Lib.hid (evictC_any p a b m F _ hm hs hr hT1 ha hbI)
    subst hR
    clear hs hm hr hT1 hcs1 hcv hx
    go_enter Tryz.func11, Tryz.ntmps11
    go_wp2_with fail
    refine HC.out.mono ?_
    rintro e w2 ⟨rfl, hst⟩
    have HS := Lib.hid (HST.out _ _ hst)
    clear hst HST HC
    go_wp2_with fail
    refine bodyPost_ret (results_tmp2 rfl _ _ _) rfl ?_
    exact ⟨rfl, HS.out⟩
  by_cases q6 : k = 6
  · rw [doP_6 (show (POp.mk k a b ws cs).k = 6 from q6)] at hR
    subst q6
    have HC := Lib.hid (healC_any p a ws m F _ hm hs hr h8 hT1 hF)
    subst hR
    clear hs hm hr hT1 hcs1 hcv hx
    go_enter Tryz.func11, Tryz.ntmps11
    go_wp2_with ((with_reducible refine arm_range 39 w.heap.size 3 (iv ws) e3 _ hu22 rfl hi8 rfl _ rfl ?_ ?_); focus rfl)
    refine HC.out.mono ?_
    rintro e w2 ⟨rfl, hst⟩
    have HS := Lib.hid (HST.out _ _ hst)
    clear hst HST HC
    go_wp2_with fail
    refine bodyPost_ret (results_tmp2 rfl _ _ _) rfl ?_
    exact ⟨rfl, HS.out⟩
  by_cases q7 : k = 7
  · rw [doP_7 (show (POp.mk k a b ws cs).k = 7 from q7)] at hR
    subst q7
    have HC := Lib.hid (rotC_any p a ws b m F _ hm hs hr h8)
    subst hR
    clear hs hm hr hT1 hcs1 hcv hx
    go_enter Tryz.func11, Tryz.ntmps11
    go_wp2_with ((with_reducible refine arm_range 39 w.heap.size 3 (iv ws) e3 _ hu22 rfl hi8 rfl _ rfl ?_ ?_); focus rfl)
    refine HC.out.mono ?_
    rintro e w2 ⟨rfl, hst⟩
    have HS := Lib.hid (HST.out _ _ hst)
    clear hst HST HC
    go_wp2_with fail
    refine bodyPost_ret (results_tmp2 rfl _ _ _) rfl ?_
    exact ⟨rfl, HS.out⟩
  by_cases q8 : k = 8
  · rw [doP_8 (show (POp.mk k a b ws cs).k = 8 from q8)] at hR
    subst q8
    have HC := Lib.hid (crash_any p cs _ m F _ hm hr hT1 hF hcs1 hcv hx.cs)
    subst hR
    clear hs hm hr hT1 hcs1 hcv hx
    go_enter Tryz.func11, Tryz.ntmps11
    go_wp2_with fail
    refine HC.out.mono ?_
    rintro e w2 ⟨rfl, hst⟩
    have HS := Lib.hid (HST.out _ _ hst)
    clear hst HST HC
    go_wp2_with fail
    refine bodyPost_ret (results_tmp2 rfl _ _ _) rfl ?_
    exact ⟨rfl, HS.out⟩
  by_cases q9 : k = 9
  · rw [doP_9 (show (POp.mk k a b ws cs).k = 9 from q9)] at hR
    subst q9
    have HC := Lib.hid (forget_any p m F _ hr)
    subst hR
    clear hs hm hr hT1 hcs1 hcv hx
    go_enter Tryz.func11, Tryz.ntmps11
    go_wp2_with fail
    refine HC.out.mono ?_
    rintro e w2 ⟨rfl, hst⟩
    have HS := Lib.hid (HST.out _ _ hst)
    clear hst HST HC
    go_wp2_with fail
    refine bodyPost_ret (results_tmp2 rfl _ _ _) rfl ?_
    exact ⟨rfl, HS.out⟩
  rw [doP_d (x := ⟨k, a, b, ws, cs⟩) q0 q1 q2 q3 q4 q5 q6 q7 q8 q9] at hR
  have HC := Lib.hid (load_any p a m F _ ha hm hr hT1)
  have HS := Lib.hid (Step.refl (F := F) hr)
  subst hR
  clear hs hm hr hT1 hcs1 hcv hx
  go_enter Tryz.func11, Tryz.ntmps11
  go_wp2_with fail
  refine HC.out.mono ?_
  rintro e w2 ⟨rfl, hb2⟩
  have HS2 := Lib.hid (HST.out _ _ (HS.out.then_below hb2))
  clear hb2
  go_wp2_with fail
  refine bodyPost_ret (results_tmp2 rfl _ _ _) rfl ?_
  exact ⟨rfl, HS2.out⟩
end Go.Proofs.YtmnncbgibngmiaaGreatDoor
