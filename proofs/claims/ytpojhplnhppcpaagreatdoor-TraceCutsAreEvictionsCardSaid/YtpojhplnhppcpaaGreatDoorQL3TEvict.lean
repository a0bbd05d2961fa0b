/-
  TraceReplays answers true: the walk.
-/
import Derived.Test.YtpojhplnhppcpaaGreatDoorQL2TEvict
import Derived.Test.YtpojhplnhppcpaaGreatDoorQV1
import Derived.Test.YtpojhplnhppcpaaGreatDoorQN25z
import Derived.Test.YtpojhplnhppcpaaGreatDoorQArgATEvict
namespace Go.Proofs.YtpojhplnhppcpaaGreatDoor
open Go.RowKit Go.Maps
theorem plays_replays {img : List (List Int × Int)} : ∀ (xs : List POp) {m : PM} {n : Nat}, Replays img m → m.Ok → m.Small n → (∀ x ∈ xs, x.Ok) → Replays img (playsP m xs)
  | [], _, _, h, _, _, _ => h
  | x :: r, _, _, h, hm, hs, hx => plays_replays r (play_replays h hm x) (playP_good hm hs x (hx x (by simp))).ok (playP_good hm hs x (hx x (by simp))).small fun y hy => hx y (by simp [hy])
theorem Sl.rd0 {w : World} {e sz n : Nat} {v : Value} {xs : List Value} (h : Sl w e sz v n xs) : Rd w v n xs := by
  obtain ⟨A, cap, rfl, h1, h2, h3, h4⟩ := h.shape
  refine ⟨A, cap, rfl, h1, h2, fun hn => ?_⟩
  cases A with
  | none => have := (h3 rfl).1; omega
  | some ad =>
    obtain ⟨a1, a2, a3⟩ := h4 ad rfl
    obtain ⟨b, o, sp⟩ := ad
    simp only at a1 a2 a3
    subst a1
    exact ⟨b, o, rfl, h.lt a2, a3⟩
end Go.Proofs.YtpojhplnhppcpaaGreatDoor
