/-
  TraceImageMatchesSpec: what alumref05's Image does; the walk.
-/
import Derived.Test.YtpojhplnhppcpaaGreatDoorQU5
import Derived.Test.YtpojhplnhppcpaaGreatDoorQN25z
import Derived.Test.YtpojhplnhppcpaaGreatDoorQY1TEvict
namespace Go.Proofs.YtpojhplnhppcpaaGreatDoor
open Go.RowKit Go.Maps
theorem imgE_good {img : List (List Int × Int)} (h8 : ∀ x ∈ img, x.1.length = 8) {l : List (List Int)} (hl : EvI l) (hll : l.length ≤ 400) {n : Int} {cs : List (Int × Int)} (h : imgE img l n cs = 0) : (imgP img l n cs).Ok ∧ (imgP img l n cs).L.length = img.length := by
  unfold imgE at h
  split at h
  · rename_i h0
    obtain ⟨m1, m2, m3⟩ := at_good h8 hl hll h0
    exact ⟨(crash_good m1 m3 cs).1, (crash_len _ _).trans m2⟩
  · rename_i h0
    exact absurd h h0
end Go.Proofs.YtpojhplnhppcpaaGreatDoor
