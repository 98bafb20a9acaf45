/- The model's RoadsMany. -/
import Derived.Test.YtfdaaeapfeajjaaX
namespace Go.Proofs.Ytfdaaeapfeajjaa
open Go.RowKit Go.Maps

theorem far_neg {n : Int} {l : List Rd} {a b : Int} (h : validR n l = false ∨ reachB n (edge l) a b = false) : farOf n l a b = -1 := by
  unfold farOf
  split
  · rename_i hz
    rcases h with h | h
    · rw [hz] at h; cases h
    · unfold reachB at h
      cases hd : distN n (edge l) a b with
      | none => rfl
      | some d => rw [hd] at h; cases h
  · rfl

theorem far_pos {n : Int} {l : List Rd} {a b : Int} (hz : validR n l = true) (h : reachB n (edge l) a b = true) : 0 ≤ farOf n l a b := by
  unfold farOf
  rw [if_pos hz]
  unfold reachB at h
  cases hd : distN n (edge l) a b with
  | none => rw [hd] at h; cases h
  | some d => have := (distN_get hz a b).1; rw [hd] at this; simpa using this

end Go.Proofs.Ytfdaaeapfeajjaa
