/- The model's RoadsFar, l1Most, RoadsWhole. -/
import Derived.Test.YtfdaaeapfeajjaaWD
import Derived.Test.YtfdaaeapfeajjaaWE
namespace Go.Proofs.Ytfdaaeapfeajjaa
open Go.RowKit

theorem farOf_in {n : Int} {l : List Rd} (hz : validR n l = true) {a b : Int} (ha : 0 ≤ a ∧ a < n) : farOf n l a b = (distO (edge l) a b).getD (-1) := by
  unfold farOf distN; rw [if_pos hz, if_pos ha]

theorem farOf_out {n : Int} {l : List Rd} {a b : Int} (h : ¬ (0 ≤ a ∧ a < n) ∨ ¬ (0 ≤ b ∧ b < n)) : farOf n l a b = -1 := by
  unfold farOf distN
  split
  · rename_i hz
    split
    · rename_i ha
      rcases h with h | h
      · exact absurd ha h
      · cases hd : distO (edge l) a b with
        | none => rfl
        | some d => exact absurd ((edges_ok hz).town (distO_some.1 hd) ha) h
    · rfl
  · rfl

theorem dist_bd {n : Int} {l : List Rd} (hz : validR n l = true) {a b d : Int} (h : distO (edge l) a b = some d) : 0 ≤ d ∧ d ≤ 792 := (edges_ok hz).dist (distO_some.1 h)

end Go.Proofs.Ytfdaaeapfeajjaa
