/- Answers as values that read as a list of numbers. -/
import Derived.Test.YtmphpbjmpokjjabIZ
namespace Go.Proofs.Ytmphpbjmpokjjab
open Go.RowKit

theorem okIn {ys : List Int} {ok : Bool} {w w' : World} {e : Ending} (h : IntsOk ys ok w e w') : ∃ v, e = .returned (.tuple #[v, .bool ok]) ∧ IntsIn w' v ys ∧ Below w.heap.size w w' := by
  obtain ⟨ad, cap, rfl, hc, ho, _, hb⟩ := h
  exact ⟨_, rfl, ho.ints hc, hb⟩

end Go.Proofs.Ytmphpbjmpokjjab
