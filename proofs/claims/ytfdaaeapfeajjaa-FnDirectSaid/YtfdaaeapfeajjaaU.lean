/- The program's number of shortest ways. -/
import Derived.Test.YtfdaaeapfeajjaaT
namespace Go.Proofs.Ytfdaaeapfeajjaa
open Go.RowKit Go.Maps

theorem own_int {w : World} {B : Nat} {b cap _k : Nat} {xs : List Int} (h : w.ownsRow B 3 1 (.slice (some ⟨b, 0, none⟩) xs.length cap) xs.length (xs.map (Value.int .i64))) : IntAt w b 0 xs := fun i hi => by
  have := h.cellAt i (by simpa using hi)
  rw [Nat.zero_add, this]
  simp [List.getD, List.getElem?_eq_getElem hi]

def WaysRel (n : Int) (g : Int → Int → Option Int) (f : Int → Option Int) (k : Nat) (t : Int) (w : World) (b _cap : Nat) (u i : Value) (wr : World) : Prop :=
  ∃ j : Nat, j ≤ (nearL n g f t).length ∧ i = .int .i64 j ∧ u = .int .i64 (manyPre n g f k t j) ∧ IntAt wr b 0 (nearL n g f t) ∧ b < wr.heap.size ∧ Below w.heap.size w wr

end Go.Proofs.Ytfdaaeapfeajjaa
