/- What a function gives that makes stops. -/
import Derived.Test.YtmkcnoaphoiiaaaBT
namespace Go.Proofs.Ytmkcnoaphoiiaaa
open Go.RowKit

/-- What a function gives that makes stops. -/
def StopsOut (xs : List Rd) (ok : Bool) (w : World) (e : Ending) (w' : World) : Prop :=
  ∃ (ad : Option Addr) (cap : Nat), e = .returned (.tuple #[.slice ad xs.length cap, .bool ok]) ∧ OwnRd w' ad xs ∧ (∀ j, inBlk ad j → w.heap.size ≤ j ∧ j < w'.heap.size) ∧ Below w.heap.size w w'

end Go.Proofs.Ytmkcnoaphoiiaaa
