/- StopsBack: the model's. -/
import Derived.Test.YtfdaaeapfeajjaaSL
import Derived.Test.YtfdaaeapfeajjaaSN
namespace Go.Proofs.Ytfdaaeapfeajjaa
open Go.RowKit

def C1Rel (n : Int) (l : List Rd) (k : Int) (w : World) (v iv : Value) (wr : World) : Prop :=
  ∃ i : Nat, i ≤ l.length ∧ iv = .int .i64 ((i : Int) - 1) ∧ OwnS wr w.heap.size v (backTo l k i) ∧ (i = l.length ∨ (validS n l = true ∧ 0 ≤ k ∧ k ≤ 20000)) ∧ Below w.heap.size w wr

end Go.Proofs.Ytfdaaeapfeajjaa
