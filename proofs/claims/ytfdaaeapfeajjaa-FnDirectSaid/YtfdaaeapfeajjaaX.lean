/- The model's number of shortest ways. -/
import Derived.Test.YtfdaaeapfeajjaaV
import Derived.IntWalk
import Derived.BigQuiet
import Derived.Deep.QuietTactic
namespace Go.Proofs.Ytfdaaeapfeajjaa
open Go.RowKit Go.Maps

theorem near_dist {n : Int} {l : List Rd} (hz : validR n l = true) {a b j m d : Int} (hd : Dist (edge l) b a d) (he : edge l a j = some m) : ∃ dj, Dist (edge l) b j dj :=
  dist_exists (edges_ok hz).pos ⟨_, hd.1.trans (Way.cons he (.nil j))⟩

theorem distN_of {n : Int} {l : List Rd} {b x d : Int} (hb : 0 ≤ b ∧ b < n) (hd : Dist (edge l) b x d) : distN n (edge l) b x = some d := by
  unfold distN; rw [if_pos hb]; exact distO_some.2 hd

def L1Rel (n : Int) (l : List Rd) (f : Int → Option Int) (k : Nat) (a : Int) (w : World) (u i : Value) (wr : World) : Prop :=
  ∃ j : Nat, (j : Int) ≤ n ∧ i = .int .i64 j ∧ u = .int .i64 (manyTo n (edge l) f k a j) ∧ Below w.heap.size w wr

end Go.Proofs.Ytfdaaeapfeajjaa
