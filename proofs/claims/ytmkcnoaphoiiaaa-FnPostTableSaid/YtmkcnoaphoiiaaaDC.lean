/- Draws: a number and a timetable. -/
import Derived.Test.YtmkcnoaphoiiaaaDB
namespace Go.Proofs.Ytmkcnoaphoiiaaa
open Go.RowKit

/-- What a drawn number and timetable are. -/
def DrawnOne (g : Nat) (l : List Int) (p : Nat) (w : World) (e : Ending) (w' : World) : Prop :=
  ∃ (n : Int) (ad : Option Addr) (cap : Nat) (xs : List Rd) (p' : Nat), e = .returned (.tuple #[.int .i64 n, .slice ad xs.length cap]) ∧ 2 ≤ n ∧ n ≤ 6 ∧ xs.length ≤ cap ∧ xs.length ≤ 8 ∧ OwnRd w' ad xs ∧
    (∀ j, inBlk ad j → w.heap.size ≤ j ∧ j < w'.heap.size) ∧ Reader w' g l p' ∧ p' ≤ p + 42 ∧ Touch (fun j => j = g) w w'

/-- What is drawn, for the law. -/
def DrawnNS (w : World) (e : Ending) (w' : World) : Prop :=
  ∃ (n : Int) (ad : Option Addr) (cap : Nat) (xs : List Rd), e = .returned (.tuple #[.int .i64 n, .slice ad xs.length cap]) ∧ 2 ≤ n ∧ n ≤ 6 ∧ xs.length ≤ cap ∧ xs.length ≤ 8 ∧ OwnRd w' ad xs ∧ Below w.heap.size w w'



end Go.Proofs.Ytmkcnoaphoiiaaa
