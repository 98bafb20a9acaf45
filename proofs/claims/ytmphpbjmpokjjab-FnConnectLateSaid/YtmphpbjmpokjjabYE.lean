/- The model's ConnectMost. -/
import Derived.Test.YtmphpbjmpokjjabYD
namespace Go.Proofs.Ytmphpbjmpokjjab
open Go.RowKit

def cmX (n : Int) (a b : List Rd) (town change most : Int) : Int := if madeX n a b town 0 change most then min 300 (most - waitX n a b town 0 change) else -1
theorem madeX_eq (n : Int) (a b : List Rd) (town late change most : Int) : madeX n a b town late change most = (clOk n a b town late change most && decide (waitX n a b town late change ≤ most)) := by
  unfold madeX clOk; rw [Bool.and_assoc]

end Go.Proofs.Ytmphpbjmpokjjab
