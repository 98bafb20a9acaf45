/- slices.Sort at integers by the library's contract, in plain words. -/
import Derived.Shelf.Sort.Plain
import Derived.Test.YtfdaaeapfeajjaaProg
namespace Go.Proofs
open Go.Shelf
end Go.Proofs
