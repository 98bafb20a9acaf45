/-
  No cell of these rows narrows 'for every input' (looked for: loops, veiled, ifaces, maps, wideKeys, modest, calm, conditions, laid).
  DERIVED. THE GIVEN ROWS OF THIS SEAT. 12 by the template 'for every input the law returns true; each argument reads behind the call as it read before'; 0 by the template 'total and deterministic' (their statements: YtmadfbncoibapaaTotals.lean).
  GIVEN WITH THE SEED: the statements are not yours to turn. If you find one false, say at which input.
  Laid BY PROGRAM, IN A SANDBOX (cutbox-rows.mjs): the forced cells as the released guide's own fill.sh prints them over the translation ed3a92b0a48f9562… (all of the seat's roots in one cut). By AI agents, Wed Nov 11 2026. No macro, syntax, notation, axiom, sorry.
-/
import Derived.Test.YtmadfbncoibapaaChecked
import GoSem.Claim
import GoSem.ClaimJoined
import GoSem.ClaimMapViews
import Derived.JoinedTies
import Derived.KernelRfl
namespace Go.Proofs.Ytmadfbncoibapaa
/- THE CELL 'sum', in the pinned program and in every row, IS THE sha256 OF THE DUMP (.gsa) THAT YtmadfbncoibapaaProg.lean LOADS. Nothing in Lean hashes anything: it is a label: what it is worth is what the hold of that sum in a sandbox is worth. -/
noncomputable def Try.pinned : Pinned := { name := "ytmadfbncoibapaa", sum := "ed3a92b0a48f9562a1d70faca7f23aff2417a2add675d37292906d8b9116573f", checked := Try.checked }
namespace Rows
def none {H : Type} : Left H := { results := [], args := [] }

/-- 'laws.FnExactBookingsValid': WHATEVER THE INPUT: true; the input reads as it did. -/
def fnExactBookingsValidSpec : ChangeSpec := { name := "fnExactBookingsValid", fn := fun _ => fun
  | [d1, d2] => { results := [.lit (.bool true)], args := [d1, d2] }
  | _ => none }
def fnExactBookingsValidRow : OpenClaim := { program := "ytmadfbncoibapaa", sum := "ed3a92b0a48f9562a1d70faca7f23aff2417a2add675d37292906d8b9116573f", func := "loop.example/mailcoaches/laws.FnExactBookingsValid", spec := "fnExactBookingsValid", unfollowed := true, recurses := true, apart := false }
def FnExactBookingsValidSaid : Prop := fnExactBookingsValidRow.holds Try.pinned (OpenSpec.ofChange fnExactBookingsValidSpec)

/-- ITS FALSE NEIGHBOUR: 'it returns false'. Refute it at one input. -/
def fnExactBookingsValidWrong : ChangeSpec := { name := "fnExactBookingsValid", fn := fun _ => fun
  | [d1, d2] => { results := [.lit (.bool false)], args := [d1, d2] }
  | _ => none }
def FnExactBookingsValidWrongFalsely : Prop := fnExactBookingsValidRow.holds Try.pinned (OpenSpec.ofChange fnExactBookingsValidWrong)

/-- 'laws.FnExactSeatsFree': WHATEVER THE INPUT: true; the input reads as it did. -/
def fnExactSeatsFreeSpec : ChangeSpec := { name := "fnExactSeatsFree", fn := fun _ => fun
  | [d1, d2, d3, d4, d5] => { results := [.lit (.bool true)], args := [d1, d2, d3, d4, d5] }
  | _ => none }
def fnExactSeatsFreeRow : OpenClaim := { program := "ytmadfbncoibapaa", sum := "ed3a92b0a48f9562a1d70faca7f23aff2417a2add675d37292906d8b9116573f", func := "loop.example/mailcoaches/laws.FnExactSeatsFree", spec := "fnExactSeatsFree", unfollowed := true, recurses := true, apart := false }
def FnExactSeatsFreeSaid : Prop := fnExactSeatsFreeRow.holds Try.pinned (OpenSpec.ofChange fnExactSeatsFreeSpec)

/-- ITS FALSE NEIGHBOUR: 'it returns false'. Refute it at one input. -/
def fnExactSeatsFreeWrong : ChangeSpec := { name := "fnExactSeatsFree", fn := fun _ => fun
  | [d1, d2, d3, d4, d5] => { results := [.lit (.bool false)], args := [d1, d2, d3, d4, d5] }
  | _ => none }
def FnExactSeatsFreeWrongFalsely : Prop := fnExactSeatsFreeRow.holds Try.pinned (OpenSpec.ofChange fnExactSeatsFreeWrong)

/-- 'laws.FnExactSeatsBook': WHATEVER THE INPUT: true; the input reads as it did. -/
def fnExactSeatsBookSpec : ChangeSpec := { name := "fnExactSeatsBook", fn := fun _ => fun
  | [d1, d2, d3] => { results := [.lit (.bool true)], args := [d1, d2, d3] }
  | _ => none }
def fnExactSeatsBookRow : OpenClaim := { program := "ytmadfbncoibapaa", sum := "ed3a92b0a48f9562a1d70faca7f23aff2417a2add675d37292906d8b9116573f", func := "loop.example/mailcoaches/laws.FnExactSeatsBook", spec := "fnExactSeatsBook", unfollowed := true, recurses := true, apart := false }
def FnExactSeatsBookSaid : Prop := fnExactSeatsBookRow.holds Try.pinned (OpenSpec.ofChange fnExactSeatsBookSpec)

/-- ITS FALSE NEIGHBOUR: 'it returns false'. Refute it at one input. -/
def fnExactSeatsBookWrong : ChangeSpec := { name := "fnExactSeatsBook", fn := fun _ => fun
  | [d1, d2, d3] => { results := [.lit (.bool false)], args := [d1, d2, d3] }
  | _ => none }
def FnExactSeatsBookWrongFalsely : Prop := fnExactSeatsBookRow.holds Try.pinned (OpenSpec.ofChange fnExactSeatsBookWrong)

/-- 'laws.FnExactSeatsCancel': WHATEVER THE INPUT: true; the input reads as it did. -/
def fnExactSeatsCancelSpec : ChangeSpec := { name := "fnExactSeatsCancel", fn := fun _ => fun
  | [d1, d2, d3] => { results := [.lit (.bool true)], args := [d1, d2, d3] }
  | _ => none }
def fnExactSeatsCancelRow : OpenClaim := { program := "ytmadfbncoibapaa", sum := "ed3a92b0a48f9562a1d70faca7f23aff2417a2add675d37292906d8b9116573f", func := "loop.example/mailcoaches/laws.FnExactSeatsCancel", spec := "fnExactSeatsCancel", unfollowed := true, recurses := true, apart := false }
def FnExactSeatsCancelSaid : Prop := fnExactSeatsCancelRow.holds Try.pinned (OpenSpec.ofChange fnExactSeatsCancelSpec)

/-- ITS FALSE NEIGHBOUR: 'it returns false'. Refute it at one input. -/
def fnExactSeatsCancelWrong : ChangeSpec := { name := "fnExactSeatsCancel", fn := fun _ => fun
  | [d1, d2, d3] => { results := [.lit (.bool false)], args := [d1, d2, d3] }
  | _ => none }
def FnExactSeatsCancelWrongFalsely : Prop := fnExactSeatsCancelRow.holds Try.pinned (OpenSpec.ofChange fnExactSeatsCancelWrong)

/-- 'laws.FnExactSeatsTaken': WHATEVER THE INPUT: true; the input reads as it did. -/
def fnExactSeatsTakenSpec : ChangeSpec := { name := "fnExactSeatsTaken", fn := fun _ => fun
  | [d1, d2, d3] => { results := [.lit (.bool true)], args := [d1, d2, d3] }
  | _ => none }
def fnExactSeatsTakenRow : OpenClaim := { program := "ytmadfbncoibapaa", sum := "ed3a92b0a48f9562a1d70faca7f23aff2417a2add675d37292906d8b9116573f", func := "loop.example/mailcoaches/laws.FnExactSeatsTaken", spec := "fnExactSeatsTaken", unfollowed := true, recurses := true, apart := false }
def FnExactSeatsTakenSaid : Prop := fnExactSeatsTakenRow.holds Try.pinned (OpenSpec.ofChange fnExactSeatsTakenSpec)

/-- ITS FALSE NEIGHBOUR: 'it returns false'. Refute it at one input. -/
def fnExactSeatsTakenWrong : ChangeSpec := { name := "fnExactSeatsTaken", fn := fun _ => fun
  | [d1, d2, d3] => { results := [.lit (.bool false)], args := [d1, d2, d3] }
  | _ => none }
def FnExactSeatsTakenWrongFalsely : Prop := fnExactSeatsTakenRow.holds Try.pinned (OpenSpec.ofChange fnExactSeatsTakenWrong)

/-- 'laws.FnExactSeatingValid': WHATEVER THE INPUT: true; the input reads as it did. -/
def fnExactSeatingValidSpec : ChangeSpec := { name := "fnExactSeatingValid", fn := fun _ => fun
  | [d1, d2, d3] => { results := [.lit (.bool true)], args := [d1, d2, d3] }
  | _ => none }
def fnExactSeatingValidRow : OpenClaim := { program := "ytmadfbncoibapaa", sum := "ed3a92b0a48f9562a1d70faca7f23aff2417a2add675d37292906d8b9116573f", func := "loop.example/mailcoaches/laws.FnExactSeatingValid", spec := "fnExactSeatingValid", unfollowed := true, recurses := true, apart := false }
def FnExactSeatingValidSaid : Prop := fnExactSeatingValidRow.holds Try.pinned (OpenSpec.ofChange fnExactSeatingValidSpec)

/-- ITS FALSE NEIGHBOUR: 'it returns false'. Refute it at one input. -/
def fnExactSeatingValidWrong : ChangeSpec := { name := "fnExactSeatingValid", fn := fun _ => fun
  | [d1, d2, d3] => { results := [.lit (.bool false)], args := [d1, d2, d3] }
  | _ => none }
def FnExactSeatingValidWrongFalsely : Prop := fnExactSeatingValidRow.holds Try.pinned (OpenSpec.ofChange fnExactSeatingValidWrong)

/-- 'laws.FnExactSeatingMake': WHATEVER THE INPUT: true; the input reads as it did. -/
def fnExactSeatingMakeSpec : ChangeSpec := { name := "fnExactSeatingMake", fn := fun _ => fun
  | [d1, d2] => { results := [.lit (.bool true)], args := [d1, d2] }
  | _ => none }
def fnExactSeatingMakeRow : OpenClaim := { program := "ytmadfbncoibapaa", sum := "ed3a92b0a48f9562a1d70faca7f23aff2417a2add675d37292906d8b9116573f", func := "loop.example/mailcoaches/laws.FnExactSeatingMake", spec := "fnExactSeatingMake", unfollowed := true, recurses := true, apart := false }
def FnExactSeatingMakeSaid : Prop := fnExactSeatingMakeRow.holds Try.pinned (OpenSpec.ofChange fnExactSeatingMakeSpec)

/-- ITS FALSE NEIGHBOUR: 'it returns false'. Refute it at one input. -/
def fnExactSeatingMakeWrong : ChangeSpec := { name := "fnExactSeatingMake", fn := fun _ => fun
  | [d1, d2] => { results := [.lit (.bool false)], args := [d1, d2] }
  | _ => none }
def FnExactSeatingMakeWrongFalsely : Prop := fnExactSeatingMakeRow.holds Try.pinned (OpenSpec.ofChange fnExactSeatingMakeWrong)

/-- 'laws.FnExactSeatsFull': WHATEVER THE INPUT: true; the input reads as it did. -/
def fnExactSeatsFullSpec : ChangeSpec := { name := "fnExactSeatsFull", fn := fun _ => fun
  | [d1, d2] => { results := [.lit (.bool true)], args := [d1, d2] }
  | _ => none }
def fnExactSeatsFullRow : OpenClaim := { program := "ytmadfbncoibapaa", sum := "ed3a92b0a48f9562a1d70faca7f23aff2417a2add675d37292906d8b9116573f", func := "loop.example/mailcoaches/laws.FnExactSeatsFull", spec := "fnExactSeatsFull", unfollowed := true, recurses := true, apart := false }
def FnExactSeatsFullSaid : Prop := fnExactSeatsFullRow.holds Try.pinned (OpenSpec.ofChange fnExactSeatsFullSpec)

/-- ITS FALSE NEIGHBOUR: 'it returns false'. Refute it at one input. -/
def fnExactSeatsFullWrong : ChangeSpec := { name := "fnExactSeatsFull", fn := fun _ => fun
  | [d1, d2] => { results := [.lit (.bool false)], args := [d1, d2] }
  | _ => none }
def FnExactSeatsFullWrongFalsely : Prop := fnExactSeatsFullRow.holds Try.pinned (OpenSpec.ofChange fnExactSeatsFullWrong)

/-- 'laws.FnExactSeatsTakings': WHATEVER THE INPUT: true; the input reads as it did. -/
def fnExactSeatsTakingsSpec : ChangeSpec := { name := "fnExactSeatsTakings", fn := fun _ => fun
  | [d1, d2, d3, d4, d5] => { results := [.lit (.bool true)], args := [d1, d2, d3, d4, d5] }
  | _ => none }
def fnExactSeatsTakingsRow : OpenClaim := { program := "ytmadfbncoibapaa", sum := "ed3a92b0a48f9562a1d70faca7f23aff2417a2add675d37292906d8b9116573f", func := "loop.example/mailcoaches/laws.FnExactSeatsTakings", spec := "fnExactSeatsTakings", unfollowed := true, recurses := true, apart := false }
def FnExactSeatsTakingsSaid : Prop := fnExactSeatsTakingsRow.holds Try.pinned (OpenSpec.ofChange fnExactSeatsTakingsSpec)

/-- ITS FALSE NEIGHBOUR: 'it returns false'. Refute it at one input. -/
def fnExactSeatsTakingsWrong : ChangeSpec := { name := "fnExactSeatsTakings", fn := fun _ => fun
  | [d1, d2, d3, d4, d5] => { results := [.lit (.bool false)], args := [d1, d2, d3, d4, d5] }
  | _ => none }
def FnExactSeatsTakingsWrongFalsely : Prop := fnExactSeatsTakingsRow.holds Try.pinned (OpenSpec.ofChange fnExactSeatsTakingsWrong)

/-- 'laws.FnExactSeatsBest': WHATEVER THE INPUT: true; the input reads as it did. -/
def fnExactSeatsBestSpec : ChangeSpec := { name := "fnExactSeatsBest", fn := fun _ => fun
  | [d1, d2] => { results := [.lit (.bool true)], args := [d1, d2] }
  | _ => none }
def fnExactSeatsBestRow : OpenClaim := { program := "ytmadfbncoibapaa", sum := "ed3a92b0a48f9562a1d70faca7f23aff2417a2add675d37292906d8b9116573f", func := "loop.example/mailcoaches/laws.FnExactSeatsBest", spec := "fnExactSeatsBest", unfollowed := true, recurses := true, apart := false }
def FnExactSeatsBestSaid : Prop := fnExactSeatsBestRow.holds Try.pinned (OpenSpec.ofChange fnExactSeatsBestSpec)

/-- ITS FALSE NEIGHBOUR: 'it returns false'. Refute it at one input. -/
def fnExactSeatsBestWrong : ChangeSpec := { name := "fnExactSeatsBest", fn := fun _ => fun
  | [d1, d2] => { results := [.lit (.bool false)], args := [d1, d2] }
  | _ => none }
def FnExactSeatsBestWrongFalsely : Prop := fnExactSeatsBestRow.holds Try.pinned (OpenSpec.ofChange fnExactSeatsBestWrong)

/-- 'laws.FnExactSeatsMove': WHATEVER THE INPUT: true; the input reads as it did. -/
def fnExactSeatsMoveSpec : ChangeSpec := { name := "fnExactSeatsMove", fn := fun _ => fun
  | [d1, d2, d3] => { results := [.lit (.bool true)], args := [d1, d2, d3] }
  | _ => none }
def fnExactSeatsMoveRow : OpenClaim := { program := "ytmadfbncoibapaa", sum := "ed3a92b0a48f9562a1d70faca7f23aff2417a2add675d37292906d8b9116573f", func := "loop.example/mailcoaches/laws.FnExactSeatsMove", spec := "fnExactSeatsMove", unfollowed := true, recurses := true, apart := false }
def FnExactSeatsMoveSaid : Prop := fnExactSeatsMoveRow.holds Try.pinned (OpenSpec.ofChange fnExactSeatsMoveSpec)

/-- ITS FALSE NEIGHBOUR: 'it returns false'. Refute it at one input. -/
def fnExactSeatsMoveWrong : ChangeSpec := { name := "fnExactSeatsMove", fn := fun _ => fun
  | [d1, d2, d3] => { results := [.lit (.bool false)], args := [d1, d2, d3] }
  | _ => none }
def FnExactSeatsMoveWrongFalsely : Prop := fnExactSeatsMoveRow.holds Try.pinned (OpenSpec.ofChange fnExactSeatsMoveWrong)

/-- 'laws.FnExactSeatsRide': WHATEVER THE INPUT: true; the input reads as it did. -/
def fnExactSeatsRideSpec : ChangeSpec := { name := "fnExactSeatsRide", fn := fun _ => fun
  | [d1, d2] => { results := [.lit (.bool true)], args := [d1, d2] }
  | _ => none }
def fnExactSeatsRideRow : OpenClaim := { program := "ytmadfbncoibapaa", sum := "ed3a92b0a48f9562a1d70faca7f23aff2417a2add675d37292906d8b9116573f", func := "loop.example/mailcoaches/laws.FnExactSeatsRide", spec := "fnExactSeatsRide", unfollowed := true, recurses := true, apart := false }
def FnExactSeatsRideSaid : Prop := fnExactSeatsRideRow.holds Try.pinned (OpenSpec.ofChange fnExactSeatsRideSpec)

/-- ITS FALSE NEIGHBOUR: 'it returns false'. Refute it at one input. -/
def fnExactSeatsRideWrong : ChangeSpec := { name := "fnExactSeatsRide", fn := fun _ => fun
  | [d1, d2] => { results := [.lit (.bool false)], args := [d1, d2] }
  | _ => none }
def FnExactSeatsRideWrongFalsely : Prop := fnExactSeatsRideRow.holds Try.pinned (OpenSpec.ofChange fnExactSeatsRideWrong)

/- THE SECOND FORM. 'bulk': how many values and letters a reading holds, each counted each time it is reached (what is shared counts as often as it is met; a slice's spare places count too). A statement '..UptoSaid' is the law's where the arguments, and the package variables that the reading takes, are together of bulk at most 1048576: NARROWER than '..Said'. Prove '..Said' where nothing that the law and all that it calls make is longer than what came in: it says more and counts as full. Else prove '..UptoSaid'. A law counts once. -/
mutual
def uptoBulk {H : Type} : DataW H → Nat
  | .lit (.string bytes) => bytes.length + 1
  | .lit _ => 1
  | .nil => 1
  | .ptr d => uptoBulk d + 1
  | .slice elems spare => uptoBulkAll elems + uptoBulkAll spare + 1
  | .agg parts => uptoBulkAll parts + 1
  | .iface _ d => uptoBulk d + 1
  | .map entries => uptoBulkEntries entries + 1
  | .held _ => 1
def uptoBulkAll {H : Type} : List (DataW H) → Nat
  | [] => 0
  | d :: r => uptoBulk d + uptoBulkAll r
def uptoBulkEntries {H : Type} : List (Lit × DataW H) → Nat
  | [] => 0
  | x :: r => uptoBulkEntry x + uptoBulkEntries r
def uptoBulkEntry {H : Type} : Lit × DataW H → Nat
  | (.string bytes, d) => bytes.length + uptoBulk d + 1
  | (_, d) => uptoBulk d + 1
 end
def uptoSmall : (H : Type) → List (DataW H) → Bool := fun _ ds => decide (uptoBulkAll ds ≤ 1048576)
def OpenSpec.upto (s : _root_.Go.ChangeSpec) : _root_.Go.OpenSpec := { _root_.Go.OpenSpec.ofChange s with cond := some uptoSmall }

/-- 'laws.FnExactBookingsValid', WHERE WHAT IT READS IS OF BULK AT MOST 1048576: true; the input reads as it did. -/
def fnExactBookingsValidUptoRow : OpenClaim := { program := "ytmadfbncoibapaa", sum := "ed3a92b0a48f9562a1d70faca7f23aff2417a2add675d37292906d8b9116573f", func := "loop.example/mailcoaches/laws.FnExactBookingsValid", spec := "fnExactBookingsValid", unfollowed := true, recurses := true, apart := false, narrowed := true }
def FnExactBookingsValidUptoSaid : Prop := fnExactBookingsValidUptoRow.holds Try.pinned (OpenSpec.upto fnExactBookingsValidSpec)

/-- 'laws.FnExactSeatsFree', WHERE WHAT IT READS IS OF BULK AT MOST 1048576: true; the input reads as it did. -/
def fnExactSeatsFreeUptoRow : OpenClaim := { program := "ytmadfbncoibapaa", sum := "ed3a92b0a48f9562a1d70faca7f23aff2417a2add675d37292906d8b9116573f", func := "loop.example/mailcoaches/laws.FnExactSeatsFree", spec := "fnExactSeatsFree", unfollowed := true, recurses := true, apart := false, narrowed := true }
def FnExactSeatsFreeUptoSaid : Prop := fnExactSeatsFreeUptoRow.holds Try.pinned (OpenSpec.upto fnExactSeatsFreeSpec)

/-- 'laws.FnExactSeatsBook', WHERE WHAT IT READS IS OF BULK AT MOST 1048576: true; the input reads as it did. -/
def fnExactSeatsBookUptoRow : OpenClaim := { program := "ytmadfbncoibapaa", sum := "ed3a92b0a48f9562a1d70faca7f23aff2417a2add675d37292906d8b9116573f", func := "loop.example/mailcoaches/laws.FnExactSeatsBook", spec := "fnExactSeatsBook", unfollowed := true, recurses := true, apart := false, narrowed := true }
def FnExactSeatsBookUptoSaid : Prop := fnExactSeatsBookUptoRow.holds Try.pinned (OpenSpec.upto fnExactSeatsBookSpec)

/-- 'laws.FnExactSeatsCancel', WHERE WHAT IT READS IS OF BULK AT MOST 1048576: true; the input reads as it did. -/
def fnExactSeatsCancelUptoRow : OpenClaim := { program := "ytmadfbncoibapaa", sum := "ed3a92b0a48f9562a1d70faca7f23aff2417a2add675d37292906d8b9116573f", func := "loop.example/mailcoaches/laws.FnExactSeatsCancel", spec := "fnExactSeatsCancel", unfollowed := true, recurses := true, apart := false, narrowed := true }
def FnExactSeatsCancelUptoSaid : Prop := fnExactSeatsCancelUptoRow.holds Try.pinned (OpenSpec.upto fnExactSeatsCancelSpec)

/-- 'laws.FnExactSeatsTaken', WHERE WHAT IT READS IS OF BULK AT MOST 1048576: true; the input reads as it did. -/
def fnExactSeatsTakenUptoRow : OpenClaim := { program := "ytmadfbncoibapaa", sum := "ed3a92b0a48f9562a1d70faca7f23aff2417a2add675d37292906d8b9116573f", func := "loop.example/mailcoaches/laws.FnExactSeatsTaken", spec := "fnExactSeatsTaken", unfollowed := true, recurses := true, apart := false, narrowed := true }
def FnExactSeatsTakenUptoSaid : Prop := fnExactSeatsTakenUptoRow.holds Try.pinned (OpenSpec.upto fnExactSeatsTakenSpec)

/-- 'laws.FnExactSeatingValid', WHERE WHAT IT READS IS OF BULK AT MOST 1048576: true; the input reads as it did. -/
def fnExactSeatingValidUptoRow : OpenClaim := { program := "ytmadfbncoibapaa", sum := "ed3a92b0a48f9562a1d70faca7f23aff2417a2add675d37292906d8b9116573f", func := "loop.example/mailcoaches/laws.FnExactSeatingValid", spec := "fnExactSeatingValid", unfollowed := true, recurses := true, apart := false, narrowed := true }
def FnExactSeatingValidUptoSaid : Prop := fnExactSeatingValidUptoRow.holds Try.pinned (OpenSpec.upto fnExactSeatingValidSpec)

/-- 'laws.FnExactSeatingMake', WHERE WHAT IT READS IS OF BULK AT MOST 1048576: true; the input reads as it did. -/
def fnExactSeatingMakeUptoRow : OpenClaim := { program := "ytmadfbncoibapaa", sum := "ed3a92b0a48f9562a1d70faca7f23aff2417a2add675d37292906d8b9116573f", func := "loop.example/mailcoaches/laws.FnExactSeatingMake", spec := "fnExactSeatingMake", unfollowed := true, recurses := true, apart := false, narrowed := true }
def FnExactSeatingMakeUptoSaid : Prop := fnExactSeatingMakeUptoRow.holds Try.pinned (OpenSpec.upto fnExactSeatingMakeSpec)

/-- 'laws.FnExactSeatsFull', WHERE WHAT IT READS IS OF BULK AT MOST 1048576: true; the input reads as it did. -/
def fnExactSeatsFullUptoRow : OpenClaim := { program := "ytmadfbncoibapaa", sum := "ed3a92b0a48f9562a1d70faca7f23aff2417a2add675d37292906d8b9116573f", func := "loop.example/mailcoaches/laws.FnExactSeatsFull", spec := "fnExactSeatsFull", unfollowed := true, recurses := true, apart := false, narrowed := true }
def FnExactSeatsFullUptoSaid : Prop := fnExactSeatsFullUptoRow.holds Try.pinned (OpenSpec.upto fnExactSeatsFullSpec)

/-- 'laws.FnExactSeatsTakings', WHERE WHAT IT READS IS OF BULK AT MOST 1048576: true; the input reads as it did. -/
def fnExactSeatsTakingsUptoRow : OpenClaim := { program := "ytmadfbncoibapaa", sum := "ed3a92b0a48f9562a1d70faca7f23aff2417a2add675d37292906d8b9116573f", func := "loop.example/mailcoaches/laws.FnExactSeatsTakings", spec := "fnExactSeatsTakings", unfollowed := true, recurses := true, apart := false, narrowed := true }
def FnExactSeatsTakingsUptoSaid : Prop := fnExactSeatsTakingsUptoRow.holds Try.pinned (OpenSpec.upto fnExactSeatsTakingsSpec)

/-- 'laws.FnExactSeatsBest', WHERE WHAT IT READS IS OF BULK AT MOST 1048576: true; the input reads as it did. -/
def fnExactSeatsBestUptoRow : OpenClaim := { program := "ytmadfbncoibapaa", sum := "ed3a92b0a48f9562a1d70faca7f23aff2417a2add675d37292906d8b9116573f", func := "loop.example/mailcoaches/laws.FnExactSeatsBest", spec := "fnExactSeatsBest", unfollowed := true, recurses := true, apart := false, narrowed := true }
def FnExactSeatsBestUptoSaid : Prop := fnExactSeatsBestUptoRow.holds Try.pinned (OpenSpec.upto fnExactSeatsBestSpec)

/-- 'laws.FnExactSeatsMove', WHERE WHAT IT READS IS OF BULK AT MOST 1048576: true; the input reads as it did. -/
def fnExactSeatsMoveUptoRow : OpenClaim := { program := "ytmadfbncoibapaa", sum := "ed3a92b0a48f9562a1d70faca7f23aff2417a2add675d37292906d8b9116573f", func := "loop.example/mailcoaches/laws.FnExactSeatsMove", spec := "fnExactSeatsMove", unfollowed := true, recurses := true, apart := false, narrowed := true }
def FnExactSeatsMoveUptoSaid : Prop := fnExactSeatsMoveUptoRow.holds Try.pinned (OpenSpec.upto fnExactSeatsMoveSpec)

/-- 'laws.FnExactSeatsRide', WHERE WHAT IT READS IS OF BULK AT MOST 1048576: true; the input reads as it did. -/
def fnExactSeatsRideUptoRow : OpenClaim := { program := "ytmadfbncoibapaa", sum := "ed3a92b0a48f9562a1d70faca7f23aff2417a2add675d37292906d8b9116573f", func := "loop.example/mailcoaches/laws.FnExactSeatsRide", spec := "fnExactSeatsRide", unfollowed := true, recurses := true, apart := false, narrowed := true }
def FnExactSeatsRideUptoSaid : Prop := fnExactSeatsRideUptoRow.holds Try.pinned (OpenSpec.upto fnExactSeatsRideSpec)

end Rows
end Go.Proofs.Ytmadfbncoibapaa
