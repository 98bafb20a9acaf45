/-
  No cell of these rows narrows 'for every input' (looked for: loops, veiled, ifaces, maps, wideKeys, modest, calm, conditions, laid).
  DERIVED. THE GIVEN ROWS OF THIS SEAT. 6 by the template 'for every input the law returns true; each argument reads behind the call as it read before'; 0 by the template 'total and deterministic' (their statements: YtfdaaeapfeajjaaTotals.lean).
  GIVEN WITH THE SEED: the statements are not yours to turn. If you find one false, say at which input.
  Laid BY PROGRAM, IN A SANDBOX (cutbox-rows.mjs): the forced cells as the released guide's own fill.sh prints them over the translation 46dd37f1fe3ab42c… (all of the seat's roots in one cut). By AI agents, Wed Nov 11 2026. No macro, syntax, notation, axiom, sorry.
-/
import Derived.Test.YtfdaaeapfeajjaaChecked
import GoSem.Claim
import GoSem.ClaimJoined
import GoSem.ClaimMapViews
import Derived.JoinedTies
import Derived.KernelRfl
namespace Go.Proofs.Ytfdaaeapfeajjaa
/- THE CELL 'sum', in the pinned program and in every row, IS THE sha256 OF THE DUMP (.gsa) THAT YtfdaaeapfeajjaaProg.lean LOADS. Nothing in Lean hashes anything: it is a label: what it is worth is what the hold of that sum in a sandbox is worth. -/
noncomputable def Try.pinned : Pinned := { name := "ytfdaaeapfeajjaa", sum := "46dd37f1fe3ab42cc61d47394da6bb6c088dfe3cfebe5fb86859afda2ca6411b", checked := Try.checked }
namespace Rows
def none {H : Type} : Left H := { results := [], args := [] }

/-- 'laws.FnStopsLater': WHATEVER THE INPUT: true; the input reads as it did. -/
def fnStopsLaterSpec : ChangeSpec := { name := "fnStopsLater", fn := fun _ => fun
  | [d] => { results := [.lit (.bool true)], args := [d] }
  | _ => none }
def fnStopsLaterRow : OpenClaim := { program := "ytfdaaeapfeajjaa", sum := "46dd37f1fe3ab42cc61d47394da6bb6c088dfe3cfebe5fb86859afda2ca6411b", func := "loop.example/mailcoaches/laws.FnStopsLater", spec := "fnStopsLater", apart := false }
def FnStopsLaterSaid : Prop := fnStopsLaterRow.holds Try.pinned (OpenSpec.ofChange fnStopsLaterSpec)

/-- ITS FALSE NEIGHBOUR: 'it returns false'. Refute it at one input. -/
def fnStopsLaterWrong : ChangeSpec := { name := "fnStopsLater", fn := fun _ => fun
  | [d] => { results := [.lit (.bool false)], args := [d] }
  | _ => none }
def FnStopsLaterWrongFalsely : Prop := fnStopsLaterRow.holds Try.pinned (OpenSpec.ofChange fnStopsLaterWrong)

/-- 'laws.FnStopsPart': WHATEVER THE INPUT: true; the input reads as it did. -/
def fnStopsPartSpec : ChangeSpec := { name := "fnStopsPart", fn := fun _ => fun
  | [d] => { results := [.lit (.bool true)], args := [d] }
  | _ => none }
def fnStopsPartRow : OpenClaim := { program := "ytfdaaeapfeajjaa", sum := "46dd37f1fe3ab42cc61d47394da6bb6c088dfe3cfebe5fb86859afda2ca6411b", func := "loop.example/mailcoaches/laws.FnStopsPart", spec := "fnStopsPart", apart := false }
def FnStopsPartSaid : Prop := fnStopsPartRow.holds Try.pinned (OpenSpec.ofChange fnStopsPartSpec)

/-- ITS FALSE NEIGHBOUR: 'it returns false'. Refute it at one input. -/
def fnStopsPartWrong : ChangeSpec := { name := "fnStopsPart", fn := fun _ => fun
  | [d] => { results := [.lit (.bool false)], args := [d] }
  | _ => none }
def FnStopsPartWrongFalsely : Prop := fnStopsPartRow.holds Try.pinned (OpenSpec.ofChange fnStopsPartWrong)

/-- 'laws.FnStopsAt': WHATEVER THE INPUT: true; the input reads as it did. -/
def fnStopsAtSpec : ChangeSpec := { name := "fnStopsAt", fn := fun _ => fun
  | [d] => { results := [.lit (.bool true)], args := [d] }
  | _ => none }
def fnStopsAtRow : OpenClaim := { program := "ytfdaaeapfeajjaa", sum := "46dd37f1fe3ab42cc61d47394da6bb6c088dfe3cfebe5fb86859afda2ca6411b", func := "loop.example/mailcoaches/laws.FnStopsAt", spec := "fnStopsAt", apart := false }
def FnStopsAtSaid : Prop := fnStopsAtRow.holds Try.pinned (OpenSpec.ofChange fnStopsAtSpec)

/-- ITS FALSE NEIGHBOUR: 'it returns false'. Refute it at one input. -/
def fnStopsAtWrong : ChangeSpec := { name := "fnStopsAt", fn := fun _ => fun
  | [d] => { results := [.lit (.bool false)], args := [d] }
  | _ => none }
def FnStopsAtWrongFalsely : Prop := fnStopsAtRow.holds Try.pinned (OpenSpec.ofChange fnStopsAtWrong)

/-- 'laws.FnStopsMeet': WHATEVER THE INPUT: true; the input reads as it did. -/
def fnStopsMeetSpec : ChangeSpec := { name := "fnStopsMeet", fn := fun _ => fun
  | [d] => { results := [.lit (.bool true)], args := [d] }
  | _ => none }
def fnStopsMeetRow : OpenClaim := { program := "ytfdaaeapfeajjaa", sum := "46dd37f1fe3ab42cc61d47394da6bb6c088dfe3cfebe5fb86859afda2ca6411b", func := "loop.example/mailcoaches/laws.FnStopsMeet", spec := "fnStopsMeet", apart := false }
def FnStopsMeetSaid : Prop := fnStopsMeetRow.holds Try.pinned (OpenSpec.ofChange fnStopsMeetSpec)

/-- ITS FALSE NEIGHBOUR: 'it returns false'. Refute it at one input. -/
def fnStopsMeetWrong : ChangeSpec := { name := "fnStopsMeet", fn := fun _ => fun
  | [d] => { results := [.lit (.bool false)], args := [d] }
  | _ => none }
def FnStopsMeetWrongFalsely : Prop := fnStopsMeetRow.holds Try.pinned (OpenSpec.ofChange fnStopsMeetWrong)

/-- 'laws.FnDirect': WHATEVER THE INPUT: true; the input reads as it did. -/
def fnDirectSpec : ChangeSpec := { name := "fnDirect", fn := fun _ => fun
  | [d] => { results := [.lit (.bool true)], args := [d] }
  | _ => none }
def fnDirectRow : OpenClaim := { program := "ytfdaaeapfeajjaa", sum := "46dd37f1fe3ab42cc61d47394da6bb6c088dfe3cfebe5fb86859afda2ca6411b", func := "loop.example/mailcoaches/laws.FnDirect", spec := "fnDirect", unfollowed := true, recurses := true, apart := false }
def FnDirectSaid : Prop := fnDirectRow.holds Try.pinned (OpenSpec.ofChange fnDirectSpec)

/-- ITS FALSE NEIGHBOUR: 'it returns false'. Refute it at one input. -/
def fnDirectWrong : ChangeSpec := { name := "fnDirect", fn := fun _ => fun
  | [d] => { results := [.lit (.bool false)], args := [d] }
  | _ => none }
def FnDirectWrongFalsely : Prop := fnDirectRow.holds Try.pinned (OpenSpec.ofChange fnDirectWrong)

/-- 'laws.FnSeatsTaken': WHATEVER THE INPUT: true; the input reads as it did. -/
def fnSeatsTakenSpec : ChangeSpec := { name := "fnSeatsTaken", fn := fun _ => fun
  | [d] => { results := [.lit (.bool true)], args := [d] }
  | _ => none }
def fnSeatsTakenRow : OpenClaim := { program := "ytfdaaeapfeajjaa", sum := "46dd37f1fe3ab42cc61d47394da6bb6c088dfe3cfebe5fb86859afda2ca6411b", func := "loop.example/mailcoaches/laws.FnSeatsTaken", spec := "fnSeatsTaken", unfollowed := true, recurses := true, apart := false }
def FnSeatsTakenSaid : Prop := fnSeatsTakenRow.holds Try.pinned (OpenSpec.ofChange fnSeatsTakenSpec)

/-- ITS FALSE NEIGHBOUR: 'it returns false'. Refute it at one input. -/
def fnSeatsTakenWrong : ChangeSpec := { name := "fnSeatsTaken", fn := fun _ => fun
  | [d] => { results := [.lit (.bool false)], args := [d] }
  | _ => none }
def FnSeatsTakenWrongFalsely : Prop := fnSeatsTakenRow.holds Try.pinned (OpenSpec.ofChange fnSeatsTakenWrong)

/- THE SECOND FORM. 'bulk': how many values and letters a reading holds, each counted each time it is reached (what is shared counts as often as it is met; a slice's spare places count too). A statement '..UptoSaid' is the law's where the arguments, and the package variables that the reading takes, are together of bulk at most 1048576: NARROWER than '..Said'. Prove '..Said' where nothing that the law and all that it calls make is longer than what came in: it says more and counts as full. Else prove '..UptoSaid'. A law counts once. -/
mutual
def uptoBulk {H : Type} : DataW H → Nat
  | .lit (.string bytes) => bytes.length + 1
  | .lit _ => 1
  | .nil => 1
  | .ptr d => uptoBulk d + 1
  | .slice elems spare => uptoBulkAll elems + uptoBulkAll spare + 1
  | .agg parts => uptoBulkAll parts + 1
  | .iface _ d => uptoBulk d + 1
  | .map entries => uptoBulkEntries entries + 1
  | .held _ => 1
def uptoBulkAll {H : Type} : List (DataW H) → Nat
  | [] => 0
  | d :: r => uptoBulk d + uptoBulkAll r
def uptoBulkEntries {H : Type} : List (Lit × DataW H) → Nat
  | [] => 0
  | x :: r => uptoBulkEntry x + uptoBulkEntries r
def uptoBulkEntry {H : Type} : Lit × DataW H → Nat
  | (.string bytes, d) => bytes.length + uptoBulk d + 1
  | (_, d) => uptoBulk d + 1
 end
def uptoSmall : (H : Type) → List (DataW H) → Bool := fun _ ds => decide (uptoBulkAll ds ≤ 1048576)
def OpenSpec.upto (s : _root_.Go.ChangeSpec) : _root_.Go.OpenSpec := { _root_.Go.OpenSpec.ofChange s with cond := some uptoSmall }

/-- 'laws.FnStopsLater', WHERE WHAT IT READS IS OF BULK AT MOST 1048576: true; the input reads as it did. -/
def fnStopsLaterUptoRow : OpenClaim := { program := "ytfdaaeapfeajjaa", sum := "46dd37f1fe3ab42cc61d47394da6bb6c088dfe3cfebe5fb86859afda2ca6411b", func := "loop.example/mailcoaches/laws.FnStopsLater", spec := "fnStopsLater", apart := false, narrowed := true }
def FnStopsLaterUptoSaid : Prop := fnStopsLaterUptoRow.holds Try.pinned (OpenSpec.upto fnStopsLaterSpec)

/-- 'laws.FnStopsPart', WHERE WHAT IT READS IS OF BULK AT MOST 1048576: true; the input reads as it did. -/
def fnStopsPartUptoRow : OpenClaim := { program := "ytfdaaeapfeajjaa", sum := "46dd37f1fe3ab42cc61d47394da6bb6c088dfe3cfebe5fb86859afda2ca6411b", func := "loop.example/mailcoaches/laws.FnStopsPart", spec := "fnStopsPart", apart := false, narrowed := true }
def FnStopsPartUptoSaid : Prop := fnStopsPartUptoRow.holds Try.pinned (OpenSpec.upto fnStopsPartSpec)

/-- 'laws.FnStopsAt', WHERE WHAT IT READS IS OF BULK AT MOST 1048576: true; the input reads as it did. -/
def fnStopsAtUptoRow : OpenClaim := { program := "ytfdaaeapfeajjaa", sum := "46dd37f1fe3ab42cc61d47394da6bb6c088dfe3cfebe5fb86859afda2ca6411b", func := "loop.example/mailcoaches/laws.FnStopsAt", spec := "fnStopsAt", apart := false, narrowed := true }
def FnStopsAtUptoSaid : Prop := fnStopsAtUptoRow.holds Try.pinned (OpenSpec.upto fnStopsAtSpec)

/-- 'laws.FnStopsMeet', WHERE WHAT IT READS IS OF BULK AT MOST 1048576: true; the input reads as it did. -/
def fnStopsMeetUptoRow : OpenClaim := { program := "ytfdaaeapfeajjaa", sum := "46dd37f1fe3ab42cc61d47394da6bb6c088dfe3cfebe5fb86859afda2ca6411b", func := "loop.example/mailcoaches/laws.FnStopsMeet", spec := "fnStopsMeet", apart := false, narrowed := true }
def FnStopsMeetUptoSaid : Prop := fnStopsMeetUptoRow.holds Try.pinned (OpenSpec.upto fnStopsMeetSpec)

/-- 'laws.FnDirect', WHERE WHAT IT READS IS OF BULK AT MOST 1048576: true; the input reads as it did. -/
def fnDirectUptoRow : OpenClaim := { program := "ytfdaaeapfeajjaa", sum := "46dd37f1fe3ab42cc61d47394da6bb6c088dfe3cfebe5fb86859afda2ca6411b", func := "loop.example/mailcoaches/laws.FnDirect", spec := "fnDirect", unfollowed := true, recurses := true, apart := false, narrowed := true }
def FnDirectUptoSaid : Prop := fnDirectUptoRow.holds Try.pinned (OpenSpec.upto fnDirectSpec)

/-- 'laws.FnSeatsTaken', WHERE WHAT IT READS IS OF BULK AT MOST 1048576: true; the input reads as it did. -/
def fnSeatsTakenUptoRow : OpenClaim := { program := "ytfdaaeapfeajjaa", sum := "46dd37f1fe3ab42cc61d47394da6bb6c088dfe3cfebe5fb86859afda2ca6411b", func := "loop.example/mailcoaches/laws.FnSeatsTaken", spec := "fnSeatsTaken", unfollowed := true, recurses := true, apart := false, narrowed := true }
def FnSeatsTakenUptoSaid : Prop := fnSeatsTakenUptoRow.holds Try.pinned (OpenSpec.upto fnSeatsTakenSpec)

end Rows
end Go.Proofs.Ytfdaaeapfeajjaa
