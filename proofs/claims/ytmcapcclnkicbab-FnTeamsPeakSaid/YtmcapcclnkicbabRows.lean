/-
  No cell of these rows narrows 'for every input' (looked for: loops, veiled, ifaces, maps, wideKeys, modest, calm, conditions, laid).
  DERIVED. THE GIVEN ROWS OF THIS SEAT. 4 by the template 'for every input the law returns true; each argument reads behind the call as it read before'; 0 by the template 'total and deterministic' (their statements: YtmcapcclnkicbabTotals.lean).
  GIVEN WITH THE SEED: the statements are not yours to turn. If you find one false, say at which input.
  Laid BY PROGRAM, IN A SANDBOX (cutbox-rows.mjs): the forced cells as the released guide's own fill.sh prints them over the translation 3682a2b904c7fbd2… (all of the seat's roots in one cut). By AI agents, Wed Nov 11 2026. No macro, syntax, notation, axiom, sorry.
-/
import Derived.Test.YtmcapcclnkicbabChecked
import GoSem.Claim
import GoSem.ClaimJoined
import GoSem.ClaimMapViews
import Derived.JoinedTies
import Derived.KernelRfl
namespace Go.Proofs.Ytmcapcclnkicbab
/- THE CELL 'sum', in the pinned program and in every row, IS THE sha256 OF THE DUMP (.gsa) THAT YtmcapcclnkicbabProg.lean LOADS. Nothing in Lean hashes anything: it is a label: what it is worth is what the hold of that sum in a sandbox is worth. -/
noncomputable def Try.pinned : Pinned := { name := "ytmcapcclnkicbab", sum := "3682a2b904c7fbd2063bfbb921200e3642e7b85d563785ee24f2bea0ac9ae813", checked := Try.checked }
namespace Rows
def none {H : Type} : Left H := { results := [], args := [] }

/-- 'laws.FnTeamsLeast': WHATEVER THE INPUT: true; the input reads as it did. -/
def fnTeamsLeastSpec : ChangeSpec := { name := "fnTeamsLeast", fn := fun _ => fun
  | [d] => { results := [.lit (.bool true)], args := [d] }
  | _ => none }
def fnTeamsLeastRow : OpenClaim := { program := "ytmcapcclnkicbab", sum := "3682a2b904c7fbd2063bfbb921200e3642e7b85d563785ee24f2bea0ac9ae813", func := "loop.example/mailcoaches/laws.FnTeamsLeast", spec := "fnTeamsLeast", unfollowed := true, recurses := true, apart := false }
def FnTeamsLeastSaid : Prop := fnTeamsLeastRow.holds Try.pinned (OpenSpec.ofChange fnTeamsLeastSpec)

/-- ITS FALSE NEIGHBOUR: 'it returns false'. Refute it at one input. -/
def fnTeamsLeastWrong : ChangeSpec := { name := "fnTeamsLeast", fn := fun _ => fun
  | [d] => { results := [.lit (.bool false)], args := [d] }
  | _ => none }
def FnTeamsLeastWrongFalsely : Prop := fnTeamsLeastRow.holds Try.pinned (OpenSpec.ofChange fnTeamsLeastWrong)

/-- 'laws.FnTeamsBusy': WHATEVER THE INPUT: true; the input reads as it did. -/
def fnTeamsBusySpec : ChangeSpec := { name := "fnTeamsBusy", fn := fun _ => fun
  | [d1, d2] => { results := [.lit (.bool true)], args := [d1, d2] }
  | _ => none }
def fnTeamsBusyRow : OpenClaim := { program := "ytmcapcclnkicbab", sum := "3682a2b904c7fbd2063bfbb921200e3642e7b85d563785ee24f2bea0ac9ae813", func := "loop.example/mailcoaches/laws.FnTeamsBusy", spec := "fnTeamsBusy", unfollowed := true, recurses := true, apart := false }
def FnTeamsBusySaid : Prop := fnTeamsBusyRow.holds Try.pinned (OpenSpec.ofChange fnTeamsBusySpec)

/-- ITS FALSE NEIGHBOUR: 'it returns false'. Refute it at one input. -/
def fnTeamsBusyWrong : ChangeSpec := { name := "fnTeamsBusy", fn := fun _ => fun
  | [d1, d2] => { results := [.lit (.bool false)], args := [d1, d2] }
  | _ => none }
def FnTeamsBusyWrongFalsely : Prop := fnTeamsBusyRow.holds Try.pinned (OpenSpec.ofChange fnTeamsBusyWrong)

/-- 'laws.FnTeamsPeak': WHATEVER THE INPUT: true; the input reads as it did. -/
def fnTeamsPeakSpec : ChangeSpec := { name := "fnTeamsPeak", fn := fun _ => fun
  | [d] => { results := [.lit (.bool true)], args := [d] }
  | _ => none }
def fnTeamsPeakRow : OpenClaim := { program := "ytmcapcclnkicbab", sum := "3682a2b904c7fbd2063bfbb921200e3642e7b85d563785ee24f2bea0ac9ae813", func := "loop.example/mailcoaches/laws.FnTeamsPeak", spec := "fnTeamsPeak", unfollowed := true, recurses := true, apart := false }
def FnTeamsPeakSaid : Prop := fnTeamsPeakRow.holds Try.pinned (OpenSpec.ofChange fnTeamsPeakSpec)

/-- ITS FALSE NEIGHBOUR: 'it returns false'. Refute it at one input. -/
def fnTeamsPeakWrong : ChangeSpec := { name := "fnTeamsPeak", fn := fun _ => fun
  | [d] => { results := [.lit (.bool false)], args := [d] }
  | _ => none }
def FnTeamsPeakWrongFalsely : Prop := fnTeamsPeakRow.holds Try.pinned (OpenSpec.ofChange fnTeamsPeakWrong)

/-- 'laws.FnRestMost': WHATEVER THE INPUT: true; the input reads as it did. -/
def fnRestMostSpec : ChangeSpec := { name := "fnRestMost", fn := fun _ => fun
  | [d] => { results := [.lit (.bool true)], args := [d] }
  | _ => none }
def fnRestMostRow : OpenClaim := { program := "ytmcapcclnkicbab", sum := "3682a2b904c7fbd2063bfbb921200e3642e7b85d563785ee24f2bea0ac9ae813", func := "loop.example/mailcoaches/laws.FnRestMost", spec := "fnRestMost", unfollowed := true, recurses := true, apart := false }
def FnRestMostSaid : Prop := fnRestMostRow.holds Try.pinned (OpenSpec.ofChange fnRestMostSpec)

/-- ITS FALSE NEIGHBOUR: 'it returns false'. Refute it at one input. -/
def fnRestMostWrong : ChangeSpec := { name := "fnRestMost", fn := fun _ => fun
  | [d] => { results := [.lit (.bool false)], args := [d] }
  | _ => none }
def FnRestMostWrongFalsely : Prop := fnRestMostRow.holds Try.pinned (OpenSpec.ofChange fnRestMostWrong)

/- THE SECOND FORM. 'bulk': how many values and letters a reading holds, each counted each time it is reached (what is shared counts as often as it is met; a slice's spare places count too). A statement '..UptoSaid' is the law's where the arguments, and the package variables that the reading takes, are together of bulk at most 1048576: NARROWER than '..Said'. Prove '..Said' where nothing that the law and all that it calls make is longer than what came in: it says more and counts as full. Else prove '..UptoSaid'. A law counts once. -/
mutual
def uptoBulk {H : Type} : DataW H → Nat
  | .lit (.string bytes) => bytes.length + 1
  | .lit _ => 1
  | .nil => 1
  | .ptr d => uptoBulk d + 1
  | .slice elems spare => uptoBulkAll elems + uptoBulkAll spare + 1
  | .agg parts => uptoBulkAll parts + 1
  | .iface _ d => uptoBulk d + 1
  | .map entries => uptoBulkEntries entries + 1
  | .held _ => 1
def uptoBulkAll {H : Type} : List (DataW H) → Nat
  | [] => 0
  | d :: r => uptoBulk d + uptoBulkAll r
def uptoBulkEntries {H : Type} : List (Lit × DataW H) → Nat
  | [] => 0
  | x :: r => uptoBulkEntry x + uptoBulkEntries r
def uptoBulkEntry {H : Type} : Lit × DataW H → Nat
  | (.string bytes, d) => bytes.length + uptoBulk d + 1
  | (_, d) => uptoBulk d + 1
 end
def uptoSmall : (H : Type) → List (DataW H) → Bool := fun _ ds => decide (uptoBulkAll ds ≤ 1048576)
def OpenSpec.upto (s : _root_.Go.ChangeSpec) : _root_.Go.OpenSpec := { _root_.Go.OpenSpec.ofChange s with cond := some uptoSmall }

/-- 'laws.FnTeamsLeast', WHERE WHAT IT READS IS OF BULK AT MOST 1048576: true; the input reads as it did. -/
def fnTeamsLeastUptoRow : OpenClaim := { program := "ytmcapcclnkicbab", sum := "3682a2b904c7fbd2063bfbb921200e3642e7b85d563785ee24f2bea0ac9ae813", func := "loop.example/mailcoaches/laws.FnTeamsLeast", spec := "fnTeamsLeast", unfollowed := true, recurses := true, apart := false, narrowed := true }
def FnTeamsLeastUptoSaid : Prop := fnTeamsLeastUptoRow.holds Try.pinned (OpenSpec.upto fnTeamsLeastSpec)

/-- 'laws.FnTeamsBusy', WHERE WHAT IT READS IS OF BULK AT MOST 1048576: true; the input reads as it did. -/
def fnTeamsBusyUptoRow : OpenClaim := { program := "ytmcapcclnkicbab", sum := "3682a2b904c7fbd2063bfbb921200e3642e7b85d563785ee24f2bea0ac9ae813", func := "loop.example/mailcoaches/laws.FnTeamsBusy", spec := "fnTeamsBusy", unfollowed := true, recurses := true, apart := false, narrowed := true }
def FnTeamsBusyUptoSaid : Prop := fnTeamsBusyUptoRow.holds Try.pinned (OpenSpec.upto fnTeamsBusySpec)

/-- 'laws.FnTeamsPeak', WHERE WHAT IT READS IS OF BULK AT MOST 1048576: true; the input reads as it did. -/
def fnTeamsPeakUptoRow : OpenClaim := { program := "ytmcapcclnkicbab", sum := "3682a2b904c7fbd2063bfbb921200e3642e7b85d563785ee24f2bea0ac9ae813", func := "loop.example/mailcoaches/laws.FnTeamsPeak", spec := "fnTeamsPeak", unfollowed := true, recurses := true, apart := false, narrowed := true }
def FnTeamsPeakUptoSaid : Prop := fnTeamsPeakUptoRow.holds Try.pinned (OpenSpec.upto fnTeamsPeakSpec)

/-- 'laws.FnRestMost', WHERE WHAT IT READS IS OF BULK AT MOST 1048576: true; the input reads as it did. -/
def fnRestMostUptoRow : OpenClaim := { program := "ytmcapcclnkicbab", sum := "3682a2b904c7fbd2063bfbb921200e3642e7b85d563785ee24f2bea0ac9ae813", func := "loop.example/mailcoaches/laws.FnRestMost", spec := "fnRestMost", unfollowed := true, recurses := true, apart := false, narrowed := true }
def FnRestMostUptoSaid : Prop := fnRestMostUptoRow.holds Try.pinned (OpenSpec.upto fnRestMostSpec)

end Rows
end Go.Proofs.Ytmcapcclnkicbab
