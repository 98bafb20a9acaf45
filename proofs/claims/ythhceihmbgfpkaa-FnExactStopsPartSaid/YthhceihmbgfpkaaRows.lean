/-
  No cell of these rows narrows 'for every input' (looked for: loops, veiled, ifaces, maps, wideKeys, modest, calm, conditions, laid).
  DERIVED. THE GIVEN ROWS OF THIS SEAT. 12 by the template 'for every input the law returns true; each argument reads behind the call as it read before'; 0 by the template 'total and deterministic' (their statements: YthhceihmbgfpkaaTotals.lean).
  GIVEN WITH THE SEED: the statements are not yours to turn. If you find one false, say at which input.
  Laid BY PROGRAM, IN A SANDBOX (cutbox-rows.mjs): the forced cells as the released guide's own fill.sh prints them over the translation f516c0089b9e3af6… (all of the seat's roots in one cut). By AI agents, Wed Nov 11 2026. No macro, syntax, notation, axiom, sorry.
-/
import Derived.Test.YthhceihmbgfpkaaChecked
import GoSem.Claim
import GoSem.ClaimJoined
import GoSem.ClaimMapViews
import Derived.JoinedTies
import Derived.KernelRfl
namespace Go.Proofs.Ythhceihmbgfpkaa
/- THE CELL 'sum', in the pinned program and in every row, IS THE sha256 OF THE DUMP (.gsa) THAT YthhceihmbgfpkaaProg.lean LOADS. Nothing in Lean hashes anything: it is a label: what it is worth is what the hold of that sum in a sandbox is worth. -/
noncomputable def Try.pinned : Pinned := { name := "ythhceihmbgfpkaa", sum := "f516c0089b9e3af6b753a6012bf583fd9fe8c9641bbca791fb139405ec9bf78e", checked := Try.checked }
namespace Rows
def none {H : Type} : Left H := { results := [], args := [] }

/-- 'laws.FnExactClockFrom': WHATEVER THE INPUT: true; the input reads as it did. -/
def fnExactClockFromSpec : ChangeSpec := { name := "fnExactClockFrom", fn := fun _ => fun
  | [d] => { results := [.lit (.bool true)], args := [d] }
  | _ => none }
def fnExactClockFromRow : OpenClaim := { program := "ythhceihmbgfpkaa", sum := "f516c0089b9e3af6b753a6012bf583fd9fe8c9641bbca791fb139405ec9bf78e", func := "loop.example/mailcoaches/laws.FnExactClockFrom", spec := "fnExactClockFrom", recurses := true, apart := false }
def FnExactClockFromSaid : Prop := fnExactClockFromRow.holds Try.pinned (OpenSpec.ofChange fnExactClockFromSpec)

/-- ITS FALSE NEIGHBOUR: 'it returns false'. Refute it at one input. -/
def fnExactClockFromWrong : ChangeSpec := { name := "fnExactClockFrom", fn := fun _ => fun
  | [d] => { results := [.lit (.bool false)], args := [d] }
  | _ => none }
def FnExactClockFromWrongFalsely : Prop := fnExactClockFromRow.holds Try.pinned (OpenSpec.ofChange fnExactClockFromWrong)

/-- 'laws.FnExactClockLocal': WHATEVER THE INPUT: true; the input reads as it did. -/
def fnExactClockLocalSpec : ChangeSpec := { name := "fnExactClockLocal", fn := fun _ => fun
  | [d1, d2] => { results := [.lit (.bool true)], args := [d1, d2] }
  | _ => none }
def fnExactClockLocalRow : OpenClaim := { program := "ythhceihmbgfpkaa", sum := "f516c0089b9e3af6b753a6012bf583fd9fe8c9641bbca791fb139405ec9bf78e", func := "loop.example/mailcoaches/laws.FnExactClockLocal", spec := "fnExactClockLocal", apart := false }
def FnExactClockLocalSaid : Prop := fnExactClockLocalRow.holds Try.pinned (OpenSpec.ofChange fnExactClockLocalSpec)

/-- ITS FALSE NEIGHBOUR: 'it returns false'. Refute it at one input. -/
def fnExactClockLocalWrong : ChangeSpec := { name := "fnExactClockLocal", fn := fun _ => fun
  | [d1, d2] => { results := [.lit (.bool false)], args := [d1, d2] }
  | _ => none }
def FnExactClockLocalWrongFalsely : Prop := fnExactClockLocalRow.holds Try.pinned (OpenSpec.ofChange fnExactClockLocalWrong)

/-- 'laws.FnExactClockUntil': WHATEVER THE INPUT: true; the input reads as it did. -/
def fnExactClockUntilSpec : ChangeSpec := { name := "fnExactClockUntil", fn := fun _ => fun
  | [d1, d2] => { results := [.lit (.bool true)], args := [d1, d2] }
  | _ => none }
def fnExactClockUntilRow : OpenClaim := { program := "ythhceihmbgfpkaa", sum := "f516c0089b9e3af6b753a6012bf583fd9fe8c9641bbca791fb139405ec9bf78e", func := "loop.example/mailcoaches/laws.FnExactClockUntil", spec := "fnExactClockUntil", apart := false }
def FnExactClockUntilSaid : Prop := fnExactClockUntilRow.holds Try.pinned (OpenSpec.ofChange fnExactClockUntilSpec)

/-- ITS FALSE NEIGHBOUR: 'it returns false'. Refute it at one input. -/
def fnExactClockUntilWrong : ChangeSpec := { name := "fnExactClockUntil", fn := fun _ => fun
  | [d1, d2] => { results := [.lit (.bool false)], args := [d1, d2] }
  | _ => none }
def FnExactClockUntilWrongFalsely : Prop := fnExactClockUntilRow.holds Try.pinned (OpenSpec.ofChange fnExactClockUntilWrong)

/-- 'laws.FnExactStopsValid': WHATEVER THE INPUT: true; the input reads as it did. -/
def fnExactStopsValidSpec : ChangeSpec := { name := "fnExactStopsValid", fn := fun _ => fun
  | [d1, d2] => { results := [.lit (.bool true)], args := [d1, d2] }
  | _ => none }
def fnExactStopsValidRow : OpenClaim := { program := "ythhceihmbgfpkaa", sum := "f516c0089b9e3af6b753a6012bf583fd9fe8c9641bbca791fb139405ec9bf78e", func := "loop.example/mailcoaches/laws.FnExactStopsValid", spec := "fnExactStopsValid", apart := false }
def FnExactStopsValidSaid : Prop := fnExactStopsValidRow.holds Try.pinned (OpenSpec.ofChange fnExactStopsValidSpec)

/-- ITS FALSE NEIGHBOUR: 'it returns false'. Refute it at one input. -/
def fnExactStopsValidWrong : ChangeSpec := { name := "fnExactStopsValid", fn := fun _ => fun
  | [d1, d2] => { results := [.lit (.bool false)], args := [d1, d2] }
  | _ => none }
def FnExactStopsValidWrongFalsely : Prop := fnExactStopsValidRow.holds Try.pinned (OpenSpec.ofChange fnExactStopsValidWrong)

/-- 'laws.FnExactStopsRun': WHATEVER THE INPUT: true; the input reads as it did. -/
def fnExactStopsRunSpec : ChangeSpec := { name := "fnExactStopsRun", fn := fun _ => fun
  | [d1, d2] => { results := [.lit (.bool true)], args := [d1, d2] }
  | _ => none }
def fnExactStopsRunRow : OpenClaim := { program := "ythhceihmbgfpkaa", sum := "f516c0089b9e3af6b753a6012bf583fd9fe8c9641bbca791fb139405ec9bf78e", func := "loop.example/mailcoaches/laws.FnExactStopsRun", spec := "fnExactStopsRun", apart := false }
def FnExactStopsRunSaid : Prop := fnExactStopsRunRow.holds Try.pinned (OpenSpec.ofChange fnExactStopsRunSpec)

/-- ITS FALSE NEIGHBOUR: 'it returns false'. Refute it at one input. -/
def fnExactStopsRunWrong : ChangeSpec := { name := "fnExactStopsRun", fn := fun _ => fun
  | [d1, d2] => { results := [.lit (.bool false)], args := [d1, d2] }
  | _ => none }
def FnExactStopsRunWrongFalsely : Prop := fnExactStopsRunRow.holds Try.pinned (OpenSpec.ofChange fnExactStopsRunWrong)

/-- 'laws.FnExactStopsWait': WHATEVER THE INPUT: true; the input reads as it did. -/
def fnExactStopsWaitSpec : ChangeSpec := { name := "fnExactStopsWait", fn := fun _ => fun
  | [d1, d2] => { results := [.lit (.bool true)], args := [d1, d2] }
  | _ => none }
def fnExactStopsWaitRow : OpenClaim := { program := "ythhceihmbgfpkaa", sum := "f516c0089b9e3af6b753a6012bf583fd9fe8c9641bbca791fb139405ec9bf78e", func := "loop.example/mailcoaches/laws.FnExactStopsWait", spec := "fnExactStopsWait", apart := false }
def FnExactStopsWaitSaid : Prop := fnExactStopsWaitRow.holds Try.pinned (OpenSpec.ofChange fnExactStopsWaitSpec)

/-- ITS FALSE NEIGHBOUR: 'it returns false'. Refute it at one input. -/
def fnExactStopsWaitWrong : ChangeSpec := { name := "fnExactStopsWait", fn := fun _ => fun
  | [d1, d2] => { results := [.lit (.bool false)], args := [d1, d2] }
  | _ => none }
def FnExactStopsWaitWrongFalsely : Prop := fnExactStopsWaitRow.holds Try.pinned (OpenSpec.ofChange fnExactStopsWaitWrong)

/-- 'laws.FnExactStopsLater': WHATEVER THE INPUT: true; the input reads as it did. -/
def fnExactStopsLaterSpec : ChangeSpec := { name := "fnExactStopsLater", fn := fun _ => fun
  | [d1, d2, d3] => { results := [.lit (.bool true)], args := [d1, d2, d3] }
  | _ => none }
def fnExactStopsLaterRow : OpenClaim := { program := "ythhceihmbgfpkaa", sum := "f516c0089b9e3af6b753a6012bf583fd9fe8c9641bbca791fb139405ec9bf78e", func := "loop.example/mailcoaches/laws.FnExactStopsLater", spec := "fnExactStopsLater", apart := false }
def FnExactStopsLaterSaid : Prop := fnExactStopsLaterRow.holds Try.pinned (OpenSpec.ofChange fnExactStopsLaterSpec)

/-- ITS FALSE NEIGHBOUR: 'it returns false'. Refute it at one input. -/
def fnExactStopsLaterWrong : ChangeSpec := { name := "fnExactStopsLater", fn := fun _ => fun
  | [d1, d2, d3] => { results := [.lit (.bool false)], args := [d1, d2, d3] }
  | _ => none }
def FnExactStopsLaterWrongFalsely : Prop := fnExactStopsLaterRow.holds Try.pinned (OpenSpec.ofChange fnExactStopsLaterWrong)

/-- 'laws.FnExactStopsBack': WHATEVER THE INPUT: true; the input reads as it did. -/
def fnExactStopsBackSpec : ChangeSpec := { name := "fnExactStopsBack", fn := fun _ => fun
  | [d1, d2, d3] => { results := [.lit (.bool true)], args := [d1, d2, d3] }
  | _ => none }
def fnExactStopsBackRow : OpenClaim := { program := "ythhceihmbgfpkaa", sum := "f516c0089b9e3af6b753a6012bf583fd9fe8c9641bbca791fb139405ec9bf78e", func := "loop.example/mailcoaches/laws.FnExactStopsBack", spec := "fnExactStopsBack", apart := false }
def FnExactStopsBackSaid : Prop := fnExactStopsBackRow.holds Try.pinned (OpenSpec.ofChange fnExactStopsBackSpec)

/-- ITS FALSE NEIGHBOUR: 'it returns false'. Refute it at one input. -/
def fnExactStopsBackWrong : ChangeSpec := { name := "fnExactStopsBack", fn := fun _ => fun
  | [d1, d2, d3] => { results := [.lit (.bool false)], args := [d1, d2, d3] }
  | _ => none }
def FnExactStopsBackWrongFalsely : Prop := fnExactStopsBackRow.holds Try.pinned (OpenSpec.ofChange fnExactStopsBackWrong)

/-- 'laws.FnExactStopsAt': WHATEVER THE INPUT: true; the input reads as it did. -/
def fnExactStopsAtSpec : ChangeSpec := { name := "fnExactStopsAt", fn := fun _ => fun
  | [d1, d2, d3] => { results := [.lit (.bool true)], args := [d1, d2, d3] }
  | _ => none }
def fnExactStopsAtRow : OpenClaim := { program := "ythhceihmbgfpkaa", sum := "f516c0089b9e3af6b753a6012bf583fd9fe8c9641bbca791fb139405ec9bf78e", func := "loop.example/mailcoaches/laws.FnExactStopsAt", spec := "fnExactStopsAt", apart := false }
def FnExactStopsAtSaid : Prop := fnExactStopsAtRow.holds Try.pinned (OpenSpec.ofChange fnExactStopsAtSpec)

/-- ITS FALSE NEIGHBOUR: 'it returns false'. Refute it at one input. -/
def fnExactStopsAtWrong : ChangeSpec := { name := "fnExactStopsAt", fn := fun _ => fun
  | [d1, d2, d3] => { results := [.lit (.bool false)], args := [d1, d2, d3] }
  | _ => none }
def FnExactStopsAtWrongFalsely : Prop := fnExactStopsAtRow.holds Try.pinned (OpenSpec.ofChange fnExactStopsAtWrong)

/-- 'laws.FnExactStopsPart': WHATEVER THE INPUT: true; the input reads as it did. -/
def fnExactStopsPartSpec : ChangeSpec := { name := "fnExactStopsPart", fn := fun _ => fun
  | [d1, d2, d3, d4] => { results := [.lit (.bool true)], args := [d1, d2, d3, d4] }
  | _ => none }
def fnExactStopsPartRow : OpenClaim := { program := "ythhceihmbgfpkaa", sum := "f516c0089b9e3af6b753a6012bf583fd9fe8c9641bbca791fb139405ec9bf78e", func := "loop.example/mailcoaches/laws.FnExactStopsPart", spec := "fnExactStopsPart", apart := false }
def FnExactStopsPartSaid : Prop := fnExactStopsPartRow.holds Try.pinned (OpenSpec.ofChange fnExactStopsPartSpec)

/-- ITS FALSE NEIGHBOUR: 'it returns false'. Refute it at one input. -/
def fnExactStopsPartWrong : ChangeSpec := { name := "fnExactStopsPart", fn := fun _ => fun
  | [d1, d2, d3, d4] => { results := [.lit (.bool false)], args := [d1, d2, d3, d4] }
  | _ => none }
def FnExactStopsPartWrongFalsely : Prop := fnExactStopsPartRow.holds Try.pinned (OpenSpec.ofChange fnExactStopsPartWrong)

/-- 'laws.FnExactStopsWhere': WHATEVER THE INPUT: true; the input reads as it did. -/
def fnExactStopsWhereSpec : ChangeSpec := { name := "fnExactStopsWhere", fn := fun _ => fun
  | [d1, d2, d3] => { results := [.lit (.bool true)], args := [d1, d2, d3] }
  | _ => none }
def fnExactStopsWhereRow : OpenClaim := { program := "ythhceihmbgfpkaa", sum := "f516c0089b9e3af6b753a6012bf583fd9fe8c9641bbca791fb139405ec9bf78e", func := "loop.example/mailcoaches/laws.FnExactStopsWhere", spec := "fnExactStopsWhere", apart := false }
def FnExactStopsWhereSaid : Prop := fnExactStopsWhereRow.holds Try.pinned (OpenSpec.ofChange fnExactStopsWhereSpec)

/-- ITS FALSE NEIGHBOUR: 'it returns false'. Refute it at one input. -/
def fnExactStopsWhereWrong : ChangeSpec := { name := "fnExactStopsWhere", fn := fun _ => fun
  | [d1, d2, d3] => { results := [.lit (.bool false)], args := [d1, d2, d3] }
  | _ => none }
def FnExactStopsWhereWrongFalsely : Prop := fnExactStopsWhereRow.holds Try.pinned (OpenSpec.ofChange fnExactStopsWhereWrong)

/-- 'laws.FnExactStopsMeet': WHATEVER THE INPUT: true; the input reads as it did. -/
def fnExactStopsMeetSpec : ChangeSpec := { name := "fnExactStopsMeet", fn := fun _ => fun
  | [d1, d2, d3] => { results := [.lit (.bool true)], args := [d1, d2, d3] }
  | _ => none }
def fnExactStopsMeetRow : OpenClaim := { program := "ythhceihmbgfpkaa", sum := "f516c0089b9e3af6b753a6012bf583fd9fe8c9641bbca791fb139405ec9bf78e", func := "loop.example/mailcoaches/laws.FnExactStopsMeet", spec := "fnExactStopsMeet", apart := false }
def FnExactStopsMeetSaid : Prop := fnExactStopsMeetRow.holds Try.pinned (OpenSpec.ofChange fnExactStopsMeetSpec)

/-- ITS FALSE NEIGHBOUR: 'it returns false'. Refute it at one input. -/
def fnExactStopsMeetWrong : ChangeSpec := { name := "fnExactStopsMeet", fn := fun _ => fun
  | [d1, d2, d3] => { results := [.lit (.bool false)], args := [d1, d2, d3] }
  | _ => none }
def FnExactStopsMeetWrongFalsely : Prop := fnExactStopsMeetRow.holds Try.pinned (OpenSpec.ofChange fnExactStopsMeetWrong)

/- THE SECOND FORM. 'bulk': how many values and letters a reading holds, each counted each time it is reached (what is shared counts as often as it is met; a slice's spare places count too). A statement '..UptoSaid' is the law's where the arguments, and the package variables that the reading takes, are together of bulk at most 1048576: NARROWER than '..Said'. Prove '..Said' where nothing that the law and all that it calls make is longer than what came in: it says more and counts as full. Else prove '..UptoSaid'. A law counts once. -/
mutual
def uptoBulk {H : Type} : DataW H → Nat
  | .lit (.string bytes) => bytes.length + 1
  | .lit _ => 1
  | .nil => 1
  | .ptr d => uptoBulk d + 1
  | .slice elems spare => uptoBulkAll elems + uptoBulkAll spare + 1
  | .agg parts => uptoBulkAll parts + 1
  | .iface _ d => uptoBulk d + 1
  | .map entries => uptoBulkEntries entries + 1
  | .held _ => 1
def uptoBulkAll {H : Type} : List (DataW H) → Nat
  | [] => 0
  | d :: r => uptoBulk d + uptoBulkAll r
def uptoBulkEntries {H : Type} : List (Lit × DataW H) → Nat
  | [] => 0
  | x :: r => uptoBulkEntry x + uptoBulkEntries r
def uptoBulkEntry {H : Type} : Lit × DataW H → Nat
  | (.string bytes, d) => bytes.length + uptoBulk d + 1
  | (_, d) => uptoBulk d + 1
 end
def uptoSmall : (H : Type) → List (DataW H) → Bool := fun _ ds => decide (uptoBulkAll ds ≤ 1048576)
def OpenSpec.upto (s : _root_.Go.ChangeSpec) : _root_.Go.OpenSpec := { _root_.Go.OpenSpec.ofChange s with cond := some uptoSmall }

/-- 'laws.FnExactClockFrom', WHERE WHAT IT READS IS OF BULK AT MOST 1048576: true; the input reads as it did. -/
def fnExactClockFromUptoRow : OpenClaim := { program := "ythhceihmbgfpkaa", sum := "f516c0089b9e3af6b753a6012bf583fd9fe8c9641bbca791fb139405ec9bf78e", func := "loop.example/mailcoaches/laws.FnExactClockFrom", spec := "fnExactClockFrom", recurses := true, apart := false, narrowed := true }
def FnExactClockFromUptoSaid : Prop := fnExactClockFromUptoRow.holds Try.pinned (OpenSpec.upto fnExactClockFromSpec)

/-- 'laws.FnExactClockLocal', WHERE WHAT IT READS IS OF BULK AT MOST 1048576: true; the input reads as it did. -/
def fnExactClockLocalUptoRow : OpenClaim := { program := "ythhceihmbgfpkaa", sum := "f516c0089b9e3af6b753a6012bf583fd9fe8c9641bbca791fb139405ec9bf78e", func := "loop.example/mailcoaches/laws.FnExactClockLocal", spec := "fnExactClockLocal", apart := false, narrowed := true }
def FnExactClockLocalUptoSaid : Prop := fnExactClockLocalUptoRow.holds Try.pinned (OpenSpec.upto fnExactClockLocalSpec)

/-- 'laws.FnExactClockUntil', WHERE WHAT IT READS IS OF BULK AT MOST 1048576: true; the input reads as it did. -/
def fnExactClockUntilUptoRow : OpenClaim := { program := "ythhceihmbgfpkaa", sum := "f516c0089b9e3af6b753a6012bf583fd9fe8c9641bbca791fb139405ec9bf78e", func := "loop.example/mailcoaches/laws.FnExactClockUntil", spec := "fnExactClockUntil", apart := false, narrowed := true }
def FnExactClockUntilUptoSaid : Prop := fnExactClockUntilUptoRow.holds Try.pinned (OpenSpec.upto fnExactClockUntilSpec)

/-- 'laws.FnExactStopsValid', WHERE WHAT IT READS IS OF BULK AT MOST 1048576: true; the input reads as it did. -/
def fnExactStopsValidUptoRow : OpenClaim := { program := "ythhceihmbgfpkaa", sum := "f516c0089b9e3af6b753a6012bf583fd9fe8c9641bbca791fb139405ec9bf78e", func := "loop.example/mailcoaches/laws.FnExactStopsValid", spec := "fnExactStopsValid", apart := false, narrowed := true }
def FnExactStopsValidUptoSaid : Prop := fnExactStopsValidUptoRow.holds Try.pinned (OpenSpec.upto fnExactStopsValidSpec)

/-- 'laws.FnExactStopsRun', WHERE WHAT IT READS IS OF BULK AT MOST 1048576: true; the input reads as it did. -/
def fnExactStopsRunUptoRow : OpenClaim := { program := "ythhceihmbgfpkaa", sum := "f516c0089b9e3af6b753a6012bf583fd9fe8c9641bbca791fb139405ec9bf78e", func := "loop.example/mailcoaches/laws.FnExactStopsRun", spec := "fnExactStopsRun", apart := false, narrowed := true }
def FnExactStopsRunUptoSaid : Prop := fnExactStopsRunUptoRow.holds Try.pinned (OpenSpec.upto fnExactStopsRunSpec)

/-- 'laws.FnExactStopsWait', WHERE WHAT IT READS IS OF BULK AT MOST 1048576: true; the input reads as it did. -/
def fnExactStopsWaitUptoRow : OpenClaim := { program := "ythhceihmbgfpkaa", sum := "f516c0089b9e3af6b753a6012bf583fd9fe8c9641bbca791fb139405ec9bf78e", func := "loop.example/mailcoaches/laws.FnExactStopsWait", spec := "fnExactStopsWait", apart := false, narrowed := true }
def FnExactStopsWaitUptoSaid : Prop := fnExactStopsWaitUptoRow.holds Try.pinned (OpenSpec.upto fnExactStopsWaitSpec)

/-- 'laws.FnExactStopsLater', WHERE WHAT IT READS IS OF BULK AT MOST 1048576: true; the input reads as it did. -/
def fnExactStopsLaterUptoRow : OpenClaim := { program := "ythhceihmbgfpkaa", sum := "f516c0089b9e3af6b753a6012bf583fd9fe8c9641bbca791fb139405ec9bf78e", func := "loop.example/mailcoaches/laws.FnExactStopsLater", spec := "fnExactStopsLater", apart := false, narrowed := true }
def FnExactStopsLaterUptoSaid : Prop := fnExactStopsLaterUptoRow.holds Try.pinned (OpenSpec.upto fnExactStopsLaterSpec)

/-- 'laws.FnExactStopsBack', WHERE WHAT IT READS IS OF BULK AT MOST 1048576: true; the input reads as it did. -/
def fnExactStopsBackUptoRow : OpenClaim := { program := "ythhceihmbgfpkaa", sum := "f516c0089b9e3af6b753a6012bf583fd9fe8c9641bbca791fb139405ec9bf78e", func := "loop.example/mailcoaches/laws.FnExactStopsBack", spec := "fnExactStopsBack", apart := false, narrowed := true }
def FnExactStopsBackUptoSaid : Prop := fnExactStopsBackUptoRow.holds Try.pinned (OpenSpec.upto fnExactStopsBackSpec)

/-- 'laws.FnExactStopsAt', WHERE WHAT IT READS IS OF BULK AT MOST 1048576: true; the input reads as it did. -/
def fnExactStopsAtUptoRow : OpenClaim := { program := "ythhceihmbgfpkaa", sum := "f516c0089b9e3af6b753a6012bf583fd9fe8c9641bbca791fb139405ec9bf78e", func := "loop.example/mailcoaches/laws.FnExactStopsAt", spec := "fnExactStopsAt", apart := false, narrowed := true }
def FnExactStopsAtUptoSaid : Prop := fnExactStopsAtUptoRow.holds Try.pinned (OpenSpec.upto fnExactStopsAtSpec)

/-- 'laws.FnExactStopsPart', WHERE WHAT IT READS IS OF BULK AT MOST 1048576: true; the input reads as it did. -/
def fnExactStopsPartUptoRow : OpenClaim := { program := "ythhceihmbgfpkaa", sum := "f516c0089b9e3af6b753a6012bf583fd9fe8c9641bbca791fb139405ec9bf78e", func := "loop.example/mailcoaches/laws.FnExactStopsPart", spec := "fnExactStopsPart", apart := false, narrowed := true }
def FnExactStopsPartUptoSaid : Prop := fnExactStopsPartUptoRow.holds Try.pinned (OpenSpec.upto fnExactStopsPartSpec)

/-- 'laws.FnExactStopsWhere', WHERE WHAT IT READS IS OF BULK AT MOST 1048576: true; the input reads as it did. -/
def fnExactStopsWhereUptoRow : OpenClaim := { program := "ythhceihmbgfpkaa", sum := "f516c0089b9e3af6b753a6012bf583fd9fe8c9641bbca791fb139405ec9bf78e", func := "loop.example/mailcoaches/laws.FnExactStopsWhere", spec := "fnExactStopsWhere", apart := false, narrowed := true }
def FnExactStopsWhereUptoSaid : Prop := fnExactStopsWhereUptoRow.holds Try.pinned (OpenSpec.upto fnExactStopsWhereSpec)

/-- 'laws.FnExactStopsMeet', WHERE WHAT IT READS IS OF BULK AT MOST 1048576: true; the input reads as it did. -/
def fnExactStopsMeetUptoRow : OpenClaim := { program := "ythhceihmbgfpkaa", sum := "f516c0089b9e3af6b753a6012bf583fd9fe8c9641bbca791fb139405ec9bf78e", func := "loop.example/mailcoaches/laws.FnExactStopsMeet", spec := "fnExactStopsMeet", apart := false, narrowed := true }
def FnExactStopsMeetUptoSaid : Prop := fnExactStopsMeetUptoRow.holds Try.pinned (OpenSpec.upto fnExactStopsMeetSpec)

end Rows
end Go.Proofs.Ythhceihmbgfpkaa
