/-
  No cell of these rows narrows 'for every input' (looked for: loops, veiled, ifaces, maps, wideKeys, modest, calm, conditions, laid).
  DERIVED. THE GIVEN ROWS OF THIS SEAT. 11 by the template 'for every input the law returns true; each argument reads behind the call as it read before'; 0 by the template 'total and deterministic' (their statements: YthdkjjfnockldaaTotals.lean).
  GIVEN WITH THE SEED: the statements are not yours to turn. If you find one false, say at which input.
  Laid BY PROGRAM, IN A SANDBOX (cutbox-rows.mjs): the forced cells as the released guide's own fill.sh prints them over the translation f157a7b8b36964ba… (all of the seat's roots in one cut). By AI agents, Wed Nov 11 2026. No macro, syntax, notation, axiom, sorry.
-/
import Derived.Test.YthdkjjfnockldaaChecked
import GoSem.Claim
import GoSem.ClaimJoined
import GoSem.ClaimMapViews
import Derived.JoinedTies
import Derived.KernelRfl
namespace Go.Proofs.Ythdkjjfnockldaa
/- THE CELL 'sum', in the pinned program and in every row, IS THE sha256 OF THE DUMP (.gsa) THAT YthdkjjfnockldaaProg.lean LOADS. Nothing in Lean hashes anything: it is a label: what it is worth is what the hold of that sum in a sandbox is worth. -/
noncomputable def Try.pinned : Pinned := { name := "ythdkjjfnockldaa", sum := "f157a7b8b36964ba720bf0bb71400d8bea16c30de3e21c94797fcc7436da48e8", checked := Try.checked }
namespace Rows
def none {H : Type} : Left H := { results := [], args := [] }

/-- 'laws.FnPartsMiles': WHATEVER THE INPUT: true; the input reads as it did. -/
def fnPartsMilesSpec : ChangeSpec := { name := "fnPartsMiles", fn := fun _ => fun
  | [d] => { results := [.lit (.bool true)], args := [d] }
  | _ => none }
def fnPartsMilesRow : OpenClaim := { program := "ythdkjjfnockldaa", sum := "f157a7b8b36964ba720bf0bb71400d8bea16c30de3e21c94797fcc7436da48e8", func := "loop.example/mailcoaches/laws.FnPartsMiles", spec := "fnPartsMiles", unfollowed := true, recurses := true, apart := false }
def FnPartsMilesSaid : Prop := fnPartsMilesRow.holds Try.pinned (OpenSpec.ofChange fnPartsMilesSpec)

/-- ITS FALSE NEIGHBOUR: 'it returns false'. Refute it at one input. -/
def fnPartsMilesWrong : ChangeSpec := { name := "fnPartsMiles", fn := fun _ => fun
  | [d] => { results := [.lit (.bool false)], args := [d] }
  | _ => none }
def FnPartsMilesWrongFalsely : Prop := fnPartsMilesRow.holds Try.pinned (OpenSpec.ofChange fnPartsMilesWrong)

/-- 'laws.FnPartsLength': WHATEVER THE INPUT: true; the input reads as it did. -/
def fnPartsLengthSpec : ChangeSpec := { name := "fnPartsLength", fn := fun _ => fun
  | [d] => { results := [.lit (.bool true)], args := [d] }
  | _ => none }
def fnPartsLengthRow : OpenClaim := { program := "ythdkjjfnockldaa", sum := "f157a7b8b36964ba720bf0bb71400d8bea16c30de3e21c94797fcc7436da48e8", func := "loop.example/mailcoaches/laws.FnPartsLength", spec := "fnPartsLength", unfollowed := true, recurses := true, apart := false }
def FnPartsLengthSaid : Prop := fnPartsLengthRow.holds Try.pinned (OpenSpec.ofChange fnPartsLengthSpec)

/-- ITS FALSE NEIGHBOUR: 'it returns false'. Refute it at one input. -/
def fnPartsLengthWrong : ChangeSpec := { name := "fnPartsLength", fn := fun _ => fun
  | [d] => { results := [.lit (.bool false)], args := [d] }
  | _ => none }
def FnPartsLengthWrongFalsely : Prop := fnPartsLengthRow.holds Try.pinned (OpenSpec.ofChange fnPartsLengthWrong)

/-- 'laws.FnPartsOwner': WHATEVER THE INPUT: true; the input reads as it did. -/
def fnPartsOwnerSpec : ChangeSpec := { name := "fnPartsOwner", fn := fun _ => fun
  | [d] => { results := [.lit (.bool true)], args := [d] }
  | _ => none }
def fnPartsOwnerRow : OpenClaim := { program := "ythdkjjfnockldaa", sum := "f157a7b8b36964ba720bf0bb71400d8bea16c30de3e21c94797fcc7436da48e8", func := "loop.example/mailcoaches/laws.FnPartsOwner", spec := "fnPartsOwner", unfollowed := true, recurses := true, apart := false }
def FnPartsOwnerSaid : Prop := fnPartsOwnerRow.holds Try.pinned (OpenSpec.ofChange fnPartsOwnerSpec)

/-- ITS FALSE NEIGHBOUR: 'it returns false'. Refute it at one input. -/
def fnPartsOwnerWrong : ChangeSpec := { name := "fnPartsOwner", fn := fun _ => fun
  | [d] => { results := [.lit (.bool false)], args := [d] }
  | _ => none }
def FnPartsOwnerWrongFalsely : Prop := fnPartsOwnerRow.holds Try.pinned (OpenSpec.ofChange fnPartsOwnerWrong)

/-- 'laws.FnPartsPlain': WHATEVER THE INPUT: true; the input reads as it did. -/
def fnPartsPlainSpec : ChangeSpec := { name := "fnPartsPlain", fn := fun _ => fun
  | [d1, d2] => { results := [.lit (.bool true)], args := [d1, d2] }
  | _ => none }
def fnPartsPlainRow : OpenClaim := { program := "ythdkjjfnockldaa", sum := "f157a7b8b36964ba720bf0bb71400d8bea16c30de3e21c94797fcc7436da48e8", func := "loop.example/mailcoaches/laws.FnPartsPlain", spec := "fnPartsPlain", unfollowed := true, recurses := true, apart := false }
def FnPartsPlainSaid : Prop := fnPartsPlainRow.holds Try.pinned (OpenSpec.ofChange fnPartsPlainSpec)

/-- ITS FALSE NEIGHBOUR: 'it returns false'. Refute it at one input. -/
def fnPartsPlainWrong : ChangeSpec := { name := "fnPartsPlain", fn := fun _ => fun
  | [d1, d2] => { results := [.lit (.bool false)], args := [d1, d2] }
  | _ => none }
def FnPartsPlainWrongFalsely : Prop := fnPartsPlainRow.holds Try.pinned (OpenSpec.ofChange fnPartsPlainWrong)

/-- 'laws.FnPartsSell': WHATEVER THE INPUT: true; the input reads as it did. -/
def fnPartsSellSpec : ChangeSpec := { name := "fnPartsSell", fn := fun _ => fun
  | [d] => { results := [.lit (.bool true)], args := [d] }
  | _ => none }
def fnPartsSellRow : OpenClaim := { program := "ythdkjjfnockldaa", sum := "f157a7b8b36964ba720bf0bb71400d8bea16c30de3e21c94797fcc7436da48e8", func := "loop.example/mailcoaches/laws.FnPartsSell", spec := "fnPartsSell", unfollowed := true, recurses := true, apart := false }
def FnPartsSellSaid : Prop := fnPartsSellRow.holds Try.pinned (OpenSpec.ofChange fnPartsSellSpec)

/-- ITS FALSE NEIGHBOUR: 'it returns false'. Refute it at one input. -/
def fnPartsSellWrong : ChangeSpec := { name := "fnPartsSell", fn := fun _ => fun
  | [d] => { results := [.lit (.bool false)], args := [d] }
  | _ => none }
def FnPartsSellWrongFalsely : Prop := fnPartsSellRow.holds Try.pinned (OpenSpec.ofChange fnPartsSellWrong)

/-- 'laws.FnPartsTurn': WHATEVER THE INPUT: true; the input reads as it did. -/
def fnPartsTurnSpec : ChangeSpec := { name := "fnPartsTurn", fn := fun _ => fun
  | [d1, d2] => { results := [.lit (.bool true)], args := [d1, d2] }
  | _ => none }
def fnPartsTurnRow : OpenClaim := { program := "ythdkjjfnockldaa", sum := "f157a7b8b36964ba720bf0bb71400d8bea16c30de3e21c94797fcc7436da48e8", func := "loop.example/mailcoaches/laws.FnPartsTurn", spec := "fnPartsTurn", unfollowed := true, recurses := true, apart := false }
def FnPartsTurnSaid : Prop := fnPartsTurnRow.holds Try.pinned (OpenSpec.ofChange fnPartsTurnSpec)

/-- ITS FALSE NEIGHBOUR: 'it returns false'. Refute it at one input. -/
def fnPartsTurnWrong : ChangeSpec := { name := "fnPartsTurn", fn := fun _ => fun
  | [d1, d2] => { results := [.lit (.bool false)], args := [d1, d2] }
  | _ => none }
def FnPartsTurnWrongFalsely : Prop := fnPartsTurnRow.holds Try.pinned (OpenSpec.ofChange fnPartsTurnWrong)

/-- 'laws.FnPartsJoin': WHATEVER THE INPUT: true; the input reads as it did. -/
def fnPartsJoinSpec : ChangeSpec := { name := "fnPartsJoin", fn := fun _ => fun
  | [d1, d2] => { results := [.lit (.bool true)], args := [d1, d2] }
  | _ => none }
def fnPartsJoinRow : OpenClaim := { program := "ythdkjjfnockldaa", sum := "f157a7b8b36964ba720bf0bb71400d8bea16c30de3e21c94797fcc7436da48e8", func := "loop.example/mailcoaches/laws.FnPartsJoin", spec := "fnPartsJoin", unfollowed := true, recurses := true, apart := false }
def FnPartsJoinSaid : Prop := fnPartsJoinRow.holds Try.pinned (OpenSpec.ofChange fnPartsJoinSpec)

/-- ITS FALSE NEIGHBOUR: 'it returns false'. Refute it at one input. -/
def fnPartsJoinWrong : ChangeSpec := { name := "fnPartsJoin", fn := fun _ => fun
  | [d1, d2] => { results := [.lit (.bool false)], args := [d1, d2] }
  | _ => none }
def FnPartsJoinWrongFalsely : Prop := fnPartsJoinRow.holds Try.pinned (OpenSpec.ofChange fnPartsJoinWrong)

/-- 'laws.FnShareMake': WHATEVER THE INPUT: true; the input reads as it did. -/
def fnShareMakeSpec : ChangeSpec := { name := "fnShareMake", fn := fun _ => fun
  | [d] => { results := [.lit (.bool true)], args := [d] }
  | _ => none }
def fnShareMakeRow : OpenClaim := { program := "ythdkjjfnockldaa", sum := "f157a7b8b36964ba720bf0bb71400d8bea16c30de3e21c94797fcc7436da48e8", func := "loop.example/mailcoaches/laws.FnShareMake", spec := "fnShareMake", unfollowed := true, recurses := true, apart := false }
def FnShareMakeSaid : Prop := fnShareMakeRow.holds Try.pinned (OpenSpec.ofChange fnShareMakeSpec)

/-- ITS FALSE NEIGHBOUR: 'it returns false'. Refute it at one input. -/
def fnShareMakeWrong : ChangeSpec := { name := "fnShareMake", fn := fun _ => fun
  | [d] => { results := [.lit (.bool false)], args := [d] }
  | _ => none }
def FnShareMakeWrongFalsely : Prop := fnShareMakeRow.holds Try.pinned (OpenSpec.ofChange fnShareMakeWrong)

/-- 'laws.FnShareOrder': WHATEVER THE INPUT: true; the input reads as it did. -/
def fnShareOrderSpec : ChangeSpec := { name := "fnShareOrder", fn := fun _ => fun
  | [d] => { results := [.lit (.bool true)], args := [d] }
  | _ => none }
def fnShareOrderRow : OpenClaim := { program := "ythdkjjfnockldaa", sum := "f157a7b8b36964ba720bf0bb71400d8bea16c30de3e21c94797fcc7436da48e8", func := "loop.example/mailcoaches/laws.FnShareOrder", spec := "fnShareOrder", unfollowed := true, recurses := true, apart := false }
def FnShareOrderSaid : Prop := fnShareOrderRow.holds Try.pinned (OpenSpec.ofChange fnShareOrderSpec)

/-- ITS FALSE NEIGHBOUR: 'it returns false'. Refute it at one input. -/
def fnShareOrderWrong : ChangeSpec := { name := "fnShareOrder", fn := fun _ => fun
  | [d] => { results := [.lit (.bool false)], args := [d] }
  | _ => none }
def FnShareOrderWrongFalsely : Prop := fnShareOrderRow.holds Try.pinned (OpenSpec.ofChange fnShareOrderWrong)

/-- 'laws.FnShareDue': WHATEVER THE INPUT: true; the input reads as it did. -/
def fnShareDueSpec : ChangeSpec := { name := "fnShareDue", fn := fun _ => fun
  | [d] => { results := [.lit (.bool true)], args := [d] }
  | _ => none }
def fnShareDueRow : OpenClaim := { program := "ythdkjjfnockldaa", sum := "f157a7b8b36964ba720bf0bb71400d8bea16c30de3e21c94797fcc7436da48e8", func := "loop.example/mailcoaches/laws.FnShareDue", spec := "fnShareDue", unfollowed := true, recurses := true, apart := false }
def FnShareDueSaid : Prop := fnShareDueRow.holds Try.pinned (OpenSpec.ofChange fnShareDueSpec)

/-- ITS FALSE NEIGHBOUR: 'it returns false'. Refute it at one input. -/
def fnShareDueWrong : ChangeSpec := { name := "fnShareDue", fn := fun _ => fun
  | [d] => { results := [.lit (.bool false)], args := [d] }
  | _ => none }
def FnShareDueWrongFalsely : Prop := fnShareDueRow.holds Try.pinned (OpenSpec.ofChange fnShareDueWrong)

/-- 'laws.FnShareRide': WHATEVER THE INPUT: true; the input reads as it did. -/
def fnShareRideSpec : ChangeSpec := { name := "fnShareRide", fn := fun _ => fun
  | [d] => { results := [.lit (.bool true)], args := [d] }
  | _ => none }
def fnShareRideRow : OpenClaim := { program := "ythdkjjfnockldaa", sum := "f157a7b8b36964ba720bf0bb71400d8bea16c30de3e21c94797fcc7436da48e8", func := "loop.example/mailcoaches/laws.FnShareRide", spec := "fnShareRide", unfollowed := true, recurses := true, apart := false }
def FnShareRideSaid : Prop := fnShareRideRow.holds Try.pinned (OpenSpec.ofChange fnShareRideSpec)

/-- ITS FALSE NEIGHBOUR: 'it returns false'. Refute it at one input. -/
def fnShareRideWrong : ChangeSpec := { name := "fnShareRide", fn := fun _ => fun
  | [d] => { results := [.lit (.bool false)], args := [d] }
  | _ => none }
def FnShareRideWrongFalsely : Prop := fnShareRideRow.holds Try.pinned (OpenSpec.ofChange fnShareRideWrong)

/- THE SECOND FORM. 'bulk': how many values and letters a reading holds, each counted each time it is reached (what is shared counts as often as it is met; a slice's spare places count too). A statement '..UptoSaid' is the law's where the arguments, and the package variables that the reading takes, are together of bulk at most 1048576: NARROWER than '..Said'. Prove '..Said' where nothing that the law and all that it calls make is longer than what came in: it says more and counts as full. Else prove '..UptoSaid'. A law counts once. -/
mutual
def uptoBulk {H : Type} : DataW H → Nat
  | .lit (.string bytes) => bytes.length + 1
  | .lit _ => 1
  | .nil => 1
  | .ptr d => uptoBulk d + 1
  | .slice elems spare => uptoBulkAll elems + uptoBulkAll spare + 1
  | .agg parts => uptoBulkAll parts + 1
  | .iface _ d => uptoBulk d + 1
  | .map entries => uptoBulkEntries entries + 1
  | .held _ => 1
def uptoBulkAll {H : Type} : List (DataW H) → Nat
  | [] => 0
  | d :: r => uptoBulk d + uptoBulkAll r
def uptoBulkEntries {H : Type} : List (Lit × DataW H) → Nat
  | [] => 0
  | x :: r => uptoBulkEntry x + uptoBulkEntries r
def uptoBulkEntry {H : Type} : Lit × DataW H → Nat
  | (.string bytes, d) => bytes.length + uptoBulk d + 1
  | (_, d) => uptoBulk d + 1
 end
def uptoSmall : (H : Type) → List (DataW H) → Bool := fun _ ds => decide (uptoBulkAll ds ≤ 1048576)
def OpenSpec.upto (s : _root_.Go.ChangeSpec) : _root_.Go.OpenSpec := { _root_.Go.OpenSpec.ofChange s with cond := some uptoSmall }

/-- 'laws.FnPartsMiles', WHERE WHAT IT READS IS OF BULK AT MOST 1048576: true; the input reads as it did. -/
def fnPartsMilesUptoRow : OpenClaim := { program := "ythdkjjfnockldaa", sum := "f157a7b8b36964ba720bf0bb71400d8bea16c30de3e21c94797fcc7436da48e8", func := "loop.example/mailcoaches/laws.FnPartsMiles", spec := "fnPartsMiles", unfollowed := true, recurses := true, apart := false, narrowed := true }
def FnPartsMilesUptoSaid : Prop := fnPartsMilesUptoRow.holds Try.pinned (OpenSpec.upto fnPartsMilesSpec)

/-- 'laws.FnPartsLength', WHERE WHAT IT READS IS OF BULK AT MOST 1048576: true; the input reads as it did. -/
def fnPartsLengthUptoRow : OpenClaim := { program := "ythdkjjfnockldaa", sum := "f157a7b8b36964ba720bf0bb71400d8bea16c30de3e21c94797fcc7436da48e8", func := "loop.example/mailcoaches/laws.FnPartsLength", spec := "fnPartsLength", unfollowed := true, recurses := true, apart := false, narrowed := true }
def FnPartsLengthUptoSaid : Prop := fnPartsLengthUptoRow.holds Try.pinned (OpenSpec.upto fnPartsLengthSpec)

/-- 'laws.FnPartsOwner', WHERE WHAT IT READS IS OF BULK AT MOST 1048576: true; the input reads as it did. -/
def fnPartsOwnerUptoRow : OpenClaim := { program := "ythdkjjfnockldaa", sum := "f157a7b8b36964ba720bf0bb71400d8bea16c30de3e21c94797fcc7436da48e8", func := "loop.example/mailcoaches/laws.FnPartsOwner", spec := "fnPartsOwner", unfollowed := true, recurses := true, apart := false, narrowed := true }
def FnPartsOwnerUptoSaid : Prop := fnPartsOwnerUptoRow.holds Try.pinned (OpenSpec.upto fnPartsOwnerSpec)

/-- 'laws.FnPartsPlain', WHERE WHAT IT READS IS OF BULK AT MOST 1048576: true; the input reads as it did. -/
def fnPartsPlainUptoRow : OpenClaim := { program := "ythdkjjfnockldaa", sum := "f157a7b8b36964ba720bf0bb71400d8bea16c30de3e21c94797fcc7436da48e8", func := "loop.example/mailcoaches/laws.FnPartsPlain", spec := "fnPartsPlain", unfollowed := true, recurses := true, apart := false, narrowed := true }
def FnPartsPlainUptoSaid : Prop := fnPartsPlainUptoRow.holds Try.pinned (OpenSpec.upto fnPartsPlainSpec)

/-- 'laws.FnPartsSell', WHERE WHAT IT READS IS OF BULK AT MOST 1048576: true; the input reads as it did. -/
def fnPartsSellUptoRow : OpenClaim := { program := "ythdkjjfnockldaa", sum := "f157a7b8b36964ba720bf0bb71400d8bea16c30de3e21c94797fcc7436da48e8", func := "loop.example/mailcoaches/laws.FnPartsSell", spec := "fnPartsSell", unfollowed := true, recurses := true, apart := false, narrowed := true }
def FnPartsSellUptoSaid : Prop := fnPartsSellUptoRow.holds Try.pinned (OpenSpec.upto fnPartsSellSpec)

/-- 'laws.FnPartsTurn', WHERE WHAT IT READS IS OF BULK AT MOST 1048576: true; the input reads as it did. -/
def fnPartsTurnUptoRow : OpenClaim := { program := "ythdkjjfnockldaa", sum := "f157a7b8b36964ba720bf0bb71400d8bea16c30de3e21c94797fcc7436da48e8", func := "loop.example/mailcoaches/laws.FnPartsTurn", spec := "fnPartsTurn", unfollowed := true, recurses := true, apart := false, narrowed := true }
def FnPartsTurnUptoSaid : Prop := fnPartsTurnUptoRow.holds Try.pinned (OpenSpec.upto fnPartsTurnSpec)

/-- 'laws.FnPartsJoin', WHERE WHAT IT READS IS OF BULK AT MOST 1048576: true; the input reads as it did. -/
def fnPartsJoinUptoRow : OpenClaim := { program := "ythdkjjfnockldaa", sum := "f157a7b8b36964ba720bf0bb71400d8bea16c30de3e21c94797fcc7436da48e8", func := "loop.example/mailcoaches/laws.FnPartsJoin", spec := "fnPartsJoin", unfollowed := true, recurses := true, apart := false, narrowed := true }
def FnPartsJoinUptoSaid : Prop := fnPartsJoinUptoRow.holds Try.pinned (OpenSpec.upto fnPartsJoinSpec)

/-- 'laws.FnShareMake', WHERE WHAT IT READS IS OF BULK AT MOST 1048576: true; the input reads as it did. -/
def fnShareMakeUptoRow : OpenClaim := { program := "ythdkjjfnockldaa", sum := "f157a7b8b36964ba720bf0bb71400d8bea16c30de3e21c94797fcc7436da48e8", func := "loop.example/mailcoaches/laws.FnShareMake", spec := "fnShareMake", unfollowed := true, recurses := true, apart := false, narrowed := true }
def FnShareMakeUptoSaid : Prop := fnShareMakeUptoRow.holds Try.pinned (OpenSpec.upto fnShareMakeSpec)

/-- 'laws.FnShareOrder', WHERE WHAT IT READS IS OF BULK AT MOST 1048576: true; the input reads as it did. -/
def fnShareOrderUptoRow : OpenClaim := { program := "ythdkjjfnockldaa", sum := "f157a7b8b36964ba720bf0bb71400d8bea16c30de3e21c94797fcc7436da48e8", func := "loop.example/mailcoaches/laws.FnShareOrder", spec := "fnShareOrder", unfollowed := true, recurses := true, apart := false, narrowed := true }
def FnShareOrderUptoSaid : Prop := fnShareOrderUptoRow.holds Try.pinned (OpenSpec.upto fnShareOrderSpec)

/-- 'laws.FnShareDue', WHERE WHAT IT READS IS OF BULK AT MOST 1048576: true; the input reads as it did. -/
def fnShareDueUptoRow : OpenClaim := { program := "ythdkjjfnockldaa", sum := "f157a7b8b36964ba720bf0bb71400d8bea16c30de3e21c94797fcc7436da48e8", func := "loop.example/mailcoaches/laws.FnShareDue", spec := "fnShareDue", unfollowed := true, recurses := true, apart := false, narrowed := true }
def FnShareDueUptoSaid : Prop := fnShareDueUptoRow.holds Try.pinned (OpenSpec.upto fnShareDueSpec)

/-- 'laws.FnShareRide', WHERE WHAT IT READS IS OF BULK AT MOST 1048576: true; the input reads as it did. -/
def fnShareRideUptoRow : OpenClaim := { program := "ythdkjjfnockldaa", sum := "f157a7b8b36964ba720bf0bb71400d8bea16c30de3e21c94797fcc7436da48e8", func := "loop.example/mailcoaches/laws.FnShareRide", spec := "fnShareRide", unfollowed := true, recurses := true, apart := false, narrowed := true }
def FnShareRideUptoSaid : Prop := fnShareRideUptoRow.holds Try.pinned (OpenSpec.upto fnShareRideSpec)

end Rows
end Go.Proofs.Ythdkjjfnockldaa
