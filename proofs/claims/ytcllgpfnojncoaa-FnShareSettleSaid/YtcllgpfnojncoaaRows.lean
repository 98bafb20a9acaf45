/-
  No cell of these rows narrows 'for every input' (looked for: loops, veiled, ifaces, maps, wideKeys, modest, calm, conditions, laid).
  DERIVED. THE GIVEN ROWS OF THIS SEAT. 13 by the template 'for every input the law returns true; each argument reads behind the call as it read before'; 0 by the template 'total and deterministic' (their statements: YtcllgpfnojncoaaTotals.lean).
  GIVEN WITH THE SEED: the statements are not yours to turn. If you find one false, say at which input.
  Laid BY PROGRAM, IN A SANDBOX (cutbox-rows.mjs): the forced cells as the released guide's own fill.sh prints them over the translation f4be3e27f1f00465… (all of the seat's roots in one cut). By AI agents, Wed Nov 11 2026. No macro, syntax, notation, axiom, sorry.
-/
import Derived.Test.YtcllgpfnojncoaaChecked
import GoSem.Claim
import GoSem.ClaimJoined
import GoSem.ClaimMapViews
import Derived.JoinedTies
import Derived.KernelRfl
namespace Go.Proofs.Ytcllgpfnojncoaa
/- THE CELL 'sum', in the pinned program and in every row, IS THE sha256 OF THE DUMP (.gsa) THAT YtcllgpfnojncoaaProg.lean LOADS. Nothing in Lean hashes anything: it is a label: what it is worth is what the hold of that sum in a sandbox is worth. -/
noncomputable def Try.pinned : Pinned := { name := "ytcllgpfnojncoaa", sum := "f4be3e27f1f00465431a45253812f2a4cf1c4e04619ac88c6544bc1aafc51053", checked := Try.checked }
namespace Rows
def none {H : Type} : Left H := { results := [], args := [] }

/-- 'laws.FnExactPartsValid': WHATEVER THE INPUT: true; the input reads as it did. -/
def fnExactPartsValidSpec : ChangeSpec := { name := "fnExactPartsValid", fn := fun _ => fun
  | [d] => { results := [.lit (.bool true)], args := [d] }
  | _ => none }
def fnExactPartsValidRow : OpenClaim := { program := "ytcllgpfnojncoaa", sum := "f4be3e27f1f00465431a45253812f2a4cf1c4e04619ac88c6544bc1aafc51053", func := "loop.example/mailcoaches/laws.FnExactPartsValid", spec := "fnExactPartsValid", apart := false }
def FnExactPartsValidSaid : Prop := fnExactPartsValidRow.holds Try.pinned (OpenSpec.ofChange fnExactPartsValidSpec)

/-- ITS FALSE NEIGHBOUR: 'it returns false'. Refute it at one input. -/
def fnExactPartsValidWrong : ChangeSpec := { name := "fnExactPartsValid", fn := fun _ => fun
  | [d] => { results := [.lit (.bool false)], args := [d] }
  | _ => none }
def FnExactPartsValidWrongFalsely : Prop := fnExactPartsValidRow.holds Try.pinned (OpenSpec.ofChange fnExactPartsValidWrong)

/-- 'laws.FnExactPartsMiles': WHATEVER THE INPUT: true; the input reads as it did. -/
def fnExactPartsMilesSpec : ChangeSpec := { name := "fnExactPartsMiles", fn := fun _ => fun
  | [d] => { results := [.lit (.bool true)], args := [d] }
  | _ => none }
def fnExactPartsMilesRow : OpenClaim := { program := "ytcllgpfnojncoaa", sum := "f4be3e27f1f00465431a45253812f2a4cf1c4e04619ac88c6544bc1aafc51053", func := "loop.example/mailcoaches/laws.FnExactPartsMiles", spec := "fnExactPartsMiles", unfollowed := true, recurses := true, apart := false }
def FnExactPartsMilesSaid : Prop := fnExactPartsMilesRow.holds Try.pinned (OpenSpec.ofChange fnExactPartsMilesSpec)

/-- ITS FALSE NEIGHBOUR: 'it returns false'. Refute it at one input. -/
def fnExactPartsMilesWrong : ChangeSpec := { name := "fnExactPartsMiles", fn := fun _ => fun
  | [d] => { results := [.lit (.bool false)], args := [d] }
  | _ => none }
def FnExactPartsMilesWrongFalsely : Prop := fnExactPartsMilesRow.holds Try.pinned (OpenSpec.ofChange fnExactPartsMilesWrong)

/-- 'laws.FnExactPartsLength': WHATEVER THE INPUT: true; the input reads as it did. -/
def fnExactPartsLengthSpec : ChangeSpec := { name := "fnExactPartsLength", fn := fun _ => fun
  | [d] => { results := [.lit (.bool true)], args := [d] }
  | _ => none }
def fnExactPartsLengthRow : OpenClaim := { program := "ytcllgpfnojncoaa", sum := "f4be3e27f1f00465431a45253812f2a4cf1c4e04619ac88c6544bc1aafc51053", func := "loop.example/mailcoaches/laws.FnExactPartsLength", spec := "fnExactPartsLength", apart := false }
def FnExactPartsLengthSaid : Prop := fnExactPartsLengthRow.holds Try.pinned (OpenSpec.ofChange fnExactPartsLengthSpec)

/-- ITS FALSE NEIGHBOUR: 'it returns false'. Refute it at one input. -/
def fnExactPartsLengthWrong : ChangeSpec := { name := "fnExactPartsLength", fn := fun _ => fun
  | [d] => { results := [.lit (.bool false)], args := [d] }
  | _ => none }
def FnExactPartsLengthWrongFalsely : Prop := fnExactPartsLengthRow.holds Try.pinned (OpenSpec.ofChange fnExactPartsLengthWrong)

/-- 'laws.FnExactPartsOwner': WHATEVER THE INPUT: true; the input reads as it did. -/
def fnExactPartsOwnerSpec : ChangeSpec := { name := "fnExactPartsOwner", fn := fun _ => fun
  | [d1, d2] => { results := [.lit (.bool true)], args := [d1, d2] }
  | _ => none }
def fnExactPartsOwnerRow : OpenClaim := { program := "ytcllgpfnojncoaa", sum := "f4be3e27f1f00465431a45253812f2a4cf1c4e04619ac88c6544bc1aafc51053", func := "loop.example/mailcoaches/laws.FnExactPartsOwner", spec := "fnExactPartsOwner", unfollowed := true, recurses := true, apart := false }
def FnExactPartsOwnerSaid : Prop := fnExactPartsOwnerRow.holds Try.pinned (OpenSpec.ofChange fnExactPartsOwnerSpec)

/-- ITS FALSE NEIGHBOUR: 'it returns false'. Refute it at one input. -/
def fnExactPartsOwnerWrong : ChangeSpec := { name := "fnExactPartsOwner", fn := fun _ => fun
  | [d1, d2] => { results := [.lit (.bool false)], args := [d1, d2] }
  | _ => none }
def FnExactPartsOwnerWrongFalsely : Prop := fnExactPartsOwnerRow.holds Try.pinned (OpenSpec.ofChange fnExactPartsOwnerWrong)

/-- 'laws.FnExactPartsPlain': WHATEVER THE INPUT: true; the input reads as it did. -/
def fnExactPartsPlainSpec : ChangeSpec := { name := "fnExactPartsPlain", fn := fun _ => fun
  | [d] => { results := [.lit (.bool true)], args := [d] }
  | _ => none }
def fnExactPartsPlainRow : OpenClaim := { program := "ytcllgpfnojncoaa", sum := "f4be3e27f1f00465431a45253812f2a4cf1c4e04619ac88c6544bc1aafc51053", func := "loop.example/mailcoaches/laws.FnExactPartsPlain", spec := "fnExactPartsPlain", unfollowed := true, recurses := true, apart := false }
def FnExactPartsPlainSaid : Prop := fnExactPartsPlainRow.holds Try.pinned (OpenSpec.ofChange fnExactPartsPlainSpec)

/-- ITS FALSE NEIGHBOUR: 'it returns false'. Refute it at one input. -/
def fnExactPartsPlainWrong : ChangeSpec := { name := "fnExactPartsPlain", fn := fun _ => fun
  | [d] => { results := [.lit (.bool false)], args := [d] }
  | _ => none }
def FnExactPartsPlainWrongFalsely : Prop := fnExactPartsPlainRow.holds Try.pinned (OpenSpec.ofChange fnExactPartsPlainWrong)

/-- 'laws.FnExactPartsSell': WHATEVER THE INPUT: true; the input reads as it did. -/
def fnExactPartsSellSpec : ChangeSpec := { name := "fnExactPartsSell", fn := fun _ => fun
  | [d1, d2, d3, d4] => { results := [.lit (.bool true)], args := [d1, d2, d3, d4] }
  | _ => none }
def fnExactPartsSellRow : OpenClaim := { program := "ytcllgpfnojncoaa", sum := "f4be3e27f1f00465431a45253812f2a4cf1c4e04619ac88c6544bc1aafc51053", func := "loop.example/mailcoaches/laws.FnExactPartsSell", spec := "fnExactPartsSell", unfollowed := true, recurses := true, apart := false }
def FnExactPartsSellSaid : Prop := fnExactPartsSellRow.holds Try.pinned (OpenSpec.ofChange fnExactPartsSellSpec)

/-- ITS FALSE NEIGHBOUR: 'it returns false'. Refute it at one input. -/
def fnExactPartsSellWrong : ChangeSpec := { name := "fnExactPartsSell", fn := fun _ => fun
  | [d1, d2, d3, d4] => { results := [.lit (.bool false)], args := [d1, d2, d3, d4] }
  | _ => none }
def FnExactPartsSellWrongFalsely : Prop := fnExactPartsSellRow.holds Try.pinned (OpenSpec.ofChange fnExactPartsSellWrong)

/-- 'laws.FnExactPartsTurn': WHATEVER THE INPUT: true; the input reads as it did. -/
def fnExactPartsTurnSpec : ChangeSpec := { name := "fnExactPartsTurn", fn := fun _ => fun
  | [d] => { results := [.lit (.bool true)], args := [d] }
  | _ => none }
def fnExactPartsTurnRow : OpenClaim := { program := "ytcllgpfnojncoaa", sum := "f4be3e27f1f00465431a45253812f2a4cf1c4e04619ac88c6544bc1aafc51053", func := "loop.example/mailcoaches/laws.FnExactPartsTurn", spec := "fnExactPartsTurn", apart := false }
def FnExactPartsTurnSaid : Prop := fnExactPartsTurnRow.holds Try.pinned (OpenSpec.ofChange fnExactPartsTurnSpec)

/-- ITS FALSE NEIGHBOUR: 'it returns false'. Refute it at one input. -/
def fnExactPartsTurnWrong : ChangeSpec := { name := "fnExactPartsTurn", fn := fun _ => fun
  | [d] => { results := [.lit (.bool false)], args := [d] }
  | _ => none }
def FnExactPartsTurnWrongFalsely : Prop := fnExactPartsTurnRow.holds Try.pinned (OpenSpec.ofChange fnExactPartsTurnWrong)

/-- 'laws.FnExactPartsJoin': WHATEVER THE INPUT: true; the input reads as it did. -/
def fnExactPartsJoinSpec : ChangeSpec := { name := "fnExactPartsJoin", fn := fun _ => fun
  | [d1, d2] => { results := [.lit (.bool true)], args := [d1, d2] }
  | _ => none }
def fnExactPartsJoinRow : OpenClaim := { program := "ytcllgpfnojncoaa", sum := "f4be3e27f1f00465431a45253812f2a4cf1c4e04619ac88c6544bc1aafc51053", func := "loop.example/mailcoaches/laws.FnExactPartsJoin", spec := "fnExactPartsJoin", apart := false }
def FnExactPartsJoinSaid : Prop := fnExactPartsJoinRow.holds Try.pinned (OpenSpec.ofChange fnExactPartsJoinSpec)

/-- ITS FALSE NEIGHBOUR: 'it returns false'. Refute it at one input. -/
def fnExactPartsJoinWrong : ChangeSpec := { name := "fnExactPartsJoin", fn := fun _ => fun
  | [d1, d2] => { results := [.lit (.bool false)], args := [d1, d2] }
  | _ => none }
def FnExactPartsJoinWrongFalsely : Prop := fnExactPartsJoinRow.holds Try.pinned (OpenSpec.ofChange fnExactPartsJoinWrong)

/-- 'laws.FnExactShareMake': WHATEVER THE INPUT: true; the input reads as it did. -/
def fnExactShareMakeSpec : ChangeSpec := { name := "fnExactShareMake", fn := fun _ => fun
  | [d1, d2] => { results := [.lit (.bool true)], args := [d1, d2] }
  | _ => none }
def fnExactShareMakeRow : OpenClaim := { program := "ytcllgpfnojncoaa", sum := "f4be3e27f1f00465431a45253812f2a4cf1c4e04619ac88c6544bc1aafc51053", func := "loop.example/mailcoaches/laws.FnExactShareMake", spec := "fnExactShareMake", unfollowed := true, recurses := true, apart := false }
def FnExactShareMakeSaid : Prop := fnExactShareMakeRow.holds Try.pinned (OpenSpec.ofChange fnExactShareMakeSpec)

/-- ITS FALSE NEIGHBOUR: 'it returns false'. Refute it at one input. -/
def fnExactShareMakeWrong : ChangeSpec := { name := "fnExactShareMake", fn := fun _ => fun
  | [d1, d2] => { results := [.lit (.bool false)], args := [d1, d2] }
  | _ => none }
def FnExactShareMakeWrongFalsely : Prop := fnExactShareMakeRow.holds Try.pinned (OpenSpec.ofChange fnExactShareMakeWrong)

/-- 'laws.FnExactShareDue': WHATEVER THE INPUT: true; the input reads as it did. -/
def fnExactShareDueSpec : ChangeSpec := { name := "fnExactShareDue", fn := fun _ => fun
  | [d1, d2] => { results := [.lit (.bool true)], args := [d1, d2] }
  | _ => none }
def fnExactShareDueRow : OpenClaim := { program := "ytcllgpfnojncoaa", sum := "f4be3e27f1f00465431a45253812f2a4cf1c4e04619ac88c6544bc1aafc51053", func := "loop.example/mailcoaches/laws.FnExactShareDue", spec := "fnExactShareDue", unfollowed := true, recurses := true, apart := false }
def FnExactShareDueSaid : Prop := fnExactShareDueRow.holds Try.pinned (OpenSpec.ofChange fnExactShareDueSpec)

/-- ITS FALSE NEIGHBOUR: 'it returns false'. Refute it at one input. -/
def fnExactShareDueWrong : ChangeSpec := { name := "fnExactShareDue", fn := fun _ => fun
  | [d1, d2] => { results := [.lit (.bool false)], args := [d1, d2] }
  | _ => none }
def FnExactShareDueWrongFalsely : Prop := fnExactShareDueRow.holds Try.pinned (OpenSpec.ofChange fnExactShareDueWrong)

/-- 'laws.FnExactShareRide': WHATEVER THE INPUT: true; the input reads as it did. -/
def fnExactShareRideSpec : ChangeSpec := { name := "fnExactShareRide", fn := fun _ => fun
  | [d1, d2, d3, d4] => { results := [.lit (.bool true)], args := [d1, d2, d3, d4] }
  | _ => none }
def fnExactShareRideRow : OpenClaim := { program := "ytcllgpfnojncoaa", sum := "f4be3e27f1f00465431a45253812f2a4cf1c4e04619ac88c6544bc1aafc51053", func := "loop.example/mailcoaches/laws.FnExactShareRide", spec := "fnExactShareRide", unfollowed := true, recurses := true, apart := false }
def FnExactShareRideSaid : Prop := fnExactShareRideRow.holds Try.pinned (OpenSpec.ofChange fnExactShareRideSpec)

/-- ITS FALSE NEIGHBOUR: 'it returns false'. Refute it at one input. -/
def fnExactShareRideWrong : ChangeSpec := { name := "fnExactShareRide", fn := fun _ => fun
  | [d1, d2, d3, d4] => { results := [.lit (.bool false)], args := [d1, d2, d3, d4] }
  | _ => none }
def FnExactShareRideWrongFalsely : Prop := fnExactShareRideRow.holds Try.pinned (OpenSpec.ofChange fnExactShareRideWrong)

/-- 'laws.FnExactShareSettle': WHATEVER THE INPUT: true; the input reads as it did. -/
def fnExactShareSettleSpec : ChangeSpec := { name := "fnExactShareSettle", fn := fun _ => fun
  | [d1, d2] => { results := [.lit (.bool true)], args := [d1, d2] }
  | _ => none }
def fnExactShareSettleRow : OpenClaim := { program := "ytcllgpfnojncoaa", sum := "f4be3e27f1f00465431a45253812f2a4cf1c4e04619ac88c6544bc1aafc51053", func := "loop.example/mailcoaches/laws.FnExactShareSettle", spec := "fnExactShareSettle", unfollowed := true, recurses := true, apart := false }
def FnExactShareSettleSaid : Prop := fnExactShareSettleRow.holds Try.pinned (OpenSpec.ofChange fnExactShareSettleSpec)

/-- ITS FALSE NEIGHBOUR: 'it returns false'. Refute it at one input. -/
def fnExactShareSettleWrong : ChangeSpec := { name := "fnExactShareSettle", fn := fun _ => fun
  | [d1, d2] => { results := [.lit (.bool false)], args := [d1, d2] }
  | _ => none }
def FnExactShareSettleWrongFalsely : Prop := fnExactShareSettleRow.holds Try.pinned (OpenSpec.ofChange fnExactShareSettleWrong)

/-- 'laws.FnShareSettle': WHATEVER THE INPUT: true; the input reads as it did. -/
def fnShareSettleSpec : ChangeSpec := { name := "fnShareSettle", fn := fun _ => fun
  | [d] => { results := [.lit (.bool true)], args := [d] }
  | _ => none }
def fnShareSettleRow : OpenClaim := { program := "ytcllgpfnojncoaa", sum := "f4be3e27f1f00465431a45253812f2a4cf1c4e04619ac88c6544bc1aafc51053", func := "loop.example/mailcoaches/laws.FnShareSettle", spec := "fnShareSettle", unfollowed := true, recurses := true, apart := false }
def FnShareSettleSaid : Prop := fnShareSettleRow.holds Try.pinned (OpenSpec.ofChange fnShareSettleSpec)

/-- ITS FALSE NEIGHBOUR: 'it returns false'. Refute it at one input. -/
def fnShareSettleWrong : ChangeSpec := { name := "fnShareSettle", fn := fun _ => fun
  | [d] => { results := [.lit (.bool false)], args := [d] }
  | _ => none }
def FnShareSettleWrongFalsely : Prop := fnShareSettleRow.holds Try.pinned (OpenSpec.ofChange fnShareSettleWrong)

/- THE SECOND FORM. 'bulk': how many values and letters a reading holds, each counted each time it is reached (what is shared counts as often as it is met; a slice's spare places count too). A statement '..UptoSaid' is the law's where the arguments, and the package variables that the reading takes, are together of bulk at most 1048576: NARROWER than '..Said'. Prove '..Said' where nothing that the law and all that it calls make is longer than what came in: it says more and counts as full. Else prove '..UptoSaid'. A law counts once. -/
mutual
def uptoBulk {H : Type} : DataW H → Nat
  | .lit (.string bytes) => bytes.length + 1
  | .lit _ => 1
  | .nil => 1
  | .ptr d => uptoBulk d + 1
  | .slice elems spare => uptoBulkAll elems + uptoBulkAll spare + 1
  | .agg parts => uptoBulkAll parts + 1
  | .iface _ d => uptoBulk d + 1
  | .map entries => uptoBulkEntries entries + 1
  | .held _ => 1
def uptoBulkAll {H : Type} : List (DataW H) → Nat
  | [] => 0
  | d :: r => uptoBulk d + uptoBulkAll r
def uptoBulkEntries {H : Type} : List (Lit × DataW H) → Nat
  | [] => 0
  | x :: r => uptoBulkEntry x + uptoBulkEntries r
def uptoBulkEntry {H : Type} : Lit × DataW H → Nat
  | (.string bytes, d) => bytes.length + uptoBulk d + 1
  | (_, d) => uptoBulk d + 1
 end
def uptoSmall : (H : Type) → List (DataW H) → Bool := fun _ ds => decide (uptoBulkAll ds ≤ 1048576)
def OpenSpec.upto (s : _root_.Go.ChangeSpec) : _root_.Go.OpenSpec := { _root_.Go.OpenSpec.ofChange s with cond := some uptoSmall }

/-- 'laws.FnExactPartsValid', WHERE WHAT IT READS IS OF BULK AT MOST 1048576: true; the input reads as it did. -/
def fnExactPartsValidUptoRow : OpenClaim := { program := "ytcllgpfnojncoaa", sum := "f4be3e27f1f00465431a45253812f2a4cf1c4e04619ac88c6544bc1aafc51053", func := "loop.example/mailcoaches/laws.FnExactPartsValid", spec := "fnExactPartsValid", apart := false, narrowed := true }
def FnExactPartsValidUptoSaid : Prop := fnExactPartsValidUptoRow.holds Try.pinned (OpenSpec.upto fnExactPartsValidSpec)

/-- 'laws.FnExactPartsMiles', WHERE WHAT IT READS IS OF BULK AT MOST 1048576: true; the input reads as it did. -/
def fnExactPartsMilesUptoRow : OpenClaim := { program := "ytcllgpfnojncoaa", sum := "f4be3e27f1f00465431a45253812f2a4cf1c4e04619ac88c6544bc1aafc51053", func := "loop.example/mailcoaches/laws.FnExactPartsMiles", spec := "fnExactPartsMiles", unfollowed := true, recurses := true, apart := false, narrowed := true }
def FnExactPartsMilesUptoSaid : Prop := fnExactPartsMilesUptoRow.holds Try.pinned (OpenSpec.upto fnExactPartsMilesSpec)

/-- 'laws.FnExactPartsLength', WHERE WHAT IT READS IS OF BULK AT MOST 1048576: true; the input reads as it did. -/
def fnExactPartsLengthUptoRow : OpenClaim := { program := "ytcllgpfnojncoaa", sum := "f4be3e27f1f00465431a45253812f2a4cf1c4e04619ac88c6544bc1aafc51053", func := "loop.example/mailcoaches/laws.FnExactPartsLength", spec := "fnExactPartsLength", apart := false, narrowed := true }
def FnExactPartsLengthUptoSaid : Prop := fnExactPartsLengthUptoRow.holds Try.pinned (OpenSpec.upto fnExactPartsLengthSpec)

/-- 'laws.FnExactPartsOwner', WHERE WHAT IT READS IS OF BULK AT MOST 1048576: true; the input reads as it did. -/
def fnExactPartsOwnerUptoRow : OpenClaim := { program := "ytcllgpfnojncoaa", sum := "f4be3e27f1f00465431a45253812f2a4cf1c4e04619ac88c6544bc1aafc51053", func := "loop.example/mailcoaches/laws.FnExactPartsOwner", spec := "fnExactPartsOwner", unfollowed := true, recurses := true, apart := false, narrowed := true }
def FnExactPartsOwnerUptoSaid : Prop := fnExactPartsOwnerUptoRow.holds Try.pinned (OpenSpec.upto fnExactPartsOwnerSpec)

/-- 'laws.FnExactPartsPlain', WHERE WHAT IT READS IS OF BULK AT MOST 1048576: true; the input reads as it did. -/
def fnExactPartsPlainUptoRow : OpenClaim := { program := "ytcllgpfnojncoaa", sum := "f4be3e27f1f00465431a45253812f2a4cf1c4e04619ac88c6544bc1aafc51053", func := "loop.example/mailcoaches/laws.FnExactPartsPlain", spec := "fnExactPartsPlain", unfollowed := true, recurses := true, apart := false, narrowed := true }
def FnExactPartsPlainUptoSaid : Prop := fnExactPartsPlainUptoRow.holds Try.pinned (OpenSpec.upto fnExactPartsPlainSpec)

/-- 'laws.FnExactPartsSell', WHERE WHAT IT READS IS OF BULK AT MOST 1048576: true; the input reads as it did. -/
def fnExactPartsSellUptoRow : OpenClaim := { program := "ytcllgpfnojncoaa", sum := "f4be3e27f1f00465431a45253812f2a4cf1c4e04619ac88c6544bc1aafc51053", func := "loop.example/mailcoaches/laws.FnExactPartsSell", spec := "fnExactPartsSell", unfollowed := true, recurses := true, apart := false, narrowed := true }
def FnExactPartsSellUptoSaid : Prop := fnExactPartsSellUptoRow.holds Try.pinned (OpenSpec.upto fnExactPartsSellSpec)

/-- 'laws.FnExactPartsTurn', WHERE WHAT IT READS IS OF BULK AT MOST 1048576: true; the input reads as it did. -/
def fnExactPartsTurnUptoRow : OpenClaim := { program := "ytcllgpfnojncoaa", sum := "f4be3e27f1f00465431a45253812f2a4cf1c4e04619ac88c6544bc1aafc51053", func := "loop.example/mailcoaches/laws.FnExactPartsTurn", spec := "fnExactPartsTurn", apart := false, narrowed := true }
def FnExactPartsTurnUptoSaid : Prop := fnExactPartsTurnUptoRow.holds Try.pinned (OpenSpec.upto fnExactPartsTurnSpec)

/-- 'laws.FnExactPartsJoin', WHERE WHAT IT READS IS OF BULK AT MOST 1048576: true; the input reads as it did. -/
def fnExactPartsJoinUptoRow : OpenClaim := { program := "ytcllgpfnojncoaa", sum := "f4be3e27f1f00465431a45253812f2a4cf1c4e04619ac88c6544bc1aafc51053", func := "loop.example/mailcoaches/laws.FnExactPartsJoin", spec := "fnExactPartsJoin", apart := false, narrowed := true }
def FnExactPartsJoinUptoSaid : Prop := fnExactPartsJoinUptoRow.holds Try.pinned (OpenSpec.upto fnExactPartsJoinSpec)

/-- 'laws.FnExactShareMake', WHERE WHAT IT READS IS OF BULK AT MOST 1048576: true; the input reads as it did. -/
def fnExactShareMakeUptoRow : OpenClaim := { program := "ytcllgpfnojncoaa", sum := "f4be3e27f1f00465431a45253812f2a4cf1c4e04619ac88c6544bc1aafc51053", func := "loop.example/mailcoaches/laws.FnExactShareMake", spec := "fnExactShareMake", unfollowed := true, recurses := true, apart := false, narrowed := true }
def FnExactShareMakeUptoSaid : Prop := fnExactShareMakeUptoRow.holds Try.pinned (OpenSpec.upto fnExactShareMakeSpec)

/-- 'laws.FnExactShareDue', WHERE WHAT IT READS IS OF BULK AT MOST 1048576: true; the input reads as it did. -/
def fnExactShareDueUptoRow : OpenClaim := { program := "ytcllgpfnojncoaa", sum := "f4be3e27f1f00465431a45253812f2a4cf1c4e04619ac88c6544bc1aafc51053", func := "loop.example/mailcoaches/laws.FnExactShareDue", spec := "fnExactShareDue", unfollowed := true, recurses := true, apart := false, narrowed := true }
def FnExactShareDueUptoSaid : Prop := fnExactShareDueUptoRow.holds Try.pinned (OpenSpec.upto fnExactShareDueSpec)

/-- 'laws.FnExactShareRide', WHERE WHAT IT READS IS OF BULK AT MOST 1048576: true; the input reads as it did. -/
def fnExactShareRideUptoRow : OpenClaim := { program := "ytcllgpfnojncoaa", sum := "f4be3e27f1f00465431a45253812f2a4cf1c4e04619ac88c6544bc1aafc51053", func := "loop.example/mailcoaches/laws.FnExactShareRide", spec := "fnExactShareRide", unfollowed := true, recurses := true, apart := false, narrowed := true }
def FnExactShareRideUptoSaid : Prop := fnExactShareRideUptoRow.holds Try.pinned (OpenSpec.upto fnExactShareRideSpec)

/-- 'laws.FnExactShareSettle', WHERE WHAT IT READS IS OF BULK AT MOST 1048576: true; the input reads as it did. -/
def fnExactShareSettleUptoRow : OpenClaim := { program := "ytcllgpfnojncoaa", sum := "f4be3e27f1f00465431a45253812f2a4cf1c4e04619ac88c6544bc1aafc51053", func := "loop.example/mailcoaches/laws.FnExactShareSettle", spec := "fnExactShareSettle", unfollowed := true, recurses := true, apart := false, narrowed := true }
def FnExactShareSettleUptoSaid : Prop := fnExactShareSettleUptoRow.holds Try.pinned (OpenSpec.upto fnExactShareSettleSpec)

/-- 'laws.FnShareSettle', WHERE WHAT IT READS IS OF BULK AT MOST 1048576: true; the input reads as it did. -/
def fnShareSettleUptoRow : OpenClaim := { program := "ytcllgpfnojncoaa", sum := "f4be3e27f1f00465431a45253812f2a4cf1c4e04619ac88c6544bc1aafc51053", func := "loop.example/mailcoaches/laws.FnShareSettle", spec := "fnShareSettle", unfollowed := true, recurses := true, apart := false, narrowed := true }
def FnShareSettleUptoSaid : Prop := fnShareSettleUptoRow.holds Try.pinned (OpenSpec.upto fnShareSettleSpec)

end Rows
end Go.Proofs.Ytcllgpfnojncoaa
