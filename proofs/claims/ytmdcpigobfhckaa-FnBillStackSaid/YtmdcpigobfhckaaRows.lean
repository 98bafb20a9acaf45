/-
  No cell of these rows narrows 'for every input' (looked for: loops, veiled, ifaces, maps, wideKeys, modest, calm, conditions, laid).
  DERIVED. THE GIVEN ROWS OF THIS SEAT. 18 by the template 'for every input the law returns true; each argument reads behind the call as it read before'; 0 by the template 'total and deterministic' (their statements: YtmdcpigobfhckaaTotals.lean).
  GIVEN WITH THE SEED: the statements are not yours to turn. If you find one false, say at which input.
  Laid BY PROGRAM, IN A SANDBOX (cutbox-rows.mjs): the forced cells as the released guide's own fill.sh prints them over the translation 2e269910c0db5bdb… (all of the seat's roots in one cut). By AI agents, Wed Nov 11 2026. No macro, syntax, notation, axiom, sorry.
-/
import Derived.Test.YtmdcpigobfhckaaChecked
import GoSem.Claim
import GoSem.ClaimJoined
import GoSem.ClaimMapViews
import Derived.JoinedTies
import Derived.KernelRfl
namespace Go.Proofs.Ytmdcpigobfhckaa
/- THE CELL 'sum', in the pinned program and in every row, IS THE sha256 OF THE DUMP (.gsa) THAT YtmdcpigobfhckaaProg.lean LOADS. Nothing in Lean hashes anything: it is a label: what it is worth is what the hold of that sum in a sandbox is worth. -/
noncomputable def Try.pinned : Pinned := { name := "ytmdcpigobfhckaa", sum := "2e269910c0db5bdbee47f547e0ff3b9b0eb8dfcb0847de6ee5050fb9e5b4425c", checked := Try.checked }
namespace Rows
def none {H : Type} : Left H := { results := [], args := [] }

/-- 'laws.FnExactBillValid': WHATEVER THE INPUT: true; the input reads as it did. -/
def fnExactBillValidSpec : ChangeSpec := { name := "fnExactBillValid", fn := fun _ => fun
  | [d1, d2] => { results := [.lit (.bool true)], args := [d1, d2] }
  | _ => none }
def fnExactBillValidRow : OpenClaim := { program := "ytmdcpigobfhckaa", sum := "2e269910c0db5bdbee47f547e0ff3b9b0eb8dfcb0847de6ee5050fb9e5b4425c", func := "loop.example/mailcoaches/laws.FnExactBillValid", spec := "fnExactBillValid", apart := false }
def FnExactBillValidSaid : Prop := fnExactBillValidRow.holds Try.pinned (OpenSpec.ofChange fnExactBillValidSpec)

/-- ITS FALSE NEIGHBOUR: 'it returns false'. Refute it at one input. -/
def fnExactBillValidWrong : ChangeSpec := { name := "fnExactBillValid", fn := fun _ => fun
  | [d1, d2] => { results := [.lit (.bool false)], args := [d1, d2] }
  | _ => none }
def FnExactBillValidWrongFalsely : Prop := fnExactBillValidRow.holds Try.pinned (OpenSpec.ofChange fnExactBillValidWrong)

/-- 'laws.FnExactBillLoads': WHATEVER THE INPUT: true; the input reads as it did. -/
def fnExactBillLoadsSpec : ChangeSpec := { name := "fnExactBillLoads", fn := fun _ => fun
  | [d1, d2] => { results := [.lit (.bool true)], args := [d1, d2] }
  | _ => none }
def fnExactBillLoadsRow : OpenClaim := { program := "ytmdcpigobfhckaa", sum := "2e269910c0db5bdbee47f547e0ff3b9b0eb8dfcb0847de6ee5050fb9e5b4425c", func := "loop.example/mailcoaches/laws.FnExactBillLoads", spec := "fnExactBillLoads", apart := false }
def FnExactBillLoadsSaid : Prop := fnExactBillLoadsRow.holds Try.pinned (OpenSpec.ofChange fnExactBillLoadsSpec)

/-- ITS FALSE NEIGHBOUR: 'it returns false'. Refute it at one input. -/
def fnExactBillLoadsWrong : ChangeSpec := { name := "fnExactBillLoads", fn := fun _ => fun
  | [d1, d2] => { results := [.lit (.bool false)], args := [d1, d2] }
  | _ => none }
def FnExactBillLoadsWrongFalsely : Prop := fnExactBillLoadsRow.holds Try.pinned (OpenSpec.ofChange fnExactBillLoadsWrong)

/-- 'laws.FnExactBillRoom': WHATEVER THE INPUT: true; the input reads as it did. -/
def fnExactBillRoomSpec : ChangeSpec := { name := "fnExactBillRoom", fn := fun _ => fun
  | [d1, d2, d3, d4] => { results := [.lit (.bool true)], args := [d1, d2, d3, d4] }
  | _ => none }
def fnExactBillRoomRow : OpenClaim := { program := "ytmdcpigobfhckaa", sum := "2e269910c0db5bdbee47f547e0ff3b9b0eb8dfcb0847de6ee5050fb9e5b4425c", func := "loop.example/mailcoaches/laws.FnExactBillRoom", spec := "fnExactBillRoom", apart := false }
def FnExactBillRoomSaid : Prop := fnExactBillRoomRow.holds Try.pinned (OpenSpec.ofChange fnExactBillRoomSpec)

/-- ITS FALSE NEIGHBOUR: 'it returns false'. Refute it at one input. -/
def fnExactBillRoomWrong : ChangeSpec := { name := "fnExactBillRoom", fn := fun _ => fun
  | [d1, d2, d3, d4] => { results := [.lit (.bool false)], args := [d1, d2, d3, d4] }
  | _ => none }
def FnExactBillRoomWrongFalsely : Prop := fnExactBillRoomRow.holds Try.pinned (OpenSpec.ofChange fnExactBillRoomWrong)

/-- 'laws.FnExactBillAdd': WHATEVER THE INPUT: true; the input reads as it did. -/
def fnExactBillAddSpec : ChangeSpec := { name := "fnExactBillAdd", fn := fun _ => fun
  | [d1, d2, d3] => { results := [.lit (.bool true)], args := [d1, d2, d3] }
  | _ => none }
def fnExactBillAddRow : OpenClaim := { program := "ytmdcpigobfhckaa", sum := "2e269910c0db5bdbee47f547e0ff3b9b0eb8dfcb0847de6ee5050fb9e5b4425c", func := "loop.example/mailcoaches/laws.FnExactBillAdd", spec := "fnExactBillAdd", apart := false }
def FnExactBillAddSaid : Prop := fnExactBillAddRow.holds Try.pinned (OpenSpec.ofChange fnExactBillAddSpec)

/-- ITS FALSE NEIGHBOUR: 'it returns false'. Refute it at one input. -/
def fnExactBillAddWrong : ChangeSpec := { name := "fnExactBillAdd", fn := fun _ => fun
  | [d1, d2, d3] => { results := [.lit (.bool false)], args := [d1, d2, d3] }
  | _ => none }
def FnExactBillAddWrongFalsely : Prop := fnExactBillAddRow.holds Try.pinned (OpenSpec.ofChange fnExactBillAddWrong)

/-- 'laws.FnExactBillDrop': WHATEVER THE INPUT: true; the input reads as it did. -/
def fnExactBillDropSpec : ChangeSpec := { name := "fnExactBillDrop", fn := fun _ => fun
  | [d1, d2, d3] => { results := [.lit (.bool true)], args := [d1, d2, d3] }
  | _ => none }
def fnExactBillDropRow : OpenClaim := { program := "ytmdcpigobfhckaa", sum := "2e269910c0db5bdbee47f547e0ff3b9b0eb8dfcb0847de6ee5050fb9e5b4425c", func := "loop.example/mailcoaches/laws.FnExactBillDrop", spec := "fnExactBillDrop", apart := false }
def FnExactBillDropSaid : Prop := fnExactBillDropRow.holds Try.pinned (OpenSpec.ofChange fnExactBillDropSpec)

/-- ITS FALSE NEIGHBOUR: 'it returns false'. Refute it at one input. -/
def fnExactBillDropWrong : ChangeSpec := { name := "fnExactBillDrop", fn := fun _ => fun
  | [d1, d2, d3] => { results := [.lit (.bool false)], args := [d1, d2, d3] }
  | _ => none }
def FnExactBillDropWrongFalsely : Prop := fnExactBillDropRow.holds Try.pinned (OpenSpec.ofChange fnExactBillDropWrong)

/-- 'laws.FnExactBillStack': WHATEVER THE INPUT: true; the input reads as it did. -/
def fnExactBillStackSpec : ChangeSpec := { name := "fnExactBillStack", fn := fun _ => fun
  | [d1, d2, d3] => { results := [.lit (.bool true)], args := [d1, d2, d3] }
  | _ => none }
def fnExactBillStackRow : OpenClaim := { program := "ytmdcpigobfhckaa", sum := "2e269910c0db5bdbee47f547e0ff3b9b0eb8dfcb0847de6ee5050fb9e5b4425c", func := "loop.example/mailcoaches/laws.FnExactBillStack", spec := "fnExactBillStack", apart := false }
def FnExactBillStackSaid : Prop := fnExactBillStackRow.holds Try.pinned (OpenSpec.ofChange fnExactBillStackSpec)

/-- ITS FALSE NEIGHBOUR: 'it returns false'. Refute it at one input. -/
def fnExactBillStackWrong : ChangeSpec := { name := "fnExactBillStack", fn := fun _ => fun
  | [d1, d2, d3] => { results := [.lit (.bool false)], args := [d1, d2, d3] }
  | _ => none }
def FnExactBillStackWrongFalsely : Prop := fnExactBillStackRow.holds Try.pinned (OpenSpec.ofChange fnExactBillStackWrong)

/-- 'laws.FnExactBillMoves': WHATEVER THE INPUT: true; the input reads as it did. -/
def fnExactBillMovesSpec : ChangeSpec := { name := "fnExactBillMoves", fn := fun _ => fun
  | [d1, d2] => { results := [.lit (.bool true)], args := [d1, d2] }
  | _ => none }
def fnExactBillMovesRow : OpenClaim := { program := "ytmdcpigobfhckaa", sum := "2e269910c0db5bdbee47f547e0ff3b9b0eb8dfcb0847de6ee5050fb9e5b4425c", func := "loop.example/mailcoaches/laws.FnExactBillMoves", spec := "fnExactBillMoves", apart := false }
def FnExactBillMovesSaid : Prop := fnExactBillMovesRow.holds Try.pinned (OpenSpec.ofChange fnExactBillMovesSpec)

/-- ITS FALSE NEIGHBOUR: 'it returns false'. Refute it at one input. -/
def fnExactBillMovesWrong : ChangeSpec := { name := "fnExactBillMoves", fn := fun _ => fun
  | [d1, d2] => { results := [.lit (.bool false)], args := [d1, d2] }
  | _ => none }
def FnExactBillMovesWrongFalsely : Prop := fnExactBillMovesRow.holds Try.pinned (OpenSpec.ofChange fnExactBillMovesWrong)

/-- 'laws.FnExactBillNested': WHATEVER THE INPUT: true; the input reads as it did. -/
def fnExactBillNestedSpec : ChangeSpec := { name := "fnExactBillNested", fn := fun _ => fun
  | [d1, d2] => { results := [.lit (.bool true)], args := [d1, d2] }
  | _ => none }
def fnExactBillNestedRow : OpenClaim := { program := "ytmdcpigobfhckaa", sum := "2e269910c0db5bdbee47f547e0ff3b9b0eb8dfcb0847de6ee5050fb9e5b4425c", func := "loop.example/mailcoaches/laws.FnExactBillNested", spec := "fnExactBillNested", apart := false }
def FnExactBillNestedSaid : Prop := fnExactBillNestedRow.holds Try.pinned (OpenSpec.ofChange fnExactBillNestedSpec)

/-- ITS FALSE NEIGHBOUR: 'it returns false'. Refute it at one input. -/
def fnExactBillNestedWrong : ChangeSpec := { name := "fnExactBillNested", fn := fun _ => fun
  | [d1, d2] => { results := [.lit (.bool false)], args := [d1, d2] }
  | _ => none }
def FnExactBillNestedWrongFalsely : Prop := fnExactBillNestedRow.holds Try.pinned (OpenSpec.ofChange fnExactBillNestedWrong)

/-- 'laws.FnExactBillOrder': WHATEVER THE INPUT: true; the input reads as it did. -/
def fnExactBillOrderSpec : ChangeSpec := { name := "fnExactBillOrder", fn := fun _ => fun
  | [d1, d2] => { results := [.lit (.bool true)], args := [d1, d2] }
  | _ => none }
def fnExactBillOrderRow : OpenClaim := { program := "ytmdcpigobfhckaa", sum := "2e269910c0db5bdbee47f547e0ff3b9b0eb8dfcb0847de6ee5050fb9e5b4425c", func := "loop.example/mailcoaches/laws.FnExactBillOrder", spec := "fnExactBillOrder", unfollowed := true, recurses := true, apart := false }
def FnExactBillOrderSaid : Prop := fnExactBillOrderRow.holds Try.pinned (OpenSpec.ofChange fnExactBillOrderSpec)

/-- ITS FALSE NEIGHBOUR: 'it returns false'. Refute it at one input. -/
def fnExactBillOrderWrong : ChangeSpec := { name := "fnExactBillOrder", fn := fun _ => fun
  | [d1, d2] => { results := [.lit (.bool false)], args := [d1, d2] }
  | _ => none }
def FnExactBillOrderWrongFalsely : Prop := fnExactBillOrderRow.holds Try.pinned (OpenSpec.ofChange fnExactBillOrderWrong)

/-- 'laws.FnExactBillPound': WHATEVER THE INPUT: true; the input reads as it did. -/
def fnExactBillPoundSpec : ChangeSpec := { name := "fnExactBillPound", fn := fun _ => fun
  | [d1, d2] => { results := [.lit (.bool true)], args := [d1, d2] }
  | _ => none }
def fnExactBillPoundRow : OpenClaim := { program := "ytmdcpigobfhckaa", sum := "2e269910c0db5bdbee47f547e0ff3b9b0eb8dfcb0847de6ee5050fb9e5b4425c", func := "loop.example/mailcoaches/laws.FnExactBillPound", spec := "fnExactBillPound", apart := false }
def FnExactBillPoundSaid : Prop := fnExactBillPoundRow.holds Try.pinned (OpenSpec.ofChange fnExactBillPoundSpec)

/-- ITS FALSE NEIGHBOUR: 'it returns false'. Refute it at one input. -/
def fnExactBillPoundWrong : ChangeSpec := { name := "fnExactBillPound", fn := fun _ => fun
  | [d1, d2] => { results := [.lit (.bool false)], args := [d1, d2] }
  | _ => none }
def FnExactBillPoundWrongFalsely : Prop := fnExactBillPoundRow.holds Try.pinned (OpenSpec.ofChange fnExactBillPoundWrong)

/-- 'laws.FnExactBillTurn': WHATEVER THE INPUT: true; the input reads as it did. -/
def fnExactBillTurnSpec : ChangeSpec := { name := "fnExactBillTurn", fn := fun _ => fun
  | [d1, d2] => { results := [.lit (.bool true)], args := [d1, d2] }
  | _ => none }
def fnExactBillTurnRow : OpenClaim := { program := "ytmdcpigobfhckaa", sum := "2e269910c0db5bdbee47f547e0ff3b9b0eb8dfcb0847de6ee5050fb9e5b4425c", func := "loop.example/mailcoaches/laws.FnExactBillTurn", spec := "fnExactBillTurn", apart := false }
def FnExactBillTurnSaid : Prop := fnExactBillTurnRow.holds Try.pinned (OpenSpec.ofChange fnExactBillTurnSpec)

/-- ITS FALSE NEIGHBOUR: 'it returns false'. Refute it at one input. -/
def fnExactBillTurnWrong : ChangeSpec := { name := "fnExactBillTurn", fn := fun _ => fun
  | [d1, d2] => { results := [.lit (.bool false)], args := [d1, d2] }
  | _ => none }
def FnExactBillTurnWrongFalsely : Prop := fnExactBillTurnRow.holds Try.pinned (OpenSpec.ofChange fnExactBillTurnWrong)

/-- 'laws.FnExactBillJoin': WHATEVER THE INPUT: true; the input reads as it did. -/
def fnExactBillJoinSpec : ChangeSpec := { name := "fnExactBillJoin", fn := fun _ => fun
  | [d1, d2, d3] => { results := [.lit (.bool true)], args := [d1, d2, d3] }
  | _ => none }
def fnExactBillJoinRow : OpenClaim := { program := "ytmdcpigobfhckaa", sum := "2e269910c0db5bdbee47f547e0ff3b9b0eb8dfcb0847de6ee5050fb9e5b4425c", func := "loop.example/mailcoaches/laws.FnExactBillJoin", spec := "fnExactBillJoin", apart := false }
def FnExactBillJoinSaid : Prop := fnExactBillJoinRow.holds Try.pinned (OpenSpec.ofChange fnExactBillJoinSpec)

/-- ITS FALSE NEIGHBOUR: 'it returns false'. Refute it at one input. -/
def fnExactBillJoinWrong : ChangeSpec := { name := "fnExactBillJoin", fn := fun _ => fun
  | [d1, d2, d3] => { results := [.lit (.bool false)], args := [d1, d2, d3] }
  | _ => none }
def FnExactBillJoinWrongFalsely : Prop := fnExactBillJoinRow.holds Try.pinned (OpenSpec.ofChange fnExactBillJoinWrong)

/-- 'laws.FnExactGatesAdd': WHATEVER THE INPUT: true; the input reads as it did. -/
def fnExactGatesAddSpec : ChangeSpec := { name := "fnExactGatesAdd", fn := fun _ => fun
  | [d1, d2] => { results := [.lit (.bool true)], args := [d1, d2] }
  | _ => none }
def fnExactGatesAddRow : OpenClaim := { program := "ytmdcpigobfhckaa", sum := "2e269910c0db5bdbee47f547e0ff3b9b0eb8dfcb0847de6ee5050fb9e5b4425c", func := "loop.example/mailcoaches/laws.FnExactGatesAdd", spec := "fnExactGatesAdd", inPlace := ["slices.overlaps[loop.example/mailcoaches/impl.Gate]"], unfollowed := true, recurses := true, apart := false }
def FnExactGatesAddSaid : Prop := fnExactGatesAddRow.holds Try.pinned (OpenSpec.ofChange fnExactGatesAddSpec)

/-- ITS FALSE NEIGHBOUR: 'it returns false'. Refute it at one input. -/
def fnExactGatesAddWrong : ChangeSpec := { name := "fnExactGatesAdd", fn := fun _ => fun
  | [d1, d2] => { results := [.lit (.bool false)], args := [d1, d2] }
  | _ => none }
def FnExactGatesAddWrongFalsely : Prop := fnExactGatesAddRow.holds Try.pinned (OpenSpec.ofChange fnExactGatesAddWrong)

/-- 'laws.FnBillLoads': WHATEVER THE INPUT: true; the input reads as it did. -/
def fnBillLoadsSpec : ChangeSpec := { name := "fnBillLoads", fn := fun _ => fun
  | [d] => { results := [.lit (.bool true)], args := [d] }
  | _ => none }
def fnBillLoadsRow : OpenClaim := { program := "ytmdcpigobfhckaa", sum := "2e269910c0db5bdbee47f547e0ff3b9b0eb8dfcb0847de6ee5050fb9e5b4425c", func := "loop.example/mailcoaches/laws.FnBillLoads", spec := "fnBillLoads", apart := false }
def FnBillLoadsSaid : Prop := fnBillLoadsRow.holds Try.pinned (OpenSpec.ofChange fnBillLoadsSpec)

/-- ITS FALSE NEIGHBOUR: 'it returns false'. Refute it at one input. -/
def fnBillLoadsWrong : ChangeSpec := { name := "fnBillLoads", fn := fun _ => fun
  | [d] => { results := [.lit (.bool false)], args := [d] }
  | _ => none }
def FnBillLoadsWrongFalsely : Prop := fnBillLoadsRow.holds Try.pinned (OpenSpec.ofChange fnBillLoadsWrong)

/-- 'laws.FnBillStack': WHATEVER THE INPUT: true; the input reads as it did. -/
def fnBillStackSpec : ChangeSpec := { name := "fnBillStack", fn := fun _ => fun
  | [d] => { results := [.lit (.bool true)], args := [d] }
  | _ => none }
def fnBillStackRow : OpenClaim := { program := "ytmdcpigobfhckaa", sum := "2e269910c0db5bdbee47f547e0ff3b9b0eb8dfcb0847de6ee5050fb9e5b4425c", func := "loop.example/mailcoaches/laws.FnBillStack", spec := "fnBillStack", apart := false }
def FnBillStackSaid : Prop := fnBillStackRow.holds Try.pinned (OpenSpec.ofChange fnBillStackSpec)

/-- ITS FALSE NEIGHBOUR: 'it returns false'. Refute it at one input. -/
def fnBillStackWrong : ChangeSpec := { name := "fnBillStack", fn := fun _ => fun
  | [d] => { results := [.lit (.bool false)], args := [d] }
  | _ => none }
def FnBillStackWrongFalsely : Prop := fnBillStackRow.holds Try.pinned (OpenSpec.ofChange fnBillStackWrong)

/-- 'laws.FnBillMoves': WHATEVER THE INPUT: true; the input reads as it did. -/
def fnBillMovesSpec : ChangeSpec := { name := "fnBillMoves", fn := fun _ => fun
  | [d] => { results := [.lit (.bool true)], args := [d] }
  | _ => none }
def fnBillMovesRow : OpenClaim := { program := "ytmdcpigobfhckaa", sum := "2e269910c0db5bdbee47f547e0ff3b9b0eb8dfcb0847de6ee5050fb9e5b4425c", func := "loop.example/mailcoaches/laws.FnBillMoves", spec := "fnBillMoves", apart := false }
def FnBillMovesSaid : Prop := fnBillMovesRow.holds Try.pinned (OpenSpec.ofChange fnBillMovesSpec)

/-- ITS FALSE NEIGHBOUR: 'it returns false'. Refute it at one input. -/
def fnBillMovesWrong : ChangeSpec := { name := "fnBillMoves", fn := fun _ => fun
  | [d] => { results := [.lit (.bool false)], args := [d] }
  | _ => none }
def FnBillMovesWrongFalsely : Prop := fnBillMovesRow.holds Try.pinned (OpenSpec.ofChange fnBillMovesWrong)

/-- 'laws.FnBillNested': WHATEVER THE INPUT: true; the input reads as it did. -/
def fnBillNestedSpec : ChangeSpec := { name := "fnBillNested", fn := fun _ => fun
  | [d1, d2] => { results := [.lit (.bool true)], args := [d1, d2] }
  | _ => none }
def fnBillNestedRow : OpenClaim := { program := "ytmdcpigobfhckaa", sum := "2e269910c0db5bdbee47f547e0ff3b9b0eb8dfcb0847de6ee5050fb9e5b4425c", func := "loop.example/mailcoaches/laws.FnBillNested", spec := "fnBillNested", apart := false }
def FnBillNestedSaid : Prop := fnBillNestedRow.holds Try.pinned (OpenSpec.ofChange fnBillNestedSpec)

/-- ITS FALSE NEIGHBOUR: 'it returns false'. Refute it at one input. -/
def fnBillNestedWrong : ChangeSpec := { name := "fnBillNested", fn := fun _ => fun
  | [d1, d2] => { results := [.lit (.bool false)], args := [d1, d2] }
  | _ => none }
def FnBillNestedWrongFalsely : Prop := fnBillNestedRow.holds Try.pinned (OpenSpec.ofChange fnBillNestedWrong)

/-- 'laws.FnBillOrder': WHATEVER THE INPUT: true; the input reads as it did. -/
def fnBillOrderSpec : ChangeSpec := { name := "fnBillOrder", fn := fun _ => fun
  | [d] => { results := [.lit (.bool true)], args := [d] }
  | _ => none }
def fnBillOrderRow : OpenClaim := { program := "ytmdcpigobfhckaa", sum := "2e269910c0db5bdbee47f547e0ff3b9b0eb8dfcb0847de6ee5050fb9e5b4425c", func := "loop.example/mailcoaches/laws.FnBillOrder", spec := "fnBillOrder", unfollowed := true, recurses := true, apart := false }
def FnBillOrderSaid : Prop := fnBillOrderRow.holds Try.pinned (OpenSpec.ofChange fnBillOrderSpec)

/-- ITS FALSE NEIGHBOUR: 'it returns false'. Refute it at one input. -/
def fnBillOrderWrong : ChangeSpec := { name := "fnBillOrder", fn := fun _ => fun
  | [d] => { results := [.lit (.bool false)], args := [d] }
  | _ => none }
def FnBillOrderWrongFalsely : Prop := fnBillOrderRow.holds Try.pinned (OpenSpec.ofChange fnBillOrderWrong)

/- THE SECOND FORM. 'bulk': how many values and letters a reading holds, each counted each time it is reached (what is shared counts as often as it is met; a slice's spare places count too). A statement '..UptoSaid' is the law's where the arguments, and the package variables that the reading takes, are together of bulk at most 1048576: NARROWER than '..Said'. Prove '..Said' where nothing that the law and all that it calls make is longer than what came in: it says more and counts as full. Else prove '..UptoSaid'. A law counts once. -/
mutual
def uptoBulk {H : Type} : DataW H → Nat
  | .lit (.string bytes) => bytes.length + 1
  | .lit _ => 1
  | .nil => 1
  | .ptr d => uptoBulk d + 1
  | .slice elems spare => uptoBulkAll elems + uptoBulkAll spare + 1
  | .agg parts => uptoBulkAll parts + 1
  | .iface _ d => uptoBulk d + 1
  | .map entries => uptoBulkEntries entries + 1
  | .held _ => 1
def uptoBulkAll {H : Type} : List (DataW H) → Nat
  | [] => 0
  | d :: r => uptoBulk d + uptoBulkAll r
def uptoBulkEntries {H : Type} : List (Lit × DataW H) → Nat
  | [] => 0
  | x :: r => uptoBulkEntry x + uptoBulkEntries r
def uptoBulkEntry {H : Type} : Lit × DataW H → Nat
  | (.string bytes, d) => bytes.length + uptoBulk d + 1
  | (_, d) => uptoBulk d + 1
 end
def uptoSmall : (H : Type) → List (DataW H) → Bool := fun _ ds => decide (uptoBulkAll ds ≤ 1048576)
def OpenSpec.upto (s : _root_.Go.ChangeSpec) : _root_.Go.OpenSpec := { _root_.Go.OpenSpec.ofChange s with cond := some uptoSmall }

/-- 'laws.FnExactBillValid', WHERE WHAT IT READS IS OF BULK AT MOST 1048576: true; the input reads as it did. -/
def fnExactBillValidUptoRow : OpenClaim := { program := "ytmdcpigobfhckaa", sum := "2e269910c0db5bdbee47f547e0ff3b9b0eb8dfcb0847de6ee5050fb9e5b4425c", func := "loop.example/mailcoaches/laws.FnExactBillValid", spec := "fnExactBillValid", apart := false, narrowed := true }
def FnExactBillValidUptoSaid : Prop := fnExactBillValidUptoRow.holds Try.pinned (OpenSpec.upto fnExactBillValidSpec)

/-- 'laws.FnExactBillLoads', WHERE WHAT IT READS IS OF BULK AT MOST 1048576: true; the input reads as it did. -/
def fnExactBillLoadsUptoRow : OpenClaim := { program := "ytmdcpigobfhckaa", sum := "2e269910c0db5bdbee47f547e0ff3b9b0eb8dfcb0847de6ee5050fb9e5b4425c", func := "loop.example/mailcoaches/laws.FnExactBillLoads", spec := "fnExactBillLoads", apart := false, narrowed := true }
def FnExactBillLoadsUptoSaid : Prop := fnExactBillLoadsUptoRow.holds Try.pinned (OpenSpec.upto fnExactBillLoadsSpec)

/-- 'laws.FnExactBillRoom', WHERE WHAT IT READS IS OF BULK AT MOST 1048576: true; the input reads as it did. -/
def fnExactBillRoomUptoRow : OpenClaim := { program := "ytmdcpigobfhckaa", sum := "2e269910c0db5bdbee47f547e0ff3b9b0eb8dfcb0847de6ee5050fb9e5b4425c", func := "loop.example/mailcoaches/laws.FnExactBillRoom", spec := "fnExactBillRoom", apart := false, narrowed := true }
def FnExactBillRoomUptoSaid : Prop := fnExactBillRoomUptoRow.holds Try.pinned (OpenSpec.upto fnExactBillRoomSpec)

/-- 'laws.FnExactBillAdd', WHERE WHAT IT READS IS OF BULK AT MOST 1048576: true; the input reads as it did. -/
def fnExactBillAddUptoRow : OpenClaim := { program := "ytmdcpigobfhckaa", sum := "2e269910c0db5bdbee47f547e0ff3b9b0eb8dfcb0847de6ee5050fb9e5b4425c", func := "loop.example/mailcoaches/laws.FnExactBillAdd", spec := "fnExactBillAdd", apart := false, narrowed := true }
def FnExactBillAddUptoSaid : Prop := fnExactBillAddUptoRow.holds Try.pinned (OpenSpec.upto fnExactBillAddSpec)

/-- 'laws.FnExactBillDrop', WHERE WHAT IT READS IS OF BULK AT MOST 1048576: true; the input reads as it did. -/
def fnExactBillDropUptoRow : OpenClaim := { program := "ytmdcpigobfhckaa", sum := "2e269910c0db5bdbee47f547e0ff3b9b0eb8dfcb0847de6ee5050fb9e5b4425c", func := "loop.example/mailcoaches/laws.FnExactBillDrop", spec := "fnExactBillDrop", apart := false, narrowed := true }
def FnExactBillDropUptoSaid : Prop := fnExactBillDropUptoRow.holds Try.pinned (OpenSpec.upto fnExactBillDropSpec)

/-- 'laws.FnExactBillStack', WHERE WHAT IT READS IS OF BULK AT MOST 1048576: true; the input reads as it did. -/
def fnExactBillStackUptoRow : OpenClaim := { program := "ytmdcpigobfhckaa", sum := "2e269910c0db5bdbee47f547e0ff3b9b0eb8dfcb0847de6ee5050fb9e5b4425c", func := "loop.example/mailcoaches/laws.FnExactBillStack", spec := "fnExactBillStack", apart := false, narrowed := true }
def FnExactBillStackUptoSaid : Prop := fnExactBillStackUptoRow.holds Try.pinned (OpenSpec.upto fnExactBillStackSpec)

/-- 'laws.FnExactBillMoves', WHERE WHAT IT READS IS OF BULK AT MOST 1048576: true; the input reads as it did. -/
def fnExactBillMovesUptoRow : OpenClaim := { program := "ytmdcpigobfhckaa", sum := "2e269910c0db5bdbee47f547e0ff3b9b0eb8dfcb0847de6ee5050fb9e5b4425c", func := "loop.example/mailcoaches/laws.FnExactBillMoves", spec := "fnExactBillMoves", apart := false, narrowed := true }
def FnExactBillMovesUptoSaid : Prop := fnExactBillMovesUptoRow.holds Try.pinned (OpenSpec.upto fnExactBillMovesSpec)

/-- 'laws.FnExactBillNested', WHERE WHAT IT READS IS OF BULK AT MOST 1048576: true; the input reads as it did. -/
def fnExactBillNestedUptoRow : OpenClaim := { program := "ytmdcpigobfhckaa", sum := "2e269910c0db5bdbee47f547e0ff3b9b0eb8dfcb0847de6ee5050fb9e5b4425c", func := "loop.example/mailcoaches/laws.FnExactBillNested", spec := "fnExactBillNested", apart := false, narrowed := true }
def FnExactBillNestedUptoSaid : Prop := fnExactBillNestedUptoRow.holds Try.pinned (OpenSpec.upto fnExactBillNestedSpec)

/-- 'laws.FnExactBillOrder', WHERE WHAT IT READS IS OF BULK AT MOST 1048576: true; the input reads as it did. -/
def fnExactBillOrderUptoRow : OpenClaim := { program := "ytmdcpigobfhckaa", sum := "2e269910c0db5bdbee47f547e0ff3b9b0eb8dfcb0847de6ee5050fb9e5b4425c", func := "loop.example/mailcoaches/laws.FnExactBillOrder", spec := "fnExactBillOrder", unfollowed := true, recurses := true, apart := false, narrowed := true }
def FnExactBillOrderUptoSaid : Prop := fnExactBillOrderUptoRow.holds Try.pinned (OpenSpec.upto fnExactBillOrderSpec)

/-- 'laws.FnExactBillPound', WHERE WHAT IT READS IS OF BULK AT MOST 1048576: true; the input reads as it did. -/
def fnExactBillPoundUptoRow : OpenClaim := { program := "ytmdcpigobfhckaa", sum := "2e269910c0db5bdbee47f547e0ff3b9b0eb8dfcb0847de6ee5050fb9e5b4425c", func := "loop.example/mailcoaches/laws.FnExactBillPound", spec := "fnExactBillPound", apart := false, narrowed := true }
def FnExactBillPoundUptoSaid : Prop := fnExactBillPoundUptoRow.holds Try.pinned (OpenSpec.upto fnExactBillPoundSpec)

/-- 'laws.FnExactBillTurn', WHERE WHAT IT READS IS OF BULK AT MOST 1048576: true; the input reads as it did. -/
def fnExactBillTurnUptoRow : OpenClaim := { program := "ytmdcpigobfhckaa", sum := "2e269910c0db5bdbee47f547e0ff3b9b0eb8dfcb0847de6ee5050fb9e5b4425c", func := "loop.example/mailcoaches/laws.FnExactBillTurn", spec := "fnExactBillTurn", apart := false, narrowed := true }
def FnExactBillTurnUptoSaid : Prop := fnExactBillTurnUptoRow.holds Try.pinned (OpenSpec.upto fnExactBillTurnSpec)

/-- 'laws.FnExactBillJoin', WHERE WHAT IT READS IS OF BULK AT MOST 1048576: true; the input reads as it did. -/
def fnExactBillJoinUptoRow : OpenClaim := { program := "ytmdcpigobfhckaa", sum := "2e269910c0db5bdbee47f547e0ff3b9b0eb8dfcb0847de6ee5050fb9e5b4425c", func := "loop.example/mailcoaches/laws.FnExactBillJoin", spec := "fnExactBillJoin", apart := false, narrowed := true }
def FnExactBillJoinUptoSaid : Prop := fnExactBillJoinUptoRow.holds Try.pinned (OpenSpec.upto fnExactBillJoinSpec)

/-- 'laws.FnExactGatesAdd', WHERE WHAT IT READS IS OF BULK AT MOST 1048576: true; the input reads as it did. -/
def fnExactGatesAddUptoRow : OpenClaim := { program := "ytmdcpigobfhckaa", sum := "2e269910c0db5bdbee47f547e0ff3b9b0eb8dfcb0847de6ee5050fb9e5b4425c", func := "loop.example/mailcoaches/laws.FnExactGatesAdd", spec := "fnExactGatesAdd", inPlace := ["slices.overlaps[loop.example/mailcoaches/impl.Gate]"], unfollowed := true, recurses := true, apart := false, narrowed := true }
def FnExactGatesAddUptoSaid : Prop := fnExactGatesAddUptoRow.holds Try.pinned (OpenSpec.upto fnExactGatesAddSpec)

/-- 'laws.FnBillLoads', WHERE WHAT IT READS IS OF BULK AT MOST 1048576: true; the input reads as it did. -/
def fnBillLoadsUptoRow : OpenClaim := { program := "ytmdcpigobfhckaa", sum := "2e269910c0db5bdbee47f547e0ff3b9b0eb8dfcb0847de6ee5050fb9e5b4425c", func := "loop.example/mailcoaches/laws.FnBillLoads", spec := "fnBillLoads", apart := false, narrowed := true }
def FnBillLoadsUptoSaid : Prop := fnBillLoadsUptoRow.holds Try.pinned (OpenSpec.upto fnBillLoadsSpec)

/-- 'laws.FnBillStack', WHERE WHAT IT READS IS OF BULK AT MOST 1048576: true; the input reads as it did. -/
def fnBillStackUptoRow : OpenClaim := { program := "ytmdcpigobfhckaa", sum := "2e269910c0db5bdbee47f547e0ff3b9b0eb8dfcb0847de6ee5050fb9e5b4425c", func := "loop.example/mailcoaches/laws.FnBillStack", spec := "fnBillStack", apart := false, narrowed := true }
def FnBillStackUptoSaid : Prop := fnBillStackUptoRow.holds Try.pinned (OpenSpec.upto fnBillStackSpec)

/-- 'laws.FnBillMoves', WHERE WHAT IT READS IS OF BULK AT MOST 1048576: true; the input reads as it did. -/
def fnBillMovesUptoRow : OpenClaim := { program := "ytmdcpigobfhckaa", sum := "2e269910c0db5bdbee47f547e0ff3b9b0eb8dfcb0847de6ee5050fb9e5b4425c", func := "loop.example/mailcoaches/laws.FnBillMoves", spec := "fnBillMoves", apart := false, narrowed := true }
def FnBillMovesUptoSaid : Prop := fnBillMovesUptoRow.holds Try.pinned (OpenSpec.upto fnBillMovesSpec)

/-- 'laws.FnBillNested', WHERE WHAT IT READS IS OF BULK AT MOST 1048576: true; the input reads as it did. -/
def fnBillNestedUptoRow : OpenClaim := { program := "ytmdcpigobfhckaa", sum := "2e269910c0db5bdbee47f547e0ff3b9b0eb8dfcb0847de6ee5050fb9e5b4425c", func := "loop.example/mailcoaches/laws.FnBillNested", spec := "fnBillNested", apart := false, narrowed := true }
def FnBillNestedUptoSaid : Prop := fnBillNestedUptoRow.holds Try.pinned (OpenSpec.upto fnBillNestedSpec)

/-- 'laws.FnBillOrder', WHERE WHAT IT READS IS OF BULK AT MOST 1048576: true; the input reads as it did. -/
def fnBillOrderUptoRow : OpenClaim := { program := "ytmdcpigobfhckaa", sum := "2e269910c0db5bdbee47f547e0ff3b9b0eb8dfcb0847de6ee5050fb9e5b4425c", func := "loop.example/mailcoaches/laws.FnBillOrder", spec := "fnBillOrder", unfollowed := true, recurses := true, apart := false, narrowed := true }
def FnBillOrderUptoSaid : Prop := fnBillOrderUptoRow.holds Try.pinned (OpenSpec.upto fnBillOrderSpec)

end Rows
end Go.Proofs.Ytmdcpigobfhckaa
