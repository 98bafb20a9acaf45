/-
  No cell of these rows narrows 'for every input' (looked for: loops, veiled, ifaces, maps, wideKeys, modest, calm, conditions, laid).
  DERIVED. THE GIVEN ROWS OF THIS SEAT. 10 by the template 'for every input the law returns true; each argument reads behind the call as it read before'; 0 by the template 'total and deterministic' (their statements: YtnlhnibhgpelfaaTotals.lean).
  GIVEN WITH THE SEED: the statements are not yours to turn. If you find one false, say at which input.
  Laid BY PROGRAM, IN A SANDBOX (cutbox-rows.mjs): the forced cells as the released guide's own fill.sh prints them over the translation f1a21a8deed69716… (all of the seat's roots in one cut). By AI agents, Wed Nov 11 2026. No macro, syntax, notation, axiom, sorry.
-/
import Derived.Test.YtnlhnibhgpelfaaChecked
import GoSem.Claim
import GoSem.ClaimJoined
import GoSem.ClaimMapViews
import Derived.JoinedTies
import Derived.KernelRfl
namespace Go.Proofs.Ytnlhnibhgpelfaa
/- THE CELL 'sum', in the pinned program and in every row, IS THE sha256 OF THE DUMP (.gsa) THAT YtnlhnibhgpelfaaProg.lean LOADS. Nothing in Lean hashes anything: it is a label: what it is worth is what the hold of that sum in a sandbox is worth. -/
noncomputable def Try.pinned : Pinned := { name := "ytnlhnibhgpelfaa", sum := "f1a21a8deed69716366e2345be802e8cd83efe361ad7ad7335e51a8cd119347a", checked := Try.checked }
namespace Rows
def none {H : Type} : Left H := { results := [], args := [] }

/-- 'laws.FnExactRoadsAdd': WHATEVER THE INPUT: true; the input reads as it did. -/
def fnExactRoadsAddSpec : ChangeSpec := { name := "fnExactRoadsAdd", fn := fun _ => fun
  | [d1, d2, d3] => { results := [.lit (.bool true)], args := [d1, d2, d3] }
  | _ => none }
def fnExactRoadsAddRow : OpenClaim := { program := "ytnlhnibhgpelfaa", sum := "f1a21a8deed69716366e2345be802e8cd83efe361ad7ad7335e51a8cd119347a", func := "loop.example/mailcoaches/laws.FnExactRoadsAdd", spec := "fnExactRoadsAdd", apart := false }
def FnExactRoadsAddSaid : Prop := fnExactRoadsAddRow.holds Try.pinned (OpenSpec.ofChange fnExactRoadsAddSpec)

/-- ITS FALSE NEIGHBOUR: 'it returns false'. Refute it at one input. -/
def fnExactRoadsAddWrong : ChangeSpec := { name := "fnExactRoadsAdd", fn := fun _ => fun
  | [d1, d2, d3] => { results := [.lit (.bool false)], args := [d1, d2, d3] }
  | _ => none }
def FnExactRoadsAddWrongFalsely : Prop := fnExactRoadsAddRow.holds Try.pinned (OpenSpec.ofChange fnExactRoadsAddWrong)

/-- 'laws.FnExactRoadsClose': WHATEVER THE INPUT: true; the input reads as it did. -/
def fnExactRoadsCloseSpec : ChangeSpec := { name := "fnExactRoadsClose", fn := fun _ => fun
  | [d1, d2, d3, d4] => { results := [.lit (.bool true)], args := [d1, d2, d3, d4] }
  | _ => none }
def fnExactRoadsCloseRow : OpenClaim := { program := "ytnlhnibhgpelfaa", sum := "f1a21a8deed69716366e2345be802e8cd83efe361ad7ad7335e51a8cd119347a", func := "loop.example/mailcoaches/laws.FnExactRoadsClose", spec := "fnExactRoadsClose", apart := false }
def FnExactRoadsCloseSaid : Prop := fnExactRoadsCloseRow.holds Try.pinned (OpenSpec.ofChange fnExactRoadsCloseSpec)

/-- ITS FALSE NEIGHBOUR: 'it returns false'. Refute it at one input. -/
def fnExactRoadsCloseWrong : ChangeSpec := { name := "fnExactRoadsClose", fn := fun _ => fun
  | [d1, d2, d3, d4] => { results := [.lit (.bool false)], args := [d1, d2, d3, d4] }
  | _ => none }
def FnExactRoadsCloseWrongFalsely : Prop := fnExactRoadsCloseRow.holds Try.pinned (OpenSpec.ofChange fnExactRoadsCloseWrong)

/-- 'laws.FnExactRoadsNeeded': WHATEVER THE INPUT: true; the input reads as it did. -/
def fnExactRoadsNeededSpec : ChangeSpec := { name := "fnExactRoadsNeeded", fn := fun _ => fun
  | [d1, d2] => { results := [.lit (.bool true)], args := [d1, d2] }
  | _ => none }
def fnExactRoadsNeededRow : OpenClaim := { program := "ytnlhnibhgpelfaa", sum := "f1a21a8deed69716366e2345be802e8cd83efe361ad7ad7335e51a8cd119347a", func := "loop.example/mailcoaches/laws.FnExactRoadsNeeded", spec := "fnExactRoadsNeeded", unfollowed := true, recurses := true, apart := false }
def FnExactRoadsNeededSaid : Prop := fnExactRoadsNeededRow.holds Try.pinned (OpenSpec.ofChange fnExactRoadsNeededSpec)

/-- ITS FALSE NEIGHBOUR: 'it returns false'. Refute it at one input. -/
def fnExactRoadsNeededWrong : ChangeSpec := { name := "fnExactRoadsNeeded", fn := fun _ => fun
  | [d1, d2] => { results := [.lit (.bool false)], args := [d1, d2] }
  | _ => none }
def FnExactRoadsNeededWrongFalsely : Prop := fnExactRoadsNeededRow.holds Try.pinned (OpenSpec.ofChange fnExactRoadsNeededWrong)

/-- 'laws.FnExactRoadsNet': WHATEVER THE INPUT: true; the input reads as it did. -/
def fnExactRoadsNetSpec : ChangeSpec := { name := "fnExactRoadsNet", fn := fun _ => fun
  | [d1, d2] => { results := [.lit (.bool true)], args := [d1, d2] }
  | _ => none }
def fnExactRoadsNetRow : OpenClaim := { program := "ytnlhnibhgpelfaa", sum := "f1a21a8deed69716366e2345be802e8cd83efe361ad7ad7335e51a8cd119347a", func := "loop.example/mailcoaches/laws.FnExactRoadsNet", spec := "fnExactRoadsNet", unfollowed := true, recurses := true, apart := false }
def FnExactRoadsNetSaid : Prop := fnExactRoadsNetRow.holds Try.pinned (OpenSpec.ofChange fnExactRoadsNetSpec)

/-- ITS FALSE NEIGHBOUR: 'it returns false'. Refute it at one input. -/
def fnExactRoadsNetWrong : ChangeSpec := { name := "fnExactRoadsNet", fn := fun _ => fun
  | [d1, d2] => { results := [.lit (.bool false)], args := [d1, d2] }
  | _ => none }
def FnExactRoadsNetWrongFalsely : Prop := fnExactRoadsNetRow.holds Try.pinned (OpenSpec.ofChange fnExactRoadsNetWrong)

/-- 'laws.FnWay': WHATEVER THE INPUT: true; the input reads as it did. -/
def fnWaySpec : ChangeSpec := { name := "fnWay", fn := fun _ => fun
  | [d1, d2] => { results := [.lit (.bool true)], args := [d1, d2] }
  | _ => none }
def fnWayRow : OpenClaim := { program := "ytnlhnibhgpelfaa", sum := "f1a21a8deed69716366e2345be802e8cd83efe361ad7ad7335e51a8cd119347a", func := "loop.example/mailcoaches/laws.FnWay", spec := "fnWay", unfollowed := true, recurses := true, apart := false }
def FnWaySaid : Prop := fnWayRow.holds Try.pinned (OpenSpec.ofChange fnWaySpec)

/-- ITS FALSE NEIGHBOUR: 'it returns false'. Refute it at one input. -/
def fnWayWrong : ChangeSpec := { name := "fnWay", fn := fun _ => fun
  | [d1, d2] => { results := [.lit (.bool false)], args := [d1, d2] }
  | _ => none }
def FnWayWrongFalsely : Prop := fnWayRow.holds Try.pinned (OpenSpec.ofChange fnWayWrong)

/-- 'laws.FnFar': WHATEVER THE INPUT: true; the input reads as it did. -/
def fnFarSpec : ChangeSpec := { name := "fnFar", fn := fun _ => fun
  | [d1, d2] => { results := [.lit (.bool true)], args := [d1, d2] }
  | _ => none }
def fnFarRow : OpenClaim := { program := "ytnlhnibhgpelfaa", sum := "f1a21a8deed69716366e2345be802e8cd83efe361ad7ad7335e51a8cd119347a", func := "loop.example/mailcoaches/laws.FnFar", spec := "fnFar", unfollowed := true, recurses := true, apart := false }
def FnFarSaid : Prop := fnFarRow.holds Try.pinned (OpenSpec.ofChange fnFarSpec)

/-- ITS FALSE NEIGHBOUR: 'it returns false'. Refute it at one input. -/
def fnFarWrong : ChangeSpec := { name := "fnFar", fn := fun _ => fun
  | [d1, d2] => { results := [.lit (.bool false)], args := [d1, d2] }
  | _ => none }
def FnFarWrongFalsely : Prop := fnFarRow.holds Try.pinned (OpenSpec.ofChange fnFarWrong)

/-- 'laws.FnRoadsWay': WHATEVER THE INPUT: true; the input reads as it did. -/
def fnRoadsWaySpec : ChangeSpec := { name := "fnRoadsWay", fn := fun _ => fun
  | [d] => { results := [.lit (.bool true)], args := [d] }
  | _ => none }
def fnRoadsWayRow : OpenClaim := { program := "ytnlhnibhgpelfaa", sum := "f1a21a8deed69716366e2345be802e8cd83efe361ad7ad7335e51a8cd119347a", func := "loop.example/mailcoaches/laws.FnRoadsWay", spec := "fnRoadsWay", unfollowed := true, recurses := true, apart := false }
def FnRoadsWaySaid : Prop := fnRoadsWayRow.holds Try.pinned (OpenSpec.ofChange fnRoadsWaySpec)

/-- ITS FALSE NEIGHBOUR: 'it returns false'. Refute it at one input. -/
def fnRoadsWayWrong : ChangeSpec := { name := "fnRoadsWay", fn := fun _ => fun
  | [d] => { results := [.lit (.bool false)], args := [d] }
  | _ => none }
def FnRoadsWayWrongFalsely : Prop := fnRoadsWayRow.holds Try.pinned (OpenSpec.ofChange fnRoadsWayWrong)

/-- 'laws.FnRoadsMany': WHATEVER THE INPUT: true; the input reads as it did. -/
def fnRoadsManySpec : ChangeSpec := { name := "fnRoadsMany", fn := fun _ => fun
  | [d] => { results := [.lit (.bool true)], args := [d] }
  | _ => none }
def fnRoadsManyRow : OpenClaim := { program := "ytnlhnibhgpelfaa", sum := "f1a21a8deed69716366e2345be802e8cd83efe361ad7ad7335e51a8cd119347a", func := "loop.example/mailcoaches/laws.FnRoadsMany", spec := "fnRoadsMany", unfollowed := true, recurses := true, apart := false }
def FnRoadsManySaid : Prop := fnRoadsManyRow.holds Try.pinned (OpenSpec.ofChange fnRoadsManySpec)

/-- ITS FALSE NEIGHBOUR: 'it returns false'. Refute it at one input. -/
def fnRoadsManyWrong : ChangeSpec := { name := "fnRoadsMany", fn := fun _ => fun
  | [d] => { results := [.lit (.bool false)], args := [d] }
  | _ => none }
def FnRoadsManyWrongFalsely : Prop := fnRoadsManyRow.holds Try.pinned (OpenSpec.ofChange fnRoadsManyWrong)

/-- 'laws.FnMiddle': WHATEVER THE INPUT: true; the input reads as it did. -/
def fnMiddleSpec : ChangeSpec := { name := "fnMiddle", fn := fun _ => fun
  | [d] => { results := [.lit (.bool true)], args := [d] }
  | _ => none }
def fnMiddleRow : OpenClaim := { program := "ytnlhnibhgpelfaa", sum := "f1a21a8deed69716366e2345be802e8cd83efe361ad7ad7335e51a8cd119347a", func := "loop.example/mailcoaches/laws.FnMiddle", spec := "fnMiddle", unfollowed := true, recurses := true, apart := false }
def FnMiddleSaid : Prop := fnMiddleRow.holds Try.pinned (OpenSpec.ofChange fnMiddleSpec)

/-- ITS FALSE NEIGHBOUR: 'it returns false'. Refute it at one input. -/
def fnMiddleWrong : ChangeSpec := { name := "fnMiddle", fn := fun _ => fun
  | [d] => { results := [.lit (.bool false)], args := [d] }
  | _ => none }
def FnMiddleWrongFalsely : Prop := fnMiddleRow.holds Try.pinned (OpenSpec.ofChange fnMiddleWrong)

/-- 'laws.FnRoadsNet': WHATEVER THE INPUT: true; the input reads as it did. -/
def fnRoadsNetSpec : ChangeSpec := { name := "fnRoadsNet", fn := fun _ => fun
  | [d] => { results := [.lit (.bool true)], args := [d] }
  | _ => none }
def fnRoadsNetRow : OpenClaim := { program := "ytnlhnibhgpelfaa", sum := "f1a21a8deed69716366e2345be802e8cd83efe361ad7ad7335e51a8cd119347a", func := "loop.example/mailcoaches/laws.FnRoadsNet", spec := "fnRoadsNet", unfollowed := true, recurses := true, apart := false }
def FnRoadsNetSaid : Prop := fnRoadsNetRow.holds Try.pinned (OpenSpec.ofChange fnRoadsNetSpec)

/-- ITS FALSE NEIGHBOUR: 'it returns false'. Refute it at one input. -/
def fnRoadsNetWrong : ChangeSpec := { name := "fnRoadsNet", fn := fun _ => fun
  | [d] => { results := [.lit (.bool false)], args := [d] }
  | _ => none }
def FnRoadsNetWrongFalsely : Prop := fnRoadsNetRow.holds Try.pinned (OpenSpec.ofChange fnRoadsNetWrong)

/- THE SECOND FORM. 'bulk': how many values and letters a reading holds, each counted each time it is reached (what is shared counts as often as it is met; a slice's spare places count too). A statement '..UptoSaid' is the law's where the arguments, and the package variables that the reading takes, are together of bulk at most 1048576: NARROWER than '..Said'. Prove '..Said' where nothing that the law and all that it calls make is longer than what came in: it says more and counts as full. Else prove '..UptoSaid'. A law counts once. -/
mutual
def uptoBulk {H : Type} : DataW H → Nat
  | .lit (.string bytes) => bytes.length + 1
  | .lit _ => 1
  | .nil => 1
  | .ptr d => uptoBulk d + 1
  | .slice elems spare => uptoBulkAll elems + uptoBulkAll spare + 1
  | .agg parts => uptoBulkAll parts + 1
  | .iface _ d => uptoBulk d + 1
  | .map entries => uptoBulkEntries entries + 1
  | .held _ => 1
def uptoBulkAll {H : Type} : List (DataW H) → Nat
  | [] => 0
  | d :: r => uptoBulk d + uptoBulkAll r
def uptoBulkEntries {H : Type} : List (Lit × DataW H) → Nat
  | [] => 0
  | x :: r => uptoBulkEntry x + uptoBulkEntries r
def uptoBulkEntry {H : Type} : Lit × DataW H → Nat
  | (.string bytes, d) => bytes.length + uptoBulk d + 1
  | (_, d) => uptoBulk d + 1
 end
def uptoSmall : (H : Type) → List (DataW H) → Bool := fun _ ds => decide (uptoBulkAll ds ≤ 1048576)
def OpenSpec.upto (s : _root_.Go.ChangeSpec) : _root_.Go.OpenSpec := { _root_.Go.OpenSpec.ofChange s with cond := some uptoSmall }

/-- 'laws.FnExactRoadsAdd', WHERE WHAT IT READS IS OF BULK AT MOST 1048576: true; the input reads as it did. -/
def fnExactRoadsAddUptoRow : OpenClaim := { program := "ytnlhnibhgpelfaa", sum := "f1a21a8deed69716366e2345be802e8cd83efe361ad7ad7335e51a8cd119347a", func := "loop.example/mailcoaches/laws.FnExactRoadsAdd", spec := "fnExactRoadsAdd", apart := false, narrowed := true }
def FnExactRoadsAddUptoSaid : Prop := fnExactRoadsAddUptoRow.holds Try.pinned (OpenSpec.upto fnExactRoadsAddSpec)

/-- 'laws.FnExactRoadsClose', WHERE WHAT IT READS IS OF BULK AT MOST 1048576: true; the input reads as it did. -/
def fnExactRoadsCloseUptoRow : OpenClaim := { program := "ytnlhnibhgpelfaa", sum := "f1a21a8deed69716366e2345be802e8cd83efe361ad7ad7335e51a8cd119347a", func := "loop.example/mailcoaches/laws.FnExactRoadsClose", spec := "fnExactRoadsClose", apart := false, narrowed := true }
def FnExactRoadsCloseUptoSaid : Prop := fnExactRoadsCloseUptoRow.holds Try.pinned (OpenSpec.upto fnExactRoadsCloseSpec)

/-- 'laws.FnExactRoadsNeeded', WHERE WHAT IT READS IS OF BULK AT MOST 1048576: true; the input reads as it did. -/
def fnExactRoadsNeededUptoRow : OpenClaim := { program := "ytnlhnibhgpelfaa", sum := "f1a21a8deed69716366e2345be802e8cd83efe361ad7ad7335e51a8cd119347a", func := "loop.example/mailcoaches/laws.FnExactRoadsNeeded", spec := "fnExactRoadsNeeded", unfollowed := true, recurses := true, apart := false, narrowed := true }
def FnExactRoadsNeededUptoSaid : Prop := fnExactRoadsNeededUptoRow.holds Try.pinned (OpenSpec.upto fnExactRoadsNeededSpec)

/-- 'laws.FnExactRoadsNet', WHERE WHAT IT READS IS OF BULK AT MOST 1048576: true; the input reads as it did. -/
def fnExactRoadsNetUptoRow : OpenClaim := { program := "ytnlhnibhgpelfaa", sum := "f1a21a8deed69716366e2345be802e8cd83efe361ad7ad7335e51a8cd119347a", func := "loop.example/mailcoaches/laws.FnExactRoadsNet", spec := "fnExactRoadsNet", unfollowed := true, recurses := true, apart := false, narrowed := true }
def FnExactRoadsNetUptoSaid : Prop := fnExactRoadsNetUptoRow.holds Try.pinned (OpenSpec.upto fnExactRoadsNetSpec)

/-- 'laws.FnWay', WHERE WHAT IT READS IS OF BULK AT MOST 1048576: true; the input reads as it did. -/
def fnWayUptoRow : OpenClaim := { program := "ytnlhnibhgpelfaa", sum := "f1a21a8deed69716366e2345be802e8cd83efe361ad7ad7335e51a8cd119347a", func := "loop.example/mailcoaches/laws.FnWay", spec := "fnWay", unfollowed := true, recurses := true, apart := false, narrowed := true }
def FnWayUptoSaid : Prop := fnWayUptoRow.holds Try.pinned (OpenSpec.upto fnWaySpec)

/-- 'laws.FnFar', WHERE WHAT IT READS IS OF BULK AT MOST 1048576: true; the input reads as it did. -/
def fnFarUptoRow : OpenClaim := { program := "ytnlhnibhgpelfaa", sum := "f1a21a8deed69716366e2345be802e8cd83efe361ad7ad7335e51a8cd119347a", func := "loop.example/mailcoaches/laws.FnFar", spec := "fnFar", unfollowed := true, recurses := true, apart := false, narrowed := true }
def FnFarUptoSaid : Prop := fnFarUptoRow.holds Try.pinned (OpenSpec.upto fnFarSpec)

/-- 'laws.FnRoadsWay', WHERE WHAT IT READS IS OF BULK AT MOST 1048576: true; the input reads as it did. -/
def fnRoadsWayUptoRow : OpenClaim := { program := "ytnlhnibhgpelfaa", sum := "f1a21a8deed69716366e2345be802e8cd83efe361ad7ad7335e51a8cd119347a", func := "loop.example/mailcoaches/laws.FnRoadsWay", spec := "fnRoadsWay", unfollowed := true, recurses := true, apart := false, narrowed := true }
def FnRoadsWayUptoSaid : Prop := fnRoadsWayUptoRow.holds Try.pinned (OpenSpec.upto fnRoadsWaySpec)

/-- 'laws.FnRoadsMany', WHERE WHAT IT READS IS OF BULK AT MOST 1048576: true; the input reads as it did. -/
def fnRoadsManyUptoRow : OpenClaim := { program := "ytnlhnibhgpelfaa", sum := "f1a21a8deed69716366e2345be802e8cd83efe361ad7ad7335e51a8cd119347a", func := "loop.example/mailcoaches/laws.FnRoadsMany", spec := "fnRoadsMany", unfollowed := true, recurses := true, apart := false, narrowed := true }
def FnRoadsManyUptoSaid : Prop := fnRoadsManyUptoRow.holds Try.pinned (OpenSpec.upto fnRoadsManySpec)

/-- 'laws.FnMiddle', WHERE WHAT IT READS IS OF BULK AT MOST 1048576: true; the input reads as it did. -/
def fnMiddleUptoRow : OpenClaim := { program := "ytnlhnibhgpelfaa", sum := "f1a21a8deed69716366e2345be802e8cd83efe361ad7ad7335e51a8cd119347a", func := "loop.example/mailcoaches/laws.FnMiddle", spec := "fnMiddle", unfollowed := true, recurses := true, apart := false, narrowed := true }
def FnMiddleUptoSaid : Prop := fnMiddleUptoRow.holds Try.pinned (OpenSpec.upto fnMiddleSpec)

/-- 'laws.FnRoadsNet', WHERE WHAT IT READS IS OF BULK AT MOST 1048576: true; the input reads as it did. -/
def fnRoadsNetUptoRow : OpenClaim := { program := "ytnlhnibhgpelfaa", sum := "f1a21a8deed69716366e2345be802e8cd83efe361ad7ad7335e51a8cd119347a", func := "loop.example/mailcoaches/laws.FnRoadsNet", spec := "fnRoadsNet", unfollowed := true, recurses := true, apart := false, narrowed := true }
def FnRoadsNetUptoSaid : Prop := fnRoadsNetUptoRow.holds Try.pinned (OpenSpec.upto fnRoadsNetSpec)

end Rows
end Go.Proofs.Ytnlhnibhgpelfaa
