/-
  No cell of these rows narrows 'for every input' (looked for: loops, veiled, ifaces, maps, wideKeys, modest, calm, conditions, laid).
  DERIVED. THE GIVEN ROWS OF THIS SEAT. 6 by the template 'for every input the law returns true; each argument reads behind the call as it read before'; 0 by the template 'total and deterministic' (their statements: YtlkhgnglblgldaaTotals.lean).
  GIVEN WITH THE SEED: the statements are not yours to turn. If you find one false, say at which input.
  Laid BY PROGRAM, IN A SANDBOX (cutbox-rows.mjs): the forced cells as the released guide's own fill.sh prints them over the translation d17dbc02b4f8a0a8… (all of the seat's roots in one cut). By AI agents, Wed Nov 11 2026. No macro, syntax, notation, axiom, sorry.
-/
import Derived.Test.YtlkhgnglblgldaaChecked
import GoSem.Claim
import GoSem.ClaimJoined
import GoSem.ClaimMapViews
import Derived.JoinedTies
import Derived.KernelRfl
namespace Go.Proofs.Ytlkhgnglblgldaa
/- THE CELL 'sum', in the pinned program and in every row, IS THE sha256 OF THE DUMP (.gsa) THAT YtlkhgnglblgldaaProg.lean LOADS. Nothing in Lean hashes anything: it is a label: what it is worth is what the hold of that sum in a sandbox is worth. -/
noncomputable def Try.pinned : Pinned := { name := "ytlkhgnglblgldaa", sum := "d17dbc02b4f8a0a8843f1631a005b3023691fdf654cc15eb6421076d076acfd6", checked := Try.checked }
namespace Rows
def none {H : Type} : Left H := { results := [], args := [] }

/-- 'laws.FnSeatsBest': WHATEVER THE INPUT: true; the input reads as it did. -/
def fnSeatsBestSpec : ChangeSpec := { name := "fnSeatsBest", fn := fun _ => fun
  | [d] => { results := [.lit (.bool true)], args := [d] }
  | _ => none }
def fnSeatsBestRow : OpenClaim := { program := "ytlkhgnglblgldaa", sum := "d17dbc02b4f8a0a8843f1631a005b3023691fdf654cc15eb6421076d076acfd6", func := "loop.example/mailcoaches/laws.FnSeatsBest", spec := "fnSeatsBest", unfollowed := true, recurses := true, apart := false }
def FnSeatsBestSaid : Prop := fnSeatsBestRow.holds Try.pinned (OpenSpec.ofChange fnSeatsBestSpec)

/-- ITS FALSE NEIGHBOUR: 'it returns false'. Refute it at one input. -/
def fnSeatsBestWrong : ChangeSpec := { name := "fnSeatsBest", fn := fun _ => fun
  | [d] => { results := [.lit (.bool false)], args := [d] }
  | _ => none }
def FnSeatsBestWrongFalsely : Prop := fnSeatsBestRow.holds Try.pinned (OpenSpec.ofChange fnSeatsBestWrong)

/-- 'laws.FnSeatsBestMost': WHATEVER THE INPUT: true; the input reads as it did. -/
def fnSeatsBestMostSpec : ChangeSpec := { name := "fnSeatsBestMost", fn := fun _ => fun
  | [d] => { results := [.lit (.bool true)], args := [d] }
  | _ => none }
def fnSeatsBestMostRow : OpenClaim := { program := "ytlkhgnglblgldaa", sum := "d17dbc02b4f8a0a8843f1631a005b3023691fdf654cc15eb6421076d076acfd6", func := "loop.example/mailcoaches/laws.FnSeatsBestMost", spec := "fnSeatsBestMost", unfollowed := true, recurses := true, apart := false }
def FnSeatsBestMostSaid : Prop := fnSeatsBestMostRow.holds Try.pinned (OpenSpec.ofChange fnSeatsBestMostSpec)

/-- ITS FALSE NEIGHBOUR: 'it returns false'. Refute it at one input. -/
def fnSeatsBestMostWrong : ChangeSpec := { name := "fnSeatsBestMost", fn := fun _ => fun
  | [d] => { results := [.lit (.bool false)], args := [d] }
  | _ => none }
def FnSeatsBestMostWrongFalsely : Prop := fnSeatsBestMostRow.holds Try.pinned (OpenSpec.ofChange fnSeatsBestMostWrong)

/-- 'laws.FnExactRoadsNet': WHATEVER THE INPUT: true; the input reads as it did. -/
def fnExactRoadsNetSpec : ChangeSpec := { name := "fnExactRoadsNet", fn := fun _ => fun
  | [d1, d2] => { results := [.lit (.bool true)], args := [d1, d2] }
  | _ => none }
def fnExactRoadsNetRow : OpenClaim := { program := "ytlkhgnglblgldaa", sum := "d17dbc02b4f8a0a8843f1631a005b3023691fdf654cc15eb6421076d076acfd6", func := "loop.example/mailcoaches/laws.FnExactRoadsNet", spec := "fnExactRoadsNet", unfollowed := true, recurses := true, apart := false }
def FnExactRoadsNetSaid : Prop := fnExactRoadsNetRow.holds Try.pinned (OpenSpec.ofChange fnExactRoadsNetSpec)

/-- ITS FALSE NEIGHBOUR: 'it returns false'. Refute it at one input. -/
def fnExactRoadsNetWrong : ChangeSpec := { name := "fnExactRoadsNet", fn := fun _ => fun
  | [d1, d2] => { results := [.lit (.bool false)], args := [d1, d2] }
  | _ => none }
def FnExactRoadsNetWrongFalsely : Prop := fnExactRoadsNetRow.holds Try.pinned (OpenSpec.ofChange fnExactRoadsNetWrong)

/-- 'laws.FnRoadsMany': WHATEVER THE INPUT: true; the input reads as it did. -/
def fnRoadsManySpec : ChangeSpec := { name := "fnRoadsMany", fn := fun _ => fun
  | [d] => { results := [.lit (.bool true)], args := [d] }
  | _ => none }
def fnRoadsManyRow : OpenClaim := { program := "ytlkhgnglblgldaa", sum := "d17dbc02b4f8a0a8843f1631a005b3023691fdf654cc15eb6421076d076acfd6", func := "loop.example/mailcoaches/laws.FnRoadsMany", spec := "fnRoadsMany", unfollowed := true, recurses := true, apart := false }
def FnRoadsManySaid : Prop := fnRoadsManyRow.holds Try.pinned (OpenSpec.ofChange fnRoadsManySpec)

/-- ITS FALSE NEIGHBOUR: 'it returns false'. Refute it at one input. -/
def fnRoadsManyWrong : ChangeSpec := { name := "fnRoadsMany", fn := fun _ => fun
  | [d] => { results := [.lit (.bool false)], args := [d] }
  | _ => none }
def FnRoadsManyWrongFalsely : Prop := fnRoadsManyRow.holds Try.pinned (OpenSpec.ofChange fnRoadsManyWrong)

/-- 'laws.FnRoadsNet': WHATEVER THE INPUT: true; the input reads as it did. -/
def fnRoadsNetSpec : ChangeSpec := { name := "fnRoadsNet", fn := fun _ => fun
  | [d] => { results := [.lit (.bool true)], args := [d] }
  | _ => none }
def fnRoadsNetRow : OpenClaim := { program := "ytlkhgnglblgldaa", sum := "d17dbc02b4f8a0a8843f1631a005b3023691fdf654cc15eb6421076d076acfd6", func := "loop.example/mailcoaches/laws.FnRoadsNet", spec := "fnRoadsNet", unfollowed := true, recurses := true, apart := false }
def FnRoadsNetSaid : Prop := fnRoadsNetRow.holds Try.pinned (OpenSpec.ofChange fnRoadsNetSpec)

/-- ITS FALSE NEIGHBOUR: 'it returns false'. Refute it at one input. -/
def fnRoadsNetWrong : ChangeSpec := { name := "fnRoadsNet", fn := fun _ => fun
  | [d] => { results := [.lit (.bool false)], args := [d] }
  | _ => none }
def FnRoadsNetWrongFalsely : Prop := fnRoadsNetRow.holds Try.pinned (OpenSpec.ofChange fnRoadsNetWrong)

/-- 'laws.FnStopsBack': WHATEVER THE INPUT: true; the input reads as it did. -/
def fnStopsBackSpec : ChangeSpec := { name := "fnStopsBack", fn := fun _ => fun
  | [d] => { results := [.lit (.bool true)], args := [d] }
  | _ => none }
def fnStopsBackRow : OpenClaim := { program := "ytlkhgnglblgldaa", sum := "d17dbc02b4f8a0a8843f1631a005b3023691fdf654cc15eb6421076d076acfd6", func := "loop.example/mailcoaches/laws.FnStopsBack", spec := "fnStopsBack", apart := false }
def FnStopsBackSaid : Prop := fnStopsBackRow.holds Try.pinned (OpenSpec.ofChange fnStopsBackSpec)

/-- ITS FALSE NEIGHBOUR: 'it returns false'. Refute it at one input. -/
def fnStopsBackWrong : ChangeSpec := { name := "fnStopsBack", fn := fun _ => fun
  | [d] => { results := [.lit (.bool false)], args := [d] }
  | _ => none }
def FnStopsBackWrongFalsely : Prop := fnStopsBackRow.holds Try.pinned (OpenSpec.ofChange fnStopsBackWrong)

/- THE SECOND FORM. 'bulk': how many values and letters a reading holds, each counted each time it is reached (what is shared counts as often as it is met; a slice's spare places count too). A statement '..UptoSaid' is the law's where the arguments, and the package variables that the reading takes, are together of bulk at most 1048576: NARROWER than '..Said'. Prove '..Said' where nothing that the law and all that it calls make is longer than what came in: it says more and counts as full. Else prove '..UptoSaid'. A law counts once. -/
mutual
def uptoBulk {H : Type} : DataW H → Nat
  | .lit (.string bytes) => bytes.length + 1
  | .lit _ => 1
  | .nil => 1
  | .ptr d => uptoBulk d + 1
  | .slice elems spare => uptoBulkAll elems + uptoBulkAll spare + 1
  | .agg parts => uptoBulkAll parts + 1
  | .iface _ d => uptoBulk d + 1
  | .map entries => uptoBulkEntries entries + 1
  | .held _ => 1
def uptoBulkAll {H : Type} : List (DataW H) → Nat
  | [] => 0
  | d :: r => uptoBulk d + uptoBulkAll r
def uptoBulkEntries {H : Type} : List (Lit × DataW H) → Nat
  | [] => 0
  | x :: r => uptoBulkEntry x + uptoBulkEntries r
def uptoBulkEntry {H : Type} : Lit × DataW H → Nat
  | (.string bytes, d) => bytes.length + uptoBulk d + 1
  | (_, d) => uptoBulk d + 1
 end
def uptoSmall : (H : Type) → List (DataW H) → Bool := fun _ ds => decide (uptoBulkAll ds ≤ 1048576)
def OpenSpec.upto (s : _root_.Go.ChangeSpec) : _root_.Go.OpenSpec := { _root_.Go.OpenSpec.ofChange s with cond := some uptoSmall }

/-- 'laws.FnSeatsBest', WHERE WHAT IT READS IS OF BULK AT MOST 1048576: true; the input reads as it did. -/
def fnSeatsBestUptoRow : OpenClaim := { program := "ytlkhgnglblgldaa", sum := "d17dbc02b4f8a0a8843f1631a005b3023691fdf654cc15eb6421076d076acfd6", func := "loop.example/mailcoaches/laws.FnSeatsBest", spec := "fnSeatsBest", unfollowed := true, recurses := true, apart := false, narrowed := true }
def FnSeatsBestUptoSaid : Prop := fnSeatsBestUptoRow.holds Try.pinned (OpenSpec.upto fnSeatsBestSpec)

/-- 'laws.FnSeatsBestMost', WHERE WHAT IT READS IS OF BULK AT MOST 1048576: true; the input reads as it did. -/
def fnSeatsBestMostUptoRow : OpenClaim := { program := "ytlkhgnglblgldaa", sum := "d17dbc02b4f8a0a8843f1631a005b3023691fdf654cc15eb6421076d076acfd6", func := "loop.example/mailcoaches/laws.FnSeatsBestMost", spec := "fnSeatsBestMost", unfollowed := true, recurses := true, apart := false, narrowed := true }
def FnSeatsBestMostUptoSaid : Prop := fnSeatsBestMostUptoRow.holds Try.pinned (OpenSpec.upto fnSeatsBestMostSpec)

/-- 'laws.FnExactRoadsNet', WHERE WHAT IT READS IS OF BULK AT MOST 1048576: true; the input reads as it did. -/
def fnExactRoadsNetUptoRow : OpenClaim := { program := "ytlkhgnglblgldaa", sum := "d17dbc02b4f8a0a8843f1631a005b3023691fdf654cc15eb6421076d076acfd6", func := "loop.example/mailcoaches/laws.FnExactRoadsNet", spec := "fnExactRoadsNet", unfollowed := true, recurses := true, apart := false, narrowed := true }
def FnExactRoadsNetUptoSaid : Prop := fnExactRoadsNetUptoRow.holds Try.pinned (OpenSpec.upto fnExactRoadsNetSpec)

/-- 'laws.FnRoadsMany', WHERE WHAT IT READS IS OF BULK AT MOST 1048576: true; the input reads as it did. -/
def fnRoadsManyUptoRow : OpenClaim := { program := "ytlkhgnglblgldaa", sum := "d17dbc02b4f8a0a8843f1631a005b3023691fdf654cc15eb6421076d076acfd6", func := "loop.example/mailcoaches/laws.FnRoadsMany", spec := "fnRoadsMany", unfollowed := true, recurses := true, apart := false, narrowed := true }
def FnRoadsManyUptoSaid : Prop := fnRoadsManyUptoRow.holds Try.pinned (OpenSpec.upto fnRoadsManySpec)

/-- 'laws.FnRoadsNet', WHERE WHAT IT READS IS OF BULK AT MOST 1048576: true; the input reads as it did. -/
def fnRoadsNetUptoRow : OpenClaim := { program := "ytlkhgnglblgldaa", sum := "d17dbc02b4f8a0a8843f1631a005b3023691fdf654cc15eb6421076d076acfd6", func := "loop.example/mailcoaches/laws.FnRoadsNet", spec := "fnRoadsNet", unfollowed := true, recurses := true, apart := false, narrowed := true }
def FnRoadsNetUptoSaid : Prop := fnRoadsNetUptoRow.holds Try.pinned (OpenSpec.upto fnRoadsNetSpec)

/-- 'laws.FnStopsBack', WHERE WHAT IT READS IS OF BULK AT MOST 1048576: true; the input reads as it did. -/
def fnStopsBackUptoRow : OpenClaim := { program := "ytlkhgnglblgldaa", sum := "d17dbc02b4f8a0a8843f1631a005b3023691fdf654cc15eb6421076d076acfd6", func := "loop.example/mailcoaches/laws.FnStopsBack", spec := "fnStopsBack", apart := false, narrowed := true }
def FnStopsBackUptoSaid : Prop := fnStopsBackUptoRow.holds Try.pinned (OpenSpec.upto fnStopsBackSpec)

end Rows
end Go.Proofs.Ytlkhgnglblgldaa
