/-
  No cell of these rows narrows 'for every input' (looked for: loops, veiled, ifaces, maps, wideKeys, modest, calm, conditions, laid).
  DERIVED. THE GIVEN ROWS OF THIS SEAT. 19 by the template 'for every input the law returns true; each argument reads behind the call as it read before'; 0 by the template 'total and deterministic' (their statements: YthhllpnbmelidaaTotals.lean).
  GIVEN WITH THE SEED: the statements are not yours to turn. If you find one false, say at which input.
  Laid BY PROGRAM, IN A SANDBOX (cutbox-rows.mjs): the forced cells as the released guide's own fill.sh prints them over the translation 93c5fa9d2b2017a6… (all of the seat's roots in one cut). By AI agents, Wed Nov 11 2026. No macro, syntax, notation, axiom, sorry.
-/
import Derived.Test.YthhllpnbmelidaaChecked
import GoSem.Claim
import GoSem.ClaimJoined
import GoSem.ClaimMapViews
import Derived.JoinedTies
import Derived.KernelRfl
namespace Go.Proofs.Ythhllpnbmelidaa
/- THE CELL 'sum', in the pinned program and in every row, IS THE sha256 OF THE DUMP (.gsa) THAT YthhllpnbmelidaaProg.lean LOADS. Nothing in Lean hashes anything: it is a label: what it is worth is what the hold of that sum in a sandbox is worth. -/
noncomputable def Try.pinned : Pinned := { name := "ythhllpnbmelidaa", sum := "93c5fa9d2b2017a6fcebc30ea9c206944e251238e4c05cd2b9618ce60f2007de", checked := Try.checked }
namespace Rows
def none {H : Type} : Left H := { results := [], args := [] }

/-- 'laws.FnExactGatesValid': WHATEVER THE INPUT: true; the input reads as it did. -/
def fnExactGatesValidSpec : ChangeSpec := { name := "fnExactGatesValid", fn := fun _ => fun
  | [d] => { results := [.lit (.bool true)], args := [d] }
  | _ => none }
def fnExactGatesValidRow : OpenClaim := { program := "ythhllpnbmelidaa", sum := "93c5fa9d2b2017a6fcebc30ea9c206944e251238e4c05cd2b9618ce60f2007de", func := "loop.example/mailcoaches/laws.FnExactGatesValid", spec := "fnExactGatesValid", apart := false }
def FnExactGatesValidSaid : Prop := fnExactGatesValidRow.holds Try.pinned (OpenSpec.ofChange fnExactGatesValidSpec)

/-- ITS FALSE NEIGHBOUR: 'it returns false'. Refute it at one input. -/
def fnExactGatesValidWrong : ChangeSpec := { name := "fnExactGatesValid", fn := fun _ => fun
  | [d] => { results := [.lit (.bool false)], args := [d] }
  | _ => none }
def FnExactGatesValidWrongFalsely : Prop := fnExactGatesValidRow.holds Try.pinned (OpenSpec.ofChange fnExactGatesValidWrong)

/-- 'laws.FnExactGatesAdd': WHATEVER THE INPUT: true; the input reads as it did. -/
def fnExactGatesAddSpec : ChangeSpec := { name := "fnExactGatesAdd", fn := fun _ => fun
  | [d1, d2] => { results := [.lit (.bool true)], args := [d1, d2] }
  | _ => none }
def fnExactGatesAddRow : OpenClaim := { program := "ythhllpnbmelidaa", sum := "93c5fa9d2b2017a6fcebc30ea9c206944e251238e4c05cd2b9618ce60f2007de", func := "loop.example/mailcoaches/laws.FnExactGatesAdd", spec := "fnExactGatesAdd", inPlace := ["slices.overlaps[loop.example/mailcoaches/impl.Gate]"], unfollowed := true, recurses := true, apart := false }
def FnExactGatesAddSaid : Prop := fnExactGatesAddRow.holds Try.pinned (OpenSpec.ofChange fnExactGatesAddSpec)

/-- ITS FALSE NEIGHBOUR: 'it returns false'. Refute it at one input. -/
def fnExactGatesAddWrong : ChangeSpec := { name := "fnExactGatesAdd", fn := fun _ => fun
  | [d1, d2] => { results := [.lit (.bool false)], args := [d1, d2] }
  | _ => none }
def FnExactGatesAddWrongFalsely : Prop := fnExactGatesAddRow.holds Try.pinned (OpenSpec.ofChange fnExactGatesAddWrong)

/-- 'laws.FnExactGatesDrop': WHATEVER THE INPUT: true; the input reads as it did. -/
def fnExactGatesDropSpec : ChangeSpec := { name := "fnExactGatesDrop", fn := fun _ => fun
  | [d1, d2] => { results := [.lit (.bool true)], args := [d1, d2] }
  | _ => none }
def fnExactGatesDropRow : OpenClaim := { program := "ythhllpnbmelidaa", sum := "93c5fa9d2b2017a6fcebc30ea9c206944e251238e4c05cd2b9618ce60f2007de", func := "loop.example/mailcoaches/laws.FnExactGatesDrop", spec := "fnExactGatesDrop", apart := false }
def FnExactGatesDropSaid : Prop := fnExactGatesDropRow.holds Try.pinned (OpenSpec.ofChange fnExactGatesDropSpec)

/-- ITS FALSE NEIGHBOUR: 'it returns false'. Refute it at one input. -/
def fnExactGatesDropWrong : ChangeSpec := { name := "fnExactGatesDrop", fn := fun _ => fun
  | [d1, d2] => { results := [.lit (.bool false)], args := [d1, d2] }
  | _ => none }
def FnExactGatesDropWrongFalsely : Prop := fnExactGatesDropRow.holds Try.pinned (OpenSpec.ofChange fnExactGatesDropWrong)

/-- 'laws.FnExactGatesPassed': WHATEVER THE INPUT: true; the input reads as it did. -/
def fnExactGatesPassedSpec : ChangeSpec := { name := "fnExactGatesPassed", fn := fun _ => fun
  | [d1, d2, d3] => { results := [.lit (.bool true)], args := [d1, d2, d3] }
  | _ => none }
def fnExactGatesPassedRow : OpenClaim := { program := "ythhllpnbmelidaa", sum := "93c5fa9d2b2017a6fcebc30ea9c206944e251238e4c05cd2b9618ce60f2007de", func := "loop.example/mailcoaches/laws.FnExactGatesPassed", spec := "fnExactGatesPassed", unfollowed := true, recurses := true, apart := false }
def FnExactGatesPassedSaid : Prop := fnExactGatesPassedRow.holds Try.pinned (OpenSpec.ofChange fnExactGatesPassedSpec)

/-- ITS FALSE NEIGHBOUR: 'it returns false'. Refute it at one input. -/
def fnExactGatesPassedWrong : ChangeSpec := { name := "fnExactGatesPassed", fn := fun _ => fun
  | [d1, d2, d3] => { results := [.lit (.bool false)], args := [d1, d2, d3] }
  | _ => none }
def FnExactGatesPassedWrongFalsely : Prop := fnExactGatesPassedRow.holds Try.pinned (OpenSpec.ofChange fnExactGatesPassedWrong)

/-- 'laws.FnExactGatesTrust': WHATEVER THE INPUT: true; the input reads as it did. -/
def fnExactGatesTrustSpec : ChangeSpec := { name := "fnExactGatesTrust", fn := fun _ => fun
  | [d1, d2] => { results := [.lit (.bool true)], args := [d1, d2] }
  | _ => none }
def fnExactGatesTrustRow : OpenClaim := { program := "ythhllpnbmelidaa", sum := "93c5fa9d2b2017a6fcebc30ea9c206944e251238e4c05cd2b9618ce60f2007de", func := "loop.example/mailcoaches/laws.FnExactGatesTrust", spec := "fnExactGatesTrust", unfollowed := true, recurses := true, apart := false }
def FnExactGatesTrustSaid : Prop := fnExactGatesTrustRow.holds Try.pinned (OpenSpec.ofChange fnExactGatesTrustSpec)

/-- ITS FALSE NEIGHBOUR: 'it returns false'. Refute it at one input. -/
def fnExactGatesTrustWrong : ChangeSpec := { name := "fnExactGatesTrust", fn := fun _ => fun
  | [d1, d2] => { results := [.lit (.bool false)], args := [d1, d2] }
  | _ => none }
def FnExactGatesTrustWrongFalsely : Prop := fnExactGatesTrustRow.holds Try.pinned (OpenSpec.ofChange fnExactGatesTrustWrong)

/-- 'laws.FnExactTollValid': WHATEVER THE INPUT: true; the input reads as it did. -/
def fnExactTollValidSpec : ChangeSpec := { name := "fnExactTollValid", fn := fun _ => fun
  | [d1, d2, d3, d4, d5] => { results := [.lit (.bool true)], args := [d1, d2, d3, d4, d5] }
  | _ => none }
def fnExactTollValidRow : OpenClaim := { program := "ythhllpnbmelidaa", sum := "93c5fa9d2b2017a6fcebc30ea9c206944e251238e4c05cd2b9618ce60f2007de", func := "loop.example/mailcoaches/laws.FnExactTollValid", spec := "fnExactTollValid", unfollowed := true, recurses := true, apart := false }
def FnExactTollValidSaid : Prop := fnExactTollValidRow.holds Try.pinned (OpenSpec.ofChange fnExactTollValidSpec)

/-- ITS FALSE NEIGHBOUR: 'it returns false'. Refute it at one input. -/
def fnExactTollValidWrong : ChangeSpec := { name := "fnExactTollValid", fn := fun _ => fun
  | [d1, d2, d3, d4, d5] => { results := [.lit (.bool false)], args := [d1, d2, d3, d4, d5] }
  | _ => none }
def FnExactTollValidWrongFalsely : Prop := fnExactTollValidRow.holds Try.pinned (OpenSpec.ofChange fnExactTollValidWrong)

/-- 'laws.FnExactTollSum': WHATEVER THE INPUT: true; the input reads as it did. -/
def fnExactTollSumSpec : ChangeSpec := { name := "fnExactTollSum", fn := fun _ => fun
  | [d1, d2, d3, d4, d5] => { results := [.lit (.bool true)], args := [d1, d2, d3, d4, d5] }
  | _ => none }
def fnExactTollSumRow : OpenClaim := { program := "ythhllpnbmelidaa", sum := "93c5fa9d2b2017a6fcebc30ea9c206944e251238e4c05cd2b9618ce60f2007de", func := "loop.example/mailcoaches/laws.FnExactTollSum", spec := "fnExactTollSum", unfollowed := true, recurses := true, apart := false }
def FnExactTollSumSaid : Prop := fnExactTollSumRow.holds Try.pinned (OpenSpec.ofChange fnExactTollSumSpec)

/-- ITS FALSE NEIGHBOUR: 'it returns false'. Refute it at one input. -/
def fnExactTollSumWrong : ChangeSpec := { name := "fnExactTollSum", fn := fun _ => fun
  | [d1, d2, d3, d4, d5] => { results := [.lit (.bool false)], args := [d1, d2, d3, d4, d5] }
  | _ => none }
def FnExactTollSumWrongFalsely : Prop := fnExactTollSumRow.holds Try.pinned (OpenSpec.ofChange fnExactTollSumWrong)

/-- 'laws.FnExactTollMust': WHATEVER THE INPUT: true; the input reads as it did. -/
def fnExactTollMustSpec : ChangeSpec := { name := "fnExactTollMust", fn := fun _ => fun
  | [d1, d2, d3, d4] => { results := [.lit (.bool true)], args := [d1, d2, d3, d4] }
  | _ => none }
def fnExactTollMustRow : OpenClaim := { program := "ythhllpnbmelidaa", sum := "93c5fa9d2b2017a6fcebc30ea9c206944e251238e4c05cd2b9618ce60f2007de", func := "loop.example/mailcoaches/laws.FnExactTollMust", spec := "fnExactTollMust", unfollowed := true, recurses := true, apart := false }
def FnExactTollMustSaid : Prop := fnExactTollMustRow.holds Try.pinned (OpenSpec.ofChange fnExactTollMustSpec)

/-- ITS FALSE NEIGHBOUR: 'it returns false'. Refute it at one input. -/
def fnExactTollMustWrong : ChangeSpec := { name := "fnExactTollMust", fn := fun _ => fun
  | [d1, d2, d3, d4] => { results := [.lit (.bool false)], args := [d1, d2, d3, d4] }
  | _ => none }
def FnExactTollMustWrongFalsely : Prop := fnExactTollMustRow.holds Try.pinned (OpenSpec.ofChange fnExactTollMustWrong)

/-- 'laws.FnExactTollLeast': WHATEVER THE INPUT: true; the input reads as it did. -/
def fnExactTollLeastSpec : ChangeSpec := { name := "fnExactTollLeast", fn := fun _ => fun
  | [d1, d2, d3, d4] => { results := [.lit (.bool true)], args := [d1, d2, d3, d4] }
  | _ => none }
def fnExactTollLeastRow : OpenClaim := { program := "ythhllpnbmelidaa", sum := "93c5fa9d2b2017a6fcebc30ea9c206944e251238e4c05cd2b9618ce60f2007de", func := "loop.example/mailcoaches/laws.FnExactTollLeast", spec := "fnExactTollLeast", unfollowed := true, recurses := true, apart := false }
def FnExactTollLeastSaid : Prop := fnExactTollLeastRow.holds Try.pinned (OpenSpec.ofChange fnExactTollLeastSpec)

/-- ITS FALSE NEIGHBOUR: 'it returns false'. Refute it at one input. -/
def fnExactTollLeastWrong : ChangeSpec := { name := "fnExactTollLeast", fn := fun _ => fun
  | [d1, d2, d3, d4] => { results := [.lit (.bool false)], args := [d1, d2, d3, d4] }
  | _ => none }
def FnExactTollLeastWrongFalsely : Prop := fnExactTollLeastRow.holds Try.pinned (OpenSpec.ofChange fnExactTollLeastWrong)

/-- 'laws.FnExactTollBest': WHATEVER THE INPUT: true; the input reads as it did. -/
def fnExactTollBestSpec : ChangeSpec := { name := "fnExactTollBest", fn := fun _ => fun
  | [d1, d2, d3, d4] => { results := [.lit (.bool true)], args := [d1, d2, d3, d4] }
  | _ => none }
def fnExactTollBestRow : OpenClaim := { program := "ythhllpnbmelidaa", sum := "93c5fa9d2b2017a6fcebc30ea9c206944e251238e4c05cd2b9618ce60f2007de", func := "loop.example/mailcoaches/laws.FnExactTollBest", spec := "fnExactTollBest", unfollowed := true, recurses := true, apart := false }
def FnExactTollBestSaid : Prop := fnExactTollBestRow.holds Try.pinned (OpenSpec.ofChange fnExactTollBestSpec)

/-- ITS FALSE NEIGHBOUR: 'it returns false'. Refute it at one input. -/
def fnExactTollBestWrong : ChangeSpec := { name := "fnExactTollBest", fn := fun _ => fun
  | [d1, d2, d3, d4] => { results := [.lit (.bool false)], args := [d1, d2, d3, d4] }
  | _ => none }
def FnExactTollBestWrongFalsely : Prop := fnExactTollBestRow.holds Try.pinned (OpenSpec.ofChange fnExactTollBestWrong)

/-- 'laws.FnExactTollEach': WHATEVER THE INPUT: true; the input reads as it did. -/
def fnExactTollEachSpec : ChangeSpec := { name := "fnExactTollEach", fn := fun _ => fun
  | [d1, d2, d3, d4] => { results := [.lit (.bool true)], args := [d1, d2, d3, d4] }
  | _ => none }
def fnExactTollEachRow : OpenClaim := { program := "ythhllpnbmelidaa", sum := "93c5fa9d2b2017a6fcebc30ea9c206944e251238e4c05cd2b9618ce60f2007de", func := "loop.example/mailcoaches/laws.FnExactTollEach", spec := "fnExactTollEach", unfollowed := true, recurses := true, apart := false }
def FnExactTollEachSaid : Prop := fnExactTollEachRow.holds Try.pinned (OpenSpec.ofChange fnExactTollEachSpec)

/-- ITS FALSE NEIGHBOUR: 'it returns false'. Refute it at one input. -/
def fnExactTollEachWrong : ChangeSpec := { name := "fnExactTollEach", fn := fun _ => fun
  | [d1, d2, d3, d4] => { results := [.lit (.bool false)], args := [d1, d2, d3, d4] }
  | _ => none }
def FnExactTollEachWrongFalsely : Prop := fnExactTollEachRow.holds Try.pinned (OpenSpec.ofChange fnExactTollEachWrong)

/-- 'laws.FnExactGatesLater': WHATEVER THE INPUT: true; the input reads as it did. -/
def fnExactGatesLaterSpec : ChangeSpec := { name := "fnExactGatesLater", fn := fun _ => fun
  | [d1, d2] => { results := [.lit (.bool true)], args := [d1, d2] }
  | _ => none }
def fnExactGatesLaterRow : OpenClaim := { program := "ythhllpnbmelidaa", sum := "93c5fa9d2b2017a6fcebc30ea9c206944e251238e4c05cd2b9618ce60f2007de", func := "loop.example/mailcoaches/laws.FnExactGatesLater", spec := "fnExactGatesLater", apart := false }
def FnExactGatesLaterSaid : Prop := fnExactGatesLaterRow.holds Try.pinned (OpenSpec.ofChange fnExactGatesLaterSpec)

/-- ITS FALSE NEIGHBOUR: 'it returns false'. Refute it at one input. -/
def fnExactGatesLaterWrong : ChangeSpec := { name := "fnExactGatesLater", fn := fun _ => fun
  | [d1, d2] => { results := [.lit (.bool false)], args := [d1, d2] }
  | _ => none }
def FnExactGatesLaterWrongFalsely : Prop := fnExactGatesLaterRow.holds Try.pinned (OpenSpec.ofChange fnExactGatesLaterWrong)

/-- 'laws.FnPassed': WHATEVER THE INPUT: true; the input reads as it did. -/
def fnPassedSpec : ChangeSpec := { name := "fnPassed", fn := fun _ => fun
  | [d1, d2] => { results := [.lit (.bool true)], args := [d1, d2] }
  | _ => none }
def fnPassedRow : OpenClaim := { program := "ythhllpnbmelidaa", sum := "93c5fa9d2b2017a6fcebc30ea9c206944e251238e4c05cd2b9618ce60f2007de", func := "loop.example/mailcoaches/laws.FnPassed", spec := "fnPassed", unfollowed := true, recurses := true, apart := false }
def FnPassedSaid : Prop := fnPassedRow.holds Try.pinned (OpenSpec.ofChange fnPassedSpec)

/-- ITS FALSE NEIGHBOUR: 'it returns false'. Refute it at one input. -/
def fnPassedWrong : ChangeSpec := { name := "fnPassed", fn := fun _ => fun
  | [d1, d2] => { results := [.lit (.bool false)], args := [d1, d2] }
  | _ => none }
def FnPassedWrongFalsely : Prop := fnPassedRow.holds Try.pinned (OpenSpec.ofChange fnPassedWrong)

/-- 'laws.FnTollValid': WHATEVER THE INPUT: true; the input reads as it did. -/
def fnTollValidSpec : ChangeSpec := { name := "fnTollValid", fn := fun _ => fun
  | [d] => { results := [.lit (.bool true)], args := [d] }
  | _ => none }
def fnTollValidRow : OpenClaim := { program := "ythhllpnbmelidaa", sum := "93c5fa9d2b2017a6fcebc30ea9c206944e251238e4c05cd2b9618ce60f2007de", func := "loop.example/mailcoaches/laws.FnTollValid", spec := "fnTollValid", unfollowed := true, recurses := true, apart := false }
def FnTollValidSaid : Prop := fnTollValidRow.holds Try.pinned (OpenSpec.ofChange fnTollValidSpec)

/-- ITS FALSE NEIGHBOUR: 'it returns false'. Refute it at one input. -/
def fnTollValidWrong : ChangeSpec := { name := "fnTollValid", fn := fun _ => fun
  | [d] => { results := [.lit (.bool false)], args := [d] }
  | _ => none }
def FnTollValidWrongFalsely : Prop := fnTollValidRow.holds Try.pinned (OpenSpec.ofChange fnTollValidWrong)

/-- 'laws.FnTollSum': WHATEVER THE INPUT: true; the input reads as it did. -/
def fnTollSumSpec : ChangeSpec := { name := "fnTollSum", fn := fun _ => fun
  | [d] => { results := [.lit (.bool true)], args := [d] }
  | _ => none }
def fnTollSumRow : OpenClaim := { program := "ythhllpnbmelidaa", sum := "93c5fa9d2b2017a6fcebc30ea9c206944e251238e4c05cd2b9618ce60f2007de", func := "loop.example/mailcoaches/laws.FnTollSum", spec := "fnTollSum", unfollowed := true, recurses := true, apart := false }
def FnTollSumSaid : Prop := fnTollSumRow.holds Try.pinned (OpenSpec.ofChange fnTollSumSpec)

/-- ITS FALSE NEIGHBOUR: 'it returns false'. Refute it at one input. -/
def fnTollSumWrong : ChangeSpec := { name := "fnTollSum", fn := fun _ => fun
  | [d] => { results := [.lit (.bool false)], args := [d] }
  | _ => none }
def FnTollSumWrongFalsely : Prop := fnTollSumRow.holds Try.pinned (OpenSpec.ofChange fnTollSumWrong)

/-- 'laws.FnTollMust': WHATEVER THE INPUT: true; the input reads as it did. -/
def fnTollMustSpec : ChangeSpec := { name := "fnTollMust", fn := fun _ => fun
  | [d] => { results := [.lit (.bool true)], args := [d] }
  | _ => none }
def fnTollMustRow : OpenClaim := { program := "ythhllpnbmelidaa", sum := "93c5fa9d2b2017a6fcebc30ea9c206944e251238e4c05cd2b9618ce60f2007de", func := "loop.example/mailcoaches/laws.FnTollMust", spec := "fnTollMust", unfollowed := true, recurses := true, apart := false }
def FnTollMustSaid : Prop := fnTollMustRow.holds Try.pinned (OpenSpec.ofChange fnTollMustSpec)

/-- ITS FALSE NEIGHBOUR: 'it returns false'. Refute it at one input. -/
def fnTollMustWrong : ChangeSpec := { name := "fnTollMust", fn := fun _ => fun
  | [d] => { results := [.lit (.bool false)], args := [d] }
  | _ => none }
def FnTollMustWrongFalsely : Prop := fnTollMustRow.holds Try.pinned (OpenSpec.ofChange fnTollMustWrong)

/-- 'laws.FnTollLeast': WHATEVER THE INPUT: true; the input reads as it did. -/
def fnTollLeastSpec : ChangeSpec := { name := "fnTollLeast", fn := fun _ => fun
  | [d1, d2] => { results := [.lit (.bool true)], args := [d1, d2] }
  | _ => none }
def fnTollLeastRow : OpenClaim := { program := "ythhllpnbmelidaa", sum := "93c5fa9d2b2017a6fcebc30ea9c206944e251238e4c05cd2b9618ce60f2007de", func := "loop.example/mailcoaches/laws.FnTollLeast", spec := "fnTollLeast", unfollowed := true, recurses := true, apart := false }
def FnTollLeastSaid : Prop := fnTollLeastRow.holds Try.pinned (OpenSpec.ofChange fnTollLeastSpec)

/-- ITS FALSE NEIGHBOUR: 'it returns false'. Refute it at one input. -/
def fnTollLeastWrong : ChangeSpec := { name := "fnTollLeast", fn := fun _ => fun
  | [d1, d2] => { results := [.lit (.bool false)], args := [d1, d2] }
  | _ => none }
def FnTollLeastWrongFalsely : Prop := fnTollLeastRow.holds Try.pinned (OpenSpec.ofChange fnTollLeastWrong)

/-- 'laws.FnTollBest': WHATEVER THE INPUT: true; the input reads as it did. -/
def fnTollBestSpec : ChangeSpec := { name := "fnTollBest", fn := fun _ => fun
  | [d] => { results := [.lit (.bool true)], args := [d] }
  | _ => none }
def fnTollBestRow : OpenClaim := { program := "ythhllpnbmelidaa", sum := "93c5fa9d2b2017a6fcebc30ea9c206944e251238e4c05cd2b9618ce60f2007de", func := "loop.example/mailcoaches/laws.FnTollBest", spec := "fnTollBest", unfollowed := true, recurses := true, apart := false }
def FnTollBestSaid : Prop := fnTollBestRow.holds Try.pinned (OpenSpec.ofChange fnTollBestSpec)

/-- ITS FALSE NEIGHBOUR: 'it returns false'. Refute it at one input. -/
def fnTollBestWrong : ChangeSpec := { name := "fnTollBest", fn := fun _ => fun
  | [d] => { results := [.lit (.bool false)], args := [d] }
  | _ => none }
def FnTollBestWrongFalsely : Prop := fnTollBestRow.holds Try.pinned (OpenSpec.ofChange fnTollBestWrong)

/-- 'laws.FnTollEach': WHATEVER THE INPUT: true; the input reads as it did. -/
def fnTollEachSpec : ChangeSpec := { name := "fnTollEach", fn := fun _ => fun
  | [d] => { results := [.lit (.bool true)], args := [d] }
  | _ => none }
def fnTollEachRow : OpenClaim := { program := "ythhllpnbmelidaa", sum := "93c5fa9d2b2017a6fcebc30ea9c206944e251238e4c05cd2b9618ce60f2007de", func := "loop.example/mailcoaches/laws.FnTollEach", spec := "fnTollEach", unfollowed := true, recurses := true, apart := false }
def FnTollEachSaid : Prop := fnTollEachRow.holds Try.pinned (OpenSpec.ofChange fnTollEachSpec)

/-- ITS FALSE NEIGHBOUR: 'it returns false'. Refute it at one input. -/
def fnTollEachWrong : ChangeSpec := { name := "fnTollEach", fn := fun _ => fun
  | [d] => { results := [.lit (.bool false)], args := [d] }
  | _ => none }
def FnTollEachWrongFalsely : Prop := fnTollEachRow.holds Try.pinned (OpenSpec.ofChange fnTollEachWrong)

/- THE SECOND FORM. 'bulk': how many values and letters a reading holds, each counted each time it is reached (what is shared counts as often as it is met; a slice's spare places count too). A statement '..UptoSaid' is the law's where the arguments, and the package variables that the reading takes, are together of bulk at most 1048576: NARROWER than '..Said'. Prove '..Said' where nothing that the law and all that it calls make is longer than what came in: it says more and counts as full. Else prove '..UptoSaid'. A law counts once. -/
mutual
def uptoBulk {H : Type} : DataW H → Nat
  | .lit (.string bytes) => bytes.length + 1
  | .lit _ => 1
  | .nil => 1
  | .ptr d => uptoBulk d + 1
  | .slice elems spare => uptoBulkAll elems + uptoBulkAll spare + 1
  | .agg parts => uptoBulkAll parts + 1
  | .iface _ d => uptoBulk d + 1
  | .map entries => uptoBulkEntries entries + 1
  | .held _ => 1
def uptoBulkAll {H : Type} : List (DataW H) → Nat
  | [] => 0
  | d :: r => uptoBulk d + uptoBulkAll r
def uptoBulkEntries {H : Type} : List (Lit × DataW H) → Nat
  | [] => 0
  | x :: r => uptoBulkEntry x + uptoBulkEntries r
def uptoBulkEntry {H : Type} : Lit × DataW H → Nat
  | (.string bytes, d) => bytes.length + uptoBulk d + 1
  | (_, d) => uptoBulk d + 1
 end
def uptoSmall : (H : Type) → List (DataW H) → Bool := fun _ ds => decide (uptoBulkAll ds ≤ 1048576)
def OpenSpec.upto (s : _root_.Go.ChangeSpec) : _root_.Go.OpenSpec := { _root_.Go.OpenSpec.ofChange s with cond := some uptoSmall }

/-- 'laws.FnExactGatesValid', WHERE WHAT IT READS IS OF BULK AT MOST 1048576: true; the input reads as it did. -/
def fnExactGatesValidUptoRow : OpenClaim := { program := "ythhllpnbmelidaa", sum := "93c5fa9d2b2017a6fcebc30ea9c206944e251238e4c05cd2b9618ce60f2007de", func := "loop.example/mailcoaches/laws.FnExactGatesValid", spec := "fnExactGatesValid", apart := false, narrowed := true }
def FnExactGatesValidUptoSaid : Prop := fnExactGatesValidUptoRow.holds Try.pinned (OpenSpec.upto fnExactGatesValidSpec)

/-- 'laws.FnExactGatesAdd', WHERE WHAT IT READS IS OF BULK AT MOST 1048576: true; the input reads as it did. -/
def fnExactGatesAddUptoRow : OpenClaim := { program := "ythhllpnbmelidaa", sum := "93c5fa9d2b2017a6fcebc30ea9c206944e251238e4c05cd2b9618ce60f2007de", func := "loop.example/mailcoaches/laws.FnExactGatesAdd", spec := "fnExactGatesAdd", inPlace := ["slices.overlaps[loop.example/mailcoaches/impl.Gate]"], unfollowed := true, recurses := true, apart := false, narrowed := true }
def FnExactGatesAddUptoSaid : Prop := fnExactGatesAddUptoRow.holds Try.pinned (OpenSpec.upto fnExactGatesAddSpec)

/-- 'laws.FnExactGatesDrop', WHERE WHAT IT READS IS OF BULK AT MOST 1048576: true; the input reads as it did. -/
def fnExactGatesDropUptoRow : OpenClaim := { program := "ythhllpnbmelidaa", sum := "93c5fa9d2b2017a6fcebc30ea9c206944e251238e4c05cd2b9618ce60f2007de", func := "loop.example/mailcoaches/laws.FnExactGatesDrop", spec := "fnExactGatesDrop", apart := false, narrowed := true }
def FnExactGatesDropUptoSaid : Prop := fnExactGatesDropUptoRow.holds Try.pinned (OpenSpec.upto fnExactGatesDropSpec)

/-- 'laws.FnExactGatesPassed', WHERE WHAT IT READS IS OF BULK AT MOST 1048576: true; the input reads as it did. -/
def fnExactGatesPassedUptoRow : OpenClaim := { program := "ythhllpnbmelidaa", sum := "93c5fa9d2b2017a6fcebc30ea9c206944e251238e4c05cd2b9618ce60f2007de", func := "loop.example/mailcoaches/laws.FnExactGatesPassed", spec := "fnExactGatesPassed", unfollowed := true, recurses := true, apart := false, narrowed := true }
def FnExactGatesPassedUptoSaid : Prop := fnExactGatesPassedUptoRow.holds Try.pinned (OpenSpec.upto fnExactGatesPassedSpec)

/-- 'laws.FnExactGatesTrust', WHERE WHAT IT READS IS OF BULK AT MOST 1048576: true; the input reads as it did. -/
def fnExactGatesTrustUptoRow : OpenClaim := { program := "ythhllpnbmelidaa", sum := "93c5fa9d2b2017a6fcebc30ea9c206944e251238e4c05cd2b9618ce60f2007de", func := "loop.example/mailcoaches/laws.FnExactGatesTrust", spec := "fnExactGatesTrust", unfollowed := true, recurses := true, apart := false, narrowed := true }
def FnExactGatesTrustUptoSaid : Prop := fnExactGatesTrustUptoRow.holds Try.pinned (OpenSpec.upto fnExactGatesTrustSpec)

/-- 'laws.FnExactTollValid', WHERE WHAT IT READS IS OF BULK AT MOST 1048576: true; the input reads as it did. -/
def fnExactTollValidUptoRow : OpenClaim := { program := "ythhllpnbmelidaa", sum := "93c5fa9d2b2017a6fcebc30ea9c206944e251238e4c05cd2b9618ce60f2007de", func := "loop.example/mailcoaches/laws.FnExactTollValid", spec := "fnExactTollValid", unfollowed := true, recurses := true, apart := false, narrowed := true }
def FnExactTollValidUptoSaid : Prop := fnExactTollValidUptoRow.holds Try.pinned (OpenSpec.upto fnExactTollValidSpec)

/-- 'laws.FnExactTollSum', WHERE WHAT IT READS IS OF BULK AT MOST 1048576: true; the input reads as it did. -/
def fnExactTollSumUptoRow : OpenClaim := { program := "ythhllpnbmelidaa", sum := "93c5fa9d2b2017a6fcebc30ea9c206944e251238e4c05cd2b9618ce60f2007de", func := "loop.example/mailcoaches/laws.FnExactTollSum", spec := "fnExactTollSum", unfollowed := true, recurses := true, apart := false, narrowed := true }
def FnExactTollSumUptoSaid : Prop := fnExactTollSumUptoRow.holds Try.pinned (OpenSpec.upto fnExactTollSumSpec)

/-- 'laws.FnExactTollMust', WHERE WHAT IT READS IS OF BULK AT MOST 1048576: true; the input reads as it did. -/
def fnExactTollMustUptoRow : OpenClaim := { program := "ythhllpnbmelidaa", sum := "93c5fa9d2b2017a6fcebc30ea9c206944e251238e4c05cd2b9618ce60f2007de", func := "loop.example/mailcoaches/laws.FnExactTollMust", spec := "fnExactTollMust", unfollowed := true, recurses := true, apart := false, narrowed := true }
def FnExactTollMustUptoSaid : Prop := fnExactTollMustUptoRow.holds Try.pinned (OpenSpec.upto fnExactTollMustSpec)

/-- 'laws.FnExactTollLeast', WHERE WHAT IT READS IS OF BULK AT MOST 1048576: true; the input reads as it did. -/
def fnExactTollLeastUptoRow : OpenClaim := { program := "ythhllpnbmelidaa", sum := "93c5fa9d2b2017a6fcebc30ea9c206944e251238e4c05cd2b9618ce60f2007de", func := "loop.example/mailcoaches/laws.FnExactTollLeast", spec := "fnExactTollLeast", unfollowed := true, recurses := true, apart := false, narrowed := true }
def FnExactTollLeastUptoSaid : Prop := fnExactTollLeastUptoRow.holds Try.pinned (OpenSpec.upto fnExactTollLeastSpec)

/-- 'laws.FnExactTollBest', WHERE WHAT IT READS IS OF BULK AT MOST 1048576: true; the input reads as it did. -/
def fnExactTollBestUptoRow : OpenClaim := { program := "ythhllpnbmelidaa", sum := "93c5fa9d2b2017a6fcebc30ea9c206944e251238e4c05cd2b9618ce60f2007de", func := "loop.example/mailcoaches/laws.FnExactTollBest", spec := "fnExactTollBest", unfollowed := true, recurses := true, apart := false, narrowed := true }
def FnExactTollBestUptoSaid : Prop := fnExactTollBestUptoRow.holds Try.pinned (OpenSpec.upto fnExactTollBestSpec)

/-- 'laws.FnExactTollEach', WHERE WHAT IT READS IS OF BULK AT MOST 1048576: true; the input reads as it did. -/
def fnExactTollEachUptoRow : OpenClaim := { program := "ythhllpnbmelidaa", sum := "93c5fa9d2b2017a6fcebc30ea9c206944e251238e4c05cd2b9618ce60f2007de", func := "loop.example/mailcoaches/laws.FnExactTollEach", spec := "fnExactTollEach", unfollowed := true, recurses := true, apart := false, narrowed := true }
def FnExactTollEachUptoSaid : Prop := fnExactTollEachUptoRow.holds Try.pinned (OpenSpec.upto fnExactTollEachSpec)

/-- 'laws.FnExactGatesLater', WHERE WHAT IT READS IS OF BULK AT MOST 1048576: true; the input reads as it did. -/
def fnExactGatesLaterUptoRow : OpenClaim := { program := "ythhllpnbmelidaa", sum := "93c5fa9d2b2017a6fcebc30ea9c206944e251238e4c05cd2b9618ce60f2007de", func := "loop.example/mailcoaches/laws.FnExactGatesLater", spec := "fnExactGatesLater", apart := false, narrowed := true }
def FnExactGatesLaterUptoSaid : Prop := fnExactGatesLaterUptoRow.holds Try.pinned (OpenSpec.upto fnExactGatesLaterSpec)

/-- 'laws.FnPassed', WHERE WHAT IT READS IS OF BULK AT MOST 1048576: true; the input reads as it did. -/
def fnPassedUptoRow : OpenClaim := { program := "ythhllpnbmelidaa", sum := "93c5fa9d2b2017a6fcebc30ea9c206944e251238e4c05cd2b9618ce60f2007de", func := "loop.example/mailcoaches/laws.FnPassed", spec := "fnPassed", unfollowed := true, recurses := true, apart := false, narrowed := true }
def FnPassedUptoSaid : Prop := fnPassedUptoRow.holds Try.pinned (OpenSpec.upto fnPassedSpec)

/-- 'laws.FnTollValid', WHERE WHAT IT READS IS OF BULK AT MOST 1048576: true; the input reads as it did. -/
def fnTollValidUptoRow : OpenClaim := { program := "ythhllpnbmelidaa", sum := "93c5fa9d2b2017a6fcebc30ea9c206944e251238e4c05cd2b9618ce60f2007de", func := "loop.example/mailcoaches/laws.FnTollValid", spec := "fnTollValid", unfollowed := true, recurses := true, apart := false, narrowed := true }
def FnTollValidUptoSaid : Prop := fnTollValidUptoRow.holds Try.pinned (OpenSpec.upto fnTollValidSpec)

/-- 'laws.FnTollSum', WHERE WHAT IT READS IS OF BULK AT MOST 1048576: true; the input reads as it did. -/
def fnTollSumUptoRow : OpenClaim := { program := "ythhllpnbmelidaa", sum := "93c5fa9d2b2017a6fcebc30ea9c206944e251238e4c05cd2b9618ce60f2007de", func := "loop.example/mailcoaches/laws.FnTollSum", spec := "fnTollSum", unfollowed := true, recurses := true, apart := false, narrowed := true }
def FnTollSumUptoSaid : Prop := fnTollSumUptoRow.holds Try.pinned (OpenSpec.upto fnTollSumSpec)

/-- 'laws.FnTollMust', WHERE WHAT IT READS IS OF BULK AT MOST 1048576: true; the input reads as it did. -/
def fnTollMustUptoRow : OpenClaim := { program := "ythhllpnbmelidaa", sum := "93c5fa9d2b2017a6fcebc30ea9c206944e251238e4c05cd2b9618ce60f2007de", func := "loop.example/mailcoaches/laws.FnTollMust", spec := "fnTollMust", unfollowed := true, recurses := true, apart := false, narrowed := true }
def FnTollMustUptoSaid : Prop := fnTollMustUptoRow.holds Try.pinned (OpenSpec.upto fnTollMustSpec)

/-- 'laws.FnTollLeast', WHERE WHAT IT READS IS OF BULK AT MOST 1048576: true; the input reads as it did. -/
def fnTollLeastUptoRow : OpenClaim := { program := "ythhllpnbmelidaa", sum := "93c5fa9d2b2017a6fcebc30ea9c206944e251238e4c05cd2b9618ce60f2007de", func := "loop.example/mailcoaches/laws.FnTollLeast", spec := "fnTollLeast", unfollowed := true, recurses := true, apart := false, narrowed := true }
def FnTollLeastUptoSaid : Prop := fnTollLeastUptoRow.holds Try.pinned (OpenSpec.upto fnTollLeastSpec)

/-- 'laws.FnTollBest', WHERE WHAT IT READS IS OF BULK AT MOST 1048576: true; the input reads as it did. -/
def fnTollBestUptoRow : OpenClaim := { program := "ythhllpnbmelidaa", sum := "93c5fa9d2b2017a6fcebc30ea9c206944e251238e4c05cd2b9618ce60f2007de", func := "loop.example/mailcoaches/laws.FnTollBest", spec := "fnTollBest", unfollowed := true, recurses := true, apart := false, narrowed := true }
def FnTollBestUptoSaid : Prop := fnTollBestUptoRow.holds Try.pinned (OpenSpec.upto fnTollBestSpec)

/-- 'laws.FnTollEach', WHERE WHAT IT READS IS OF BULK AT MOST 1048576: true; the input reads as it did. -/
def fnTollEachUptoRow : OpenClaim := { program := "ythhllpnbmelidaa", sum := "93c5fa9d2b2017a6fcebc30ea9c206944e251238e4c05cd2b9618ce60f2007de", func := "loop.example/mailcoaches/laws.FnTollEach", spec := "fnTollEach", unfollowed := true, recurses := true, apart := false, narrowed := true }
def FnTollEachUptoSaid : Prop := fnTollEachUptoRow.holds Try.pinned (OpenSpec.upto fnTollEachSpec)

end Rows
end Go.Proofs.Ythhllpnbmelidaa
