/-
  No cell of these rows narrows 'for every input' (looked for: loops, veiled, ifaces, maps, wideKeys, modest, calm, conditions, laid).
  DERIVED. THE GIVEN ROWS OF THIS SEAT. 12 by the template 'for every input the law returns true; each argument reads behind the call as it read before'; 0 by the template 'total and deterministic' (their statements: YtmcapcclnkicbaaTotals.lean).
  GIVEN WITH THE SEED: the statements are not yours to turn. If you find one false, say at which input.
  Laid BY PROGRAM, IN A SANDBOX (cutbox-rows.mjs): the forced cells as the released guide's own fill.sh prints them over the translation 77205a34d0d62f39… (all of the seat's roots in one cut). By AI agents, Wed Nov 11 2026. No macro, syntax, notation, axiom, sorry.
-/
import Derived.Test.YtmcapcclnkicbaaChecked
import GoSem.Claim
import GoSem.ClaimJoined
import GoSem.ClaimMapViews
import Derived.JoinedTies
import Derived.KernelRfl
namespace Go.Proofs.Ytmcapcclnkicbaa
/- THE CELL 'sum', in the pinned program and in every row, IS THE sha256 OF THE DUMP (.gsa) THAT YtmcapcclnkicbaaProg.lean LOADS. Nothing in Lean hashes anything: it is a label: what it is worth is what the hold of that sum in a sandbox is worth. -/
noncomputable def Try.pinned : Pinned := { name := "ytmcapcclnkicbaa", sum := "77205a34d0d62f39df310ef79c6591a3c93096b82004342ccba6b2884c040dd6", checked := Try.checked }
namespace Rows
def none {H : Type} : Left H := { results := [], args := [] }

/-- 'laws.FnExactRunsValid': WHATEVER THE INPUT: true; the input reads as it did. -/
def fnExactRunsValidSpec : ChangeSpec := { name := "fnExactRunsValid", fn := fun _ => fun
  | [d] => { results := [.lit (.bool true)], args := [d] }
  | _ => none }
def fnExactRunsValidRow : OpenClaim := { program := "ytmcapcclnkicbaa", sum := "77205a34d0d62f39df310ef79c6591a3c93096b82004342ccba6b2884c040dd6", func := "loop.example/mailcoaches/laws.FnExactRunsValid", spec := "fnExactRunsValid", apart := false }
def FnExactRunsValidSaid : Prop := fnExactRunsValidRow.holds Try.pinned (OpenSpec.ofChange fnExactRunsValidSpec)

/-- ITS FALSE NEIGHBOUR: 'it returns false'. Refute it at one input. -/
def fnExactRunsValidWrong : ChangeSpec := { name := "fnExactRunsValid", fn := fun _ => fun
  | [d] => { results := [.lit (.bool false)], args := [d] }
  | _ => none }
def FnExactRunsValidWrongFalsely : Prop := fnExactRunsValidRow.holds Try.pinned (OpenSpec.ofChange fnExactRunsValidWrong)

/-- 'laws.FnExactRosterValid': WHATEVER THE INPUT: true; the input reads as it did. -/
def fnExactRosterValidSpec : ChangeSpec := { name := "fnExactRosterValid", fn := fun _ => fun
  | [d1, d2, d3] => { results := [.lit (.bool true)], args := [d1, d2, d3] }
  | _ => none }
def fnExactRosterValidRow : OpenClaim := { program := "ytmcapcclnkicbaa", sum := "77205a34d0d62f39df310ef79c6591a3c93096b82004342ccba6b2884c040dd6", func := "loop.example/mailcoaches/laws.FnExactRosterValid", spec := "fnExactRosterValid", apart := false }
def FnExactRosterValidSaid : Prop := fnExactRosterValidRow.holds Try.pinned (OpenSpec.ofChange fnExactRosterValidSpec)

/-- ITS FALSE NEIGHBOUR: 'it returns false'. Refute it at one input. -/
def fnExactRosterValidWrong : ChangeSpec := { name := "fnExactRosterValid", fn := fun _ => fun
  | [d1, d2, d3] => { results := [.lit (.bool false)], args := [d1, d2, d3] }
  | _ => none }
def FnExactRosterValidWrongFalsely : Prop := fnExactRosterValidRow.holds Try.pinned (OpenSpec.ofChange fnExactRosterValidWrong)

/-- 'laws.FnExactRosterMake': WHATEVER THE INPUT: true; the input reads as it did. -/
def fnExactRosterMakeSpec : ChangeSpec := { name := "fnExactRosterMake", fn := fun _ => fun
  | [d1, d2] => { results := [.lit (.bool true)], args := [d1, d2] }
  | _ => none }
def fnExactRosterMakeRow : OpenClaim := { program := "ytmcapcclnkicbaa", sum := "77205a34d0d62f39df310ef79c6591a3c93096b82004342ccba6b2884c040dd6", func := "loop.example/mailcoaches/laws.FnExactRosterMake", spec := "fnExactRosterMake", unfollowed := true, recurses := true, apart := false }
def FnExactRosterMakeSaid : Prop := fnExactRosterMakeRow.holds Try.pinned (OpenSpec.ofChange fnExactRosterMakeSpec)

/-- ITS FALSE NEIGHBOUR: 'it returns false'. Refute it at one input. -/
def fnExactRosterMakeWrong : ChangeSpec := { name := "fnExactRosterMake", fn := fun _ => fun
  | [d1, d2] => { results := [.lit (.bool false)], args := [d1, d2] }
  | _ => none }
def FnExactRosterMakeWrongFalsely : Prop := fnExactRosterMakeRow.holds Try.pinned (OpenSpec.ofChange fnExactRosterMakeWrong)

/-- 'laws.FnExactRosterTeams': WHATEVER THE INPUT: true; the input reads as it did. -/
def fnExactRosterTeamsSpec : ChangeSpec := { name := "fnExactRosterTeams", fn := fun _ => fun
  | [d1, d2, d3] => { results := [.lit (.bool true)], args := [d1, d2, d3] }
  | _ => none }
def fnExactRosterTeamsRow : OpenClaim := { program := "ytmcapcclnkicbaa", sum := "77205a34d0d62f39df310ef79c6591a3c93096b82004342ccba6b2884c040dd6", func := "loop.example/mailcoaches/laws.FnExactRosterTeams", spec := "fnExactRosterTeams", apart := false }
def FnExactRosterTeamsSaid : Prop := fnExactRosterTeamsRow.holds Try.pinned (OpenSpec.ofChange fnExactRosterTeamsSpec)

/-- ITS FALSE NEIGHBOUR: 'it returns false'. Refute it at one input. -/
def fnExactRosterTeamsWrong : ChangeSpec := { name := "fnExactRosterTeams", fn := fun _ => fun
  | [d1, d2, d3] => { results := [.lit (.bool false)], args := [d1, d2, d3] }
  | _ => none }
def FnExactRosterTeamsWrongFalsely : Prop := fnExactRosterTeamsRow.holds Try.pinned (OpenSpec.ofChange fnExactRosterTeamsWrong)

/-- 'laws.FnExactTeamsLeast': WHATEVER THE INPUT: true; the input reads as it did. -/
def fnExactTeamsLeastSpec : ChangeSpec := { name := "fnExactTeamsLeast", fn := fun _ => fun
  | [d1, d2] => { results := [.lit (.bool true)], args := [d1, d2] }
  | _ => none }
def fnExactTeamsLeastRow : OpenClaim := { program := "ytmcapcclnkicbaa", sum := "77205a34d0d62f39df310ef79c6591a3c93096b82004342ccba6b2884c040dd6", func := "loop.example/mailcoaches/laws.FnExactTeamsLeast", spec := "fnExactTeamsLeast", unfollowed := true, recurses := true, apart := false }
def FnExactTeamsLeastSaid : Prop := fnExactTeamsLeastRow.holds Try.pinned (OpenSpec.ofChange fnExactTeamsLeastSpec)

/-- ITS FALSE NEIGHBOUR: 'it returns false'. Refute it at one input. -/
def fnExactTeamsLeastWrong : ChangeSpec := { name := "fnExactTeamsLeast", fn := fun _ => fun
  | [d1, d2] => { results := [.lit (.bool false)], args := [d1, d2] }
  | _ => none }
def FnExactTeamsLeastWrongFalsely : Prop := fnExactTeamsLeastRow.holds Try.pinned (OpenSpec.ofChange fnExactTeamsLeastWrong)

/-- 'laws.FnExactTeamsBusy': WHATEVER THE INPUT: true; the input reads as it did. -/
def fnExactTeamsBusySpec : ChangeSpec := { name := "fnExactTeamsBusy", fn := fun _ => fun
  | [d1, d2, d3] => { results := [.lit (.bool true)], args := [d1, d2, d3] }
  | _ => none }
def fnExactTeamsBusyRow : OpenClaim := { program := "ytmcapcclnkicbaa", sum := "77205a34d0d62f39df310ef79c6591a3c93096b82004342ccba6b2884c040dd6", func := "loop.example/mailcoaches/laws.FnExactTeamsBusy", spec := "fnExactTeamsBusy", apart := false }
def FnExactTeamsBusySaid : Prop := fnExactTeamsBusyRow.holds Try.pinned (OpenSpec.ofChange fnExactTeamsBusySpec)

/-- ITS FALSE NEIGHBOUR: 'it returns false'. Refute it at one input. -/
def fnExactTeamsBusyWrong : ChangeSpec := { name := "fnExactTeamsBusy", fn := fun _ => fun
  | [d1, d2, d3] => { results := [.lit (.bool false)], args := [d1, d2, d3] }
  | _ => none }
def FnExactTeamsBusyWrongFalsely : Prop := fnExactTeamsBusyRow.holds Try.pinned (OpenSpec.ofChange fnExactTeamsBusyWrong)

/-- 'laws.FnExactTeamsPeak': WHATEVER THE INPUT: true; the input reads as it did. -/
def fnExactTeamsPeakSpec : ChangeSpec := { name := "fnExactTeamsPeak", fn := fun _ => fun
  | [d1, d2] => { results := [.lit (.bool true)], args := [d1, d2] }
  | _ => none }
def fnExactTeamsPeakRow : OpenClaim := { program := "ytmcapcclnkicbaa", sum := "77205a34d0d62f39df310ef79c6591a3c93096b82004342ccba6b2884c040dd6", func := "loop.example/mailcoaches/laws.FnExactTeamsPeak", spec := "fnExactTeamsPeak", apart := false }
def FnExactTeamsPeakSaid : Prop := fnExactTeamsPeakRow.holds Try.pinned (OpenSpec.ofChange fnExactTeamsPeakSpec)

/-- ITS FALSE NEIGHBOUR: 'it returns false'. Refute it at one input. -/
def fnExactTeamsPeakWrong : ChangeSpec := { name := "fnExactTeamsPeak", fn := fun _ => fun
  | [d1, d2] => { results := [.lit (.bool false)], args := [d1, d2] }
  | _ => none }
def FnExactTeamsPeakWrongFalsely : Prop := fnExactTeamsPeakRow.holds Try.pinned (OpenSpec.ofChange fnExactTeamsPeakWrong)

/-- 'laws.FnExactRestMost': WHATEVER THE INPUT: true; the input reads as it did. -/
def fnExactRestMostSpec : ChangeSpec := { name := "fnExactRestMost", fn := fun _ => fun
  | [d1, d2] => { results := [.lit (.bool true)], args := [d1, d2] }
  | _ => none }
def fnExactRestMostRow : OpenClaim := { program := "ytmcapcclnkicbaa", sum := "77205a34d0d62f39df310ef79c6591a3c93096b82004342ccba6b2884c040dd6", func := "loop.example/mailcoaches/laws.FnExactRestMost", spec := "fnExactRestMost", unfollowed := true, recurses := true, apart := false }
def FnExactRestMostSaid : Prop := fnExactRestMostRow.holds Try.pinned (OpenSpec.ofChange fnExactRestMostSpec)

/-- ITS FALSE NEIGHBOUR: 'it returns false'. Refute it at one input. -/
def fnExactRestMostWrong : ChangeSpec := { name := "fnExactRestMost", fn := fun _ => fun
  | [d1, d2] => { results := [.lit (.bool false)], args := [d1, d2] }
  | _ => none }
def FnExactRestMostWrongFalsely : Prop := fnExactRestMostRow.holds Try.pinned (OpenSpec.ofChange fnExactRestMostWrong)

/-- 'laws.FnExactRunsAdd': WHATEVER THE INPUT: true; the input reads as it did. -/
def fnExactRunsAddSpec : ChangeSpec := { name := "fnExactRunsAdd", fn := fun _ => fun
  | [d1, d2] => { results := [.lit (.bool true)], args := [d1, d2] }
  | _ => none }
def fnExactRunsAddRow : OpenClaim := { program := "ytmcapcclnkicbaa", sum := "77205a34d0d62f39df310ef79c6591a3c93096b82004342ccba6b2884c040dd6", func := "loop.example/mailcoaches/laws.FnExactRunsAdd", spec := "fnExactRunsAdd", apart := false }
def FnExactRunsAddSaid : Prop := fnExactRunsAddRow.holds Try.pinned (OpenSpec.ofChange fnExactRunsAddSpec)

/-- ITS FALSE NEIGHBOUR: 'it returns false'. Refute it at one input. -/
def fnExactRunsAddWrong : ChangeSpec := { name := "fnExactRunsAdd", fn := fun _ => fun
  | [d1, d2] => { results := [.lit (.bool false)], args := [d1, d2] }
  | _ => none }
def FnExactRunsAddWrongFalsely : Prop := fnExactRunsAddRow.holds Try.pinned (OpenSpec.ofChange fnExactRunsAddWrong)

/-- 'laws.FnExactRunsLater': WHATEVER THE INPUT: true; the input reads as it did. -/
def fnExactRunsLaterSpec : ChangeSpec := { name := "fnExactRunsLater", fn := fun _ => fun
  | [d1, d2] => { results := [.lit (.bool true)], args := [d1, d2] }
  | _ => none }
def fnExactRunsLaterRow : OpenClaim := { program := "ytmcapcclnkicbaa", sum := "77205a34d0d62f39df310ef79c6591a3c93096b82004342ccba6b2884c040dd6", func := "loop.example/mailcoaches/laws.FnExactRunsLater", spec := "fnExactRunsLater", apart := false }
def FnExactRunsLaterSaid : Prop := fnExactRunsLaterRow.holds Try.pinned (OpenSpec.ofChange fnExactRunsLaterSpec)

/-- ITS FALSE NEIGHBOUR: 'it returns false'. Refute it at one input. -/
def fnExactRunsLaterWrong : ChangeSpec := { name := "fnExactRunsLater", fn := fun _ => fun
  | [d1, d2] => { results := [.lit (.bool false)], args := [d1, d2] }
  | _ => none }
def FnExactRunsLaterWrongFalsely : Prop := fnExactRunsLaterRow.holds Try.pinned (OpenSpec.ofChange fnExactRunsLaterWrong)

/-- 'laws.FnExactRosterSwap': WHATEVER THE INPUT: true; the input reads as it did. -/
def fnExactRosterSwapSpec : ChangeSpec := { name := "fnExactRosterSwap", fn := fun _ => fun
  | [d1, d2, d3, d4, d5, d6] => { results := [.lit (.bool true)], args := [d1, d2, d3, d4, d5, d6] }
  | _ => none }
def fnExactRosterSwapRow : OpenClaim := { program := "ytmcapcclnkicbaa", sum := "77205a34d0d62f39df310ef79c6591a3c93096b82004342ccba6b2884c040dd6", func := "loop.example/mailcoaches/laws.FnExactRosterSwap", spec := "fnExactRosterSwap", apart := false }
def FnExactRosterSwapSaid : Prop := fnExactRosterSwapRow.holds Try.pinned (OpenSpec.ofChange fnExactRosterSwapSpec)

/-- ITS FALSE NEIGHBOUR: 'it returns false'. Refute it at one input. -/
def fnExactRosterSwapWrong : ChangeSpec := { name := "fnExactRosterSwap", fn := fun _ => fun
  | [d1, d2, d3, d4, d5, d6] => { results := [.lit (.bool false)], args := [d1, d2, d3, d4, d5, d6] }
  | _ => none }
def FnExactRosterSwapWrongFalsely : Prop := fnExactRosterSwapRow.holds Try.pinned (OpenSpec.ofChange fnExactRosterSwapWrong)

/-- 'laws.FnExactRosterMinutes': WHATEVER THE INPUT: true; the input reads as it did. -/
def fnExactRosterMinutesSpec : ChangeSpec := { name := "fnExactRosterMinutes", fn := fun _ => fun
  | [d1, d2, d3] => { results := [.lit (.bool true)], args := [d1, d2, d3] }
  | _ => none }
def fnExactRosterMinutesRow : OpenClaim := { program := "ytmcapcclnkicbaa", sum := "77205a34d0d62f39df310ef79c6591a3c93096b82004342ccba6b2884c040dd6", func := "loop.example/mailcoaches/laws.FnExactRosterMinutes", spec := "fnExactRosterMinutes", apart := false }
def FnExactRosterMinutesSaid : Prop := fnExactRosterMinutesRow.holds Try.pinned (OpenSpec.ofChange fnExactRosterMinutesSpec)

/-- ITS FALSE NEIGHBOUR: 'it returns false'. Refute it at one input. -/
def fnExactRosterMinutesWrong : ChangeSpec := { name := "fnExactRosterMinutes", fn := fun _ => fun
  | [d1, d2, d3] => { results := [.lit (.bool false)], args := [d1, d2, d3] }
  | _ => none }
def FnExactRosterMinutesWrongFalsely : Prop := fnExactRosterMinutesRow.holds Try.pinned (OpenSpec.ofChange fnExactRosterMinutesWrong)

/- THE SECOND FORM. 'bulk': how many values and letters a reading holds, each counted each time it is reached (what is shared counts as often as it is met; a slice's spare places count too). A statement '..UptoSaid' is the law's where the arguments, and the package variables that the reading takes, are together of bulk at most 1048576: NARROWER than '..Said'. Prove '..Said' where nothing that the law and all that it calls make is longer than what came in: it says more and counts as full. Else prove '..UptoSaid'. A law counts once. -/
mutual
def uptoBulk {H : Type} : DataW H → Nat
  | .lit (.string bytes) => bytes.length + 1
  | .lit _ => 1
  | .nil => 1
  | .ptr d => uptoBulk d + 1
  | .slice elems spare => uptoBulkAll elems + uptoBulkAll spare + 1
  | .agg parts => uptoBulkAll parts + 1
  | .iface _ d => uptoBulk d + 1
  | .map entries => uptoBulkEntries entries + 1
  | .held _ => 1
def uptoBulkAll {H : Type} : List (DataW H) → Nat
  | [] => 0
  | d :: r => uptoBulk d + uptoBulkAll r
def uptoBulkEntries {H : Type} : List (Lit × DataW H) → Nat
  | [] => 0
  | x :: r => uptoBulkEntry x + uptoBulkEntries r
def uptoBulkEntry {H : Type} : Lit × DataW H → Nat
  | (.string bytes, d) => bytes.length + uptoBulk d + 1
  | (_, d) => uptoBulk d + 1
 end
def uptoSmall : (H : Type) → List (DataW H) → Bool := fun _ ds => decide (uptoBulkAll ds ≤ 1048576)
def OpenSpec.upto (s : _root_.Go.ChangeSpec) : _root_.Go.OpenSpec := { _root_.Go.OpenSpec.ofChange s with cond := some uptoSmall }

/-- 'laws.FnExactRunsValid', WHERE WHAT IT READS IS OF BULK AT MOST 1048576: true; the input reads as it did. -/
def fnExactRunsValidUptoRow : OpenClaim := { program := "ytmcapcclnkicbaa", sum := "77205a34d0d62f39df310ef79c6591a3c93096b82004342ccba6b2884c040dd6", func := "loop.example/mailcoaches/laws.FnExactRunsValid", spec := "fnExactRunsValid", apart := false, narrowed := true }
def FnExactRunsValidUptoSaid : Prop := fnExactRunsValidUptoRow.holds Try.pinned (OpenSpec.upto fnExactRunsValidSpec)

/-- 'laws.FnExactRosterValid', WHERE WHAT IT READS IS OF BULK AT MOST 1048576: true; the input reads as it did. -/
def fnExactRosterValidUptoRow : OpenClaim := { program := "ytmcapcclnkicbaa", sum := "77205a34d0d62f39df310ef79c6591a3c93096b82004342ccba6b2884c040dd6", func := "loop.example/mailcoaches/laws.FnExactRosterValid", spec := "fnExactRosterValid", apart := false, narrowed := true }
def FnExactRosterValidUptoSaid : Prop := fnExactRosterValidUptoRow.holds Try.pinned (OpenSpec.upto fnExactRosterValidSpec)

/-- 'laws.FnExactRosterMake', WHERE WHAT IT READS IS OF BULK AT MOST 1048576: true; the input reads as it did. -/
def fnExactRosterMakeUptoRow : OpenClaim := { program := "ytmcapcclnkicbaa", sum := "77205a34d0d62f39df310ef79c6591a3c93096b82004342ccba6b2884c040dd6", func := "loop.example/mailcoaches/laws.FnExactRosterMake", spec := "fnExactRosterMake", unfollowed := true, recurses := true, apart := false, narrowed := true }
def FnExactRosterMakeUptoSaid : Prop := fnExactRosterMakeUptoRow.holds Try.pinned (OpenSpec.upto fnExactRosterMakeSpec)

/-- 'laws.FnExactRosterTeams', WHERE WHAT IT READS IS OF BULK AT MOST 1048576: true; the input reads as it did. -/
def fnExactRosterTeamsUptoRow : OpenClaim := { program := "ytmcapcclnkicbaa", sum := "77205a34d0d62f39df310ef79c6591a3c93096b82004342ccba6b2884c040dd6", func := "loop.example/mailcoaches/laws.FnExactRosterTeams", spec := "fnExactRosterTeams", apart := false, narrowed := true }
def FnExactRosterTeamsUptoSaid : Prop := fnExactRosterTeamsUptoRow.holds Try.pinned (OpenSpec.upto fnExactRosterTeamsSpec)

/-- 'laws.FnExactTeamsLeast', WHERE WHAT IT READS IS OF BULK AT MOST 1048576: true; the input reads as it did. -/
def fnExactTeamsLeastUptoRow : OpenClaim := { program := "ytmcapcclnkicbaa", sum := "77205a34d0d62f39df310ef79c6591a3c93096b82004342ccba6b2884c040dd6", func := "loop.example/mailcoaches/laws.FnExactTeamsLeast", spec := "fnExactTeamsLeast", unfollowed := true, recurses := true, apart := false, narrowed := true }
def FnExactTeamsLeastUptoSaid : Prop := fnExactTeamsLeastUptoRow.holds Try.pinned (OpenSpec.upto fnExactTeamsLeastSpec)

/-- 'laws.FnExactTeamsBusy', WHERE WHAT IT READS IS OF BULK AT MOST 1048576: true; the input reads as it did. -/
def fnExactTeamsBusyUptoRow : OpenClaim := { program := "ytmcapcclnkicbaa", sum := "77205a34d0d62f39df310ef79c6591a3c93096b82004342ccba6b2884c040dd6", func := "loop.example/mailcoaches/laws.FnExactTeamsBusy", spec := "fnExactTeamsBusy", apart := false, narrowed := true }
def FnExactTeamsBusyUptoSaid : Prop := fnExactTeamsBusyUptoRow.holds Try.pinned (OpenSpec.upto fnExactTeamsBusySpec)

/-- 'laws.FnExactTeamsPeak', WHERE WHAT IT READS IS OF BULK AT MOST 1048576: true; the input reads as it did. -/
def fnExactTeamsPeakUptoRow : OpenClaim := { program := "ytmcapcclnkicbaa", sum := "77205a34d0d62f39df310ef79c6591a3c93096b82004342ccba6b2884c040dd6", func := "loop.example/mailcoaches/laws.FnExactTeamsPeak", spec := "fnExactTeamsPeak", apart := false, narrowed := true }
def FnExactTeamsPeakUptoSaid : Prop := fnExactTeamsPeakUptoRow.holds Try.pinned (OpenSpec.upto fnExactTeamsPeakSpec)

/-- 'laws.FnExactRestMost', WHERE WHAT IT READS IS OF BULK AT MOST 1048576: true; the input reads as it did. -/
def fnExactRestMostUptoRow : OpenClaim := { program := "ytmcapcclnkicbaa", sum := "77205a34d0d62f39df310ef79c6591a3c93096b82004342ccba6b2884c040dd6", func := "loop.example/mailcoaches/laws.FnExactRestMost", spec := "fnExactRestMost", unfollowed := true, recurses := true, apart := false, narrowed := true }
def FnExactRestMostUptoSaid : Prop := fnExactRestMostUptoRow.holds Try.pinned (OpenSpec.upto fnExactRestMostSpec)

/-- 'laws.FnExactRunsAdd', WHERE WHAT IT READS IS OF BULK AT MOST 1048576: true; the input reads as it did. -/
def fnExactRunsAddUptoRow : OpenClaim := { program := "ytmcapcclnkicbaa", sum := "77205a34d0d62f39df310ef79c6591a3c93096b82004342ccba6b2884c040dd6", func := "loop.example/mailcoaches/laws.FnExactRunsAdd", spec := "fnExactRunsAdd", apart := false, narrowed := true }
def FnExactRunsAddUptoSaid : Prop := fnExactRunsAddUptoRow.holds Try.pinned (OpenSpec.upto fnExactRunsAddSpec)

/-- 'laws.FnExactRunsLater', WHERE WHAT IT READS IS OF BULK AT MOST 1048576: true; the input reads as it did. -/
def fnExactRunsLaterUptoRow : OpenClaim := { program := "ytmcapcclnkicbaa", sum := "77205a34d0d62f39df310ef79c6591a3c93096b82004342ccba6b2884c040dd6", func := "loop.example/mailcoaches/laws.FnExactRunsLater", spec := "fnExactRunsLater", apart := false, narrowed := true }
def FnExactRunsLaterUptoSaid : Prop := fnExactRunsLaterUptoRow.holds Try.pinned (OpenSpec.upto fnExactRunsLaterSpec)

/-- 'laws.FnExactRosterSwap', WHERE WHAT IT READS IS OF BULK AT MOST 1048576: true; the input reads as it did. -/
def fnExactRosterSwapUptoRow : OpenClaim := { program := "ytmcapcclnkicbaa", sum := "77205a34d0d62f39df310ef79c6591a3c93096b82004342ccba6b2884c040dd6", func := "loop.example/mailcoaches/laws.FnExactRosterSwap", spec := "fnExactRosterSwap", apart := false, narrowed := true }
def FnExactRosterSwapUptoSaid : Prop := fnExactRosterSwapUptoRow.holds Try.pinned (OpenSpec.upto fnExactRosterSwapSpec)

/-- 'laws.FnExactRosterMinutes', WHERE WHAT IT READS IS OF BULK AT MOST 1048576: true; the input reads as it did. -/
def fnExactRosterMinutesUptoRow : OpenClaim := { program := "ytmcapcclnkicbaa", sum := "77205a34d0d62f39df310ef79c6591a3c93096b82004342ccba6b2884c040dd6", func := "loop.example/mailcoaches/laws.FnExactRosterMinutes", spec := "fnExactRosterMinutes", apart := false, narrowed := true }
def FnExactRosterMinutesUptoSaid : Prop := fnExactRosterMinutesUptoRow.holds Try.pinned (OpenSpec.upto fnExactRosterMinutesSpec)

end Rows
end Go.Proofs.Ytmcapcclnkicbaa
