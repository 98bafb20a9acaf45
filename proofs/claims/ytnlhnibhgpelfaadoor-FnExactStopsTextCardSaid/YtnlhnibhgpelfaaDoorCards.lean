/-
  DERIVED. GIVEN WITH THE SEED: THE CARDS: each row of YtnlhnibhgpelfaaDoorRows.lean that lists a variable, with what it lists TIED to the program's text (the seventh form; the later family's looks); each row that meets fmt, with fmt's text TOLD by the authors' own Lean function (tested against real Go, not proved from fmt's source: count such statements apart). THE CARD IS WHAT COUNTS. Prove the row's statement (the work); the ties are given (YtnlhnibhgpelfaaDoorTie.lean); close each card by the builder's one call (the guide's Derived/Test/ToyasCard.lean, 'card_holds'). Laid BY PROGRAM, IN A SANDBOX (cutbox-door.mjs). By AI agents, Wed Nov 11 2026. No macro, syntax, notation, axiom, sorry.
-/
import Derived.Test.YtnlhnibhgpelfaaDoorRows
import GoSem.ClaimSeven
namespace Go.Proofs.YtnlhnibhgpelfaaDoor
namespace Rows

/-- THE TIED CARD OF 'laws.FnExactClockText'. -/
def fnExactClockTextCard : Claim7 := { stood := { row := fnExactClockTextRow, standIns := [], harness := (true, "7a3b4e503ec261762adfaf130229b25105787b217d899a6d1f178e715f45a0d2"), looks := false }, kinds := [], alts := [], laidByText := true, laidKinds := [.data, .data, .data], laidTests := true, laidLooks := .later }
def FnExactClockTextCardSaid : Prop := Claim7.holds Tryd.pinned (.plain (OpenSpec.ofChange fnExactClockTextSpec)) fnExactClockTextCard

/-- THE TIED CARD OF 'laws.FnExactStopsText'. -/
def fnExactStopsTextCard : Claim7 := { stood := { row := fnExactStopsTextRow, standIns := [], harness := (true, "7a3b4e503ec261762adfaf130229b25105787b217d899a6d1f178e715f45a0d2"), looks := false }, kinds := [], alts := [], laidByText := true, laidKinds := [.data, .data, .data], laidTests := true, laidLooks := .later }
def FnExactStopsTextCardSaid : Prop := Claim7.holds Tryd.pinned (.plain (OpenSpec.ofChange fnExactStopsTextSpec)) fnExactStopsTextCard

/-- THE SECOND FORM's CARD OF 'laws.FnExactClockText'. -/
def fnExactClockTextUptoCard : Claim7 := { stood := { row := fnExactClockTextUptoRow, standIns := [], harness := (true, "7a3b4e503ec261762adfaf130229b25105787b217d899a6d1f178e715f45a0d2"), looks := false }, kinds := [], alts := [], laidByText := true, laidKinds := [.data, .data, .data], laidTests := true, laidLooks := .later }
def FnExactClockTextUptoCardSaid : Prop := Claim7.holds Tryd.pinned (.plain (OpenSpec.upto fnExactClockTextSpec)) fnExactClockTextUptoCard

/-- THE SECOND FORM's CARD OF 'laws.FnExactStopsText'. -/
def fnExactStopsTextUptoCard : Claim7 := { stood := { row := fnExactStopsTextUptoRow, standIns := [], harness := (true, "7a3b4e503ec261762adfaf130229b25105787b217d899a6d1f178e715f45a0d2"), looks := false }, kinds := [], alts := [], laidByText := true, laidKinds := [.data, .data, .data], laidTests := true, laidLooks := .later }
def FnExactStopsTextUptoCardSaid : Prop := Claim7.holds Tryd.pinned (.plain (OpenSpec.upto fnExactStopsTextSpec)) fnExactStopsTextUptoCard
end Rows
end Go.Proofs.YtnlhnibhgpelfaaDoor
