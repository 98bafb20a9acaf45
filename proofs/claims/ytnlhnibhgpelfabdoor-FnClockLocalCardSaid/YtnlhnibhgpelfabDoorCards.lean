/-
  DERIVED. GIVEN WITH THE SEED: THE CARDS: each row of YtnlhnibhgpelfabDoorRows.lean that lists a variable, with what it lists TIED to the program's text (the seventh form; the later family's looks); each row that meets fmt, with fmt's text TOLD by the authors' own Lean function (tested against real Go, not proved from fmt's source: count such statements apart). THE CARD IS WHAT COUNTS. Prove the row's statement (the work); the ties are given (YtnlhnibhgpelfabDoorTie.lean); close each card by the builder's one call (the guide's Derived/Test/ToyasCard.lean, 'card_holds'). Laid BY PROGRAM, IN A SANDBOX (cutbox-door.mjs). By AI agents, Wed Nov 11 2026. No macro, syntax, notation, axiom, sorry.
-/
import Derived.Test.YtnlhnibhgpelfabDoorRows
import GoSem.ClaimSeven
namespace Go.Proofs.YtnlhnibhgpelfabDoor
namespace Rows

/-- THE TIED CARD OF 'laws.FnClockText'. -/
def fnClockTextCard : Claim7 := { stood := { row := fnClockTextRow, standIns := [], harness := (true, "bea2bd3ace9aa87c64603d582662e538bd8b6e98fd7c36b492cf3181ce286d42"), looks := false }, kinds := [], alts := [], laidByText := true, laidKinds := [.data, .data, .data], laidTests := true, laidLooks := .later }
def FnClockTextCardSaid : Prop := Claim7.holds Tryd.pinned (.plain (OpenSpec.ofChange fnClockTextSpec)) fnClockTextCard

/-- THE TIED CARD OF 'laws.FnClockFrom'. -/
def fnClockFromCard : Claim7 := { stood := { row := fnClockFromRow, standIns := [], harness := (true, "bea2bd3ace9aa87c64603d582662e538bd8b6e98fd7c36b492cf3181ce286d42"), looks := false }, kinds := [], alts := [], laidByText := true, laidKinds := [.data, .data, .data], laidTests := true, laidLooks := .later }
def FnClockFromCardSaid : Prop := Claim7.holds Tryd.pinned (.plain (OpenSpec.ofChange fnClockFromSpec)) fnClockFromCard

/-- THE TIED CARD OF 'laws.FnClockLocal'. -/
def fnClockLocalCard : Claim7 := { stood := { row := fnClockLocalRow, standIns := [], harness := (true, "bea2bd3ace9aa87c64603d582662e538bd8b6e98fd7c36b492cf3181ce286d42"), looks := false }, kinds := [], alts := [], laidByText := true, laidKinds := [.data, .data, .data], laidTests := true, laidLooks := .later }
def FnClockLocalCardSaid : Prop := Claim7.holds Tryd.pinned (.plain (OpenSpec.ofChange fnClockLocalSpec)) fnClockLocalCard

/-- THE SECOND FORM's CARD OF 'laws.FnClockText'. -/
def fnClockTextUptoCard : Claim7 := { stood := { row := fnClockTextUptoRow, standIns := [], harness := (true, "bea2bd3ace9aa87c64603d582662e538bd8b6e98fd7c36b492cf3181ce286d42"), looks := false }, kinds := [], alts := [], laidByText := true, laidKinds := [.data, .data, .data], laidTests := true, laidLooks := .later }
def FnClockTextUptoCardSaid : Prop := Claim7.holds Tryd.pinned (.plain (OpenSpec.upto fnClockTextSpec)) fnClockTextUptoCard

/-- THE SECOND FORM's CARD OF 'laws.FnClockFrom'. -/
def fnClockFromUptoCard : Claim7 := { stood := { row := fnClockFromUptoRow, standIns := [], harness := (true, "bea2bd3ace9aa87c64603d582662e538bd8b6e98fd7c36b492cf3181ce286d42"), looks := false }, kinds := [], alts := [], laidByText := true, laidKinds := [.data, .data, .data], laidTests := true, laidLooks := .later }
def FnClockFromUptoCardSaid : Prop := Claim7.holds Tryd.pinned (.plain (OpenSpec.upto fnClockFromSpec)) fnClockFromUptoCard

/-- THE SECOND FORM's CARD OF 'laws.FnClockLocal'. -/
def fnClockLocalUptoCard : Claim7 := { stood := { row := fnClockLocalUptoRow, standIns := [], harness := (true, "bea2bd3ace9aa87c64603d582662e538bd8b6e98fd7c36b492cf3181ce286d42"), looks := false }, kinds := [], alts := [], laidByText := true, laidKinds := [.data, .data, .data], laidTests := true, laidLooks := .later }
def FnClockLocalUptoCardSaid : Prop := Claim7.holds Tryd.pinned (.plain (OpenSpec.upto fnClockLocalSpec)) fnClockLocalUptoCard
end Rows
end Go.Proofs.YtnlhnibhgpelfabDoor
