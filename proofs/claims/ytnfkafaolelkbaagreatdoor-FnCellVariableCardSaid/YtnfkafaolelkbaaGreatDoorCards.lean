/-
  DERIVED. GIVEN WITH THE SEED: THE CARDS: each row of YtnfkafaolelkbaaGreatDoorRows.lean that lists a variable, with what it lists TIED to the program's text (the seventh form; the later family's looks); each row that meets fmt, with fmt's text TOLD by the authors' own Lean function (tested against real Go, not proved from fmt's source: count such statements apart). THE CARD IS WHAT COUNTS. Prove the row's statement (the work); the ties are given (YtnfkafaolelkbaaGreatDoorTie.lean); close each card by the builder's one call (the guide's Derived/Test/ToyasCard.lean, 'card_holds'). Laid BY PROGRAM, IN A SANDBOX (cutbox-door.mjs). By AI agents, Wed Nov 11 2026. No macro, syntax, notation, axiom, sorry.
-/
import Derived.Test.YtnfkafaolelkbaaGreatDoorRows
import GoSem.ClaimSeven
namespace Go.Proofs.YtnfkafaolelkbaaGreatDoor
namespace Rows

/-- THE TIED CARD OF 'laws.FnCountSwitch'. -/
def fnCountSwitchCard : Claim7 := { stood := { row := fnCountSwitchRow, standIns := [], harness := (true, "24a443486170b9a4cf48cca1c9caf750e695aa95cacd24d8a46475059dd78e2a"), looks := true }, kinds := [], alts := [], laidByText := true, laidKinds := [.sentinel], laidTests := true, laidLooks := .later }
def FnCountSwitchCardSaid : Prop := Claim7.holds Tryz.pinned (.plain (OpenSpec.ofChange fnCountSwitchSpec)) fnCountSwitchCard

/-- THE TIED CARD OF 'laws.FnCellVariable'. -/
def fnCellVariableCard : Claim7 := { stood := { row := fnCellVariableRow, standIns := [], harness := (true, "24a443486170b9a4cf48cca1c9caf750e695aa95cacd24d8a46475059dd78e2a"), looks := true }, kinds := [], alts := [], laidByText := true, laidKinds := [.sentinel], laidTests := true, laidLooks := .later }
def FnCellVariableCardSaid : Prop := Claim7.holds Tryz.pinned (.plain (OpenSpec.ofChange fnCellVariableSpec)) fnCellVariableCard

/-- THE TIED CARD OF 'laws.FnCountVariable'. -/
def fnCountVariableCard : Claim7 := { stood := { row := fnCountVariableRow, standIns := [], harness := (true, "24a443486170b9a4cf48cca1c9caf750e695aa95cacd24d8a46475059dd78e2a"), looks := true }, kinds := [], alts := [], laidByText := true, laidKinds := [.sentinel], laidTests := true, laidLooks := .later }
def FnCountVariableCardSaid : Prop := Claim7.holds Tryz.pinned (.plain (OpenSpec.ofChange fnCountVariableSpec)) fnCountVariableCard

/-- THE SECOND FORM's CARD OF 'laws.FnCountSwitch'. -/
def fnCountSwitchUptoCard : Claim7 := { stood := { row := fnCountSwitchUptoRow, standIns := [], harness := (true, "24a443486170b9a4cf48cca1c9caf750e695aa95cacd24d8a46475059dd78e2a"), looks := true }, kinds := [], alts := [], laidByText := true, laidKinds := [.sentinel], laidTests := true, laidLooks := .later }
def FnCountSwitchUptoCardSaid : Prop := Claim7.holds Tryz.pinned (.plain (OpenSpec.upto fnCountSwitchSpec)) fnCountSwitchUptoCard

/-- THE SECOND FORM's CARD OF 'laws.FnCellVariable'. -/
def fnCellVariableUptoCard : Claim7 := { stood := { row := fnCellVariableUptoRow, standIns := [], harness := (true, "24a443486170b9a4cf48cca1c9caf750e695aa95cacd24d8a46475059dd78e2a"), looks := true }, kinds := [], alts := [], laidByText := true, laidKinds := [.sentinel], laidTests := true, laidLooks := .later }
def FnCellVariableUptoCardSaid : Prop := Claim7.holds Tryz.pinned (.plain (OpenSpec.upto fnCellVariableSpec)) fnCellVariableUptoCard

/-- THE SECOND FORM's CARD OF 'laws.FnCountVariable'. -/
def fnCountVariableUptoCard : Claim7 := { stood := { row := fnCountVariableUptoRow, standIns := [], harness := (true, "24a443486170b9a4cf48cca1c9caf750e695aa95cacd24d8a46475059dd78e2a"), looks := true }, kinds := [], alts := [], laidByText := true, laidKinds := [.sentinel], laidTests := true, laidLooks := .later }
def FnCountVariableUptoCardSaid : Prop := Claim7.holds Tryz.pinned (.plain (OpenSpec.upto fnCountVariableSpec)) fnCountVariableUptoCard
end Rows
end Go.Proofs.YtnfkafaolelkbaaGreatDoor
