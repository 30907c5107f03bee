/-
  DERIVED. GIVEN WITH THE SEED: THE CARDS: each row of YtocbnpkdncnbgaaGreatDoorRows.lean that lists a variable, with what it lists TIED to the program's text (the seventh form; the later family's looks); each row that meets fmt, with fmt's text TOLD by the authors' own Lean function (tested against real Go, not proved from fmt's source: count such statements apart). THE CARD IS WHAT COUNTS. Prove the row's statement (the work); the ties are given (YtocbnpkdncnbgaaGreatDoorTie.lean); close each card by the builder's one call (the guide's Derived/Test/ToyasCard.lean, 'card_holds'). Laid BY PROGRAM, IN A SANDBOX (cutbox-door.mjs). By AI agents, Wed Nov 11 2026. No macro, syntax, notation, axiom, sorry.
-/
import Derived.Test.YtocbnpkdncnbgaaGreatDoorRows
import GoSem.ClaimSeven
namespace Go.Proofs.YtocbnpkdncnbgaaGreatDoor
namespace Rows

/-- THE TIED CARD OF 'laws.FnBuild'. -/
def fnBuildCard : Claim7 := { stood := { row := fnBuildRow, standIns := [], harness := (true, "ae12a5a484603313590810b3df7dd0aff77a71772eacfa0eff1fbad1c4ed0b06"), looks := true }, kinds := [], alts := [], laidByText := true, laidKinds := [.sentinel], laidTests := true, laidLooks := .later }
def FnBuildCardSaid : Prop := Claim7.holds Tryz.pinned (.plain (OpenSpec.ofChange fnBuildSpec)) fnBuildCard

/-- THE TIED CARD OF 'laws.FnBuildRow'. -/
def fnBuildRowCard : Claim7 := { stood := { row := fnBuildRowRow, standIns := [], harness := (true, "ae12a5a484603313590810b3df7dd0aff77a71772eacfa0eff1fbad1c4ed0b06"), looks := true }, kinds := [], alts := [], laidByText := true, laidKinds := [.sentinel], laidTests := true, laidLooks := .later }
def FnBuildRowCardSaid : Prop := Claim7.holds Tryz.pinned (.plain (OpenSpec.ofChange fnBuildRowSpec)) fnBuildRowCard

/-- THE TIED CARD OF 'laws.FnBuildFirst'. -/
def fnBuildFirstCard : Claim7 := { stood := { row := fnBuildFirstRow, standIns := [], harness := (true, "ae12a5a484603313590810b3df7dd0aff77a71772eacfa0eff1fbad1c4ed0b06"), looks := true }, kinds := [], alts := [], laidByText := true, laidKinds := [.sentinel], laidTests := true, laidLooks := .later }
def FnBuildFirstCardSaid : Prop := Claim7.holds Tryz.pinned (.plain (OpenSpec.ofChange fnBuildFirstSpec)) fnBuildFirstCard

/-- THE TIED CARD OF 'laws.FnBuildTurn'. -/
def fnBuildTurnCard : Claim7 := { stood := { row := fnBuildTurnRow, standIns := [], harness := (true, "ae12a5a484603313590810b3df7dd0aff77a71772eacfa0eff1fbad1c4ed0b06"), looks := true }, kinds := [], alts := [], laidByText := true, laidKinds := [.sentinel], laidTests := true, laidLooks := .later }
def FnBuildTurnCardSaid : Prop := Claim7.holds Tryz.pinned (.plain (OpenSpec.ofChange fnBuildTurnSpec)) fnBuildTurnCard

/-- THE SECOND FORM's CARD OF 'laws.FnBuild'. -/
def fnBuildUptoCard : Claim7 := { stood := { row := fnBuildUptoRow, standIns := [], harness := (true, "ae12a5a484603313590810b3df7dd0aff77a71772eacfa0eff1fbad1c4ed0b06"), looks := true }, kinds := [], alts := [], laidByText := true, laidKinds := [.sentinel], laidTests := true, laidLooks := .later }
def FnBuildUptoCardSaid : Prop := Claim7.holds Tryz.pinned (.plain (OpenSpec.upto fnBuildSpec)) fnBuildUptoCard

/-- THE SECOND FORM's CARD OF 'laws.FnBuildRow'. -/
def fnBuildRowUptoCard : Claim7 := { stood := { row := fnBuildRowUptoRow, standIns := [], harness := (true, "ae12a5a484603313590810b3df7dd0aff77a71772eacfa0eff1fbad1c4ed0b06"), looks := true }, kinds := [], alts := [], laidByText := true, laidKinds := [.sentinel], laidTests := true, laidLooks := .later }
def FnBuildRowUptoCardSaid : Prop := Claim7.holds Tryz.pinned (.plain (OpenSpec.upto fnBuildRowSpec)) fnBuildRowUptoCard

/-- THE SECOND FORM's CARD OF 'laws.FnBuildFirst'. -/
def fnBuildFirstUptoCard : Claim7 := { stood := { row := fnBuildFirstUptoRow, standIns := [], harness := (true, "ae12a5a484603313590810b3df7dd0aff77a71772eacfa0eff1fbad1c4ed0b06"), looks := true }, kinds := [], alts := [], laidByText := true, laidKinds := [.sentinel], laidTests := true, laidLooks := .later }
def FnBuildFirstUptoCardSaid : Prop := Claim7.holds Tryz.pinned (.plain (OpenSpec.upto fnBuildFirstSpec)) fnBuildFirstUptoCard

/-- THE SECOND FORM's CARD OF 'laws.FnBuildTurn'. -/
def fnBuildTurnUptoCard : Claim7 := { stood := { row := fnBuildTurnUptoRow, standIns := [], harness := (true, "ae12a5a484603313590810b3df7dd0aff77a71772eacfa0eff1fbad1c4ed0b06"), looks := true }, kinds := [], alts := [], laidByText := true, laidKinds := [.sentinel], laidTests := true, laidLooks := .later }
def FnBuildTurnUptoCardSaid : Prop := Claim7.holds Tryz.pinned (.plain (OpenSpec.upto fnBuildTurnSpec)) fnBuildTurnUptoCard
end Rows
end Go.Proofs.YtocbnpkdncnbgaaGreatDoor
