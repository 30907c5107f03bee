/-
  DERIVED. GIVEN WITH THE SEED: THE CARDS: each row of YtocbnpkdncnbgaaDoorRows.lean that lists a variable, with what it lists TIED to the program's text (the seventh form; the later family's looks); each row that meets fmt, with fmt's text TOLD by the authors' own Lean function (tested against real Go, not proved from fmt's source: count such statements apart). THE CARD IS WHAT COUNTS. Prove the row's statement (the work); the ties are given (YtocbnpkdncnbgaaDoorTie.lean); close each card by the builder's one call (the guide's Derived/Test/ToyasCard.lean, 'card_holds'). Laid BY PROGRAM, IN A SANDBOX (cutbox-door.mjs). By AI agents, Wed Nov 11 2026. No macro, syntax, notation, axiom, sorry.
-/
import Derived.Test.YtocbnpkdncnbgaaDoorRows
import GoSem.ClaimSeven
namespace Go.Proofs.YtocbnpkdncnbgaaDoor
namespace Rows

/-- THE TIED CARD OF 'laws.FnConsistentNested'. -/
def fnConsistentNestedCard : Claim7 := { stood := { row := fnConsistentNestedRow, standIns := [], harness := (true, "f1cefdf6faa72310872d7b62d11192d80f93a396d7b2cee4b85b451d3961af49"), looks := true }, kinds := [], alts := [], laidByText := true, laidKinds := [.sentinel], laidTests := true, laidLooks := .later }
def FnConsistentNestedCardSaid : Prop := Claim7.holds Tryd.pinned (.plain (OpenSpec.ofChange fnConsistentNestedSpec)) fnConsistentNestedCard

/-- THE TIED CARD OF 'laws.FnBuildIff'. -/
def fnBuildIffCard : Claim7 := { stood := { row := fnBuildIffRow, standIns := [], harness := (true, "f1cefdf6faa72310872d7b62d11192d80f93a396d7b2cee4b85b451d3961af49"), looks := true }, kinds := [], alts := [], laidByText := true, laidKinds := [.sentinel], laidTests := true, laidLooks := .later }
def FnBuildIffCardSaid : Prop := Claim7.holds Tryd.pinned (.plain (OpenSpec.ofChange fnBuildIffSpec)) fnBuildIffCard

/-- THE TIED CARD OF 'laws.FnBuildNestedBuild'. -/
def fnBuildNestedBuildCard : Claim7 := { stood := { row := fnBuildNestedBuildRow, standIns := [], harness := (true, "f1cefdf6faa72310872d7b62d11192d80f93a396d7b2cee4b85b451d3961af49"), looks := true }, kinds := [], alts := [], laidByText := true, laidKinds := [.sentinel], laidTests := true, laidLooks := .later }
def FnBuildNestedBuildCardSaid : Prop := Claim7.holds Tryd.pinned (.plain (OpenSpec.ofChange fnBuildNestedBuildSpec)) fnBuildNestedBuildCard

/-- THE TIED CARD OF 'laws.FnExactBuildImage'. -/
def fnExactBuildImageCard : Claim7 := { stood := { row := fnExactBuildImageRow, standIns := [], harness := (true, "f1cefdf6faa72310872d7b62d11192d80f93a396d7b2cee4b85b451d3961af49"), looks := true }, kinds := [], alts := [], laidByText := true, laidKinds := [.sentinel], laidTests := true, laidLooks := .later }
def FnExactBuildImageCardSaid : Prop := Claim7.holds Tryd.pinned (.plain (OpenSpec.ofChange fnExactBuildImageSpec)) fnExactBuildImageCard

/-- THE TIED CARD OF 'laws.FnExactBuildRow'. -/
def fnExactBuildRowCard : Claim7 := { stood := { row := fnExactBuildRowRow, standIns := [], harness := (true, "f1cefdf6faa72310872d7b62d11192d80f93a396d7b2cee4b85b451d3961af49"), looks := true }, kinds := [], alts := [], laidByText := true, laidKinds := [.sentinel], laidTests := true, laidLooks := .later }
def FnExactBuildRowCardSaid : Prop := Claim7.holds Tryd.pinned (.plain (OpenSpec.ofChange fnExactBuildRowSpec)) fnExactBuildRowCard

/-- THE SECOND FORM's CARD OF 'laws.FnConsistentNested'. -/
def fnConsistentNestedUptoCard : Claim7 := { stood := { row := fnConsistentNestedUptoRow, standIns := [], harness := (true, "f1cefdf6faa72310872d7b62d11192d80f93a396d7b2cee4b85b451d3961af49"), looks := true }, kinds := [], alts := [], laidByText := true, laidKinds := [.sentinel], laidTests := true, laidLooks := .later }
def FnConsistentNestedUptoCardSaid : Prop := Claim7.holds Tryd.pinned (.plain (OpenSpec.upto fnConsistentNestedSpec)) fnConsistentNestedUptoCard

/-- THE SECOND FORM's CARD OF 'laws.FnBuildIff'. -/
def fnBuildIffUptoCard : Claim7 := { stood := { row := fnBuildIffUptoRow, standIns := [], harness := (true, "f1cefdf6faa72310872d7b62d11192d80f93a396d7b2cee4b85b451d3961af49"), looks := true }, kinds := [], alts := [], laidByText := true, laidKinds := [.sentinel], laidTests := true, laidLooks := .later }
def FnBuildIffUptoCardSaid : Prop := Claim7.holds Tryd.pinned (.plain (OpenSpec.upto fnBuildIffSpec)) fnBuildIffUptoCard

/-- THE SECOND FORM's CARD OF 'laws.FnBuildNestedBuild'. -/
def fnBuildNestedBuildUptoCard : Claim7 := { stood := { row := fnBuildNestedBuildUptoRow, standIns := [], harness := (true, "f1cefdf6faa72310872d7b62d11192d80f93a396d7b2cee4b85b451d3961af49"), looks := true }, kinds := [], alts := [], laidByText := true, laidKinds := [.sentinel], laidTests := true, laidLooks := .later }
def FnBuildNestedBuildUptoCardSaid : Prop := Claim7.holds Tryd.pinned (.plain (OpenSpec.upto fnBuildNestedBuildSpec)) fnBuildNestedBuildUptoCard

/-- THE SECOND FORM's CARD OF 'laws.FnExactBuildImage'. -/
def fnExactBuildImageUptoCard : Claim7 := { stood := { row := fnExactBuildImageUptoRow, standIns := [], harness := (true, "f1cefdf6faa72310872d7b62d11192d80f93a396d7b2cee4b85b451d3961af49"), looks := true }, kinds := [], alts := [], laidByText := true, laidKinds := [.sentinel], laidTests := true, laidLooks := .later }
def FnExactBuildImageUptoCardSaid : Prop := Claim7.holds Tryd.pinned (.plain (OpenSpec.upto fnExactBuildImageSpec)) fnExactBuildImageUptoCard

/-- THE SECOND FORM's CARD OF 'laws.FnExactBuildRow'. -/
def fnExactBuildRowUptoCard : Claim7 := { stood := { row := fnExactBuildRowUptoRow, standIns := [], harness := (true, "f1cefdf6faa72310872d7b62d11192d80f93a396d7b2cee4b85b451d3961af49"), looks := true }, kinds := [], alts := [], laidByText := true, laidKinds := [.sentinel], laidTests := true, laidLooks := .later }
def FnExactBuildRowUptoCardSaid : Prop := Claim7.holds Tryd.pinned (.plain (OpenSpec.upto fnExactBuildRowSpec)) fnExactBuildRowUptoCard
end Rows
end Go.Proofs.YtocbnpkdncnbgaaDoor
