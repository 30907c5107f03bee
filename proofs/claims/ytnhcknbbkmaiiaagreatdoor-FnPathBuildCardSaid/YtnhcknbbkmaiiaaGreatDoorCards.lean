/-
  DERIVED. GIVEN WITH THE SEED: THE CARDS: each row of YtnhcknbbkmaiiaaGreatDoorRows.lean that lists a variable, with what it lists TIED to the program's text (the seventh form; the later family's looks); each row that meets fmt, with fmt's text TOLD by the authors' own Lean function (tested against real Go, not proved from fmt's source: count such statements apart). THE CARD IS WHAT COUNTS. Prove the row's statement (the work); the ties are given (YtnhcknbbkmaiiaaGreatDoorTie.lean); close each card by the builder's one call (the guide's Derived/Test/ToyasCard.lean, 'card_holds'). Laid BY PROGRAM, IN A SANDBOX (cutbox-door.mjs). By AI agents, Wed Nov 11 2026. No macro, syntax, notation, axiom, sorry.
-/
import Derived.Test.YtnhcknbbkmaiiaaGreatDoorRows
import GoSem.ClaimSeven
namespace Go.Proofs.YtnhcknbbkmaiiaaGreatDoor
namespace Rows

/-- THE TIED CARD OF 'laws.FnPathBuild'. -/
def fnPathBuildCard : Claim7 := { stood := { row := fnPathBuildRow, standIns := [], harness := (true, "99a093e1705c365efc3b867813f82a10d0ace2c1d37f7f0d72e3f56ba53dceef"), looks := true }, kinds := [], alts := [], laidByText := true, laidKinds := [.sentinel], laidTests := true, laidLooks := .later }
def FnPathBuildCardSaid : Prop := Claim7.holds Tryz.pinned (.plain (OpenSpec.ofChange fnPathBuildSpec)) fnPathBuildCard

/-- THE TIED CARD OF 'laws.FnUnique'. -/
def fnUniqueCard : Claim7 := { stood := { row := fnUniqueRow, standIns := [], harness := (true, "99a093e1705c365efc3b867813f82a10d0ace2c1d37f7f0d72e3f56ba53dceef"), looks := true }, kinds := [], alts := [], laidByText := true, laidKinds := [.sentinel], laidTests := true, laidLooks := .later }
def FnUniqueCardSaid : Prop := Claim7.holds Tryz.pinned (.plain (OpenSpec.ofChange fnUniqueSpec)) fnUniqueCard

/-- THE TIED CARD OF 'laws.FnSumsUnique'. -/
def fnSumsUniqueCard : Claim7 := { stood := { row := fnSumsUniqueRow, standIns := [], harness := (true, "99a093e1705c365efc3b867813f82a10d0ace2c1d37f7f0d72e3f56ba53dceef"), looks := true }, kinds := [], alts := [], laidByText := true, laidKinds := [.sentinel], laidTests := true, laidLooks := .later }
def FnSumsUniqueCardSaid : Prop := Claim7.holds Tryz.pinned (.plain (OpenSpec.ofChange fnSumsUniqueSpec)) fnSumsUniqueCard

/-- THE TIED CARD OF 'laws.FnSortedSums'. -/
def fnSortedSumsCard : Claim7 := { stood := { row := fnSortedSumsRow, standIns := [], harness := (true, "99a093e1705c365efc3b867813f82a10d0ace2c1d37f7f0d72e3f56ba53dceef"), looks := true }, kinds := [], alts := [], laidByText := true, laidKinds := [.sentinel], laidTests := true, laidLooks := .later }
def FnSortedSumsCardSaid : Prop := Claim7.holds Tryz.pinned (.plain (OpenSpec.ofChange fnSortedSumsSpec)) fnSortedSumsCard

/-- THE SECOND FORM's CARD OF 'laws.FnPathBuild'. -/
def fnPathBuildUptoCard : Claim7 := { stood := { row := fnPathBuildUptoRow, standIns := [], harness := (true, "99a093e1705c365efc3b867813f82a10d0ace2c1d37f7f0d72e3f56ba53dceef"), looks := true }, kinds := [], alts := [], laidByText := true, laidKinds := [.sentinel], laidTests := true, laidLooks := .later }
def FnPathBuildUptoCardSaid : Prop := Claim7.holds Tryz.pinned (.plain (OpenSpec.upto fnPathBuildSpec)) fnPathBuildUptoCard

/-- THE SECOND FORM's CARD OF 'laws.FnUnique'. -/
def fnUniqueUptoCard : Claim7 := { stood := { row := fnUniqueUptoRow, standIns := [], harness := (true, "99a093e1705c365efc3b867813f82a10d0ace2c1d37f7f0d72e3f56ba53dceef"), looks := true }, kinds := [], alts := [], laidByText := true, laidKinds := [.sentinel], laidTests := true, laidLooks := .later }
def FnUniqueUptoCardSaid : Prop := Claim7.holds Tryz.pinned (.plain (OpenSpec.upto fnUniqueSpec)) fnUniqueUptoCard

/-- THE SECOND FORM's CARD OF 'laws.FnSumsUnique'. -/
def fnSumsUniqueUptoCard : Claim7 := { stood := { row := fnSumsUniqueUptoRow, standIns := [], harness := (true, "99a093e1705c365efc3b867813f82a10d0ace2c1d37f7f0d72e3f56ba53dceef"), looks := true }, kinds := [], alts := [], laidByText := true, laidKinds := [.sentinel], laidTests := true, laidLooks := .later }
def FnSumsUniqueUptoCardSaid : Prop := Claim7.holds Tryz.pinned (.plain (OpenSpec.upto fnSumsUniqueSpec)) fnSumsUniqueUptoCard

/-- THE SECOND FORM's CARD OF 'laws.FnSortedSums'. -/
def fnSortedSumsUptoCard : Claim7 := { stood := { row := fnSortedSumsUptoRow, standIns := [], harness := (true, "99a093e1705c365efc3b867813f82a10d0ace2c1d37f7f0d72e3f56ba53dceef"), looks := true }, kinds := [], alts := [], laidByText := true, laidKinds := [.sentinel], laidTests := true, laidLooks := .later }
def FnSortedSumsUptoCardSaid : Prop := Claim7.holds Tryz.pinned (.plain (OpenSpec.upto fnSortedSumsSpec)) fnSortedSumsUptoCard
end Rows
end Go.Proofs.YtnhcknbbkmaiiaaGreatDoor
