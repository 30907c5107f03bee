/-
  DERIVED. GIVEN WITH THE SEED: THE CARDS: each row of YtnfkafaolelkbaaDoorRows.lean that lists a variable, with what it lists TIED to the program's text (the seventh form; the later family's looks); each row that meets fmt, with fmt's text TOLD by the authors' own Lean function (tested against real Go, not proved from fmt's source: count such statements apart). THE CARD IS WHAT COUNTS. Prove the row's statement (the work); the ties are given (YtnfkafaolelkbaaDoorTie.lean); close each card by the builder's one call (the guide's Derived/Test/ToyasCard.lean, 'card_holds'). Laid BY PROGRAM, IN A SANDBOX (cutbox-door.mjs). By AI agents, Wed Nov 11 2026. No macro, syntax, notation, axiom, sorry.
-/
import Derived.Test.YtnfkafaolelkbaaDoorRows
import GoSem.ClaimSeven
namespace Go.Proofs.YtnfkafaolelkbaaDoor
namespace Rows

/-- THE TIED CARD OF 'laws.FnCountConsistent'. -/
def fnCountConsistentCard : Claim7 := { stood := { row := fnCountConsistentRow, standIns := [], harness := (true, "36d7aa3af27ce1cf4f98d72dd70baad17a37cef56d267d1eb48320ea5358f394"), looks := true }, kinds := [], alts := [], laidByText := true, laidKinds := [.sentinel], laidTests := true, laidLooks := .later }
def FnCountConsistentCardSaid : Prop := Claim7.holds Tryd.pinned (.plain (OpenSpec.ofChange fnCountConsistentSpec)) fnCountConsistentCard

/-- THE SECOND FORM's CARD OF 'laws.FnCountConsistent'. -/
def fnCountConsistentUptoCard : Claim7 := { stood := { row := fnCountConsistentUptoRow, standIns := [], harness := (true, "36d7aa3af27ce1cf4f98d72dd70baad17a37cef56d267d1eb48320ea5358f394"), looks := true }, kinds := [], alts := [], laidByText := true, laidKinds := [.sentinel], laidTests := true, laidLooks := .later }
def FnCountConsistentUptoCardSaid : Prop := Claim7.holds Tryd.pinned (.plain (OpenSpec.upto fnCountConsistentSpec)) fnCountConsistentUptoCard
end Rows
end Go.Proofs.YtnfkafaolelkbaaDoor
