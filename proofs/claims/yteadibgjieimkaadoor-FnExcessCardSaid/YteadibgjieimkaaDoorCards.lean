/-
  DERIVED. GIVEN WITH THE SEED: THE CARDS: each row of YteadibgjieimkaaDoorRows.lean that lists a variable, with what it lists TIED to the program's text (the seventh form; the later family's looks); each row that meets fmt, with fmt's text TOLD by the authors' own Lean function (tested against real Go, not proved from fmt's source: count such statements apart). THE CARD IS WHAT COUNTS. Prove the row's statement (the work); the ties are given (YteadibgjieimkaaDoorTie.lean); close each card by the builder's one call (the guide's Derived/Test/ToyasCard.lean, 'card_holds'). Laid BY PROGRAM, IN A SANDBOX (cutbox-door.mjs). By AI agents, Wed Nov 11 2026. No macro, syntax, notation, axiom, sorry.
-/
import Derived.Test.YteadibgjieimkaaDoorRows
import GoSem.ClaimSeven
namespace Go.Proofs.YteadibgjieimkaaDoor
namespace Rows

/-- THE TIED CARD OF 'laws.FnConsistent'. -/
def fnConsistentCard : Claim7 := { stood := { row := fnConsistentRow, standIns := [], harness := (true, "5810e98416629e9f062e6052ee4f1b49c6c9bcae9b082b343fc96894ed3f292d"), looks := true }, kinds := [], alts := [], laidByText := true, laidKinds := [.sentinel], laidTests := true, laidLooks := .later }
def FnConsistentCardSaid : Prop := Claim7.holds Tryd.pinned (.plain (OpenSpec.ofChange fnConsistentSpec)) fnConsistentCard

/-- THE TIED CARD OF 'laws.FnConsistentOrder'. -/
def fnConsistentOrderCard : Claim7 := { stood := { row := fnConsistentOrderRow, standIns := [], harness := (true, "5810e98416629e9f062e6052ee4f1b49c6c9bcae9b082b343fc96894ed3f292d"), looks := true }, kinds := [], alts := [], laidByText := true, laidKinds := [.sentinel], laidTests := true, laidLooks := .later }
def FnConsistentOrderCardSaid : Prop := Claim7.holds Tryd.pinned (.plain (OpenSpec.ofChange fnConsistentOrderSpec)) fnConsistentOrderCard

/-- THE TIED CARD OF 'laws.FnConsistentFlat'. -/
def fnConsistentFlatCard : Claim7 := { stood := { row := fnConsistentFlatRow, standIns := [], harness := (true, "5810e98416629e9f062e6052ee4f1b49c6c9bcae9b082b343fc96894ed3f292d"), looks := true }, kinds := [], alts := [], laidByText := true, laidKinds := [.sentinel], laidTests := true, laidLooks := .later }
def FnConsistentFlatCardSaid : Prop := Claim7.holds Tryd.pinned (.plain (OpenSpec.ofChange fnConsistentFlatSpec)) fnConsistentFlatCard

/-- THE TIED CARD OF 'laws.FnImageConsistent'. -/
def fnImageConsistentCard : Claim7 := { stood := { row := fnImageConsistentRow, standIns := [], harness := (true, "5810e98416629e9f062e6052ee4f1b49c6c9bcae9b082b343fc96894ed3f292d"), looks := true }, kinds := [], alts := [], laidByText := true, laidKinds := [.sentinel], laidTests := true, laidLooks := .later }
def FnImageConsistentCardSaid : Prop := Claim7.holds Tryd.pinned (.plain (OpenSpec.ofChange fnImageConsistentSpec)) fnImageConsistentCard

/-- THE TIED CARD OF 'laws.FnExcess'. -/
def fnExcessCard : Claim7 := { stood := { row := fnExcessRow, standIns := [], harness := (true, "5810e98416629e9f062e6052ee4f1b49c6c9bcae9b082b343fc96894ed3f292d"), looks := true }, kinds := [], alts := [], laidByText := true, laidKinds := [.sentinel], laidTests := true, laidLooks := .later }
def FnExcessCardSaid : Prop := Claim7.holds Tryd.pinned (.plain (OpenSpec.ofChange fnExcessSpec)) fnExcessCard

/-- THE TIED CARD OF 'laws.FnConsistentZero'. -/
def fnConsistentZeroCard : Claim7 := { stood := { row := fnConsistentZeroRow, standIns := [], harness := (true, "5810e98416629e9f062e6052ee4f1b49c6c9bcae9b082b343fc96894ed3f292d"), looks := true }, kinds := [], alts := [], laidByText := true, laidKinds := [.sentinel], laidTests := true, laidLooks := .later }
def FnConsistentZeroCardSaid : Prop := Claim7.holds Tryd.pinned (.plain (OpenSpec.ofChange fnConsistentZeroSpec)) fnConsistentZeroCard

/-- THE TIED CARD OF 'laws.FnExactSumsConsistent'. -/
def fnExactSumsConsistentCard : Claim7 := { stood := { row := fnExactSumsConsistentRow, standIns := [], harness := (true, "5810e98416629e9f062e6052ee4f1b49c6c9bcae9b082b343fc96894ed3f292d"), looks := true }, kinds := [], alts := [], laidByText := true, laidKinds := [.sentinel], laidTests := true, laidLooks := .later }
def FnExactSumsConsistentCardSaid : Prop := Claim7.holds Tryd.pinned (.plain (OpenSpec.ofChange fnExactSumsConsistentSpec)) fnExactSumsConsistentCard

/-- THE SECOND FORM's CARD OF 'laws.FnConsistent'. -/
def fnConsistentUptoCard : Claim7 := { stood := { row := fnConsistentUptoRow, standIns := [], harness := (true, "5810e98416629e9f062e6052ee4f1b49c6c9bcae9b082b343fc96894ed3f292d"), looks := true }, kinds := [], alts := [], laidByText := true, laidKinds := [.sentinel], laidTests := true, laidLooks := .later }
def FnConsistentUptoCardSaid : Prop := Claim7.holds Tryd.pinned (.plain (OpenSpec.upto fnConsistentSpec)) fnConsistentUptoCard

/-- THE SECOND FORM's CARD OF 'laws.FnConsistentOrder'. -/
def fnConsistentOrderUptoCard : Claim7 := { stood := { row := fnConsistentOrderUptoRow, standIns := [], harness := (true, "5810e98416629e9f062e6052ee4f1b49c6c9bcae9b082b343fc96894ed3f292d"), looks := true }, kinds := [], alts := [], laidByText := true, laidKinds := [.sentinel], laidTests := true, laidLooks := .later }
def FnConsistentOrderUptoCardSaid : Prop := Claim7.holds Tryd.pinned (.plain (OpenSpec.upto fnConsistentOrderSpec)) fnConsistentOrderUptoCard

/-- THE SECOND FORM's CARD OF 'laws.FnConsistentFlat'. -/
def fnConsistentFlatUptoCard : Claim7 := { stood := { row := fnConsistentFlatUptoRow, standIns := [], harness := (true, "5810e98416629e9f062e6052ee4f1b49c6c9bcae9b082b343fc96894ed3f292d"), looks := true }, kinds := [], alts := [], laidByText := true, laidKinds := [.sentinel], laidTests := true, laidLooks := .later }
def FnConsistentFlatUptoCardSaid : Prop := Claim7.holds Tryd.pinned (.plain (OpenSpec.upto fnConsistentFlatSpec)) fnConsistentFlatUptoCard

/-- THE SECOND FORM's CARD OF 'laws.FnImageConsistent'. -/
def fnImageConsistentUptoCard : Claim7 := { stood := { row := fnImageConsistentUptoRow, standIns := [], harness := (true, "5810e98416629e9f062e6052ee4f1b49c6c9bcae9b082b343fc96894ed3f292d"), looks := true }, kinds := [], alts := [], laidByText := true, laidKinds := [.sentinel], laidTests := true, laidLooks := .later }
def FnImageConsistentUptoCardSaid : Prop := Claim7.holds Tryd.pinned (.plain (OpenSpec.upto fnImageConsistentSpec)) fnImageConsistentUptoCard

/-- THE SECOND FORM's CARD OF 'laws.FnExcess'. -/
def fnExcessUptoCard : Claim7 := { stood := { row := fnExcessUptoRow, standIns := [], harness := (true, "5810e98416629e9f062e6052ee4f1b49c6c9bcae9b082b343fc96894ed3f292d"), looks := true }, kinds := [], alts := [], laidByText := true, laidKinds := [.sentinel], laidTests := true, laidLooks := .later }
def FnExcessUptoCardSaid : Prop := Claim7.holds Tryd.pinned (.plain (OpenSpec.upto fnExcessSpec)) fnExcessUptoCard

/-- THE SECOND FORM's CARD OF 'laws.FnConsistentZero'. -/
def fnConsistentZeroUptoCard : Claim7 := { stood := { row := fnConsistentZeroUptoRow, standIns := [], harness := (true, "5810e98416629e9f062e6052ee4f1b49c6c9bcae9b082b343fc96894ed3f292d"), looks := true }, kinds := [], alts := [], laidByText := true, laidKinds := [.sentinel], laidTests := true, laidLooks := .later }
def FnConsistentZeroUptoCardSaid : Prop := Claim7.holds Tryd.pinned (.plain (OpenSpec.upto fnConsistentZeroSpec)) fnConsistentZeroUptoCard

/-- THE SECOND FORM's CARD OF 'laws.FnExactSumsConsistent'. -/
def fnExactSumsConsistentUptoCard : Claim7 := { stood := { row := fnExactSumsConsistentUptoRow, standIns := [], harness := (true, "5810e98416629e9f062e6052ee4f1b49c6c9bcae9b082b343fc96894ed3f292d"), looks := true }, kinds := [], alts := [], laidByText := true, laidKinds := [.sentinel], laidTests := true, laidLooks := .later }
def FnExactSumsConsistentUptoCardSaid : Prop := Claim7.holds Tryd.pinned (.plain (OpenSpec.upto fnExactSumsConsistentSpec)) fnExactSumsConsistentUptoCard
end Rows
end Go.Proofs.YteadibgjieimkaaDoor
