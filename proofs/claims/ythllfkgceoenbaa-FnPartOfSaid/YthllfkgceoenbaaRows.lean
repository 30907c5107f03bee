/-
  No cell of these rows narrows 'for every input' (looked for: loops, veiled, ifaces, maps, wideKeys, modest, calm, conditions, laid).
  DERIVED. THE GIVEN ROWS OF THIS SEAT. 17 by the template 'for every input the law returns true; each argument reads behind the call as it read before'; 0 by the template 'total and deterministic' (their statements: YthllfkgceoenbaaTotals.lean).
  GIVEN WITH THE SEED: the statements are not yours to turn. If you find one false, say at which input.
  Laid BY PROGRAM, IN A SANDBOX (cutbox-rows.mjs): the forced cells as the released guide's own fill.sh prints them over the translation 1045c8859f352c3b… (all of the seat's roots in one cut). By AI agents, Wed Nov 11 2026. No macro, syntax, notation, axiom, sorry.
-/
import Derived.Test.YthllfkgceoenbaaChecked
import GoSem.Claim
import GoSem.ClaimJoined
import GoSem.ClaimMapViews
import Derived.JoinedTies
import Derived.KernelRfl
namespace Go.Proofs.Ythllfkgceoenbaa
/- THE CELL 'sum', in the pinned program and in every row, IS THE sha256 OF THE DUMP (.gsa) THAT YthllfkgceoenbaaProg.lean LOADS. Nothing in Lean hashes anything: it is a label: what it is worth is what the hold of that sum in a sandbox is worth. -/
noncomputable def Try.pinned : Pinned := { name := "ythllfkgceoenbaa", sum := "1045c8859f352c3bffef6ad75d383ac9fe01577af55563eff444cc6ff0a614a6", checked := Try.checked }
namespace Rows
def none {H : Type} : Left H := { results := [], args := [] }

/-- 'laws.FnPartOf': WHATEVER THE INPUT: true; the input reads as it did. -/
def fnPartOfSpec : ChangeSpec := { name := "fnPartOf", fn := fun _ => fun
  | [d1, d2] => { results := [.lit (.bool true)], args := [d1, d2] }
  | _ => none }
def fnPartOfRow : OpenClaim := { program := "ythllfkgceoenbaa", sum := "1045c8859f352c3bffef6ad75d383ac9fe01577af55563eff444cc6ff0a614a6", func := "loop.example/discretetomography/laws.FnPartOf", spec := "fnPartOf", unfollowed := true, recurses := true, apart := false }
def FnPartOfSaid : Prop := fnPartOfRow.holds Try.pinned (OpenSpec.ofChange fnPartOfSpec)

/-- ITS FALSE NEIGHBOUR: 'it returns false'. Refute it at one input. -/
def fnPartOfWrong : ChangeSpec := { name := "fnPartOf", fn := fun _ => fun
  | [d1, d2] => { results := [.lit (.bool false)], args := [d1, d2] }
  | _ => none }
def FnPartOfWrongFalsely : Prop := fnPartOfRow.holds Try.pinned (OpenSpec.ofChange fnPartOfWrong)

/-- 'laws.FnPartOfHas': WHATEVER THE INPUT: true; the input reads as it did. -/
def fnPartOfHasSpec : ChangeSpec := { name := "fnPartOfHas", fn := fun _ => fun
  | [d] => { results := [.lit (.bool true)], args := [d] }
  | _ => none }
def fnPartOfHasRow : OpenClaim := { program := "ythllfkgceoenbaa", sum := "1045c8859f352c3bffef6ad75d383ac9fe01577af55563eff444cc6ff0a614a6", func := "loop.example/discretetomography/laws.FnPartOfHas", spec := "fnPartOfHas", unfollowed := true, recurses := true, apart := false }
def FnPartOfHasSaid : Prop := fnPartOfHasRow.holds Try.pinned (OpenSpec.ofChange fnPartOfHasSpec)

/-- ITS FALSE NEIGHBOUR: 'it returns false'. Refute it at one input. -/
def fnPartOfHasWrong : ChangeSpec := { name := "fnPartOfHas", fn := fun _ => fun
  | [d] => { results := [.lit (.bool false)], args := [d] }
  | _ => none }
def FnPartOfHasWrongFalsely : Prop := fnPartOfHasRow.holds Try.pinned (OpenSpec.ofChange fnPartOfHasWrong)

/-- 'laws.FnConj': WHATEVER THE INPUT: true; the input reads as it did. -/
def fnConjSpec : ChangeSpec := { name := "fnConj", fn := fun _ => fun
  | [d] => { results := [.lit (.bool true)], args := [d] }
  | _ => none }
def fnConjRow : OpenClaim := { program := "ythllfkgceoenbaa", sum := "1045c8859f352c3bffef6ad75d383ac9fe01577af55563eff444cc6ff0a614a6", func := "loop.example/discretetomography/laws.FnConj", spec := "fnConj", unfollowed := true, recurses := true, apart := false }
def FnConjSaid : Prop := fnConjRow.holds Try.pinned (OpenSpec.ofChange fnConjSpec)

/-- ITS FALSE NEIGHBOUR: 'it returns false'. Refute it at one input. -/
def fnConjWrong : ChangeSpec := { name := "fnConj", fn := fun _ => fun
  | [d] => { results := [.lit (.bool false)], args := [d] }
  | _ => none }
def FnConjWrongFalsely : Prop := fnConjRow.holds Try.pinned (OpenSpec.ofChange fnConjWrong)

/-- 'laws.FnConjTwice': WHATEVER THE INPUT: true; the input reads as it did. -/
def fnConjTwiceSpec : ChangeSpec := { name := "fnConjTwice", fn := fun _ => fun
  | [d] => { results := [.lit (.bool true)], args := [d] }
  | _ => none }
def fnConjTwiceRow : OpenClaim := { program := "ythllfkgceoenbaa", sum := "1045c8859f352c3bffef6ad75d383ac9fe01577af55563eff444cc6ff0a614a6", func := "loop.example/discretetomography/laws.FnConjTwice", spec := "fnConjTwice", unfollowed := true, recurses := true, apart := false }
def FnConjTwiceSaid : Prop := fnConjTwiceRow.holds Try.pinned (OpenSpec.ofChange fnConjTwiceSpec)

/-- ITS FALSE NEIGHBOUR: 'it returns false'. Refute it at one input. -/
def fnConjTwiceWrong : ChangeSpec := { name := "fnConjTwice", fn := fun _ => fun
  | [d] => { results := [.lit (.bool false)], args := [d] }
  | _ => none }
def FnConjTwiceWrongFalsely : Prop := fnConjTwiceRow.holds Try.pinned (OpenSpec.ofChange fnConjTwiceWrong)

/-- 'laws.FnConjCount': WHATEVER THE INPUT: true; the input reads as it did. -/
def fnConjCountSpec : ChangeSpec := { name := "fnConjCount", fn := fun _ => fun
  | [d] => { results := [.lit (.bool true)], args := [d] }
  | _ => none }
def fnConjCountRow : OpenClaim := { program := "ythllfkgceoenbaa", sum := "1045c8859f352c3bffef6ad75d383ac9fe01577af55563eff444cc6ff0a614a6", func := "loop.example/discretetomography/laws.FnConjCount", spec := "fnConjCount", unfollowed := true, recurses := true, apart := false }
def FnConjCountSaid : Prop := fnConjCountRow.holds Try.pinned (OpenSpec.ofChange fnConjCountSpec)

/-- ITS FALSE NEIGHBOUR: 'it returns false'. Refute it at one input. -/
def fnConjCountWrong : ChangeSpec := { name := "fnConjCount", fn := fun _ => fun
  | [d] => { results := [.lit (.bool false)], args := [d] }
  | _ => none }
def FnConjCountWrongFalsely : Prop := fnConjCountRow.holds Try.pinned (OpenSpec.ofChange fnConjCountWrong)

/-- 'laws.FnPartSum': WHATEVER THE INPUT: true; the input reads as it did. -/
def fnPartSumSpec : ChangeSpec := { name := "fnPartSum", fn := fun _ => fun
  | [d] => { results := [.lit (.bool true)], args := [d] }
  | _ => none }
def fnPartSumRow : OpenClaim := { program := "ythllfkgceoenbaa", sum := "1045c8859f352c3bffef6ad75d383ac9fe01577af55563eff444cc6ff0a614a6", func := "loop.example/discretetomography/laws.FnPartSum", spec := "fnPartSum", unfollowed := true, recurses := true, apart := false }
def FnPartSumSaid : Prop := fnPartSumRow.holds Try.pinned (OpenSpec.ofChange fnPartSumSpec)

/-- ITS FALSE NEIGHBOUR: 'it returns false'. Refute it at one input. -/
def fnPartSumWrong : ChangeSpec := { name := "fnPartSum", fn := fun _ => fun
  | [d] => { results := [.lit (.bool false)], args := [d] }
  | _ => none }
def FnPartSumWrongFalsely : Prop := fnPartSumRow.holds Try.pinned (OpenSpec.ofChange fnPartSumWrong)

/-- 'laws.FnBelow': WHATEVER THE INPUT: true; the input reads as it did. -/
def fnBelowSpec : ChangeSpec := { name := "fnBelow", fn := fun _ => fun
  | [d] => { results := [.lit (.bool true)], args := [d] }
  | _ => none }
def fnBelowRow : OpenClaim := { program := "ythllfkgceoenbaa", sum := "1045c8859f352c3bffef6ad75d383ac9fe01577af55563eff444cc6ff0a614a6", func := "loop.example/discretetomography/laws.FnBelow", spec := "fnBelow", unfollowed := true, recurses := true, apart := false }
def FnBelowSaid : Prop := fnBelowRow.holds Try.pinned (OpenSpec.ofChange fnBelowSpec)

/-- ITS FALSE NEIGHBOUR: 'it returns false'. Refute it at one input. -/
def fnBelowWrong : ChangeSpec := { name := "fnBelow", fn := fun _ => fun
  | [d] => { results := [.lit (.bool false)], args := [d] }
  | _ => none }
def FnBelowWrongFalsely : Prop := fnBelowRow.holds Try.pinned (OpenSpec.ofChange fnBelowWrong)

/-- 'laws.FnBelowConj': WHATEVER THE INPUT: true; the input reads as it did. -/
def fnBelowConjSpec : ChangeSpec := { name := "fnBelowConj", fn := fun _ => fun
  | [d] => { results := [.lit (.bool true)], args := [d] }
  | _ => none }
def fnBelowConjRow : OpenClaim := { program := "ythllfkgceoenbaa", sum := "1045c8859f352c3bffef6ad75d383ac9fe01577af55563eff444cc6ff0a614a6", func := "loop.example/discretetomography/laws.FnBelowConj", spec := "fnBelowConj", unfollowed := true, recurses := true, apart := false }
def FnBelowConjSaid : Prop := fnBelowConjRow.holds Try.pinned (OpenSpec.ofChange fnBelowConjSpec)

/-- ITS FALSE NEIGHBOUR: 'it returns false'. Refute it at one input. -/
def fnBelowConjWrong : ChangeSpec := { name := "fnBelowConj", fn := fun _ => fun
  | [d] => { results := [.lit (.bool false)], args := [d] }
  | _ => none }
def FnBelowConjWrongFalsely : Prop := fnBelowConjRow.holds Try.pinned (OpenSpec.ofChange fnBelowConjWrong)

/-- 'laws.FnBelowMove': WHATEVER THE INPUT: true; the input reads as it did. -/
def fnBelowMoveSpec : ChangeSpec := { name := "fnBelowMove", fn := fun _ => fun
  | [d] => { results := [.lit (.bool true)], args := [d] }
  | _ => none }
def fnBelowMoveRow : OpenClaim := { program := "ythllfkgceoenbaa", sum := "1045c8859f352c3bffef6ad75d383ac9fe01577af55563eff444cc6ff0a614a6", func := "loop.example/discretetomography/laws.FnBelowMove", spec := "fnBelowMove", unfollowed := true, recurses := true, apart := false }
def FnBelowMoveSaid : Prop := fnBelowMoveRow.holds Try.pinned (OpenSpec.ofChange fnBelowMoveSpec)

/-- ITS FALSE NEIGHBOUR: 'it returns false'. Refute it at one input. -/
def fnBelowMoveWrong : ChangeSpec := { name := "fnBelowMove", fn := fun _ => fun
  | [d] => { results := [.lit (.bool false)], args := [d] }
  | _ => none }
def FnBelowMoveWrongFalsely : Prop := fnBelowMoveRow.holds Try.pinned (OpenSpec.ofChange fnBelowMoveWrong)

/-- 'laws.FnConjFirst': WHATEVER THE INPUT: true; the input reads as it did. -/
def fnConjFirstSpec : ChangeSpec := { name := "fnConjFirst", fn := fun _ => fun
  | [d] => { results := [.lit (.bool true)], args := [d] }
  | _ => none }
def fnConjFirstRow : OpenClaim := { program := "ythllfkgceoenbaa", sum := "1045c8859f352c3bffef6ad75d383ac9fe01577af55563eff444cc6ff0a614a6", func := "loop.example/discretetomography/laws.FnConjFirst", spec := "fnConjFirst", unfollowed := true, recurses := true, apart := false }
def FnConjFirstSaid : Prop := fnConjFirstRow.holds Try.pinned (OpenSpec.ofChange fnConjFirstSpec)

/-- ITS FALSE NEIGHBOUR: 'it returns false'. Refute it at one input. -/
def fnConjFirstWrong : ChangeSpec := { name := "fnConjFirst", fn := fun _ => fun
  | [d] => { results := [.lit (.bool false)], args := [d] }
  | _ => none }
def FnConjFirstWrongFalsely : Prop := fnConjFirstRow.holds Try.pinned (OpenSpec.ofChange fnConjFirstWrong)

/-- 'laws.FnPartSumParts': WHATEVER THE INPUT: true; the input reads as it did. -/
def fnPartSumPartsSpec : ChangeSpec := { name := "fnPartSumParts", fn := fun _ => fun
  | [d] => { results := [.lit (.bool true)], args := [d] }
  | _ => none }
def fnPartSumPartsRow : OpenClaim := { program := "ythllfkgceoenbaa", sum := "1045c8859f352c3bffef6ad75d383ac9fe01577af55563eff444cc6ff0a614a6", func := "loop.example/discretetomography/laws.FnPartSumParts", spec := "fnPartSumParts", unfollowed := true, recurses := true, apart := false }
def FnPartSumPartsSaid : Prop := fnPartSumPartsRow.holds Try.pinned (OpenSpec.ofChange fnPartSumPartsSpec)

/-- ITS FALSE NEIGHBOUR: 'it returns false'. Refute it at one input. -/
def fnPartSumPartsWrong : ChangeSpec := { name := "fnPartSumParts", fn := fun _ => fun
  | [d] => { results := [.lit (.bool false)], args := [d] }
  | _ => none }
def FnPartSumPartsWrongFalsely : Prop := fnPartSumPartsRow.holds Try.pinned (OpenSpec.ofChange fnPartSumPartsWrong)

/-- 'laws.FnBelowSteep': WHATEVER THE INPUT: true; the input reads as it did. -/
def fnBelowSteepSpec : ChangeSpec := { name := "fnBelowSteep", fn := fun _ => fun
  | [d] => { results := [.lit (.bool true)], args := [d] }
  | _ => none }
def fnBelowSteepRow : OpenClaim := { program := "ythllfkgceoenbaa", sum := "1045c8859f352c3bffef6ad75d383ac9fe01577af55563eff444cc6ff0a614a6", func := "loop.example/discretetomography/laws.FnBelowSteep", spec := "fnBelowSteep", unfollowed := true, recurses := true, apart := false }
def FnBelowSteepSaid : Prop := fnBelowSteepRow.holds Try.pinned (OpenSpec.ofChange fnBelowSteepSpec)

/-- ITS FALSE NEIGHBOUR: 'it returns false'. Refute it at one input. -/
def fnBelowSteepWrong : ChangeSpec := { name := "fnBelowSteep", fn := fun _ => fun
  | [d] => { results := [.lit (.bool false)], args := [d] }
  | _ => none }
def FnBelowSteepWrongFalsely : Prop := fnBelowSteepRow.holds Try.pinned (OpenSpec.ofChange fnBelowSteepWrong)

/-- 'laws.FnExactPartValid': WHATEVER THE INPUT: true; the input reads as it did. -/
def fnExactPartValidSpec : ChangeSpec := { name := "fnExactPartValid", fn := fun _ => fun
  | [d] => { results := [.lit (.bool true)], args := [d] }
  | _ => none }
def fnExactPartValidRow : OpenClaim := { program := "ythllfkgceoenbaa", sum := "1045c8859f352c3bffef6ad75d383ac9fe01577af55563eff444cc6ff0a614a6", func := "loop.example/discretetomography/laws.FnExactPartValid", spec := "fnExactPartValid", unfollowed := true, recurses := true, apart := false }
def FnExactPartValidSaid : Prop := fnExactPartValidRow.holds Try.pinned (OpenSpec.ofChange fnExactPartValidSpec)

/-- ITS FALSE NEIGHBOUR: 'it returns false'. Refute it at one input. -/
def fnExactPartValidWrong : ChangeSpec := { name := "fnExactPartValid", fn := fun _ => fun
  | [d] => { results := [.lit (.bool false)], args := [d] }
  | _ => none }
def FnExactPartValidWrongFalsely : Prop := fnExactPartValidRow.holds Try.pinned (OpenSpec.ofChange fnExactPartValidWrong)

/-- 'laws.FnExactPartOf': WHATEVER THE INPUT: true; the input reads as it did. -/
def fnExactPartOfSpec : ChangeSpec := { name := "fnExactPartOf", fn := fun _ => fun
  | [d] => { results := [.lit (.bool true)], args := [d] }
  | _ => none }
def fnExactPartOfRow : OpenClaim := { program := "ythllfkgceoenbaa", sum := "1045c8859f352c3bffef6ad75d383ac9fe01577af55563eff444cc6ff0a614a6", func := "loop.example/discretetomography/laws.FnExactPartOf", spec := "fnExactPartOf", unfollowed := true, recurses := true, apart := false }
def FnExactPartOfSaid : Prop := fnExactPartOfRow.holds Try.pinned (OpenSpec.ofChange fnExactPartOfSpec)

/-- ITS FALSE NEIGHBOUR: 'it returns false'. Refute it at one input. -/
def fnExactPartOfWrong : ChangeSpec := { name := "fnExactPartOf", fn := fun _ => fun
  | [d] => { results := [.lit (.bool false)], args := [d] }
  | _ => none }
def FnExactPartOfWrongFalsely : Prop := fnExactPartOfRow.holds Try.pinned (OpenSpec.ofChange fnExactPartOfWrong)

/-- 'laws.FnExactPartConj': WHATEVER THE INPUT: true; the input reads as it did. -/
def fnExactPartConjSpec : ChangeSpec := { name := "fnExactPartConj", fn := fun _ => fun
  | [d1, d2] => { results := [.lit (.bool true)], args := [d1, d2] }
  | _ => none }
def fnExactPartConjRow : OpenClaim := { program := "ythllfkgceoenbaa", sum := "1045c8859f352c3bffef6ad75d383ac9fe01577af55563eff444cc6ff0a614a6", func := "loop.example/discretetomography/laws.FnExactPartConj", spec := "fnExactPartConj", unfollowed := true, recurses := true, apart := false }
def FnExactPartConjSaid : Prop := fnExactPartConjRow.holds Try.pinned (OpenSpec.ofChange fnExactPartConjSpec)

/-- ITS FALSE NEIGHBOUR: 'it returns false'. Refute it at one input. -/
def fnExactPartConjWrong : ChangeSpec := { name := "fnExactPartConj", fn := fun _ => fun
  | [d1, d2] => { results := [.lit (.bool false)], args := [d1, d2] }
  | _ => none }
def FnExactPartConjWrongFalsely : Prop := fnExactPartConjRow.holds Try.pinned (OpenSpec.ofChange fnExactPartConjWrong)

/-- 'laws.FnExactPartSum': WHATEVER THE INPUT: true; the input reads as it did. -/
def fnExactPartSumSpec : ChangeSpec := { name := "fnExactPartSum", fn := fun _ => fun
  | [d1, d2] => { results := [.lit (.bool true)], args := [d1, d2] }
  | _ => none }
def fnExactPartSumRow : OpenClaim := { program := "ythllfkgceoenbaa", sum := "1045c8859f352c3bffef6ad75d383ac9fe01577af55563eff444cc6ff0a614a6", func := "loop.example/discretetomography/laws.FnExactPartSum", spec := "fnExactPartSum", unfollowed := true, recurses := true, apart := false }
def FnExactPartSumSaid : Prop := fnExactPartSumRow.holds Try.pinned (OpenSpec.ofChange fnExactPartSumSpec)

/-- ITS FALSE NEIGHBOUR: 'it returns false'. Refute it at one input. -/
def fnExactPartSumWrong : ChangeSpec := { name := "fnExactPartSum", fn := fun _ => fun
  | [d1, d2] => { results := [.lit (.bool false)], args := [d1, d2] }
  | _ => none }
def FnExactPartSumWrongFalsely : Prop := fnExactPartSumRow.holds Try.pinned (OpenSpec.ofChange fnExactPartSumWrong)

/-- 'laws.FnExactPartBelow': WHATEVER THE INPUT: true; the input reads as it did. -/
def fnExactPartBelowSpec : ChangeSpec := { name := "fnExactPartBelow", fn := fun _ => fun
  | [d1, d2] => { results := [.lit (.bool true)], args := [d1, d2] }
  | _ => none }
def fnExactPartBelowRow : OpenClaim := { program := "ythllfkgceoenbaa", sum := "1045c8859f352c3bffef6ad75d383ac9fe01577af55563eff444cc6ff0a614a6", func := "loop.example/discretetomography/laws.FnExactPartBelow", spec := "fnExactPartBelow", unfollowed := true, recurses := true, apart := false }
def FnExactPartBelowSaid : Prop := fnExactPartBelowRow.holds Try.pinned (OpenSpec.ofChange fnExactPartBelowSpec)

/-- ITS FALSE NEIGHBOUR: 'it returns false'. Refute it at one input. -/
def fnExactPartBelowWrong : ChangeSpec := { name := "fnExactPartBelow", fn := fun _ => fun
  | [d1, d2] => { results := [.lit (.bool false)], args := [d1, d2] }
  | _ => none }
def FnExactPartBelowWrongFalsely : Prop := fnExactPartBelowRow.holds Try.pinned (OpenSpec.ofChange fnExactPartBelowWrong)

/- THE SECOND FORM. 'bulk': how many values and letters a reading holds, each counted each time it is reached (what is shared counts as often as it is met; a slice's spare places count too). A statement '..UptoSaid' is the law's where the arguments, and the package variables that the reading takes, are together of bulk at most 1048576: NARROWER than '..Said'. Prove '..Said' where nothing that the law and all that it calls make is longer than what came in: it says more and counts as full. Else prove '..UptoSaid'. A law counts once. -/
mutual
def uptoBulk {H : Type} : DataW H → Nat
  | .lit (.string bytes) => bytes.length + 1
  | .lit _ => 1
  | .nil => 1
  | .ptr d => uptoBulk d + 1
  | .slice elems spare => uptoBulkAll elems + uptoBulkAll spare + 1
  | .agg parts => uptoBulkAll parts + 1
  | .iface _ d => uptoBulk d + 1
  | .map entries => uptoBulkEntries entries + 1
  | .held _ => 1
def uptoBulkAll {H : Type} : List (DataW H) → Nat
  | [] => 0
  | d :: r => uptoBulk d + uptoBulkAll r
def uptoBulkEntries {H : Type} : List (Lit × DataW H) → Nat
  | [] => 0
  | x :: r => uptoBulkEntry x + uptoBulkEntries r
def uptoBulkEntry {H : Type} : Lit × DataW H → Nat
  | (.string bytes, d) => bytes.length + uptoBulk d + 1
  | (_, d) => uptoBulk d + 1
 end
def uptoSmall : (H : Type) → List (DataW H) → Bool := fun _ ds => decide (uptoBulkAll ds ≤ 1048576)
def OpenSpec.upto (s : _root_.Go.ChangeSpec) : _root_.Go.OpenSpec := { _root_.Go.OpenSpec.ofChange s with cond := some uptoSmall }

/-- 'laws.FnPartOf', WHERE WHAT IT READS IS OF BULK AT MOST 1048576: true; the input reads as it did. -/
def fnPartOfUptoRow : OpenClaim := { program := "ythllfkgceoenbaa", sum := "1045c8859f352c3bffef6ad75d383ac9fe01577af55563eff444cc6ff0a614a6", func := "loop.example/discretetomography/laws.FnPartOf", spec := "fnPartOf", unfollowed := true, recurses := true, apart := false, narrowed := true }
def FnPartOfUptoSaid : Prop := fnPartOfUptoRow.holds Try.pinned (OpenSpec.upto fnPartOfSpec)

/-- 'laws.FnPartOfHas', WHERE WHAT IT READS IS OF BULK AT MOST 1048576: true; the input reads as it did. -/
def fnPartOfHasUptoRow : OpenClaim := { program := "ythllfkgceoenbaa", sum := "1045c8859f352c3bffef6ad75d383ac9fe01577af55563eff444cc6ff0a614a6", func := "loop.example/discretetomography/laws.FnPartOfHas", spec := "fnPartOfHas", unfollowed := true, recurses := true, apart := false, narrowed := true }
def FnPartOfHasUptoSaid : Prop := fnPartOfHasUptoRow.holds Try.pinned (OpenSpec.upto fnPartOfHasSpec)

/-- 'laws.FnConj', WHERE WHAT IT READS IS OF BULK AT MOST 1048576: true; the input reads as it did. -/
def fnConjUptoRow : OpenClaim := { program := "ythllfkgceoenbaa", sum := "1045c8859f352c3bffef6ad75d383ac9fe01577af55563eff444cc6ff0a614a6", func := "loop.example/discretetomography/laws.FnConj", spec := "fnConj", unfollowed := true, recurses := true, apart := false, narrowed := true }
def FnConjUptoSaid : Prop := fnConjUptoRow.holds Try.pinned (OpenSpec.upto fnConjSpec)

/-- 'laws.FnConjTwice', WHERE WHAT IT READS IS OF BULK AT MOST 1048576: true; the input reads as it did. -/
def fnConjTwiceUptoRow : OpenClaim := { program := "ythllfkgceoenbaa", sum := "1045c8859f352c3bffef6ad75d383ac9fe01577af55563eff444cc6ff0a614a6", func := "loop.example/discretetomography/laws.FnConjTwice", spec := "fnConjTwice", unfollowed := true, recurses := true, apart := false, narrowed := true }
def FnConjTwiceUptoSaid : Prop := fnConjTwiceUptoRow.holds Try.pinned (OpenSpec.upto fnConjTwiceSpec)

/-- 'laws.FnConjCount', WHERE WHAT IT READS IS OF BULK AT MOST 1048576: true; the input reads as it did. -/
def fnConjCountUptoRow : OpenClaim := { program := "ythllfkgceoenbaa", sum := "1045c8859f352c3bffef6ad75d383ac9fe01577af55563eff444cc6ff0a614a6", func := "loop.example/discretetomography/laws.FnConjCount", spec := "fnConjCount", unfollowed := true, recurses := true, apart := false, narrowed := true }
def FnConjCountUptoSaid : Prop := fnConjCountUptoRow.holds Try.pinned (OpenSpec.upto fnConjCountSpec)

/-- 'laws.FnPartSum', WHERE WHAT IT READS IS OF BULK AT MOST 1048576: true; the input reads as it did. -/
def fnPartSumUptoRow : OpenClaim := { program := "ythllfkgceoenbaa", sum := "1045c8859f352c3bffef6ad75d383ac9fe01577af55563eff444cc6ff0a614a6", func := "loop.example/discretetomography/laws.FnPartSum", spec := "fnPartSum", unfollowed := true, recurses := true, apart := false, narrowed := true }
def FnPartSumUptoSaid : Prop := fnPartSumUptoRow.holds Try.pinned (OpenSpec.upto fnPartSumSpec)

/-- 'laws.FnBelow', WHERE WHAT IT READS IS OF BULK AT MOST 1048576: true; the input reads as it did. -/
def fnBelowUptoRow : OpenClaim := { program := "ythllfkgceoenbaa", sum := "1045c8859f352c3bffef6ad75d383ac9fe01577af55563eff444cc6ff0a614a6", func := "loop.example/discretetomography/laws.FnBelow", spec := "fnBelow", unfollowed := true, recurses := true, apart := false, narrowed := true }
def FnBelowUptoSaid : Prop := fnBelowUptoRow.holds Try.pinned (OpenSpec.upto fnBelowSpec)

/-- 'laws.FnBelowConj', WHERE WHAT IT READS IS OF BULK AT MOST 1048576: true; the input reads as it did. -/
def fnBelowConjUptoRow : OpenClaim := { program := "ythllfkgceoenbaa", sum := "1045c8859f352c3bffef6ad75d383ac9fe01577af55563eff444cc6ff0a614a6", func := "loop.example/discretetomography/laws.FnBelowConj", spec := "fnBelowConj", unfollowed := true, recurses := true, apart := false, narrowed := true }
def FnBelowConjUptoSaid : Prop := fnBelowConjUptoRow.holds Try.pinned (OpenSpec.upto fnBelowConjSpec)

/-- 'laws.FnBelowMove', WHERE WHAT IT READS IS OF BULK AT MOST 1048576: true; the input reads as it did. -/
def fnBelowMoveUptoRow : OpenClaim := { program := "ythllfkgceoenbaa", sum := "1045c8859f352c3bffef6ad75d383ac9fe01577af55563eff444cc6ff0a614a6", func := "loop.example/discretetomography/laws.FnBelowMove", spec := "fnBelowMove", unfollowed := true, recurses := true, apart := false, narrowed := true }
def FnBelowMoveUptoSaid : Prop := fnBelowMoveUptoRow.holds Try.pinned (OpenSpec.upto fnBelowMoveSpec)

/-- 'laws.FnConjFirst', WHERE WHAT IT READS IS OF BULK AT MOST 1048576: true; the input reads as it did. -/
def fnConjFirstUptoRow : OpenClaim := { program := "ythllfkgceoenbaa", sum := "1045c8859f352c3bffef6ad75d383ac9fe01577af55563eff444cc6ff0a614a6", func := "loop.example/discretetomography/laws.FnConjFirst", spec := "fnConjFirst", unfollowed := true, recurses := true, apart := false, narrowed := true }
def FnConjFirstUptoSaid : Prop := fnConjFirstUptoRow.holds Try.pinned (OpenSpec.upto fnConjFirstSpec)

/-- 'laws.FnPartSumParts', WHERE WHAT IT READS IS OF BULK AT MOST 1048576: true; the input reads as it did. -/
def fnPartSumPartsUptoRow : OpenClaim := { program := "ythllfkgceoenbaa", sum := "1045c8859f352c3bffef6ad75d383ac9fe01577af55563eff444cc6ff0a614a6", func := "loop.example/discretetomography/laws.FnPartSumParts", spec := "fnPartSumParts", unfollowed := true, recurses := true, apart := false, narrowed := true }
def FnPartSumPartsUptoSaid : Prop := fnPartSumPartsUptoRow.holds Try.pinned (OpenSpec.upto fnPartSumPartsSpec)

/-- 'laws.FnBelowSteep', WHERE WHAT IT READS IS OF BULK AT MOST 1048576: true; the input reads as it did. -/
def fnBelowSteepUptoRow : OpenClaim := { program := "ythllfkgceoenbaa", sum := "1045c8859f352c3bffef6ad75d383ac9fe01577af55563eff444cc6ff0a614a6", func := "loop.example/discretetomography/laws.FnBelowSteep", spec := "fnBelowSteep", unfollowed := true, recurses := true, apart := false, narrowed := true }
def FnBelowSteepUptoSaid : Prop := fnBelowSteepUptoRow.holds Try.pinned (OpenSpec.upto fnBelowSteepSpec)

/-- 'laws.FnExactPartValid', WHERE WHAT IT READS IS OF BULK AT MOST 1048576: true; the input reads as it did. -/
def fnExactPartValidUptoRow : OpenClaim := { program := "ythllfkgceoenbaa", sum := "1045c8859f352c3bffef6ad75d383ac9fe01577af55563eff444cc6ff0a614a6", func := "loop.example/discretetomography/laws.FnExactPartValid", spec := "fnExactPartValid", unfollowed := true, recurses := true, apart := false, narrowed := true }
def FnExactPartValidUptoSaid : Prop := fnExactPartValidUptoRow.holds Try.pinned (OpenSpec.upto fnExactPartValidSpec)

/-- 'laws.FnExactPartOf', WHERE WHAT IT READS IS OF BULK AT MOST 1048576: true; the input reads as it did. -/
def fnExactPartOfUptoRow : OpenClaim := { program := "ythllfkgceoenbaa", sum := "1045c8859f352c3bffef6ad75d383ac9fe01577af55563eff444cc6ff0a614a6", func := "loop.example/discretetomography/laws.FnExactPartOf", spec := "fnExactPartOf", unfollowed := true, recurses := true, apart := false, narrowed := true }
def FnExactPartOfUptoSaid : Prop := fnExactPartOfUptoRow.holds Try.pinned (OpenSpec.upto fnExactPartOfSpec)

/-- 'laws.FnExactPartConj', WHERE WHAT IT READS IS OF BULK AT MOST 1048576: true; the input reads as it did. -/
def fnExactPartConjUptoRow : OpenClaim := { program := "ythllfkgceoenbaa", sum := "1045c8859f352c3bffef6ad75d383ac9fe01577af55563eff444cc6ff0a614a6", func := "loop.example/discretetomography/laws.FnExactPartConj", spec := "fnExactPartConj", unfollowed := true, recurses := true, apart := false, narrowed := true }
def FnExactPartConjUptoSaid : Prop := fnExactPartConjUptoRow.holds Try.pinned (OpenSpec.upto fnExactPartConjSpec)

/-- 'laws.FnExactPartSum', WHERE WHAT IT READS IS OF BULK AT MOST 1048576: true; the input reads as it did. -/
def fnExactPartSumUptoRow : OpenClaim := { program := "ythllfkgceoenbaa", sum := "1045c8859f352c3bffef6ad75d383ac9fe01577af55563eff444cc6ff0a614a6", func := "loop.example/discretetomography/laws.FnExactPartSum", spec := "fnExactPartSum", unfollowed := true, recurses := true, apart := false, narrowed := true }
def FnExactPartSumUptoSaid : Prop := fnExactPartSumUptoRow.holds Try.pinned (OpenSpec.upto fnExactPartSumSpec)

/-- 'laws.FnExactPartBelow', WHERE WHAT IT READS IS OF BULK AT MOST 1048576: true; the input reads as it did. -/
def fnExactPartBelowUptoRow : OpenClaim := { program := "ythllfkgceoenbaa", sum := "1045c8859f352c3bffef6ad75d383ac9fe01577af55563eff444cc6ff0a614a6", func := "loop.example/discretetomography/laws.FnExactPartBelow", spec := "fnExactPartBelow", unfollowed := true, recurses := true, apart := false, narrowed := true }
def FnExactPartBelowUptoSaid : Prop := fnExactPartBelowUptoRow.holds Try.pinned (OpenSpec.upto fnExactPartBelowSpec)

end Rows
end Go.Proofs.Ythllfkgceoenbaa
