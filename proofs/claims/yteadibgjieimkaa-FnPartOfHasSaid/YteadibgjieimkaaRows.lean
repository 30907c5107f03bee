/-
  No cell of these rows narrows 'for every input' (looked for: loops, veiled, ifaces, maps, wideKeys, modest, calm, conditions, laid).
  DERIVED. THE GIVEN ROWS OF THIS SEAT. 13 by the template 'for every input the law returns true; each argument reads behind the call as it read before'; 0 by the template 'total and deterministic' (their statements: YteadibgjieimkaaTotals.lean).
  GIVEN WITH THE SEED: the statements are not yours to turn. If you find one false, say at which input.
  Laid BY PROGRAM, IN A SANDBOX (cutbox-rows.mjs): the forced cells as the released guide's own fill.sh prints them over the translation 95cbab691828890d… (all of the seat's roots in one cut). By AI agents, Wed Nov 11 2026. No macro, syntax, notation, axiom, sorry.
-/
import Derived.Test.YteadibgjieimkaaChecked
import GoSem.Claim
import GoSem.ClaimJoined
import GoSem.ClaimMapViews
import Derived.JoinedTies
import Derived.KernelRfl
namespace Go.Proofs.Yteadibgjieimkaa
/- THE CELL 'sum', in the pinned program and in every row, IS THE sha256 OF THE DUMP (.gsa) THAT YteadibgjieimkaaProg.lean LOADS. Nothing in Lean hashes anything: it is a label: what it is worth is what the hold of that sum in a sandbox is worth. -/
noncomputable def Try.pinned : Pinned := { name := "yteadibgjieimkaa", sum := "95cbab691828890dead8586b62f5b3ff9a566063991fa651ad616be8d881e908", checked := Try.checked }
namespace Rows
def none {H : Type} : Left H := { results := [], args := [] }

/-- 'laws.FnSums': WHATEVER THE INPUT: true; the input reads as it did. -/
def fnSumsSpec : ChangeSpec := { name := "fnSums", fn := fun _ => fun
  | [d] => { results := [.lit (.bool true)], args := [d] }
  | _ => none }
def fnSumsRow : OpenClaim := { program := "yteadibgjieimkaa", sum := "95cbab691828890dead8586b62f5b3ff9a566063991fa651ad616be8d881e908", func := "loop.example/discretetomography/laws.FnSums", spec := "fnSums", apart := false }
def FnSumsSaid : Prop := fnSumsRow.holds Try.pinned (OpenSpec.ofChange fnSumsSpec)

/-- ITS FALSE NEIGHBOUR: 'it returns false'. Refute it at one input. -/
def fnSumsWrong : ChangeSpec := { name := "fnSums", fn := fun _ => fun
  | [d] => { results := [.lit (.bool false)], args := [d] }
  | _ => none }
def FnSumsWrongFalsely : Prop := fnSumsRow.holds Try.pinned (OpenSpec.ofChange fnSumsWrong)

/-- 'laws.FnSumsFit': WHATEVER THE INPUT: true; the input reads as it did. -/
def fnSumsFitSpec : ChangeSpec := { name := "fnSumsFit", fn := fun _ => fun
  | [d] => { results := [.lit (.bool true)], args := [d] }
  | _ => none }
def fnSumsFitRow : OpenClaim := { program := "yteadibgjieimkaa", sum := "95cbab691828890dead8586b62f5b3ff9a566063991fa651ad616be8d881e908", func := "loop.example/discretetomography/laws.FnSumsFit", spec := "fnSumsFit", unfollowed := true, recurses := true, apart := false }
def FnSumsFitSaid : Prop := fnSumsFitRow.holds Try.pinned (OpenSpec.ofChange fnSumsFitSpec)

/-- ITS FALSE NEIGHBOUR: 'it returns false'. Refute it at one input. -/
def fnSumsFitWrong : ChangeSpec := { name := "fnSumsFit", fn := fun _ => fun
  | [d] => { results := [.lit (.bool false)], args := [d] }
  | _ => none }
def FnSumsFitWrongFalsely : Prop := fnSumsFitRow.holds Try.pinned (OpenSpec.ofChange fnSumsFitWrong)

/-- 'laws.FnPartOf': WHATEVER THE INPUT: true; the input reads as it did. -/
def fnPartOfSpec : ChangeSpec := { name := "fnPartOf", fn := fun _ => fun
  | [d1, d2] => { results := [.lit (.bool true)], args := [d1, d2] }
  | _ => none }
def fnPartOfRow : OpenClaim := { program := "yteadibgjieimkaa", sum := "95cbab691828890dead8586b62f5b3ff9a566063991fa651ad616be8d881e908", func := "loop.example/discretetomography/laws.FnPartOf", spec := "fnPartOf", unfollowed := true, recurses := true, apart := false }
def FnPartOfSaid : Prop := fnPartOfRow.holds Try.pinned (OpenSpec.ofChange fnPartOfSpec)

/-- ITS FALSE NEIGHBOUR: 'it returns false'. Refute it at one input. -/
def fnPartOfWrong : ChangeSpec := { name := "fnPartOf", fn := fun _ => fun
  | [d1, d2] => { results := [.lit (.bool false)], args := [d1, d2] }
  | _ => none }
def FnPartOfWrongFalsely : Prop := fnPartOfRow.holds Try.pinned (OpenSpec.ofChange fnPartOfWrong)

/-- 'laws.FnPartOfHas': WHATEVER THE INPUT: true; the input reads as it did. -/
def fnPartOfHasSpec : ChangeSpec := { name := "fnPartOfHas", fn := fun _ => fun
  | [d] => { results := [.lit (.bool true)], args := [d] }
  | _ => none }
def fnPartOfHasRow : OpenClaim := { program := "yteadibgjieimkaa", sum := "95cbab691828890dead8586b62f5b3ff9a566063991fa651ad616be8d881e908", func := "loop.example/discretetomography/laws.FnPartOfHas", spec := "fnPartOfHas", unfollowed := true, recurses := true, apart := false }
def FnPartOfHasSaid : Prop := fnPartOfHasRow.holds Try.pinned (OpenSpec.ofChange fnPartOfHasSpec)

/-- ITS FALSE NEIGHBOUR: 'it returns false'. Refute it at one input. -/
def fnPartOfHasWrong : ChangeSpec := { name := "fnPartOfHas", fn := fun _ => fun
  | [d] => { results := [.lit (.bool false)], args := [d] }
  | _ => none }
def FnPartOfHasWrongFalsely : Prop := fnPartOfHasRow.holds Try.pinned (OpenSpec.ofChange fnPartOfHasWrong)

/-- 'laws.FnExcessMore': WHATEVER THE INPUT: true; the input reads as it did. -/
def fnExcessMoreSpec : ChangeSpec := { name := "fnExcessMore", fn := fun _ => fun
  | [d1, d2] => { results := [.lit (.bool true)], args := [d1, d2] }
  | _ => none }
def fnExcessMoreRow : OpenClaim := { program := "yteadibgjieimkaa", sum := "95cbab691828890dead8586b62f5b3ff9a566063991fa651ad616be8d881e908", func := "loop.example/discretetomography/laws.FnExcessMore", spec := "fnExcessMore", unfollowed := true, recurses := true, apart := false }
def FnExcessMoreSaid : Prop := fnExcessMoreRow.holds Try.pinned (OpenSpec.ofChange fnExcessMoreSpec)

/-- ITS FALSE NEIGHBOUR: 'it returns false'. Refute it at one input. -/
def fnExcessMoreWrong : ChangeSpec := { name := "fnExcessMore", fn := fun _ => fun
  | [d1, d2] => { results := [.lit (.bool false)], args := [d1, d2] }
  | _ => none }
def FnExcessMoreWrongFalsely : Prop := fnExcessMoreRow.holds Try.pinned (OpenSpec.ofChange fnExcessMoreWrong)

/-- 'laws.FnSumsTurn': WHATEVER THE INPUT: true; the input reads as it did. -/
def fnSumsTurnSpec : ChangeSpec := { name := "fnSumsTurn", fn := fun _ => fun
  | [d] => { results := [.lit (.bool true)], args := [d] }
  | _ => none }
def fnSumsTurnRow : OpenClaim := { program := "yteadibgjieimkaa", sum := "95cbab691828890dead8586b62f5b3ff9a566063991fa651ad616be8d881e908", func := "loop.example/discretetomography/laws.FnSumsTurn", spec := "fnSumsTurn", apart := false }
def FnSumsTurnSaid : Prop := fnSumsTurnRow.holds Try.pinned (OpenSpec.ofChange fnSumsTurnSpec)

/-- ITS FALSE NEIGHBOUR: 'it returns false'. Refute it at one input. -/
def fnSumsTurnWrong : ChangeSpec := { name := "fnSumsTurn", fn := fun _ => fun
  | [d] => { results := [.lit (.bool false)], args := [d] }
  | _ => none }
def FnSumsTurnWrongFalsely : Prop := fnSumsTurnRow.holds Try.pinned (OpenSpec.ofChange fnSumsTurnWrong)

/-- 'laws.FnSumsTurnOther': WHATEVER THE INPUT: true; the input reads as it did. -/
def fnSumsTurnOtherSpec : ChangeSpec := { name := "fnSumsTurnOther", fn := fun _ => fun
  | [d] => { results := [.lit (.bool true)], args := [d] }
  | _ => none }
def fnSumsTurnOtherRow : OpenClaim := { program := "yteadibgjieimkaa", sum := "95cbab691828890dead8586b62f5b3ff9a566063991fa651ad616be8d881e908", func := "loop.example/discretetomography/laws.FnSumsTurnOther", spec := "fnSumsTurnOther", unfollowed := true, recurses := true, apart := false }
def FnSumsTurnOtherSaid : Prop := fnSumsTurnOtherRow.holds Try.pinned (OpenSpec.ofChange fnSumsTurnOtherSpec)

/-- ITS FALSE NEIGHBOUR: 'it returns false'. Refute it at one input. -/
def fnSumsTurnOtherWrong : ChangeSpec := { name := "fnSumsTurnOther", fn := fun _ => fun
  | [d] => { results := [.lit (.bool false)], args := [d] }
  | _ => none }
def FnSumsTurnOtherWrongFalsely : Prop := fnSumsTurnOtherRow.holds Try.pinned (OpenSpec.ofChange fnSumsTurnOtherWrong)

/-- 'laws.FnExcessTurn': WHATEVER THE INPUT: true; the input reads as it did. -/
def fnExcessTurnSpec : ChangeSpec := { name := "fnExcessTurn", fn := fun _ => fun
  | [d] => { results := [.lit (.bool true)], args := [d] }
  | _ => none }
def fnExcessTurnRow : OpenClaim := { program := "yteadibgjieimkaa", sum := "95cbab691828890dead8586b62f5b3ff9a566063991fa651ad616be8d881e908", func := "loop.example/discretetomography/laws.FnExcessTurn", spec := "fnExcessTurn", unfollowed := true, recurses := true, apart := false }
def FnExcessTurnSaid : Prop := fnExcessTurnRow.holds Try.pinned (OpenSpec.ofChange fnExcessTurnSpec)

/-- ITS FALSE NEIGHBOUR: 'it returns false'. Refute it at one input. -/
def fnExcessTurnWrong : ChangeSpec := { name := "fnExcessTurn", fn := fun _ => fun
  | [d] => { results := [.lit (.bool false)], args := [d] }
  | _ => none }
def FnExcessTurnWrongFalsely : Prop := fnExcessTurnRow.holds Try.pinned (OpenSpec.ofChange fnExcessTurnWrong)

/-- 'laws.FnSumsTurnValid': WHATEVER THE INPUT: true; the input reads as it did. -/
def fnSumsTurnValidSpec : ChangeSpec := { name := "fnSumsTurnValid", fn := fun _ => fun
  | [d] => { results := [.lit (.bool true)], args := [d] }
  | _ => none }
def fnSumsTurnValidRow : OpenClaim := { program := "yteadibgjieimkaa", sum := "95cbab691828890dead8586b62f5b3ff9a566063991fa651ad616be8d881e908", func := "loop.example/discretetomography/laws.FnSumsTurnValid", spec := "fnSumsTurnValid", apart := false }
def FnSumsTurnValidSaid : Prop := fnSumsTurnValidRow.holds Try.pinned (OpenSpec.ofChange fnSumsTurnValidSpec)

/-- ITS FALSE NEIGHBOUR: 'it returns false'. Refute it at one input. -/
def fnSumsTurnValidWrong : ChangeSpec := { name := "fnSumsTurnValid", fn := fun _ => fun
  | [d] => { results := [.lit (.bool false)], args := [d] }
  | _ => none }
def FnSumsTurnValidWrongFalsely : Prop := fnSumsTurnValidRow.holds Try.pinned (OpenSpec.ofChange fnSumsTurnValidWrong)

/-- 'laws.FnExactSumsValid': WHATEVER THE INPUT: true; the input reads as it did. -/
def fnExactSumsValidSpec : ChangeSpec := { name := "fnExactSumsValid", fn := fun _ => fun
  | [d1, d2] => { results := [.lit (.bool true)], args := [d1, d2] }
  | _ => none }
def fnExactSumsValidRow : OpenClaim := { program := "yteadibgjieimkaa", sum := "95cbab691828890dead8586b62f5b3ff9a566063991fa651ad616be8d881e908", func := "loop.example/discretetomography/laws.FnExactSumsValid", spec := "fnExactSumsValid", apart := false }
def FnExactSumsValidSaid : Prop := fnExactSumsValidRow.holds Try.pinned (OpenSpec.ofChange fnExactSumsValidSpec)

/-- ITS FALSE NEIGHBOUR: 'it returns false'. Refute it at one input. -/
def fnExactSumsValidWrong : ChangeSpec := { name := "fnExactSumsValid", fn := fun _ => fun
  | [d1, d2] => { results := [.lit (.bool false)], args := [d1, d2] }
  | _ => none }
def FnExactSumsValidWrongFalsely : Prop := fnExactSumsValidRow.holds Try.pinned (OpenSpec.ofChange fnExactSumsValidWrong)

/-- 'laws.FnExactPartOf': WHATEVER THE INPUT: true; the input reads as it did. -/
def fnExactPartOfSpec : ChangeSpec := { name := "fnExactPartOf", fn := fun _ => fun
  | [d] => { results := [.lit (.bool true)], args := [d] }
  | _ => none }
def fnExactPartOfRow : OpenClaim := { program := "yteadibgjieimkaa", sum := "95cbab691828890dead8586b62f5b3ff9a566063991fa651ad616be8d881e908", func := "loop.example/discretetomography/laws.FnExactPartOf", spec := "fnExactPartOf", unfollowed := true, recurses := true, apart := false }
def FnExactPartOfSaid : Prop := fnExactPartOfRow.holds Try.pinned (OpenSpec.ofChange fnExactPartOfSpec)

/-- ITS FALSE NEIGHBOUR: 'it returns false'. Refute it at one input. -/
def fnExactPartOfWrong : ChangeSpec := { name := "fnExactPartOf", fn := fun _ => fun
  | [d] => { results := [.lit (.bool false)], args := [d] }
  | _ => none }
def FnExactPartOfWrongFalsely : Prop := fnExactPartOfRow.holds Try.pinned (OpenSpec.ofChange fnExactPartOfWrong)

/-- 'laws.FnExactSumsExcess': WHATEVER THE INPUT: true; the input reads as it did. -/
def fnExactSumsExcessSpec : ChangeSpec := { name := "fnExactSumsExcess", fn := fun _ => fun
  | [d1, d2] => { results := [.lit (.bool true)], args := [d1, d2] }
  | _ => none }
def fnExactSumsExcessRow : OpenClaim := { program := "yteadibgjieimkaa", sum := "95cbab691828890dead8586b62f5b3ff9a566063991fa651ad616be8d881e908", func := "loop.example/discretetomography/laws.FnExactSumsExcess", spec := "fnExactSumsExcess", unfollowed := true, recurses := true, apart := false }
def FnExactSumsExcessSaid : Prop := fnExactSumsExcessRow.holds Try.pinned (OpenSpec.ofChange fnExactSumsExcessSpec)

/-- ITS FALSE NEIGHBOUR: 'it returns false'. Refute it at one input. -/
def fnExactSumsExcessWrong : ChangeSpec := { name := "fnExactSumsExcess", fn := fun _ => fun
  | [d1, d2] => { results := [.lit (.bool false)], args := [d1, d2] }
  | _ => none }
def FnExactSumsExcessWrongFalsely : Prop := fnExactSumsExcessRow.holds Try.pinned (OpenSpec.ofChange fnExactSumsExcessWrong)

/-- 'laws.FnExactSumsTurn': WHATEVER THE INPUT: true; the input reads as it did. -/
def fnExactSumsTurnSpec : ChangeSpec := { name := "fnExactSumsTurn", fn := fun _ => fun
  | [d1, d2] => { results := [.lit (.bool true)], args := [d1, d2] }
  | _ => none }
def fnExactSumsTurnRow : OpenClaim := { program := "yteadibgjieimkaa", sum := "95cbab691828890dead8586b62f5b3ff9a566063991fa651ad616be8d881e908", func := "loop.example/discretetomography/laws.FnExactSumsTurn", spec := "fnExactSumsTurn", apart := false }
def FnExactSumsTurnSaid : Prop := fnExactSumsTurnRow.holds Try.pinned (OpenSpec.ofChange fnExactSumsTurnSpec)

/-- ITS FALSE NEIGHBOUR: 'it returns false'. Refute it at one input. -/
def fnExactSumsTurnWrong : ChangeSpec := { name := "fnExactSumsTurn", fn := fun _ => fun
  | [d1, d2] => { results := [.lit (.bool false)], args := [d1, d2] }
  | _ => none }
def FnExactSumsTurnWrongFalsely : Prop := fnExactSumsTurnRow.holds Try.pinned (OpenSpec.ofChange fnExactSumsTurnWrong)

/- THE SECOND FORM. 'bulk': how many values and letters a reading holds, each counted each time it is reached (what is shared counts as often as it is met; a slice's spare places count too). A statement '..UptoSaid' is the law's where the arguments, and the package variables that the reading takes, are together of bulk at most 1048576: NARROWER than '..Said'. Prove '..Said' where nothing that the law and all that it calls make is longer than what came in: it says more and counts as full. Else prove '..UptoSaid'. A law counts once. -/
mutual
def uptoBulk {H : Type} : DataW H → Nat
  | .lit (.string bytes) => bytes.length + 1
  | .lit _ => 1
  | .nil => 1
  | .ptr d => uptoBulk d + 1
  | .slice elems spare => uptoBulkAll elems + uptoBulkAll spare + 1
  | .agg parts => uptoBulkAll parts + 1
  | .iface _ d => uptoBulk d + 1
  | .map entries => uptoBulkEntries entries + 1
  | .held _ => 1
def uptoBulkAll {H : Type} : List (DataW H) → Nat
  | [] => 0
  | d :: r => uptoBulk d + uptoBulkAll r
def uptoBulkEntries {H : Type} : List (Lit × DataW H) → Nat
  | [] => 0
  | x :: r => uptoBulkEntry x + uptoBulkEntries r
def uptoBulkEntry {H : Type} : Lit × DataW H → Nat
  | (.string bytes, d) => bytes.length + uptoBulk d + 1
  | (_, d) => uptoBulk d + 1
 end
def uptoSmall : (H : Type) → List (DataW H) → Bool := fun _ ds => decide (uptoBulkAll ds ≤ 1048576)
def OpenSpec.upto (s : _root_.Go.ChangeSpec) : _root_.Go.OpenSpec := { _root_.Go.OpenSpec.ofChange s with cond := some uptoSmall }

/-- 'laws.FnSums', WHERE WHAT IT READS IS OF BULK AT MOST 1048576: true; the input reads as it did. -/
def fnSumsUptoRow : OpenClaim := { program := "yteadibgjieimkaa", sum := "95cbab691828890dead8586b62f5b3ff9a566063991fa651ad616be8d881e908", func := "loop.example/discretetomography/laws.FnSums", spec := "fnSums", apart := false, narrowed := true }
def FnSumsUptoSaid : Prop := fnSumsUptoRow.holds Try.pinned (OpenSpec.upto fnSumsSpec)

/-- 'laws.FnSumsFit', WHERE WHAT IT READS IS OF BULK AT MOST 1048576: true; the input reads as it did. -/
def fnSumsFitUptoRow : OpenClaim := { program := "yteadibgjieimkaa", sum := "95cbab691828890dead8586b62f5b3ff9a566063991fa651ad616be8d881e908", func := "loop.example/discretetomography/laws.FnSumsFit", spec := "fnSumsFit", unfollowed := true, recurses := true, apart := false, narrowed := true }
def FnSumsFitUptoSaid : Prop := fnSumsFitUptoRow.holds Try.pinned (OpenSpec.upto fnSumsFitSpec)

/-- 'laws.FnPartOf', WHERE WHAT IT READS IS OF BULK AT MOST 1048576: true; the input reads as it did. -/
def fnPartOfUptoRow : OpenClaim := { program := "yteadibgjieimkaa", sum := "95cbab691828890dead8586b62f5b3ff9a566063991fa651ad616be8d881e908", func := "loop.example/discretetomography/laws.FnPartOf", spec := "fnPartOf", unfollowed := true, recurses := true, apart := false, narrowed := true }
def FnPartOfUptoSaid : Prop := fnPartOfUptoRow.holds Try.pinned (OpenSpec.upto fnPartOfSpec)

/-- 'laws.FnPartOfHas', WHERE WHAT IT READS IS OF BULK AT MOST 1048576: true; the input reads as it did. -/
def fnPartOfHasUptoRow : OpenClaim := { program := "yteadibgjieimkaa", sum := "95cbab691828890dead8586b62f5b3ff9a566063991fa651ad616be8d881e908", func := "loop.example/discretetomography/laws.FnPartOfHas", spec := "fnPartOfHas", unfollowed := true, recurses := true, apart := false, narrowed := true }
def FnPartOfHasUptoSaid : Prop := fnPartOfHasUptoRow.holds Try.pinned (OpenSpec.upto fnPartOfHasSpec)

/-- 'laws.FnExcessMore', WHERE WHAT IT READS IS OF BULK AT MOST 1048576: true; the input reads as it did. -/
def fnExcessMoreUptoRow : OpenClaim := { program := "yteadibgjieimkaa", sum := "95cbab691828890dead8586b62f5b3ff9a566063991fa651ad616be8d881e908", func := "loop.example/discretetomography/laws.FnExcessMore", spec := "fnExcessMore", unfollowed := true, recurses := true, apart := false, narrowed := true }
def FnExcessMoreUptoSaid : Prop := fnExcessMoreUptoRow.holds Try.pinned (OpenSpec.upto fnExcessMoreSpec)

/-- 'laws.FnSumsTurn', WHERE WHAT IT READS IS OF BULK AT MOST 1048576: true; the input reads as it did. -/
def fnSumsTurnUptoRow : OpenClaim := { program := "yteadibgjieimkaa", sum := "95cbab691828890dead8586b62f5b3ff9a566063991fa651ad616be8d881e908", func := "loop.example/discretetomography/laws.FnSumsTurn", spec := "fnSumsTurn", apart := false, narrowed := true }
def FnSumsTurnUptoSaid : Prop := fnSumsTurnUptoRow.holds Try.pinned (OpenSpec.upto fnSumsTurnSpec)

/-- 'laws.FnSumsTurnOther', WHERE WHAT IT READS IS OF BULK AT MOST 1048576: true; the input reads as it did. -/
def fnSumsTurnOtherUptoRow : OpenClaim := { program := "yteadibgjieimkaa", sum := "95cbab691828890dead8586b62f5b3ff9a566063991fa651ad616be8d881e908", func := "loop.example/discretetomography/laws.FnSumsTurnOther", spec := "fnSumsTurnOther", unfollowed := true, recurses := true, apart := false, narrowed := true }
def FnSumsTurnOtherUptoSaid : Prop := fnSumsTurnOtherUptoRow.holds Try.pinned (OpenSpec.upto fnSumsTurnOtherSpec)

/-- 'laws.FnExcessTurn', WHERE WHAT IT READS IS OF BULK AT MOST 1048576: true; the input reads as it did. -/
def fnExcessTurnUptoRow : OpenClaim := { program := "yteadibgjieimkaa", sum := "95cbab691828890dead8586b62f5b3ff9a566063991fa651ad616be8d881e908", func := "loop.example/discretetomography/laws.FnExcessTurn", spec := "fnExcessTurn", unfollowed := true, recurses := true, apart := false, narrowed := true }
def FnExcessTurnUptoSaid : Prop := fnExcessTurnUptoRow.holds Try.pinned (OpenSpec.upto fnExcessTurnSpec)

/-- 'laws.FnSumsTurnValid', WHERE WHAT IT READS IS OF BULK AT MOST 1048576: true; the input reads as it did. -/
def fnSumsTurnValidUptoRow : OpenClaim := { program := "yteadibgjieimkaa", sum := "95cbab691828890dead8586b62f5b3ff9a566063991fa651ad616be8d881e908", func := "loop.example/discretetomography/laws.FnSumsTurnValid", spec := "fnSumsTurnValid", apart := false, narrowed := true }
def FnSumsTurnValidUptoSaid : Prop := fnSumsTurnValidUptoRow.holds Try.pinned (OpenSpec.upto fnSumsTurnValidSpec)

/-- 'laws.FnExactSumsValid', WHERE WHAT IT READS IS OF BULK AT MOST 1048576: true; the input reads as it did. -/
def fnExactSumsValidUptoRow : OpenClaim := { program := "yteadibgjieimkaa", sum := "95cbab691828890dead8586b62f5b3ff9a566063991fa651ad616be8d881e908", func := "loop.example/discretetomography/laws.FnExactSumsValid", spec := "fnExactSumsValid", apart := false, narrowed := true }
def FnExactSumsValidUptoSaid : Prop := fnExactSumsValidUptoRow.holds Try.pinned (OpenSpec.upto fnExactSumsValidSpec)

/-- 'laws.FnExactPartOf', WHERE WHAT IT READS IS OF BULK AT MOST 1048576: true; the input reads as it did. -/
def fnExactPartOfUptoRow : OpenClaim := { program := "yteadibgjieimkaa", sum := "95cbab691828890dead8586b62f5b3ff9a566063991fa651ad616be8d881e908", func := "loop.example/discretetomography/laws.FnExactPartOf", spec := "fnExactPartOf", unfollowed := true, recurses := true, apart := false, narrowed := true }
def FnExactPartOfUptoSaid : Prop := fnExactPartOfUptoRow.holds Try.pinned (OpenSpec.upto fnExactPartOfSpec)

/-- 'laws.FnExactSumsExcess', WHERE WHAT IT READS IS OF BULK AT MOST 1048576: true; the input reads as it did. -/
def fnExactSumsExcessUptoRow : OpenClaim := { program := "yteadibgjieimkaa", sum := "95cbab691828890dead8586b62f5b3ff9a566063991fa651ad616be8d881e908", func := "loop.example/discretetomography/laws.FnExactSumsExcess", spec := "fnExactSumsExcess", unfollowed := true, recurses := true, apart := false, narrowed := true }
def FnExactSumsExcessUptoSaid : Prop := fnExactSumsExcessUptoRow.holds Try.pinned (OpenSpec.upto fnExactSumsExcessSpec)

/-- 'laws.FnExactSumsTurn', WHERE WHAT IT READS IS OF BULK AT MOST 1048576: true; the input reads as it did. -/
def fnExactSumsTurnUptoRow : OpenClaim := { program := "yteadibgjieimkaa", sum := "95cbab691828890dead8586b62f5b3ff9a566063991fa651ad616be8d881e908", func := "loop.example/discretetomography/laws.FnExactSumsTurn", spec := "fnExactSumsTurn", apart := false, narrowed := true }
def FnExactSumsTurnUptoSaid : Prop := fnExactSumsTurnUptoRow.holds Try.pinned (OpenSpec.upto fnExactSumsTurnSpec)

end Rows
end Go.Proofs.Yteadibgjieimkaa
