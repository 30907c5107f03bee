/-
  No cell of these rows narrows 'for every input' (looked for: loops, veiled, ifaces, maps, wideKeys, modest, calm, conditions, laid).
  DERIVED. THE GIVEN ROWS OF THIS SEAT. 25 by the template 'for every input the law returns true; each argument reads behind the call as it read before'; 0 by the template 'total and deterministic' (their statements: YtnibmcihklaigaaTotals.lean).
  GIVEN WITH THE SEED: the statements are not yours to turn. If you find one false, say at which input.
  Laid BY PROGRAM, IN A SANDBOX (cutbox-rows.mjs): the forced cells as the released guide's own fill.sh prints them over the translation 48c22e32237aad28… (all of the seat's roots in one cut). By AI agents, Wed Nov 11 2026. No macro, syntax, notation, axiom, sorry.
-/
import Derived.Test.YtnibmcihklaigaaChecked
import GoSem.Claim
import GoSem.ClaimJoined
import GoSem.ClaimMapViews
import Derived.JoinedTies
import Derived.KernelRfl
namespace Go.Proofs.Ytnibmcihklaigaa
/- THE CELL 'sum', in the pinned program and in every row, IS THE sha256 OF THE DUMP (.gsa) THAT YtnibmcihklaigaaProg.lean LOADS. Nothing in Lean hashes anything: it is a label: what it is worth is what the hold of that sum in a sandbox is worth. -/
noncomputable def Try.pinned : Pinned := { name := "ytnibmcihklaigaa", sum := "48c22e32237aad284010eb762f6d74bc811ee32f7d12267c390702106d5b7b74", checked := Try.checked }
namespace Rows
def none {H : Type} : Left H := { results := [], args := [] }

/-- 'laws.FnSwitchSums': WHATEVER THE INPUT: true; the input reads as it did. -/
def fnSwitchSumsSpec : ChangeSpec := { name := "fnSwitchSums", fn := fun _ => fun
  | [d] => { results := [.lit (.bool true)], args := [d] }
  | _ => none }
def fnSwitchSumsRow : OpenClaim := { program := "ytnibmcihklaigaa", sum := "48c22e32237aad284010eb762f6d74bc811ee32f7d12267c390702106d5b7b74", func := "loop.example/discretetomography/laws.FnSwitchSums", spec := "fnSwitchSums", unfollowed := true, recurses := true, apart := false }
def FnSwitchSumsSaid : Prop := fnSwitchSumsRow.holds Try.pinned (OpenSpec.ofChange fnSwitchSumsSpec)

/-- ITS FALSE NEIGHBOUR: 'it returns false'. Refute it at one input. -/
def fnSwitchSumsWrong : ChangeSpec := { name := "fnSwitchSums", fn := fun _ => fun
  | [d] => { results := [.lit (.bool false)], args := [d] }
  | _ => none }
def FnSwitchSumsWrongFalsely : Prop := fnSwitchSumsRow.holds Try.pinned (OpenSpec.ofChange fnSwitchSumsWrong)

/-- 'laws.FnSwitchTwice': WHATEVER THE INPUT: true; the input reads as it did. -/
def fnSwitchTwiceSpec : ChangeSpec := { name := "fnSwitchTwice", fn := fun _ => fun
  | [d] => { results := [.lit (.bool true)], args := [d] }
  | _ => none }
def fnSwitchTwiceRow : OpenClaim := { program := "ytnibmcihklaigaa", sum := "48c22e32237aad284010eb762f6d74bc811ee32f7d12267c390702106d5b7b74", func := "loop.example/discretetomography/laws.FnSwitchTwice", spec := "fnSwitchTwice", apart := false }
def FnSwitchTwiceSaid : Prop := fnSwitchTwiceRow.holds Try.pinned (OpenSpec.ofChange fnSwitchTwiceSpec)

/-- ITS FALSE NEIGHBOUR: 'it returns false'. Refute it at one input. -/
def fnSwitchTwiceWrong : ChangeSpec := { name := "fnSwitchTwice", fn := fun _ => fun
  | [d] => { results := [.lit (.bool false)], args := [d] }
  | _ => none }
def FnSwitchTwiceWrongFalsely : Prop := fnSwitchTwiceRow.holds Try.pinned (OpenSpec.ofChange fnSwitchTwiceWrong)

/-- 'laws.FnSwitchCells': WHATEVER THE INPUT: true; the input reads as it did. -/
def fnSwitchCellsSpec : ChangeSpec := { name := "fnSwitchCells", fn := fun _ => fun
  | [d] => { results := [.lit (.bool true)], args := [d] }
  | _ => none }
def fnSwitchCellsRow : OpenClaim := { program := "ytnibmcihklaigaa", sum := "48c22e32237aad284010eb762f6d74bc811ee32f7d12267c390702106d5b7b74", func := "loop.example/discretetomography/laws.FnSwitchCells", spec := "fnSwitchCells", apart := false }
def FnSwitchCellsSaid : Prop := fnSwitchCellsRow.holds Try.pinned (OpenSpec.ofChange fnSwitchCellsSpec)

/-- ITS FALSE NEIGHBOUR: 'it returns false'. Refute it at one input. -/
def fnSwitchCellsWrong : ChangeSpec := { name := "fnSwitchCells", fn := fun _ => fun
  | [d] => { results := [.lit (.bool false)], args := [d] }
  | _ => none }
def FnSwitchCellsWrongFalsely : Prop := fnSwitchCellsRow.holds Try.pinned (OpenSpec.ofChange fnSwitchCellsWrong)

/-- 'laws.FnSwitchTurn': WHATEVER THE INPUT: true; the input reads as it did. -/
def fnSwitchTurnSpec : ChangeSpec := { name := "fnSwitchTurn", fn := fun _ => fun
  | [d] => { results := [.lit (.bool true)], args := [d] }
  | _ => none }
def fnSwitchTurnRow : OpenClaim := { program := "ytnibmcihklaigaa", sum := "48c22e32237aad284010eb762f6d74bc811ee32f7d12267c390702106d5b7b74", func := "loop.example/discretetomography/laws.FnSwitchTurn", spec := "fnSwitchTurn", apart := false }
def FnSwitchTurnSaid : Prop := fnSwitchTurnRow.holds Try.pinned (OpenSpec.ofChange fnSwitchTurnSpec)

/-- ITS FALSE NEIGHBOUR: 'it returns false'. Refute it at one input. -/
def fnSwitchTurnWrong : ChangeSpec := { name := "fnSwitchTurn", fn := fun _ => fun
  | [d] => { results := [.lit (.bool false)], args := [d] }
  | _ => none }
def FnSwitchTurnWrongFalsely : Prop := fnSwitchTurnRow.holds Try.pinned (OpenSpec.ofChange fnSwitchTurnWrong)

/-- 'laws.FnSwitchMirror': WHATEVER THE INPUT: true; the input reads as it did. -/
def fnSwitchMirrorSpec : ChangeSpec := { name := "fnSwitchMirror", fn := fun _ => fun
  | [d] => { results := [.lit (.bool true)], args := [d] }
  | _ => none }
def fnSwitchMirrorRow : OpenClaim := { program := "ytnibmcihklaigaa", sum := "48c22e32237aad284010eb762f6d74bc811ee32f7d12267c390702106d5b7b74", func := "loop.example/discretetomography/laws.FnSwitchMirror", spec := "fnSwitchMirror", apart := false }
def FnSwitchMirrorSaid : Prop := fnSwitchMirrorRow.holds Try.pinned (OpenSpec.ofChange fnSwitchMirrorSpec)

/-- ITS FALSE NEIGHBOUR: 'it returns false'. Refute it at one input. -/
def fnSwitchMirrorWrong : ChangeSpec := { name := "fnSwitchMirror", fn := fun _ => fun
  | [d] => { results := [.lit (.bool false)], args := [d] }
  | _ => none }
def FnSwitchMirrorWrongFalsely : Prop := fnSwitchMirrorRow.holds Try.pinned (OpenSpec.ofChange fnSwitchMirrorWrong)

/-- 'laws.FnSwitchList': WHATEVER THE INPUT: true; the input reads as it did. -/
def fnSwitchListSpec : ChangeSpec := { name := "fnSwitchList", fn := fun _ => fun
  | [d] => { results := [.lit (.bool true)], args := [d] }
  | _ => none }
def fnSwitchListRow : OpenClaim := { program := "ytnibmcihklaigaa", sum := "48c22e32237aad284010eb762f6d74bc811ee32f7d12267c390702106d5b7b74", func := "loop.example/discretetomography/laws.FnSwitchList", spec := "fnSwitchList", unfollowed := true, recurses := true, apart := false }
def FnSwitchListSaid : Prop := fnSwitchListRow.holds Try.pinned (OpenSpec.ofChange fnSwitchListSpec)

/-- ITS FALSE NEIGHBOUR: 'it returns false'. Refute it at one input. -/
def fnSwitchListWrong : ChangeSpec := { name := "fnSwitchList", fn := fun _ => fun
  | [d] => { results := [.lit (.bool false)], args := [d] }
  | _ => none }
def FnSwitchListWrongFalsely : Prop := fnSwitchListRow.holds Try.pinned (OpenSpec.ofChange fnSwitchListWrong)

/-- 'laws.FnSwitchListAll': WHATEVER THE INPUT: true; the input reads as it did. -/
def fnSwitchListAllSpec : ChangeSpec := { name := "fnSwitchListAll", fn := fun _ => fun
  | [d1, d2] => { results := [.lit (.bool true)], args := [d1, d2] }
  | _ => none }
def fnSwitchListAllRow : OpenClaim := { program := "ytnibmcihklaigaa", sum := "48c22e32237aad284010eb762f6d74bc811ee32f7d12267c390702106d5b7b74", func := "loop.example/discretetomography/laws.FnSwitchListAll", spec := "fnSwitchListAll", unfollowed := true, recurses := true, apart := false }
def FnSwitchListAllSaid : Prop := fnSwitchListAllRow.holds Try.pinned (OpenSpec.ofChange fnSwitchListAllSpec)

/-- ITS FALSE NEIGHBOUR: 'it returns false'. Refute it at one input. -/
def fnSwitchListAllWrong : ChangeSpec := { name := "fnSwitchListAll", fn := fun _ => fun
  | [d1, d2] => { results := [.lit (.bool false)], args := [d1, d2] }
  | _ => none }
def FnSwitchListAllWrongFalsely : Prop := fnSwitchListAllRow.holds Try.pinned (OpenSpec.ofChange fnSwitchListAllWrong)

/-- 'laws.FnSwitchMany': WHATEVER THE INPUT: true; the input reads as it did. -/
def fnSwitchManySpec : ChangeSpec := { name := "fnSwitchMany", fn := fun _ => fun
  | [d] => { results := [.lit (.bool true)], args := [d] }
  | _ => none }
def fnSwitchManyRow : OpenClaim := { program := "ytnibmcihklaigaa", sum := "48c22e32237aad284010eb762f6d74bc811ee32f7d12267c390702106d5b7b74", func := "loop.example/discretetomography/laws.FnSwitchMany", spec := "fnSwitchMany", unfollowed := true, recurses := true, apart := false }
def FnSwitchManySaid : Prop := fnSwitchManyRow.holds Try.pinned (OpenSpec.ofChange fnSwitchManySpec)

/-- ITS FALSE NEIGHBOUR: 'it returns false'. Refute it at one input. -/
def fnSwitchManyWrong : ChangeSpec := { name := "fnSwitchMany", fn := fun _ => fun
  | [d] => { results := [.lit (.bool false)], args := [d] }
  | _ => none }
def FnSwitchManyWrongFalsely : Prop := fnSwitchManyRow.holds Try.pinned (OpenSpec.ofChange fnSwitchManyWrong)

/-- 'laws.FnSwitchPairs': WHATEVER THE INPUT: true; the input reads as it did. -/
def fnSwitchPairsSpec : ChangeSpec := { name := "fnSwitchPairs", fn := fun _ => fun
  | [d] => { results := [.lit (.bool true)], args := [d] }
  | _ => none }
def fnSwitchPairsRow : OpenClaim := { program := "ytnibmcihklaigaa", sum := "48c22e32237aad284010eb762f6d74bc811ee32f7d12267c390702106d5b7b74", func := "loop.example/discretetomography/laws.FnSwitchPairs", spec := "fnSwitchPairs", unfollowed := true, recurses := true, apart := false }
def FnSwitchPairsSaid : Prop := fnSwitchPairsRow.holds Try.pinned (OpenSpec.ofChange fnSwitchPairsSpec)

/-- ITS FALSE NEIGHBOUR: 'it returns false'. Refute it at one input. -/
def fnSwitchPairsWrong : ChangeSpec := { name := "fnSwitchPairs", fn := fun _ => fun
  | [d] => { results := [.lit (.bool false)], args := [d] }
  | _ => none }
def FnSwitchPairsWrongFalsely : Prop := fnSwitchPairsRow.holds Try.pinned (OpenSpec.ofChange fnSwitchPairsWrong)

/-- 'laws.FnSwitchFirst': WHATEVER THE INPUT: true; the input reads as it did. -/
def fnSwitchFirstSpec : ChangeSpec := { name := "fnSwitchFirst", fn := fun _ => fun
  | [d] => { results := [.lit (.bool true)], args := [d] }
  | _ => none }
def fnSwitchFirstRow : OpenClaim := { program := "ytnibmcihklaigaa", sum := "48c22e32237aad284010eb762f6d74bc811ee32f7d12267c390702106d5b7b74", func := "loop.example/discretetomography/laws.FnSwitchFirst", spec := "fnSwitchFirst", unfollowed := true, recurses := true, apart := false }
def FnSwitchFirstSaid : Prop := fnSwitchFirstRow.holds Try.pinned (OpenSpec.ofChange fnSwitchFirstSpec)

/-- ITS FALSE NEIGHBOUR: 'it returns false'. Refute it at one input. -/
def fnSwitchFirstWrong : ChangeSpec := { name := "fnSwitchFirst", fn := fun _ => fun
  | [d] => { results := [.lit (.bool false)], args := [d] }
  | _ => none }
def FnSwitchFirstWrongFalsely : Prop := fnSwitchFirstRow.holds Try.pinned (OpenSpec.ofChange fnSwitchFirstWrong)

/-- 'laws.FnSwitchNested': WHATEVER THE INPUT: true; the input reads as it did. -/
def fnSwitchNestedSpec : ChangeSpec := { name := "fnSwitchNested", fn := fun _ => fun
  | [d] => { results := [.lit (.bool true)], args := [d] }
  | _ => none }
def fnSwitchNestedRow : OpenClaim := { program := "ytnibmcihklaigaa", sum := "48c22e32237aad284010eb762f6d74bc811ee32f7d12267c390702106d5b7b74", func := "loop.example/discretetomography/laws.FnSwitchNested", spec := "fnSwitchNested", unfollowed := true, recurses := true, apart := false }
def FnSwitchNestedSaid : Prop := fnSwitchNestedRow.holds Try.pinned (OpenSpec.ofChange fnSwitchNestedSpec)

/-- ITS FALSE NEIGHBOUR: 'it returns false'. Refute it at one input. -/
def fnSwitchNestedWrong : ChangeSpec := { name := "fnSwitchNested", fn := fun _ => fun
  | [d] => { results := [.lit (.bool false)], args := [d] }
  | _ => none }
def FnSwitchNestedWrongFalsely : Prop := fnSwitchNestedRow.holds Try.pinned (OpenSpec.ofChange fnSwitchNestedWrong)

/-- 'laws.FnSwitchOrder': WHATEVER THE INPUT: true; the input reads as it did. -/
def fnSwitchOrderSpec : ChangeSpec := { name := "fnSwitchOrder", fn := fun _ => fun
  | [d] => { results := [.lit (.bool true)], args := [d] }
  | _ => none }
def fnSwitchOrderRow : OpenClaim := { program := "ytnibmcihklaigaa", sum := "48c22e32237aad284010eb762f6d74bc811ee32f7d12267c390702106d5b7b74", func := "loop.example/discretetomography/laws.FnSwitchOrder", spec := "fnSwitchOrder", unfollowed := true, recurses := true, apart := false }
def FnSwitchOrderSaid : Prop := fnSwitchOrderRow.holds Try.pinned (OpenSpec.ofChange fnSwitchOrderSpec)

/-- ITS FALSE NEIGHBOUR: 'it returns false'. Refute it at one input. -/
def fnSwitchOrderWrong : ChangeSpec := { name := "fnSwitchOrder", fn := fun _ => fun
  | [d] => { results := [.lit (.bool false)], args := [d] }
  | _ => none }
def FnSwitchOrderWrongFalsely : Prop := fnSwitchOrderRow.holds Try.pinned (OpenSpec.ofChange fnSwitchOrderWrong)

/-- 'laws.FnSwitchLine': WHATEVER THE INPUT: true; the input reads as it did. -/
def fnSwitchLineSpec : ChangeSpec := { name := "fnSwitchLine", fn := fun _ => fun
  | [d] => { results := [.lit (.bool true)], args := [d] }
  | _ => none }
def fnSwitchLineRow : OpenClaim := { program := "ytnibmcihklaigaa", sum := "48c22e32237aad284010eb762f6d74bc811ee32f7d12267c390702106d5b7b74", func := "loop.example/discretetomography/laws.FnSwitchLine", spec := "fnSwitchLine", unfollowed := true, recurses := true, apart := false }
def FnSwitchLineSaid : Prop := fnSwitchLineRow.holds Try.pinned (OpenSpec.ofChange fnSwitchLineSpec)

/-- ITS FALSE NEIGHBOUR: 'it returns false'. Refute it at one input. -/
def fnSwitchLineWrong : ChangeSpec := { name := "fnSwitchLine", fn := fun _ => fun
  | [d] => { results := [.lit (.bool false)], args := [d] }
  | _ => none }
def FnSwitchLineWrongFalsely : Prop := fnSwitchLineRow.holds Try.pinned (OpenSpec.ofChange fnSwitchLineWrong)

/-- 'laws.FnSwitchRows': WHATEVER THE INPUT: true; the input reads as it did. -/
def fnSwitchRowsSpec : ChangeSpec := { name := "fnSwitchRows", fn := fun _ => fun
  | [d] => { results := [.lit (.bool true)], args := [d] }
  | _ => none }
def fnSwitchRowsRow : OpenClaim := { program := "ytnibmcihklaigaa", sum := "48c22e32237aad284010eb762f6d74bc811ee32f7d12267c390702106d5b7b74", func := "loop.example/discretetomography/laws.FnSwitchRows", spec := "fnSwitchRows", apart := false }
def FnSwitchRowsSaid : Prop := fnSwitchRowsRow.holds Try.pinned (OpenSpec.ofChange fnSwitchRowsSpec)

/-- ITS FALSE NEIGHBOUR: 'it returns false'. Refute it at one input. -/
def fnSwitchRowsWrong : ChangeSpec := { name := "fnSwitchRows", fn := fun _ => fun
  | [d] => { results := [.lit (.bool false)], args := [d] }
  | _ => none }
def FnSwitchRowsWrongFalsely : Prop := fnSwitchRowsRow.holds Try.pinned (OpenSpec.ofChange fnSwitchRowsWrong)

/-- 'laws.FnExactSwitchOk': WHATEVER THE INPUT: true; the input reads as it did. -/
def fnExactSwitchOkSpec : ChangeSpec := { name := "fnExactSwitchOk", fn := fun _ => fun
  | [d1, d2] => { results := [.lit (.bool true)], args := [d1, d2] }
  | _ => none }
def fnExactSwitchOkRow : OpenClaim := { program := "ytnibmcihklaigaa", sum := "48c22e32237aad284010eb762f6d74bc811ee32f7d12267c390702106d5b7b74", func := "loop.example/discretetomography/laws.FnExactSwitchOk", spec := "fnExactSwitchOk", apart := false }
def FnExactSwitchOkSaid : Prop := fnExactSwitchOkRow.holds Try.pinned (OpenSpec.ofChange fnExactSwitchOkSpec)

/-- ITS FALSE NEIGHBOUR: 'it returns false'. Refute it at one input. -/
def fnExactSwitchOkWrong : ChangeSpec := { name := "fnExactSwitchOk", fn := fun _ => fun
  | [d1, d2] => { results := [.lit (.bool false)], args := [d1, d2] }
  | _ => none }
def FnExactSwitchOkWrongFalsely : Prop := fnExactSwitchOkRow.holds Try.pinned (OpenSpec.ofChange fnExactSwitchOkWrong)

/-- 'laws.FnExactSwitchDo': WHATEVER THE INPUT: true; the input reads as it did. -/
def fnExactSwitchDoSpec : ChangeSpec := { name := "fnExactSwitchDo", fn := fun _ => fun
  | [d1, d2] => { results := [.lit (.bool true)], args := [d1, d2] }
  | _ => none }
def fnExactSwitchDoRow : OpenClaim := { program := "ytnibmcihklaigaa", sum := "48c22e32237aad284010eb762f6d74bc811ee32f7d12267c390702106d5b7b74", func := "loop.example/discretetomography/laws.FnExactSwitchDo", spec := "fnExactSwitchDo", apart := false }
def FnExactSwitchDoSaid : Prop := fnExactSwitchDoRow.holds Try.pinned (OpenSpec.ofChange fnExactSwitchDoSpec)

/-- ITS FALSE NEIGHBOUR: 'it returns false'. Refute it at one input. -/
def fnExactSwitchDoWrong : ChangeSpec := { name := "fnExactSwitchDo", fn := fun _ => fun
  | [d1, d2] => { results := [.lit (.bool false)], args := [d1, d2] }
  | _ => none }
def FnExactSwitchDoWrongFalsely : Prop := fnExactSwitchDoRow.holds Try.pinned (OpenSpec.ofChange fnExactSwitchDoWrong)

/-- 'laws.FnExactSwitchList': WHATEVER THE INPUT: true; the input reads as it did. -/
def fnExactSwitchListSpec : ChangeSpec := { name := "fnExactSwitchList", fn := fun _ => fun
  | [d] => { results := [.lit (.bool true)], args := [d] }
  | _ => none }
def fnExactSwitchListRow : OpenClaim := { program := "ytnibmcihklaigaa", sum := "48c22e32237aad284010eb762f6d74bc811ee32f7d12267c390702106d5b7b74", func := "loop.example/discretetomography/laws.FnExactSwitchList", spec := "fnExactSwitchList", unfollowed := true, recurses := true, apart := false }
def FnExactSwitchListSaid : Prop := fnExactSwitchListRow.holds Try.pinned (OpenSpec.ofChange fnExactSwitchListSpec)

/-- ITS FALSE NEIGHBOUR: 'it returns false'. Refute it at one input. -/
def fnExactSwitchListWrong : ChangeSpec := { name := "fnExactSwitchList", fn := fun _ => fun
  | [d] => { results := [.lit (.bool false)], args := [d] }
  | _ => none }
def FnExactSwitchListWrongFalsely : Prop := fnExactSwitchListRow.holds Try.pinned (OpenSpec.ofChange fnExactSwitchListWrong)

/-- 'laws.FnExactSwitchMany': WHATEVER THE INPUT: true; the input reads as it did. -/
def fnExactSwitchManySpec : ChangeSpec := { name := "fnExactSwitchMany", fn := fun _ => fun
  | [d] => { results := [.lit (.bool true)], args := [d] }
  | _ => none }
def fnExactSwitchManyRow : OpenClaim := { program := "ytnibmcihklaigaa", sum := "48c22e32237aad284010eb762f6d74bc811ee32f7d12267c390702106d5b7b74", func := "loop.example/discretetomography/laws.FnExactSwitchMany", spec := "fnExactSwitchMany", unfollowed := true, recurses := true, apart := false }
def FnExactSwitchManySaid : Prop := fnExactSwitchManyRow.holds Try.pinned (OpenSpec.ofChange fnExactSwitchManySpec)

/-- ITS FALSE NEIGHBOUR: 'it returns false'. Refute it at one input. -/
def fnExactSwitchManyWrong : ChangeSpec := { name := "fnExactSwitchMany", fn := fun _ => fun
  | [d] => { results := [.lit (.bool false)], args := [d] }
  | _ => none }
def FnExactSwitchManyWrongFalsely : Prop := fnExactSwitchManyRow.holds Try.pinned (OpenSpec.ofChange fnExactSwitchManyWrong)

/-- 'laws.FnExactSwitchFirst': WHATEVER THE INPUT: true; the input reads as it did. -/
def fnExactSwitchFirstSpec : ChangeSpec := { name := "fnExactSwitchFirst", fn := fun _ => fun
  | [d] => { results := [.lit (.bool true)], args := [d] }
  | _ => none }
def fnExactSwitchFirstRow : OpenClaim := { program := "ytnibmcihklaigaa", sum := "48c22e32237aad284010eb762f6d74bc811ee32f7d12267c390702106d5b7b74", func := "loop.example/discretetomography/laws.FnExactSwitchFirst", spec := "fnExactSwitchFirst", unfollowed := true, recurses := true, apart := false }
def FnExactSwitchFirstSaid : Prop := fnExactSwitchFirstRow.holds Try.pinned (OpenSpec.ofChange fnExactSwitchFirstSpec)

/-- ITS FALSE NEIGHBOUR: 'it returns false'. Refute it at one input. -/
def fnExactSwitchFirstWrong : ChangeSpec := { name := "fnExactSwitchFirst", fn := fun _ => fun
  | [d] => { results := [.lit (.bool false)], args := [d] }
  | _ => none }
def FnExactSwitchFirstWrongFalsely : Prop := fnExactSwitchFirstRow.holds Try.pinned (OpenSpec.ofChange fnExactSwitchFirstWrong)

/-- 'laws.FnVariableSwitch': WHATEVER THE INPUT: true; the input reads as it did. -/
def fnVariableSwitchSpec : ChangeSpec := { name := "fnVariableSwitch", fn := fun _ => fun
  | [d] => { results := [.lit (.bool true)], args := [d] }
  | _ => none }
def fnVariableSwitchRow : OpenClaim := { program := "ytnibmcihklaigaa", sum := "48c22e32237aad284010eb762f6d74bc811ee32f7d12267c390702106d5b7b74", func := "loop.example/discretetomography/laws.FnVariableSwitch", spec := "fnVariableSwitch", apart := false }
def FnVariableSwitchSaid : Prop := fnVariableSwitchRow.holds Try.pinned (OpenSpec.ofChange fnVariableSwitchSpec)

/-- ITS FALSE NEIGHBOUR: 'it returns false'. Refute it at one input. -/
def fnVariableSwitchWrong : ChangeSpec := { name := "fnVariableSwitch", fn := fun _ => fun
  | [d] => { results := [.lit (.bool false)], args := [d] }
  | _ => none }
def FnVariableSwitchWrongFalsely : Prop := fnVariableSwitchRow.holds Try.pinned (OpenSpec.ofChange fnVariableSwitchWrong)

/-- 'laws.FnVariableNone': WHATEVER THE INPUT: true; the input reads as it did. -/
def fnVariableNoneSpec : ChangeSpec := { name := "fnVariableNone", fn := fun _ => fun
  | [d] => { results := [.lit (.bool true)], args := [d] }
  | _ => none }
def fnVariableNoneRow : OpenClaim := { program := "ytnibmcihklaigaa", sum := "48c22e32237aad284010eb762f6d74bc811ee32f7d12267c390702106d5b7b74", func := "loop.example/discretetomography/laws.FnVariableNone", spec := "fnVariableNone", unfollowed := true, recurses := true, apart := false }
def FnVariableNoneSaid : Prop := fnVariableNoneRow.holds Try.pinned (OpenSpec.ofChange fnVariableNoneSpec)

/-- ITS FALSE NEIGHBOUR: 'it returns false'. Refute it at one input. -/
def fnVariableNoneWrong : ChangeSpec := { name := "fnVariableNone", fn := fun _ => fun
  | [d] => { results := [.lit (.bool false)], args := [d] }
  | _ => none }
def FnVariableNoneWrongFalsely : Prop := fnVariableNoneRow.holds Try.pinned (OpenSpec.ofChange fnVariableNoneWrong)

/-- 'laws.FnMany': WHATEVER THE INPUT: true; the input reads as it did. -/
def fnManySpec : ChangeSpec := { name := "fnMany", fn := fun _ => fun
  | [d] => { results := [.lit (.bool true)], args := [d] }
  | _ => none }
def fnManyRow : OpenClaim := { program := "ytnibmcihklaigaa", sum := "48c22e32237aad284010eb762f6d74bc811ee32f7d12267c390702106d5b7b74", func := "loop.example/discretetomography/laws.FnMany", spec := "fnMany", apart := false }
def FnManySaid : Prop := fnManyRow.holds Try.pinned (OpenSpec.ofChange fnManySpec)

/-- ITS FALSE NEIGHBOUR: 'it returns false'. Refute it at one input. -/
def fnManyWrong : ChangeSpec := { name := "fnMany", fn := fun _ => fun
  | [d] => { results := [.lit (.bool false)], args := [d] }
  | _ => none }
def FnManyWrongFalsely : Prop := fnManyRow.holds Try.pinned (OpenSpec.ofChange fnManyWrong)

/-- 'laws.FnManyOther': WHATEVER THE INPUT: true; the input reads as it did. -/
def fnManyOtherSpec : ChangeSpec := { name := "fnManyOther", fn := fun _ => fun
  | [d] => { results := [.lit (.bool true)], args := [d] }
  | _ => none }
def fnManyOtherRow : OpenClaim := { program := "ytnibmcihklaigaa", sum := "48c22e32237aad284010eb762f6d74bc811ee32f7d12267c390702106d5b7b74", func := "loop.example/discretetomography/laws.FnManyOther", spec := "fnManyOther", apart := false }
def FnManyOtherSaid : Prop := fnManyOtherRow.holds Try.pinned (OpenSpec.ofChange fnManyOtherSpec)

/-- ITS FALSE NEIGHBOUR: 'it returns false'. Refute it at one input. -/
def fnManyOtherWrong : ChangeSpec := { name := "fnManyOther", fn := fun _ => fun
  | [d] => { results := [.lit (.bool false)], args := [d] }
  | _ => none }
def FnManyOtherWrongFalsely : Prop := fnManyOtherRow.holds Try.pinned (OpenSpec.ofChange fnManyOtherWrong)

/-- 'laws.FnTextMarks': WHATEVER THE INPUT: true; the input reads as it did. -/
def fnTextMarksSpec : ChangeSpec := { name := "fnTextMarks", fn := fun _ => fun
  | [d] => { results := [.lit (.bool true)], args := [d] }
  | _ => none }
def fnTextMarksRow : OpenClaim := { program := "ytnibmcihklaigaa", sum := "48c22e32237aad284010eb762f6d74bc811ee32f7d12267c390702106d5b7b74", func := "loop.example/discretetomography/laws.FnTextMarks", spec := "fnTextMarks", inPlace := ["internal/abi.NoEscape"], apart := false }
def FnTextMarksSaid : Prop := fnTextMarksRow.holds Try.pinned (OpenSpec.ofChange fnTextMarksSpec)

/-- ITS FALSE NEIGHBOUR: 'it returns false'. Refute it at one input. -/
def fnTextMarksWrong : ChangeSpec := { name := "fnTextMarks", fn := fun _ => fun
  | [d] => { results := [.lit (.bool false)], args := [d] }
  | _ => none }
def FnTextMarksWrongFalsely : Prop := fnTextMarksRow.holds Try.pinned (OpenSpec.ofChange fnTextMarksWrong)

/-- 'laws.FnTurnSize': WHATEVER THE INPUT: true; the input reads as it did. -/
def fnTurnSizeSpec : ChangeSpec := { name := "fnTurnSize", fn := fun _ => fun
  | [d] => { results := [.lit (.bool true)], args := [d] }
  | _ => none }
def fnTurnSizeRow : OpenClaim := { program := "ytnibmcihklaigaa", sum := "48c22e32237aad284010eb762f6d74bc811ee32f7d12267c390702106d5b7b74", func := "loop.example/discretetomography/laws.FnTurnSize", spec := "fnTurnSize", apart := false }
def FnTurnSizeSaid : Prop := fnTurnSizeRow.holds Try.pinned (OpenSpec.ofChange fnTurnSizeSpec)

/-- ITS FALSE NEIGHBOUR: 'it returns false'. Refute it at one input. -/
def fnTurnSizeWrong : ChangeSpec := { name := "fnTurnSize", fn := fun _ => fun
  | [d] => { results := [.lit (.bool false)], args := [d] }
  | _ => none }
def FnTurnSizeWrongFalsely : Prop := fnTurnSizeRow.holds Try.pinned (OpenSpec.ofChange fnTurnSizeWrong)

/- THE SECOND FORM. 'bulk': how many values and letters a reading holds, each counted each time it is reached (what is shared counts as often as it is met; a slice's spare places count too). A statement '..UptoSaid' is the law's where the arguments, and the package variables that the reading takes, are together of bulk at most 1048576: NARROWER than '..Said'. Prove '..Said' where nothing that the law and all that it calls make is longer than what came in: it says more and counts as full. Else prove '..UptoSaid'. A law counts once. -/
mutual
def uptoBulk {H : Type} : DataW H → Nat
  | .lit (.string bytes) => bytes.length + 1
  | .lit _ => 1
  | .nil => 1
  | .ptr d => uptoBulk d + 1
  | .slice elems spare => uptoBulkAll elems + uptoBulkAll spare + 1
  | .agg parts => uptoBulkAll parts + 1
  | .iface _ d => uptoBulk d + 1
  | .map entries => uptoBulkEntries entries + 1
  | .held _ => 1
def uptoBulkAll {H : Type} : List (DataW H) → Nat
  | [] => 0
  | d :: r => uptoBulk d + uptoBulkAll r
def uptoBulkEntries {H : Type} : List (Lit × DataW H) → Nat
  | [] => 0
  | x :: r => uptoBulkEntry x + uptoBulkEntries r
def uptoBulkEntry {H : Type} : Lit × DataW H → Nat
  | (.string bytes, d) => bytes.length + uptoBulk d + 1
  | (_, d) => uptoBulk d + 1
 end
def uptoSmall : (H : Type) → List (DataW H) → Bool := fun _ ds => decide (uptoBulkAll ds ≤ 1048576)
def OpenSpec.upto (s : _root_.Go.ChangeSpec) : _root_.Go.OpenSpec := { _root_.Go.OpenSpec.ofChange s with cond := some uptoSmall }

/-- 'laws.FnSwitchSums', WHERE WHAT IT READS IS OF BULK AT MOST 1048576: true; the input reads as it did. -/
def fnSwitchSumsUptoRow : OpenClaim := { program := "ytnibmcihklaigaa", sum := "48c22e32237aad284010eb762f6d74bc811ee32f7d12267c390702106d5b7b74", func := "loop.example/discretetomography/laws.FnSwitchSums", spec := "fnSwitchSums", unfollowed := true, recurses := true, apart := false, narrowed := true }
def FnSwitchSumsUptoSaid : Prop := fnSwitchSumsUptoRow.holds Try.pinned (OpenSpec.upto fnSwitchSumsSpec)

/-- 'laws.FnSwitchTwice', WHERE WHAT IT READS IS OF BULK AT MOST 1048576: true; the input reads as it did. -/
def fnSwitchTwiceUptoRow : OpenClaim := { program := "ytnibmcihklaigaa", sum := "48c22e32237aad284010eb762f6d74bc811ee32f7d12267c390702106d5b7b74", func := "loop.example/discretetomography/laws.FnSwitchTwice", spec := "fnSwitchTwice", apart := false, narrowed := true }
def FnSwitchTwiceUptoSaid : Prop := fnSwitchTwiceUptoRow.holds Try.pinned (OpenSpec.upto fnSwitchTwiceSpec)

/-- 'laws.FnSwitchCells', WHERE WHAT IT READS IS OF BULK AT MOST 1048576: true; the input reads as it did. -/
def fnSwitchCellsUptoRow : OpenClaim := { program := "ytnibmcihklaigaa", sum := "48c22e32237aad284010eb762f6d74bc811ee32f7d12267c390702106d5b7b74", func := "loop.example/discretetomography/laws.FnSwitchCells", spec := "fnSwitchCells", apart := false, narrowed := true }
def FnSwitchCellsUptoSaid : Prop := fnSwitchCellsUptoRow.holds Try.pinned (OpenSpec.upto fnSwitchCellsSpec)

/-- 'laws.FnSwitchTurn', WHERE WHAT IT READS IS OF BULK AT MOST 1048576: true; the input reads as it did. -/
def fnSwitchTurnUptoRow : OpenClaim := { program := "ytnibmcihklaigaa", sum := "48c22e32237aad284010eb762f6d74bc811ee32f7d12267c390702106d5b7b74", func := "loop.example/discretetomography/laws.FnSwitchTurn", spec := "fnSwitchTurn", apart := false, narrowed := true }
def FnSwitchTurnUptoSaid : Prop := fnSwitchTurnUptoRow.holds Try.pinned (OpenSpec.upto fnSwitchTurnSpec)

/-- 'laws.FnSwitchMirror', WHERE WHAT IT READS IS OF BULK AT MOST 1048576: true; the input reads as it did. -/
def fnSwitchMirrorUptoRow : OpenClaim := { program := "ytnibmcihklaigaa", sum := "48c22e32237aad284010eb762f6d74bc811ee32f7d12267c390702106d5b7b74", func := "loop.example/discretetomography/laws.FnSwitchMirror", spec := "fnSwitchMirror", apart := false, narrowed := true }
def FnSwitchMirrorUptoSaid : Prop := fnSwitchMirrorUptoRow.holds Try.pinned (OpenSpec.upto fnSwitchMirrorSpec)

/-- 'laws.FnSwitchList', WHERE WHAT IT READS IS OF BULK AT MOST 1048576: true; the input reads as it did. -/
def fnSwitchListUptoRow : OpenClaim := { program := "ytnibmcihklaigaa", sum := "48c22e32237aad284010eb762f6d74bc811ee32f7d12267c390702106d5b7b74", func := "loop.example/discretetomography/laws.FnSwitchList", spec := "fnSwitchList", unfollowed := true, recurses := true, apart := false, narrowed := true }
def FnSwitchListUptoSaid : Prop := fnSwitchListUptoRow.holds Try.pinned (OpenSpec.upto fnSwitchListSpec)

/-- 'laws.FnSwitchListAll', WHERE WHAT IT READS IS OF BULK AT MOST 1048576: true; the input reads as it did. -/
def fnSwitchListAllUptoRow : OpenClaim := { program := "ytnibmcihklaigaa", sum := "48c22e32237aad284010eb762f6d74bc811ee32f7d12267c390702106d5b7b74", func := "loop.example/discretetomography/laws.FnSwitchListAll", spec := "fnSwitchListAll", unfollowed := true, recurses := true, apart := false, narrowed := true }
def FnSwitchListAllUptoSaid : Prop := fnSwitchListAllUptoRow.holds Try.pinned (OpenSpec.upto fnSwitchListAllSpec)

/-- 'laws.FnSwitchMany', WHERE WHAT IT READS IS OF BULK AT MOST 1048576: true; the input reads as it did. -/
def fnSwitchManyUptoRow : OpenClaim := { program := "ytnibmcihklaigaa", sum := "48c22e32237aad284010eb762f6d74bc811ee32f7d12267c390702106d5b7b74", func := "loop.example/discretetomography/laws.FnSwitchMany", spec := "fnSwitchMany", unfollowed := true, recurses := true, apart := false, narrowed := true }
def FnSwitchManyUptoSaid : Prop := fnSwitchManyUptoRow.holds Try.pinned (OpenSpec.upto fnSwitchManySpec)

/-- 'laws.FnSwitchPairs', WHERE WHAT IT READS IS OF BULK AT MOST 1048576: true; the input reads as it did. -/
def fnSwitchPairsUptoRow : OpenClaim := { program := "ytnibmcihklaigaa", sum := "48c22e32237aad284010eb762f6d74bc811ee32f7d12267c390702106d5b7b74", func := "loop.example/discretetomography/laws.FnSwitchPairs", spec := "fnSwitchPairs", unfollowed := true, recurses := true, apart := false, narrowed := true }
def FnSwitchPairsUptoSaid : Prop := fnSwitchPairsUptoRow.holds Try.pinned (OpenSpec.upto fnSwitchPairsSpec)

/-- 'laws.FnSwitchFirst', WHERE WHAT IT READS IS OF BULK AT MOST 1048576: true; the input reads as it did. -/
def fnSwitchFirstUptoRow : OpenClaim := { program := "ytnibmcihklaigaa", sum := "48c22e32237aad284010eb762f6d74bc811ee32f7d12267c390702106d5b7b74", func := "loop.example/discretetomography/laws.FnSwitchFirst", spec := "fnSwitchFirst", unfollowed := true, recurses := true, apart := false, narrowed := true }
def FnSwitchFirstUptoSaid : Prop := fnSwitchFirstUptoRow.holds Try.pinned (OpenSpec.upto fnSwitchFirstSpec)

/-- 'laws.FnSwitchNested', WHERE WHAT IT READS IS OF BULK AT MOST 1048576: true; the input reads as it did. -/
def fnSwitchNestedUptoRow : OpenClaim := { program := "ytnibmcihklaigaa", sum := "48c22e32237aad284010eb762f6d74bc811ee32f7d12267c390702106d5b7b74", func := "loop.example/discretetomography/laws.FnSwitchNested", spec := "fnSwitchNested", unfollowed := true, recurses := true, apart := false, narrowed := true }
def FnSwitchNestedUptoSaid : Prop := fnSwitchNestedUptoRow.holds Try.pinned (OpenSpec.upto fnSwitchNestedSpec)

/-- 'laws.FnSwitchOrder', WHERE WHAT IT READS IS OF BULK AT MOST 1048576: true; the input reads as it did. -/
def fnSwitchOrderUptoRow : OpenClaim := { program := "ytnibmcihklaigaa", sum := "48c22e32237aad284010eb762f6d74bc811ee32f7d12267c390702106d5b7b74", func := "loop.example/discretetomography/laws.FnSwitchOrder", spec := "fnSwitchOrder", unfollowed := true, recurses := true, apart := false, narrowed := true }
def FnSwitchOrderUptoSaid : Prop := fnSwitchOrderUptoRow.holds Try.pinned (OpenSpec.upto fnSwitchOrderSpec)

/-- 'laws.FnSwitchLine', WHERE WHAT IT READS IS OF BULK AT MOST 1048576: true; the input reads as it did. -/
def fnSwitchLineUptoRow : OpenClaim := { program := "ytnibmcihklaigaa", sum := "48c22e32237aad284010eb762f6d74bc811ee32f7d12267c390702106d5b7b74", func := "loop.example/discretetomography/laws.FnSwitchLine", spec := "fnSwitchLine", unfollowed := true, recurses := true, apart := false, narrowed := true }
def FnSwitchLineUptoSaid : Prop := fnSwitchLineUptoRow.holds Try.pinned (OpenSpec.upto fnSwitchLineSpec)

/-- 'laws.FnSwitchRows', WHERE WHAT IT READS IS OF BULK AT MOST 1048576: true; the input reads as it did. -/
def fnSwitchRowsUptoRow : OpenClaim := { program := "ytnibmcihklaigaa", sum := "48c22e32237aad284010eb762f6d74bc811ee32f7d12267c390702106d5b7b74", func := "loop.example/discretetomography/laws.FnSwitchRows", spec := "fnSwitchRows", apart := false, narrowed := true }
def FnSwitchRowsUptoSaid : Prop := fnSwitchRowsUptoRow.holds Try.pinned (OpenSpec.upto fnSwitchRowsSpec)

/-- 'laws.FnExactSwitchOk', WHERE WHAT IT READS IS OF BULK AT MOST 1048576: true; the input reads as it did. -/
def fnExactSwitchOkUptoRow : OpenClaim := { program := "ytnibmcihklaigaa", sum := "48c22e32237aad284010eb762f6d74bc811ee32f7d12267c390702106d5b7b74", func := "loop.example/discretetomography/laws.FnExactSwitchOk", spec := "fnExactSwitchOk", apart := false, narrowed := true }
def FnExactSwitchOkUptoSaid : Prop := fnExactSwitchOkUptoRow.holds Try.pinned (OpenSpec.upto fnExactSwitchOkSpec)

/-- 'laws.FnExactSwitchDo', WHERE WHAT IT READS IS OF BULK AT MOST 1048576: true; the input reads as it did. -/
def fnExactSwitchDoUptoRow : OpenClaim := { program := "ytnibmcihklaigaa", sum := "48c22e32237aad284010eb762f6d74bc811ee32f7d12267c390702106d5b7b74", func := "loop.example/discretetomography/laws.FnExactSwitchDo", spec := "fnExactSwitchDo", apart := false, narrowed := true }
def FnExactSwitchDoUptoSaid : Prop := fnExactSwitchDoUptoRow.holds Try.pinned (OpenSpec.upto fnExactSwitchDoSpec)

/-- 'laws.FnExactSwitchList', WHERE WHAT IT READS IS OF BULK AT MOST 1048576: true; the input reads as it did. -/
def fnExactSwitchListUptoRow : OpenClaim := { program := "ytnibmcihklaigaa", sum := "48c22e32237aad284010eb762f6d74bc811ee32f7d12267c390702106d5b7b74", func := "loop.example/discretetomography/laws.FnExactSwitchList", spec := "fnExactSwitchList", unfollowed := true, recurses := true, apart := false, narrowed := true }
def FnExactSwitchListUptoSaid : Prop := fnExactSwitchListUptoRow.holds Try.pinned (OpenSpec.upto fnExactSwitchListSpec)

/-- 'laws.FnExactSwitchMany', WHERE WHAT IT READS IS OF BULK AT MOST 1048576: true; the input reads as it did. -/
def fnExactSwitchManyUptoRow : OpenClaim := { program := "ytnibmcihklaigaa", sum := "48c22e32237aad284010eb762f6d74bc811ee32f7d12267c390702106d5b7b74", func := "loop.example/discretetomography/laws.FnExactSwitchMany", spec := "fnExactSwitchMany", unfollowed := true, recurses := true, apart := false, narrowed := true }
def FnExactSwitchManyUptoSaid : Prop := fnExactSwitchManyUptoRow.holds Try.pinned (OpenSpec.upto fnExactSwitchManySpec)

/-- 'laws.FnExactSwitchFirst', WHERE WHAT IT READS IS OF BULK AT MOST 1048576: true; the input reads as it did. -/
def fnExactSwitchFirstUptoRow : OpenClaim := { program := "ytnibmcihklaigaa", sum := "48c22e32237aad284010eb762f6d74bc811ee32f7d12267c390702106d5b7b74", func := "loop.example/discretetomography/laws.FnExactSwitchFirst", spec := "fnExactSwitchFirst", unfollowed := true, recurses := true, apart := false, narrowed := true }
def FnExactSwitchFirstUptoSaid : Prop := fnExactSwitchFirstUptoRow.holds Try.pinned (OpenSpec.upto fnExactSwitchFirstSpec)

/-- 'laws.FnVariableSwitch', WHERE WHAT IT READS IS OF BULK AT MOST 1048576: true; the input reads as it did. -/
def fnVariableSwitchUptoRow : OpenClaim := { program := "ytnibmcihklaigaa", sum := "48c22e32237aad284010eb762f6d74bc811ee32f7d12267c390702106d5b7b74", func := "loop.example/discretetomography/laws.FnVariableSwitch", spec := "fnVariableSwitch", apart := false, narrowed := true }
def FnVariableSwitchUptoSaid : Prop := fnVariableSwitchUptoRow.holds Try.pinned (OpenSpec.upto fnVariableSwitchSpec)

/-- 'laws.FnVariableNone', WHERE WHAT IT READS IS OF BULK AT MOST 1048576: true; the input reads as it did. -/
def fnVariableNoneUptoRow : OpenClaim := { program := "ytnibmcihklaigaa", sum := "48c22e32237aad284010eb762f6d74bc811ee32f7d12267c390702106d5b7b74", func := "loop.example/discretetomography/laws.FnVariableNone", spec := "fnVariableNone", unfollowed := true, recurses := true, apart := false, narrowed := true }
def FnVariableNoneUptoSaid : Prop := fnVariableNoneUptoRow.holds Try.pinned (OpenSpec.upto fnVariableNoneSpec)

/-- 'laws.FnMany', WHERE WHAT IT READS IS OF BULK AT MOST 1048576: true; the input reads as it did. -/
def fnManyUptoRow : OpenClaim := { program := "ytnibmcihklaigaa", sum := "48c22e32237aad284010eb762f6d74bc811ee32f7d12267c390702106d5b7b74", func := "loop.example/discretetomography/laws.FnMany", spec := "fnMany", apart := false, narrowed := true }
def FnManyUptoSaid : Prop := fnManyUptoRow.holds Try.pinned (OpenSpec.upto fnManySpec)

/-- 'laws.FnManyOther', WHERE WHAT IT READS IS OF BULK AT MOST 1048576: true; the input reads as it did. -/
def fnManyOtherUptoRow : OpenClaim := { program := "ytnibmcihklaigaa", sum := "48c22e32237aad284010eb762f6d74bc811ee32f7d12267c390702106d5b7b74", func := "loop.example/discretetomography/laws.FnManyOther", spec := "fnManyOther", apart := false, narrowed := true }
def FnManyOtherUptoSaid : Prop := fnManyOtherUptoRow.holds Try.pinned (OpenSpec.upto fnManyOtherSpec)

/-- 'laws.FnTextMarks', WHERE WHAT IT READS IS OF BULK AT MOST 1048576: true; the input reads as it did. -/
def fnTextMarksUptoRow : OpenClaim := { program := "ytnibmcihklaigaa", sum := "48c22e32237aad284010eb762f6d74bc811ee32f7d12267c390702106d5b7b74", func := "loop.example/discretetomography/laws.FnTextMarks", spec := "fnTextMarks", inPlace := ["internal/abi.NoEscape"], apart := false, narrowed := true }
def FnTextMarksUptoSaid : Prop := fnTextMarksUptoRow.holds Try.pinned (OpenSpec.upto fnTextMarksSpec)

/-- 'laws.FnTurnSize', WHERE WHAT IT READS IS OF BULK AT MOST 1048576: true; the input reads as it did. -/
def fnTurnSizeUptoRow : OpenClaim := { program := "ytnibmcihklaigaa", sum := "48c22e32237aad284010eb762f6d74bc811ee32f7d12267c390702106d5b7b74", func := "loop.example/discretetomography/laws.FnTurnSize", spec := "fnTurnSize", apart := false, narrowed := true }
def FnTurnSizeUptoSaid : Prop := fnTurnSizeUptoRow.holds Try.pinned (OpenSpec.upto fnTurnSizeSpec)

end Rows
end Go.Proofs.Ytnibmcihklaigaa
