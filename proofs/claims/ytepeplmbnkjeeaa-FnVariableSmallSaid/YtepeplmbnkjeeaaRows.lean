/-
  No cell of these rows narrows 'for every input' (looked for: loops, veiled, ifaces, maps, wideKeys, modest, calm, conditions, laid).
  DERIVED. THE GIVEN ROWS OF THIS SEAT. 21 by the template 'for every input the law returns true; each argument reads behind the call as it read before'; 0 by the template 'total and deterministic' (their statements: YtepeplmbnkjeeaaTotals.lean).
  GIVEN WITH THE SEED: the statements are not yours to turn. If you find one false, say at which input.
  Laid BY PROGRAM, IN A SANDBOX (cutbox-rows.mjs): the forced cells as the released guide's own fill.sh prints them over the translation 9c4ccc987ebcab5b… (all of the seat's roots in one cut). By AI agents, Wed Nov 11 2026. No macro, syntax, notation, axiom, sorry.
-/
import Derived.Test.YtepeplmbnkjeeaaChecked
import GoSem.Claim
import GoSem.ClaimJoined
import GoSem.ClaimMapViews
import Derived.JoinedTies
import Derived.KernelRfl
namespace Go.Proofs.Ytepeplmbnkjeeaa
/- THE CELL 'sum', in the pinned program and in every row, IS THE sha256 OF THE DUMP (.gsa) THAT YtepeplmbnkjeeaaProg.lean LOADS. Nothing in Lean hashes anything: it is a label: what it is worth is what the hold of that sum in a sandbox is worth. -/
noncomputable def Try.pinned : Pinned := { name := "ytepeplmbnkjeeaa", sum := "9c4ccc987ebcab5b616dc84403e1c39fdafdb6d8806c134b3ecb9ea2d84b7d66", checked := Try.checked }
namespace Rows
def none {H : Type} : Left H := { results := [], args := [] }

/-- 'laws.FnReach': WHATEVER THE INPUT: true; the input reads as it did. -/
def fnReachSpec : ChangeSpec := { name := "fnReach", fn := fun _ => fun
  | [d] => { results := [.lit (.bool true)], args := [d] }
  | _ => none }
def fnReachRow : OpenClaim := { program := "ytepeplmbnkjeeaa", sum := "9c4ccc987ebcab5b616dc84403e1c39fdafdb6d8806c134b3ecb9ea2d84b7d66", func := "loop.example/discretetomography/laws.FnReach", spec := "fnReach", apart := false }
def FnReachSaid : Prop := fnReachRow.holds Try.pinned (OpenSpec.ofChange fnReachSpec)

/-- ITS FALSE NEIGHBOUR: 'it returns false'. Refute it at one input. -/
def fnReachWrong : ChangeSpec := { name := "fnReach", fn := fun _ => fun
  | [d] => { results := [.lit (.bool false)], args := [d] }
  | _ => none }
def FnReachWrongFalsely : Prop := fnReachRow.holds Try.pinned (OpenSpec.ofChange fnReachWrong)

/-- 'laws.FnReachSums': WHATEVER THE INPUT: true; the input reads as it did. -/
def fnReachSumsSpec : ChangeSpec := { name := "fnReachSums", fn := fun _ => fun
  | [d] => { results := [.lit (.bool true)], args := [d] }
  | _ => none }
def fnReachSumsRow : OpenClaim := { program := "ytepeplmbnkjeeaa", sum := "9c4ccc987ebcab5b616dc84403e1c39fdafdb6d8806c134b3ecb9ea2d84b7d66", func := "loop.example/discretetomography/laws.FnReachSums", spec := "fnReachSums", apart := false }
def FnReachSumsSaid : Prop := fnReachSumsRow.holds Try.pinned (OpenSpec.ofChange fnReachSumsSpec)

/-- ITS FALSE NEIGHBOUR: 'it returns false'. Refute it at one input. -/
def fnReachSumsWrong : ChangeSpec := { name := "fnReachSums", fn := fun _ => fun
  | [d] => { results := [.lit (.bool false)], args := [d] }
  | _ => none }
def FnReachSumsWrongFalsely : Prop := fnReachSumsRow.holds Try.pinned (OpenSpec.ofChange fnReachSumsWrong)

/-- 'laws.FnVariable': WHATEVER THE INPUT: true; the input reads as it did. -/
def fnVariableSpec : ChangeSpec := { name := "fnVariable", fn := fun _ => fun
  | [d] => { results := [.lit (.bool true)], args := [d] }
  | _ => none }
def fnVariableRow : OpenClaim := { program := "ytepeplmbnkjeeaa", sum := "9c4ccc987ebcab5b616dc84403e1c39fdafdb6d8806c134b3ecb9ea2d84b7d66", func := "loop.example/discretetomography/laws.FnVariable", spec := "fnVariable", unfollowed := true, recurses := true, apart := false }
def FnVariableSaid : Prop := fnVariableRow.holds Try.pinned (OpenSpec.ofChange fnVariableSpec)

/-- ITS FALSE NEIGHBOUR: 'it returns false'. Refute it at one input. -/
def fnVariableWrong : ChangeSpec := { name := "fnVariable", fn := fun _ => fun
  | [d] => { results := [.lit (.bool false)], args := [d] }
  | _ => none }
def FnVariableWrongFalsely : Prop := fnVariableRow.holds Try.pinned (OpenSpec.ofChange fnVariableWrong)

/-- 'laws.FnVariableSmall': WHATEVER THE INPUT: true; the input reads as it did. -/
def fnVariableSmallSpec : ChangeSpec := { name := "fnVariableSmall", fn := fun _ => fun
  | [d] => { results := [.lit (.bool true)], args := [d] }
  | _ => none }
def fnVariableSmallRow : OpenClaim := { program := "ytepeplmbnkjeeaa", sum := "9c4ccc987ebcab5b616dc84403e1c39fdafdb6d8806c134b3ecb9ea2d84b7d66", func := "loop.example/discretetomography/laws.FnVariableSmall", spec := "fnVariableSmall", unfollowed := true, recurses := true, apart := false }
def FnVariableSmallSaid : Prop := fnVariableSmallRow.holds Try.pinned (OpenSpec.ofChange fnVariableSmallSpec)

/-- ITS FALSE NEIGHBOUR: 'it returns false'. Refute it at one input. -/
def fnVariableSmallWrong : ChangeSpec := { name := "fnVariableSmall", fn := fun _ => fun
  | [d] => { results := [.lit (.bool false)], args := [d] }
  | _ => none }
def FnVariableSmallWrongFalsely : Prop := fnVariableSmallRow.holds Try.pinned (OpenSpec.ofChange fnVariableSmallWrong)

/-- 'laws.FnVariableSame': WHATEVER THE INPUT: true; the input reads as it did. -/
def fnVariableSameSpec : ChangeSpec := { name := "fnVariableSame", fn := fun _ => fun
  | [d] => { results := [.lit (.bool true)], args := [d] }
  | _ => none }
def fnVariableSameRow : OpenClaim := { program := "ytepeplmbnkjeeaa", sum := "9c4ccc987ebcab5b616dc84403e1c39fdafdb6d8806c134b3ecb9ea2d84b7d66", func := "loop.example/discretetomography/laws.FnVariableSame", spec := "fnVariableSame", unfollowed := true, recurses := true, apart := false }
def FnVariableSameSaid : Prop := fnVariableSameRow.holds Try.pinned (OpenSpec.ofChange fnVariableSameSpec)

/-- ITS FALSE NEIGHBOUR: 'it returns false'. Refute it at one input. -/
def fnVariableSameWrong : ChangeSpec := { name := "fnVariableSame", fn := fun _ => fun
  | [d] => { results := [.lit (.bool false)], args := [d] }
  | _ => none }
def FnVariableSameWrongFalsely : Prop := fnVariableSameRow.holds Try.pinned (OpenSpec.ofChange fnVariableSameWrong)

/-- 'laws.FnVariableSwitch': WHATEVER THE INPUT: true; the input reads as it did. -/
def fnVariableSwitchSpec : ChangeSpec := { name := "fnVariableSwitch", fn := fun _ => fun
  | [d] => { results := [.lit (.bool true)], args := [d] }
  | _ => none }
def fnVariableSwitchRow : OpenClaim := { program := "ytepeplmbnkjeeaa", sum := "9c4ccc987ebcab5b616dc84403e1c39fdafdb6d8806c134b3ecb9ea2d84b7d66", func := "loop.example/discretetomography/laws.FnVariableSwitch", spec := "fnVariableSwitch", apart := false }
def FnVariableSwitchSaid : Prop := fnVariableSwitchRow.holds Try.pinned (OpenSpec.ofChange fnVariableSwitchSpec)

/-- ITS FALSE NEIGHBOUR: 'it returns false'. Refute it at one input. -/
def fnVariableSwitchWrong : ChangeSpec := { name := "fnVariableSwitch", fn := fun _ => fun
  | [d] => { results := [.lit (.bool false)], args := [d] }
  | _ => none }
def FnVariableSwitchWrongFalsely : Prop := fnVariableSwitchRow.holds Try.pinned (OpenSpec.ofChange fnVariableSwitchWrong)

/-- 'laws.FnVariableReach': WHATEVER THE INPUT: true; the input reads as it did. -/
def fnVariableReachSpec : ChangeSpec := { name := "fnVariableReach", fn := fun _ => fun
  | [d] => { results := [.lit (.bool true)], args := [d] }
  | _ => none }
def fnVariableReachRow : OpenClaim := { program := "ytepeplmbnkjeeaa", sum := "9c4ccc987ebcab5b616dc84403e1c39fdafdb6d8806c134b3ecb9ea2d84b7d66", func := "loop.example/discretetomography/laws.FnVariableReach", spec := "fnVariableReach", apart := false }
def FnVariableReachSaid : Prop := fnVariableReachRow.holds Try.pinned (OpenSpec.ofChange fnVariableReachSpec)

/-- ITS FALSE NEIGHBOUR: 'it returns false'. Refute it at one input. -/
def fnVariableReachWrong : ChangeSpec := { name := "fnVariableReach", fn := fun _ => fun
  | [d] => { results := [.lit (.bool false)], args := [d] }
  | _ => none }
def FnVariableReachWrongFalsely : Prop := fnVariableReachRow.holds Try.pinned (OpenSpec.ofChange fnVariableReachWrong)

/-- 'laws.FnVariableTurn': WHATEVER THE INPUT: true; the input reads as it did. -/
def fnVariableTurnSpec : ChangeSpec := { name := "fnVariableTurn", fn := fun _ => fun
  | [d] => { results := [.lit (.bool true)], args := [d] }
  | _ => none }
def fnVariableTurnRow : OpenClaim := { program := "ytepeplmbnkjeeaa", sum := "9c4ccc987ebcab5b616dc84403e1c39fdafdb6d8806c134b3ecb9ea2d84b7d66", func := "loop.example/discretetomography/laws.FnVariableTurn", spec := "fnVariableTurn", apart := false }
def FnVariableTurnSaid : Prop := fnVariableTurnRow.holds Try.pinned (OpenSpec.ofChange fnVariableTurnSpec)

/-- ITS FALSE NEIGHBOUR: 'it returns false'. Refute it at one input. -/
def fnVariableTurnWrong : ChangeSpec := { name := "fnVariableTurn", fn := fun _ => fun
  | [d] => { results := [.lit (.bool false)], args := [d] }
  | _ => none }
def FnVariableTurnWrongFalsely : Prop := fnVariableTurnRow.holds Try.pinned (OpenSpec.ofChange fnVariableTurnWrong)

/-- 'laws.FnVariableNone': WHATEVER THE INPUT: true; the input reads as it did. -/
def fnVariableNoneSpec : ChangeSpec := { name := "fnVariableNone", fn := fun _ => fun
  | [d] => { results := [.lit (.bool true)], args := [d] }
  | _ => none }
def fnVariableNoneRow : OpenClaim := { program := "ytepeplmbnkjeeaa", sum := "9c4ccc987ebcab5b616dc84403e1c39fdafdb6d8806c134b3ecb9ea2d84b7d66", func := "loop.example/discretetomography/laws.FnVariableNone", spec := "fnVariableNone", unfollowed := true, recurses := true, apart := false }
def FnVariableNoneSaid : Prop := fnVariableNoneRow.holds Try.pinned (OpenSpec.ofChange fnVariableNoneSpec)

/-- ITS FALSE NEIGHBOUR: 'it returns false'. Refute it at one input. -/
def fnVariableNoneWrong : ChangeSpec := { name := "fnVariableNone", fn := fun _ => fun
  | [d] => { results := [.lit (.bool false)], args := [d] }
  | _ => none }
def FnVariableNoneWrongFalsely : Prop := fnVariableNoneRow.holds Try.pinned (OpenSpec.ofChange fnVariableNoneWrong)

/-- 'laws.FnVariableCell': WHATEVER THE INPUT: true; the input reads as it did. -/
def fnVariableCellSpec : ChangeSpec := { name := "fnVariableCell", fn := fun _ => fun
  | [d1, d2] => { results := [.lit (.bool true)], args := [d1, d2] }
  | _ => none }
def fnVariableCellRow : OpenClaim := { program := "ytepeplmbnkjeeaa", sum := "9c4ccc987ebcab5b616dc84403e1c39fdafdb6d8806c134b3ecb9ea2d84b7d66", func := "loop.example/discretetomography/laws.FnVariableCell", spec := "fnVariableCell", apart := false }
def FnVariableCellSaid : Prop := fnVariableCellRow.holds Try.pinned (OpenSpec.ofChange fnVariableCellSpec)

/-- ITS FALSE NEIGHBOUR: 'it returns false'. Refute it at one input. -/
def fnVariableCellWrong : ChangeSpec := { name := "fnVariableCell", fn := fun _ => fun
  | [d1, d2] => { results := [.lit (.bool false)], args := [d1, d2] }
  | _ => none }
def FnVariableCellWrongFalsely : Prop := fnVariableCellRow.holds Try.pinned (OpenSpec.ofChange fnVariableCellWrong)

/-- 'laws.FnFlip': WHATEVER THE INPUT: true; the input reads as it did. -/
def fnFlipSpec : ChangeSpec := { name := "fnFlip", fn := fun _ => fun
  | [d] => { results := [.lit (.bool true)], args := [d] }
  | _ => none }
def fnFlipRow : OpenClaim := { program := "ytepeplmbnkjeeaa", sum := "9c4ccc987ebcab5b616dc84403e1c39fdafdb6d8806c134b3ecb9ea2d84b7d66", func := "loop.example/discretetomography/laws.FnFlip", spec := "fnFlip", apart := false }
def FnFlipSaid : Prop := fnFlipRow.holds Try.pinned (OpenSpec.ofChange fnFlipSpec)

/-- ITS FALSE NEIGHBOUR: 'it returns false'. Refute it at one input. -/
def fnFlipWrong : ChangeSpec := { name := "fnFlip", fn := fun _ => fun
  | [d] => { results := [.lit (.bool false)], args := [d] }
  | _ => none }
def FnFlipWrongFalsely : Prop := fnFlipRow.holds Try.pinned (OpenSpec.ofChange fnFlipWrong)

/-- 'laws.FnFlipPath': WHATEVER THE INPUT: true; the input reads as it did. -/
def fnFlipPathSpec : ChangeSpec := { name := "fnFlipPath", fn := fun _ => fun
  | [d] => { results := [.lit (.bool true)], args := [d] }
  | _ => none }
def fnFlipPathRow : OpenClaim := { program := "ytepeplmbnkjeeaa", sum := "9c4ccc987ebcab5b616dc84403e1c39fdafdb6d8806c134b3ecb9ea2d84b7d66", func := "loop.example/discretetomography/laws.FnFlipPath", spec := "fnFlipPath", unfollowed := true, recurses := true, apart := false }
def FnFlipPathSaid : Prop := fnFlipPathRow.holds Try.pinned (OpenSpec.ofChange fnFlipPathSpec)

/-- ITS FALSE NEIGHBOUR: 'it returns false'. Refute it at one input. -/
def fnFlipPathWrong : ChangeSpec := { name := "fnFlipPath", fn := fun _ => fun
  | [d] => { results := [.lit (.bool false)], args := [d] }
  | _ => none }
def FnFlipPathWrongFalsely : Prop := fnFlipPathRow.holds Try.pinned (OpenSpec.ofChange fnFlipPathWrong)

/-- 'laws.FnReachEach': WHATEVER THE INPUT: true; the input reads as it did. -/
def fnReachEachSpec : ChangeSpec := { name := "fnReachEach", fn := fun _ => fun
  | [d1, d2] => { results := [.lit (.bool true)], args := [d1, d2] }
  | _ => none }
def fnReachEachRow : OpenClaim := { program := "ytepeplmbnkjeeaa", sum := "9c4ccc987ebcab5b616dc84403e1c39fdafdb6d8806c134b3ecb9ea2d84b7d66", func := "loop.example/discretetomography/laws.FnReachEach", spec := "fnReachEach", apart := false }
def FnReachEachSaid : Prop := fnReachEachRow.holds Try.pinned (OpenSpec.ofChange fnReachEachSpec)

/-- ITS FALSE NEIGHBOUR: 'it returns false'. Refute it at one input. -/
def fnReachEachWrong : ChangeSpec := { name := "fnReachEach", fn := fun _ => fun
  | [d1, d2] => { results := [.lit (.bool false)], args := [d1, d2] }
  | _ => none }
def FnReachEachWrongFalsely : Prop := fnReachEachRow.holds Try.pinned (OpenSpec.ofChange fnReachEachWrong)

/-- 'laws.FnVariableFull': WHATEVER THE INPUT: true; the input reads as it did. -/
def fnVariableFullSpec : ChangeSpec := { name := "fnVariableFull", fn := fun _ => fun
  | [d] => { results := [.lit (.bool true)], args := [d] }
  | _ => none }
def fnVariableFullRow : OpenClaim := { program := "ytepeplmbnkjeeaa", sum := "9c4ccc987ebcab5b616dc84403e1c39fdafdb6d8806c134b3ecb9ea2d84b7d66", func := "loop.example/discretetomography/laws.FnVariableFull", spec := "fnVariableFull", unfollowed := true, recurses := true, apart := false }
def FnVariableFullSaid : Prop := fnVariableFullRow.holds Try.pinned (OpenSpec.ofChange fnVariableFullSpec)

/-- ITS FALSE NEIGHBOUR: 'it returns false'. Refute it at one input. -/
def fnVariableFullWrong : ChangeSpec := { name := "fnVariableFull", fn := fun _ => fun
  | [d] => { results := [.lit (.bool false)], args := [d] }
  | _ => none }
def FnVariableFullWrongFalsely : Prop := fnVariableFullRow.holds Try.pinned (OpenSpec.ofChange fnVariableFullWrong)

/-- 'laws.FnFlipBack': WHATEVER THE INPUT: true; the input reads as it did. -/
def fnFlipBackSpec : ChangeSpec := { name := "fnFlipBack", fn := fun _ => fun
  | [d] => { results := [.lit (.bool true)], args := [d] }
  | _ => none }
def fnFlipBackRow : OpenClaim := { program := "ytepeplmbnkjeeaa", sum := "9c4ccc987ebcab5b616dc84403e1c39fdafdb6d8806c134b3ecb9ea2d84b7d66", func := "loop.example/discretetomography/laws.FnFlipBack", spec := "fnFlipBack", unfollowed := true, recurses := true, apart := false }
def FnFlipBackSaid : Prop := fnFlipBackRow.holds Try.pinned (OpenSpec.ofChange fnFlipBackSpec)

/-- ITS FALSE NEIGHBOUR: 'it returns false'. Refute it at one input. -/
def fnFlipBackWrong : ChangeSpec := { name := "fnFlipBack", fn := fun _ => fun
  | [d] => { results := [.lit (.bool false)], args := [d] }
  | _ => none }
def FnFlipBackWrongFalsely : Prop := fnFlipBackRow.holds Try.pinned (OpenSpec.ofChange fnFlipBackWrong)

/-- 'laws.FnReachOther': WHATEVER THE INPUT: true; the input reads as it did. -/
def fnReachOtherSpec : ChangeSpec := { name := "fnReachOther", fn := fun _ => fun
  | [d] => { results := [.lit (.bool true)], args := [d] }
  | _ => none }
def fnReachOtherRow : OpenClaim := { program := "ytepeplmbnkjeeaa", sum := "9c4ccc987ebcab5b616dc84403e1c39fdafdb6d8806c134b3ecb9ea2d84b7d66", func := "loop.example/discretetomography/laws.FnReachOther", spec := "fnReachOther", apart := false }
def FnReachOtherSaid : Prop := fnReachOtherRow.holds Try.pinned (OpenSpec.ofChange fnReachOtherSpec)

/-- ITS FALSE NEIGHBOUR: 'it returns false'. Refute it at one input. -/
def fnReachOtherWrong : ChangeSpec := { name := "fnReachOther", fn := fun _ => fun
  | [d] => { results := [.lit (.bool false)], args := [d] }
  | _ => none }
def FnReachOtherWrongFalsely : Prop := fnReachOtherRow.holds Try.pinned (OpenSpec.ofChange fnReachOtherWrong)

/-- 'laws.FnExactSwitchRun': WHATEVER THE INPUT: true; the input reads as it did. -/
def fnExactSwitchRunSpec : ChangeSpec := { name := "fnExactSwitchRun", fn := fun _ => fun
  | [d1, d2] => { results := [.lit (.bool true)], args := [d1, d2] }
  | _ => none }
def fnExactSwitchRunRow : OpenClaim := { program := "ytepeplmbnkjeeaa", sum := "9c4ccc987ebcab5b616dc84403e1c39fdafdb6d8806c134b3ecb9ea2d84b7d66", func := "loop.example/discretetomography/laws.FnExactSwitchRun", spec := "fnExactSwitchRun", apart := false }
def FnExactSwitchRunSaid : Prop := fnExactSwitchRunRow.holds Try.pinned (OpenSpec.ofChange fnExactSwitchRunSpec)

/-- ITS FALSE NEIGHBOUR: 'it returns false'. Refute it at one input. -/
def fnExactSwitchRunWrong : ChangeSpec := { name := "fnExactSwitchRun", fn := fun _ => fun
  | [d1, d2] => { results := [.lit (.bool false)], args := [d1, d2] }
  | _ => none }
def FnExactSwitchRunWrongFalsely : Prop := fnExactSwitchRunRow.holds Try.pinned (OpenSpec.ofChange fnExactSwitchRunWrong)

/-- 'laws.FnExactCellReach': WHATEVER THE INPUT: true; the input reads as it did. -/
def fnExactCellReachSpec : ChangeSpec := { name := "fnExactCellReach", fn := fun _ => fun
  | [d1, d2] => { results := [.lit (.bool true)], args := [d1, d2] }
  | _ => none }
def fnExactCellReachRow : OpenClaim := { program := "ytepeplmbnkjeeaa", sum := "9c4ccc987ebcab5b616dc84403e1c39fdafdb6d8806c134b3ecb9ea2d84b7d66", func := "loop.example/discretetomography/laws.FnExactCellReach", spec := "fnExactCellReach", apart := false }
def FnExactCellReachSaid : Prop := fnExactCellReachRow.holds Try.pinned (OpenSpec.ofChange fnExactCellReachSpec)

/-- ITS FALSE NEIGHBOUR: 'it returns false'. Refute it at one input. -/
def fnExactCellReachWrong : ChangeSpec := { name := "fnExactCellReach", fn := fun _ => fun
  | [d1, d2] => { results := [.lit (.bool false)], args := [d1, d2] }
  | _ => none }
def FnExactCellReachWrongFalsely : Prop := fnExactCellReachRow.holds Try.pinned (OpenSpec.ofChange fnExactCellReachWrong)

/-- 'laws.FnExactCellVariable': WHATEVER THE INPUT: true; the input reads as it did. -/
def fnExactCellVariableSpec : ChangeSpec := { name := "fnExactCellVariable", fn := fun _ => fun
  | [d1, d2, d3] => { results := [.lit (.bool true)], args := [d1, d2, d3] }
  | _ => none }
def fnExactCellVariableRow : OpenClaim := { program := "ytepeplmbnkjeeaa", sum := "9c4ccc987ebcab5b616dc84403e1c39fdafdb6d8806c134b3ecb9ea2d84b7d66", func := "loop.example/discretetomography/laws.FnExactCellVariable", spec := "fnExactCellVariable", apart := false }
def FnExactCellVariableSaid : Prop := fnExactCellVariableRow.holds Try.pinned (OpenSpec.ofChange fnExactCellVariableSpec)

/-- ITS FALSE NEIGHBOUR: 'it returns false'. Refute it at one input. -/
def fnExactCellVariableWrong : ChangeSpec := { name := "fnExactCellVariable", fn := fun _ => fun
  | [d1, d2, d3] => { results := [.lit (.bool false)], args := [d1, d2, d3] }
  | _ => none }
def FnExactCellVariableWrongFalsely : Prop := fnExactCellVariableRow.holds Try.pinned (OpenSpec.ofChange fnExactCellVariableWrong)

/-- 'laws.FnExactCellsVariable': WHATEVER THE INPUT: true; the input reads as it did. -/
def fnExactCellsVariableSpec : ChangeSpec := { name := "fnExactCellsVariable", fn := fun _ => fun
  | [d] => { results := [.lit (.bool true)], args := [d] }
  | _ => none }
def fnExactCellsVariableRow : OpenClaim := { program := "ytepeplmbnkjeeaa", sum := "9c4ccc987ebcab5b616dc84403e1c39fdafdb6d8806c134b3ecb9ea2d84b7d66", func := "loop.example/discretetomography/laws.FnExactCellsVariable", spec := "fnExactCellsVariable", apart := false }
def FnExactCellsVariableSaid : Prop := fnExactCellsVariableRow.holds Try.pinned (OpenSpec.ofChange fnExactCellsVariableSpec)

/-- ITS FALSE NEIGHBOUR: 'it returns false'. Refute it at one input. -/
def fnExactCellsVariableWrong : ChangeSpec := { name := "fnExactCellsVariable", fn := fun _ => fun
  | [d] => { results := [.lit (.bool false)], args := [d] }
  | _ => none }
def FnExactCellsVariableWrongFalsely : Prop := fnExactCellsVariableRow.holds Try.pinned (OpenSpec.ofChange fnExactCellsVariableWrong)

/-- 'laws.FnExactCellFlip': WHATEVER THE INPUT: true; the input reads as it did. -/
def fnExactCellFlipSpec : ChangeSpec := { name := "fnExactCellFlip", fn := fun _ => fun
  | [d1, d2, d3] => { results := [.lit (.bool true)], args := [d1, d2, d3] }
  | _ => none }
def fnExactCellFlipRow : OpenClaim := { program := "ytepeplmbnkjeeaa", sum := "9c4ccc987ebcab5b616dc84403e1c39fdafdb6d8806c134b3ecb9ea2d84b7d66", func := "loop.example/discretetomography/laws.FnExactCellFlip", spec := "fnExactCellFlip", apart := false }
def FnExactCellFlipSaid : Prop := fnExactCellFlipRow.holds Try.pinned (OpenSpec.ofChange fnExactCellFlipSpec)

/-- ITS FALSE NEIGHBOUR: 'it returns false'. Refute it at one input. -/
def fnExactCellFlipWrong : ChangeSpec := { name := "fnExactCellFlip", fn := fun _ => fun
  | [d1, d2, d3] => { results := [.lit (.bool false)], args := [d1, d2, d3] }
  | _ => none }
def FnExactCellFlipWrongFalsely : Prop := fnExactCellFlipRow.holds Try.pinned (OpenSpec.ofChange fnExactCellFlipWrong)

/- THE SECOND FORM. 'bulk': how many values and letters a reading holds, each counted each time it is reached (what is shared counts as often as it is met; a slice's spare places count too). A statement '..UptoSaid' is the law's where the arguments, and the package variables that the reading takes, are together of bulk at most 1048576: NARROWER than '..Said'. Prove '..Said' where nothing that the law and all that it calls make is longer than what came in: it says more and counts as full. Else prove '..UptoSaid'. A law counts once. -/
mutual
def uptoBulk {H : Type} : DataW H → Nat
  | .lit (.string bytes) => bytes.length + 1
  | .lit _ => 1
  | .nil => 1
  | .ptr d => uptoBulk d + 1
  | .slice elems spare => uptoBulkAll elems + uptoBulkAll spare + 1
  | .agg parts => uptoBulkAll parts + 1
  | .iface _ d => uptoBulk d + 1
  | .map entries => uptoBulkEntries entries + 1
  | .held _ => 1
def uptoBulkAll {H : Type} : List (DataW H) → Nat
  | [] => 0
  | d :: r => uptoBulk d + uptoBulkAll r
def uptoBulkEntries {H : Type} : List (Lit × DataW H) → Nat
  | [] => 0
  | x :: r => uptoBulkEntry x + uptoBulkEntries r
def uptoBulkEntry {H : Type} : Lit × DataW H → Nat
  | (.string bytes, d) => bytes.length + uptoBulk d + 1
  | (_, d) => uptoBulk d + 1
 end
def uptoSmall : (H : Type) → List (DataW H) → Bool := fun _ ds => decide (uptoBulkAll ds ≤ 1048576)
def OpenSpec.upto (s : _root_.Go.ChangeSpec) : _root_.Go.OpenSpec := { _root_.Go.OpenSpec.ofChange s with cond := some uptoSmall }

/-- 'laws.FnReach', WHERE WHAT IT READS IS OF BULK AT MOST 1048576: true; the input reads as it did. -/
def fnReachUptoRow : OpenClaim := { program := "ytepeplmbnkjeeaa", sum := "9c4ccc987ebcab5b616dc84403e1c39fdafdb6d8806c134b3ecb9ea2d84b7d66", func := "loop.example/discretetomography/laws.FnReach", spec := "fnReach", apart := false, narrowed := true }
def FnReachUptoSaid : Prop := fnReachUptoRow.holds Try.pinned (OpenSpec.upto fnReachSpec)

/-- 'laws.FnReachSums', WHERE WHAT IT READS IS OF BULK AT MOST 1048576: true; the input reads as it did. -/
def fnReachSumsUptoRow : OpenClaim := { program := "ytepeplmbnkjeeaa", sum := "9c4ccc987ebcab5b616dc84403e1c39fdafdb6d8806c134b3ecb9ea2d84b7d66", func := "loop.example/discretetomography/laws.FnReachSums", spec := "fnReachSums", apart := false, narrowed := true }
def FnReachSumsUptoSaid : Prop := fnReachSumsUptoRow.holds Try.pinned (OpenSpec.upto fnReachSumsSpec)

/-- 'laws.FnVariable', WHERE WHAT IT READS IS OF BULK AT MOST 1048576: true; the input reads as it did. -/
def fnVariableUptoRow : OpenClaim := { program := "ytepeplmbnkjeeaa", sum := "9c4ccc987ebcab5b616dc84403e1c39fdafdb6d8806c134b3ecb9ea2d84b7d66", func := "loop.example/discretetomography/laws.FnVariable", spec := "fnVariable", unfollowed := true, recurses := true, apart := false, narrowed := true }
def FnVariableUptoSaid : Prop := fnVariableUptoRow.holds Try.pinned (OpenSpec.upto fnVariableSpec)

/-- 'laws.FnVariableSmall', WHERE WHAT IT READS IS OF BULK AT MOST 1048576: true; the input reads as it did. -/
def fnVariableSmallUptoRow : OpenClaim := { program := "ytepeplmbnkjeeaa", sum := "9c4ccc987ebcab5b616dc84403e1c39fdafdb6d8806c134b3ecb9ea2d84b7d66", func := "loop.example/discretetomography/laws.FnVariableSmall", spec := "fnVariableSmall", unfollowed := true, recurses := true, apart := false, narrowed := true }
def FnVariableSmallUptoSaid : Prop := fnVariableSmallUptoRow.holds Try.pinned (OpenSpec.upto fnVariableSmallSpec)

/-- 'laws.FnVariableSame', WHERE WHAT IT READS IS OF BULK AT MOST 1048576: true; the input reads as it did. -/
def fnVariableSameUptoRow : OpenClaim := { program := "ytepeplmbnkjeeaa", sum := "9c4ccc987ebcab5b616dc84403e1c39fdafdb6d8806c134b3ecb9ea2d84b7d66", func := "loop.example/discretetomography/laws.FnVariableSame", spec := "fnVariableSame", unfollowed := true, recurses := true, apart := false, narrowed := true }
def FnVariableSameUptoSaid : Prop := fnVariableSameUptoRow.holds Try.pinned (OpenSpec.upto fnVariableSameSpec)

/-- 'laws.FnVariableSwitch', WHERE WHAT IT READS IS OF BULK AT MOST 1048576: true; the input reads as it did. -/
def fnVariableSwitchUptoRow : OpenClaim := { program := "ytepeplmbnkjeeaa", sum := "9c4ccc987ebcab5b616dc84403e1c39fdafdb6d8806c134b3ecb9ea2d84b7d66", func := "loop.example/discretetomography/laws.FnVariableSwitch", spec := "fnVariableSwitch", apart := false, narrowed := true }
def FnVariableSwitchUptoSaid : Prop := fnVariableSwitchUptoRow.holds Try.pinned (OpenSpec.upto fnVariableSwitchSpec)

/-- 'laws.FnVariableReach', WHERE WHAT IT READS IS OF BULK AT MOST 1048576: true; the input reads as it did. -/
def fnVariableReachUptoRow : OpenClaim := { program := "ytepeplmbnkjeeaa", sum := "9c4ccc987ebcab5b616dc84403e1c39fdafdb6d8806c134b3ecb9ea2d84b7d66", func := "loop.example/discretetomography/laws.FnVariableReach", spec := "fnVariableReach", apart := false, narrowed := true }
def FnVariableReachUptoSaid : Prop := fnVariableReachUptoRow.holds Try.pinned (OpenSpec.upto fnVariableReachSpec)

/-- 'laws.FnVariableTurn', WHERE WHAT IT READS IS OF BULK AT MOST 1048576: true; the input reads as it did. -/
def fnVariableTurnUptoRow : OpenClaim := { program := "ytepeplmbnkjeeaa", sum := "9c4ccc987ebcab5b616dc84403e1c39fdafdb6d8806c134b3ecb9ea2d84b7d66", func := "loop.example/discretetomography/laws.FnVariableTurn", spec := "fnVariableTurn", apart := false, narrowed := true }
def FnVariableTurnUptoSaid : Prop := fnVariableTurnUptoRow.holds Try.pinned (OpenSpec.upto fnVariableTurnSpec)

/-- 'laws.FnVariableNone', WHERE WHAT IT READS IS OF BULK AT MOST 1048576: true; the input reads as it did. -/
def fnVariableNoneUptoRow : OpenClaim := { program := "ytepeplmbnkjeeaa", sum := "9c4ccc987ebcab5b616dc84403e1c39fdafdb6d8806c134b3ecb9ea2d84b7d66", func := "loop.example/discretetomography/laws.FnVariableNone", spec := "fnVariableNone", unfollowed := true, recurses := true, apart := false, narrowed := true }
def FnVariableNoneUptoSaid : Prop := fnVariableNoneUptoRow.holds Try.pinned (OpenSpec.upto fnVariableNoneSpec)

/-- 'laws.FnVariableCell', WHERE WHAT IT READS IS OF BULK AT MOST 1048576: true; the input reads as it did. -/
def fnVariableCellUptoRow : OpenClaim := { program := "ytepeplmbnkjeeaa", sum := "9c4ccc987ebcab5b616dc84403e1c39fdafdb6d8806c134b3ecb9ea2d84b7d66", func := "loop.example/discretetomography/laws.FnVariableCell", spec := "fnVariableCell", apart := false, narrowed := true }
def FnVariableCellUptoSaid : Prop := fnVariableCellUptoRow.holds Try.pinned (OpenSpec.upto fnVariableCellSpec)

/-- 'laws.FnFlip', WHERE WHAT IT READS IS OF BULK AT MOST 1048576: true; the input reads as it did. -/
def fnFlipUptoRow : OpenClaim := { program := "ytepeplmbnkjeeaa", sum := "9c4ccc987ebcab5b616dc84403e1c39fdafdb6d8806c134b3ecb9ea2d84b7d66", func := "loop.example/discretetomography/laws.FnFlip", spec := "fnFlip", apart := false, narrowed := true }
def FnFlipUptoSaid : Prop := fnFlipUptoRow.holds Try.pinned (OpenSpec.upto fnFlipSpec)

/-- 'laws.FnFlipPath', WHERE WHAT IT READS IS OF BULK AT MOST 1048576: true; the input reads as it did. -/
def fnFlipPathUptoRow : OpenClaim := { program := "ytepeplmbnkjeeaa", sum := "9c4ccc987ebcab5b616dc84403e1c39fdafdb6d8806c134b3ecb9ea2d84b7d66", func := "loop.example/discretetomography/laws.FnFlipPath", spec := "fnFlipPath", unfollowed := true, recurses := true, apart := false, narrowed := true }
def FnFlipPathUptoSaid : Prop := fnFlipPathUptoRow.holds Try.pinned (OpenSpec.upto fnFlipPathSpec)

/-- 'laws.FnReachEach', WHERE WHAT IT READS IS OF BULK AT MOST 1048576: true; the input reads as it did. -/
def fnReachEachUptoRow : OpenClaim := { program := "ytepeplmbnkjeeaa", sum := "9c4ccc987ebcab5b616dc84403e1c39fdafdb6d8806c134b3ecb9ea2d84b7d66", func := "loop.example/discretetomography/laws.FnReachEach", spec := "fnReachEach", apart := false, narrowed := true }
def FnReachEachUptoSaid : Prop := fnReachEachUptoRow.holds Try.pinned (OpenSpec.upto fnReachEachSpec)

/-- 'laws.FnVariableFull', WHERE WHAT IT READS IS OF BULK AT MOST 1048576: true; the input reads as it did. -/
def fnVariableFullUptoRow : OpenClaim := { program := "ytepeplmbnkjeeaa", sum := "9c4ccc987ebcab5b616dc84403e1c39fdafdb6d8806c134b3ecb9ea2d84b7d66", func := "loop.example/discretetomography/laws.FnVariableFull", spec := "fnVariableFull", unfollowed := true, recurses := true, apart := false, narrowed := true }
def FnVariableFullUptoSaid : Prop := fnVariableFullUptoRow.holds Try.pinned (OpenSpec.upto fnVariableFullSpec)

/-- 'laws.FnFlipBack', WHERE WHAT IT READS IS OF BULK AT MOST 1048576: true; the input reads as it did. -/
def fnFlipBackUptoRow : OpenClaim := { program := "ytepeplmbnkjeeaa", sum := "9c4ccc987ebcab5b616dc84403e1c39fdafdb6d8806c134b3ecb9ea2d84b7d66", func := "loop.example/discretetomography/laws.FnFlipBack", spec := "fnFlipBack", unfollowed := true, recurses := true, apart := false, narrowed := true }
def FnFlipBackUptoSaid : Prop := fnFlipBackUptoRow.holds Try.pinned (OpenSpec.upto fnFlipBackSpec)

/-- 'laws.FnReachOther', WHERE WHAT IT READS IS OF BULK AT MOST 1048576: true; the input reads as it did. -/
def fnReachOtherUptoRow : OpenClaim := { program := "ytepeplmbnkjeeaa", sum := "9c4ccc987ebcab5b616dc84403e1c39fdafdb6d8806c134b3ecb9ea2d84b7d66", func := "loop.example/discretetomography/laws.FnReachOther", spec := "fnReachOther", apart := false, narrowed := true }
def FnReachOtherUptoSaid : Prop := fnReachOtherUptoRow.holds Try.pinned (OpenSpec.upto fnReachOtherSpec)

/-- 'laws.FnExactSwitchRun', WHERE WHAT IT READS IS OF BULK AT MOST 1048576: true; the input reads as it did. -/
def fnExactSwitchRunUptoRow : OpenClaim := { program := "ytepeplmbnkjeeaa", sum := "9c4ccc987ebcab5b616dc84403e1c39fdafdb6d8806c134b3ecb9ea2d84b7d66", func := "loop.example/discretetomography/laws.FnExactSwitchRun", spec := "fnExactSwitchRun", apart := false, narrowed := true }
def FnExactSwitchRunUptoSaid : Prop := fnExactSwitchRunUptoRow.holds Try.pinned (OpenSpec.upto fnExactSwitchRunSpec)

/-- 'laws.FnExactCellReach', WHERE WHAT IT READS IS OF BULK AT MOST 1048576: true; the input reads as it did. -/
def fnExactCellReachUptoRow : OpenClaim := { program := "ytepeplmbnkjeeaa", sum := "9c4ccc987ebcab5b616dc84403e1c39fdafdb6d8806c134b3ecb9ea2d84b7d66", func := "loop.example/discretetomography/laws.FnExactCellReach", spec := "fnExactCellReach", apart := false, narrowed := true }
def FnExactCellReachUptoSaid : Prop := fnExactCellReachUptoRow.holds Try.pinned (OpenSpec.upto fnExactCellReachSpec)

/-- 'laws.FnExactCellVariable', WHERE WHAT IT READS IS OF BULK AT MOST 1048576: true; the input reads as it did. -/
def fnExactCellVariableUptoRow : OpenClaim := { program := "ytepeplmbnkjeeaa", sum := "9c4ccc987ebcab5b616dc84403e1c39fdafdb6d8806c134b3ecb9ea2d84b7d66", func := "loop.example/discretetomography/laws.FnExactCellVariable", spec := "fnExactCellVariable", apart := false, narrowed := true }
def FnExactCellVariableUptoSaid : Prop := fnExactCellVariableUptoRow.holds Try.pinned (OpenSpec.upto fnExactCellVariableSpec)

/-- 'laws.FnExactCellsVariable', WHERE WHAT IT READS IS OF BULK AT MOST 1048576: true; the input reads as it did. -/
def fnExactCellsVariableUptoRow : OpenClaim := { program := "ytepeplmbnkjeeaa", sum := "9c4ccc987ebcab5b616dc84403e1c39fdafdb6d8806c134b3ecb9ea2d84b7d66", func := "loop.example/discretetomography/laws.FnExactCellsVariable", spec := "fnExactCellsVariable", apart := false, narrowed := true }
def FnExactCellsVariableUptoSaid : Prop := fnExactCellsVariableUptoRow.holds Try.pinned (OpenSpec.upto fnExactCellsVariableSpec)

/-- 'laws.FnExactCellFlip', WHERE WHAT IT READS IS OF BULK AT MOST 1048576: true; the input reads as it did. -/
def fnExactCellFlipUptoRow : OpenClaim := { program := "ytepeplmbnkjeeaa", sum := "9c4ccc987ebcab5b616dc84403e1c39fdafdb6d8806c134b3ecb9ea2d84b7d66", func := "loop.example/discretetomography/laws.FnExactCellFlip", spec := "fnExactCellFlip", apart := false, narrowed := true }
def FnExactCellFlipUptoSaid : Prop := fnExactCellFlipUptoRow.holds Try.pinned (OpenSpec.upto fnExactCellFlipSpec)

end Rows
end Go.Proofs.Ytepeplmbnkjeeaa
