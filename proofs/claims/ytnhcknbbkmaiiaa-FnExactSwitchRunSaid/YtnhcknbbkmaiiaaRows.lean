/-
  No cell of these rows narrows 'for every input' (looked for: loops, veiled, ifaces, maps, wideKeys, modest, calm, conditions, laid).
  DERIVED. THE GIVEN ROWS OF THIS SEAT. 18 by the template 'for every input the law returns true; each argument reads behind the call as it read before'; 0 by the template 'total and deterministic' (their statements: YtnhcknbbkmaiiaaTotals.lean).
  GIVEN WITH THE SEED: the statements are not yours to turn. If you find one false, say at which input.
  Laid BY PROGRAM, IN A SANDBOX (cutbox-rows.mjs): the forced cells as the released guide's own fill.sh prints them over the translation 6bba5676c952fb51… (all of the seat's roots in one cut). By AI agents, Wed Nov 11 2026. No macro, syntax, notation, axiom, sorry.
-/
import Derived.Test.YtnhcknbbkmaiiaaChecked
import GoSem.Claim
import GoSem.ClaimJoined
import GoSem.ClaimMapViews
import Derived.JoinedTies
import Derived.KernelRfl
namespace Go.Proofs.Ytnhcknbbkmaiiaa
/- THE CELL 'sum', in the pinned program and in every row, IS THE sha256 OF THE DUMP (.gsa) THAT YtnhcknbbkmaiiaaProg.lean LOADS. Nothing in Lean hashes anything: it is a label: what it is worth is what the hold of that sum in a sandbox is worth. -/
noncomputable def Try.pinned : Pinned := { name := "ytnhcknbbkmaiiaa", sum := "6bba5676c952fb517c81962848aaa8e3f2c9c546522b5f5cc9852e9264b636a7", checked := Try.checked }
namespace Rows
def none {H : Type} : Left H := { results := [], args := [] }

/-- 'laws.FnUniqueSame': WHATEVER THE INPUT: true; the input reads as it did. -/
def fnUniqueSameSpec : ChangeSpec := { name := "fnUniqueSame", fn := fun _ => fun
  | [d] => { results := [.lit (.bool true)], args := [d] }
  | _ => none }
def fnUniqueSameRow : OpenClaim := { program := "ytnhcknbbkmaiiaa", sum := "6bba5676c952fb517c81962848aaa8e3f2c9c546522b5f5cc9852e9264b636a7", func := "loop.example/discretetomography/laws.FnUniqueSame", spec := "fnUniqueSame", unfollowed := true, recurses := true, apart := false }
def FnUniqueSameSaid : Prop := fnUniqueSameRow.holds Try.pinned (OpenSpec.ofChange fnUniqueSameSpec)

/-- ITS FALSE NEIGHBOUR: 'it returns false'. Refute it at one input. -/
def fnUniqueSameWrong : ChangeSpec := { name := "fnUniqueSame", fn := fun _ => fun
  | [d] => { results := [.lit (.bool false)], args := [d] }
  | _ => none }
def FnUniqueSameWrongFalsely : Prop := fnUniqueSameRow.holds Try.pinned (OpenSpec.ofChange fnUniqueSameWrong)

/-- 'laws.FnUniqueSmall': WHATEVER THE INPUT: true; the input reads as it did. -/
def fnUniqueSmallSpec : ChangeSpec := { name := "fnUniqueSmall", fn := fun _ => fun
  | [d] => { results := [.lit (.bool true)], args := [d] }
  | _ => none }
def fnUniqueSmallRow : OpenClaim := { program := "ytnhcknbbkmaiiaa", sum := "6bba5676c952fb517c81962848aaa8e3f2c9c546522b5f5cc9852e9264b636a7", func := "loop.example/discretetomography/laws.FnUniqueSmall", spec := "fnUniqueSmall", unfollowed := true, recurses := true, apart := false }
def FnUniqueSmallSaid : Prop := fnUniqueSmallRow.holds Try.pinned (OpenSpec.ofChange fnUniqueSmallSpec)

/-- ITS FALSE NEIGHBOUR: 'it returns false'. Refute it at one input. -/
def fnUniqueSmallWrong : ChangeSpec := { name := "fnUniqueSmall", fn := fun _ => fun
  | [d] => { results := [.lit (.bool false)], args := [d] }
  | _ => none }
def FnUniqueSmallWrongFalsely : Prop := fnUniqueSmallRow.holds Try.pinned (OpenSpec.ofChange fnUniqueSmallWrong)

/-- 'laws.FnUniqueRows': WHATEVER THE INPUT: true; the input reads as it did. -/
def fnUniqueRowsSpec : ChangeSpec := { name := "fnUniqueRows", fn := fun _ => fun
  | [d] => { results := [.lit (.bool true)], args := [d] }
  | _ => none }
def fnUniqueRowsRow : OpenClaim := { program := "ytnhcknbbkmaiiaa", sum := "6bba5676c952fb517c81962848aaa8e3f2c9c546522b5f5cc9852e9264b636a7", func := "loop.example/discretetomography/laws.FnUniqueRows", spec := "fnUniqueRows", unfollowed := true, recurses := true, apart := false }
def FnUniqueRowsSaid : Prop := fnUniqueRowsRow.holds Try.pinned (OpenSpec.ofChange fnUniqueRowsSpec)

/-- ITS FALSE NEIGHBOUR: 'it returns false'. Refute it at one input. -/
def fnUniqueRowsWrong : ChangeSpec := { name := "fnUniqueRows", fn := fun _ => fun
  | [d] => { results := [.lit (.bool false)], args := [d] }
  | _ => none }
def FnUniqueRowsWrongFalsely : Prop := fnUniqueRowsRow.holds Try.pinned (OpenSpec.ofChange fnUniqueRowsWrong)

/-- 'laws.FnSumsUniqueNested': WHATEVER THE INPUT: true; the input reads as it did. -/
def fnSumsUniqueNestedSpec : ChangeSpec := { name := "fnSumsUniqueNested", fn := fun _ => fun
  | [d] => { results := [.lit (.bool true)], args := [d] }
  | _ => none }
def fnSumsUniqueNestedRow : OpenClaim := { program := "ytnhcknbbkmaiiaa", sum := "6bba5676c952fb517c81962848aaa8e3f2c9c546522b5f5cc9852e9264b636a7", func := "loop.example/discretetomography/laws.FnSumsUniqueNested", spec := "fnSumsUniqueNested", unfollowed := true, recurses := true, apart := false }
def FnSumsUniqueNestedSaid : Prop := fnSumsUniqueNestedRow.holds Try.pinned (OpenSpec.ofChange fnSumsUniqueNestedSpec)

/-- ITS FALSE NEIGHBOUR: 'it returns false'. Refute it at one input. -/
def fnSumsUniqueNestedWrong : ChangeSpec := { name := "fnSumsUniqueNested", fn := fun _ => fun
  | [d] => { results := [.lit (.bool false)], args := [d] }
  | _ => none }
def FnSumsUniqueNestedWrongFalsely : Prop := fnSumsUniqueNestedRow.holds Try.pinned (OpenSpec.ofChange fnSumsUniqueNestedWrong)

/-- 'laws.FnSorted': WHATEVER THE INPUT: true; the input reads as it did. -/
def fnSortedSpec : ChangeSpec := { name := "fnSorted", fn := fun _ => fun
  | [d] => { results := [.lit (.bool true)], args := [d] }
  | _ => none }
def fnSortedRow : OpenClaim := { program := "ytnhcknbbkmaiiaa", sum := "6bba5676c952fb517c81962848aaa8e3f2c9c546522b5f5cc9852e9264b636a7", func := "loop.example/discretetomography/laws.FnSorted", spec := "fnSorted", unfollowed := true, recurses := true, apart := false }
def FnSortedSaid : Prop := fnSortedRow.holds Try.pinned (OpenSpec.ofChange fnSortedSpec)

/-- ITS FALSE NEIGHBOUR: 'it returns false'. Refute it at one input. -/
def fnSortedWrong : ChangeSpec := { name := "fnSorted", fn := fun _ => fun
  | [d] => { results := [.lit (.bool false)], args := [d] }
  | _ => none }
def FnSortedWrongFalsely : Prop := fnSortedRow.holds Try.pinned (OpenSpec.ofChange fnSortedWrong)

/-- 'laws.FnSortedSwitch': WHATEVER THE INPUT: true; the input reads as it did. -/
def fnSortedSwitchSpec : ChangeSpec := { name := "fnSortedSwitch", fn := fun _ => fun
  | [d] => { results := [.lit (.bool true)], args := [d] }
  | _ => none }
def fnSortedSwitchRow : OpenClaim := { program := "ytnhcknbbkmaiiaa", sum := "6bba5676c952fb517c81962848aaa8e3f2c9c546522b5f5cc9852e9264b636a7", func := "loop.example/discretetomography/laws.FnSortedSwitch", spec := "fnSortedSwitch", unfollowed := true, recurses := true, apart := false }
def FnSortedSwitchSaid : Prop := fnSortedSwitchRow.holds Try.pinned (OpenSpec.ofChange fnSortedSwitchSpec)

/-- ITS FALSE NEIGHBOUR: 'it returns false'. Refute it at one input. -/
def fnSortedSwitchWrong : ChangeSpec := { name := "fnSortedSwitch", fn := fun _ => fun
  | [d] => { results := [.lit (.bool false)], args := [d] }
  | _ => none }
def FnSortedSwitchWrongFalsely : Prop := fnSortedSwitchRow.holds Try.pinned (OpenSpec.ofChange fnSortedSwitchWrong)

/-- 'laws.FnSortedUnique': WHATEVER THE INPUT: true; the input reads as it did. -/
def fnSortedUniqueSpec : ChangeSpec := { name := "fnSortedUnique", fn := fun _ => fun
  | [d] => { results := [.lit (.bool true)], args := [d] }
  | _ => none }
def fnSortedUniqueRow : OpenClaim := { program := "ytnhcknbbkmaiiaa", sum := "6bba5676c952fb517c81962848aaa8e3f2c9c546522b5f5cc9852e9264b636a7", func := "loop.example/discretetomography/laws.FnSortedUnique", spec := "fnSortedUnique", unfollowed := true, recurses := true, apart := false }
def FnSortedUniqueSaid : Prop := fnSortedUniqueRow.holds Try.pinned (OpenSpec.ofChange fnSortedUniqueSpec)

/-- ITS FALSE NEIGHBOUR: 'it returns false'. Refute it at one input. -/
def fnSortedUniqueWrong : ChangeSpec := { name := "fnSortedUnique", fn := fun _ => fun
  | [d] => { results := [.lit (.bool false)], args := [d] }
  | _ => none }
def FnSortedUniqueWrongFalsely : Prop := fnSortedUniqueRow.holds Try.pinned (OpenSpec.ofChange fnSortedUniqueWrong)

/-- 'laws.FnSteps': WHATEVER THE INPUT: true; the input reads as it did. -/
def fnStepsSpec : ChangeSpec := { name := "fnSteps", fn := fun _ => fun
  | [d] => { results := [.lit (.bool true)], args := [d] }
  | _ => none }
def fnStepsRow : OpenClaim := { program := "ytnhcknbbkmaiiaa", sum := "6bba5676c952fb517c81962848aaa8e3f2c9c546522b5f5cc9852e9264b636a7", func := "loop.example/discretetomography/laws.FnSteps", spec := "fnSteps", unfollowed := true, recurses := true, apart := false }
def FnStepsSaid : Prop := fnStepsRow.holds Try.pinned (OpenSpec.ofChange fnStepsSpec)

/-- ITS FALSE NEIGHBOUR: 'it returns false'. Refute it at one input. -/
def fnStepsWrong : ChangeSpec := { name := "fnSteps", fn := fun _ => fun
  | [d] => { results := [.lit (.bool false)], args := [d] }
  | _ => none }
def FnStepsWrongFalsely : Prop := fnStepsRow.holds Try.pinned (OpenSpec.ofChange fnStepsWrong)

/-- 'laws.FnStepsPut': WHATEVER THE INPUT: true; the input reads as it did. -/
def fnStepsPutSpec : ChangeSpec := { name := "fnStepsPut", fn := fun _ => fun
  | [d1, d2] => { results := [.lit (.bool true)], args := [d1, d2] }
  | _ => none }
def fnStepsPutRow : OpenClaim := { program := "ytnhcknbbkmaiiaa", sum := "6bba5676c952fb517c81962848aaa8e3f2c9c546522b5f5cc9852e9264b636a7", func := "loop.example/discretetomography/laws.FnStepsPut", spec := "fnStepsPut", recurses := true, apart := false }
def FnStepsPutSaid : Prop := fnStepsPutRow.holds Try.pinned (OpenSpec.ofChange fnStepsPutSpec)

/-- ITS FALSE NEIGHBOUR: 'it returns false'. Refute it at one input. -/
def fnStepsPutWrong : ChangeSpec := { name := "fnStepsPut", fn := fun _ => fun
  | [d1, d2] => { results := [.lit (.bool false)], args := [d1, d2] }
  | _ => none }
def FnStepsPutWrongFalsely : Prop := fnStepsPutRow.holds Try.pinned (OpenSpec.ofChange fnStepsPutWrong)

/-- 'laws.FnStepsTurn': WHATEVER THE INPUT: true; the input reads as it did. -/
def fnStepsTurnSpec : ChangeSpec := { name := "fnStepsTurn", fn := fun _ => fun
  | [d] => { results := [.lit (.bool true)], args := [d] }
  | _ => none }
def fnStepsTurnRow : OpenClaim := { program := "ytnhcknbbkmaiiaa", sum := "6bba5676c952fb517c81962848aaa8e3f2c9c546522b5f5cc9852e9264b636a7", func := "loop.example/discretetomography/laws.FnStepsTurn", spec := "fnStepsTurn", recurses := true, apart := false }
def FnStepsTurnSaid : Prop := fnStepsTurnRow.holds Try.pinned (OpenSpec.ofChange fnStepsTurnSpec)

/-- ITS FALSE NEIGHBOUR: 'it returns false'. Refute it at one input. -/
def fnStepsTurnWrong : ChangeSpec := { name := "fnStepsTurn", fn := fun _ => fun
  | [d] => { results := [.lit (.bool false)], args := [d] }
  | _ => none }
def FnStepsTurnWrongFalsely : Prop := fnStepsTurnRow.holds Try.pinned (OpenSpec.ofChange fnStepsTurnWrong)

/-- 'laws.FnSumsUniqueOrder': WHATEVER THE INPUT: true; the input reads as it did. -/
def fnSumsUniqueOrderSpec : ChangeSpec := { name := "fnSumsUniqueOrder", fn := fun _ => fun
  | [d1, d2] => { results := [.lit (.bool true)], args := [d1, d2] }
  | _ => none }
def fnSumsUniqueOrderRow : OpenClaim := { program := "ytnhcknbbkmaiiaa", sum := "6bba5676c952fb517c81962848aaa8e3f2c9c546522b5f5cc9852e9264b636a7", func := "loop.example/discretetomography/laws.FnSumsUniqueOrder", spec := "fnSumsUniqueOrder", unfollowed := true, recurses := true, apart := false }
def FnSumsUniqueOrderSaid : Prop := fnSumsUniqueOrderRow.holds Try.pinned (OpenSpec.ofChange fnSumsUniqueOrderSpec)

/-- ITS FALSE NEIGHBOUR: 'it returns false'. Refute it at one input. -/
def fnSumsUniqueOrderWrong : ChangeSpec := { name := "fnSumsUniqueOrder", fn := fun _ => fun
  | [d1, d2] => { results := [.lit (.bool false)], args := [d1, d2] }
  | _ => none }
def FnSumsUniqueOrderWrongFalsely : Prop := fnSumsUniqueOrderRow.holds Try.pinned (OpenSpec.ofChange fnSumsUniqueOrderWrong)

/-- 'laws.FnUniqueVariable': WHATEVER THE INPUT: true; the input reads as it did. -/
def fnUniqueVariableSpec : ChangeSpec := { name := "fnUniqueVariable", fn := fun _ => fun
  | [d] => { results := [.lit (.bool true)], args := [d] }
  | _ => none }
def fnUniqueVariableRow : OpenClaim := { program := "ytnhcknbbkmaiiaa", sum := "6bba5676c952fb517c81962848aaa8e3f2c9c546522b5f5cc9852e9264b636a7", func := "loop.example/discretetomography/laws.FnUniqueVariable", spec := "fnUniqueVariable", unfollowed := true, recurses := true, apart := false }
def FnUniqueVariableSaid : Prop := fnUniqueVariableRow.holds Try.pinned (OpenSpec.ofChange fnUniqueVariableSpec)

/-- ITS FALSE NEIGHBOUR: 'it returns false'. Refute it at one input. -/
def fnUniqueVariableWrong : ChangeSpec := { name := "fnUniqueVariable", fn := fun _ => fun
  | [d] => { results := [.lit (.bool false)], args := [d] }
  | _ => none }
def FnUniqueVariableWrongFalsely : Prop := fnUniqueVariableRow.holds Try.pinned (OpenSpec.ofChange fnUniqueVariableWrong)

/-- 'laws.FnStepsNested': WHATEVER THE INPUT: true; the input reads as it did. -/
def fnStepsNestedSpec : ChangeSpec := { name := "fnStepsNested", fn := fun _ => fun
  | [d] => { results := [.lit (.bool true)], args := [d] }
  | _ => none }
def fnStepsNestedRow : OpenClaim := { program := "ytnhcknbbkmaiiaa", sum := "6bba5676c952fb517c81962848aaa8e3f2c9c546522b5f5cc9852e9264b636a7", func := "loop.example/discretetomography/laws.FnStepsNested", spec := "fnStepsNested", unfollowed := true, recurses := true, apart := false }
def FnStepsNestedSaid : Prop := fnStepsNestedRow.holds Try.pinned (OpenSpec.ofChange fnStepsNestedSpec)

/-- ITS FALSE NEIGHBOUR: 'it returns false'. Refute it at one input. -/
def fnStepsNestedWrong : ChangeSpec := { name := "fnStepsNested", fn := fun _ => fun
  | [d] => { results := [.lit (.bool false)], args := [d] }
  | _ => none }
def FnStepsNestedWrongFalsely : Prop := fnStepsNestedRow.holds Try.pinned (OpenSpec.ofChange fnStepsNestedWrong)

/-- 'laws.FnExactSwitchRun': WHATEVER THE INPUT: true; the input reads as it did. -/
def fnExactSwitchRunSpec : ChangeSpec := { name := "fnExactSwitchRun", fn := fun _ => fun
  | [d1, d2] => { results := [.lit (.bool true)], args := [d1, d2] }
  | _ => none }
def fnExactSwitchRunRow : OpenClaim := { program := "ytnhcknbbkmaiiaa", sum := "6bba5676c952fb517c81962848aaa8e3f2c9c546522b5f5cc9852e9264b636a7", func := "loop.example/discretetomography/laws.FnExactSwitchRun", spec := "fnExactSwitchRun", apart := false }
def FnExactSwitchRunSaid : Prop := fnExactSwitchRunRow.holds Try.pinned (OpenSpec.ofChange fnExactSwitchRunSpec)

/-- ITS FALSE NEIGHBOUR: 'it returns false'. Refute it at one input. -/
def fnExactSwitchRunWrong : ChangeSpec := { name := "fnExactSwitchRun", fn := fun _ => fun
  | [d1, d2] => { results := [.lit (.bool false)], args := [d1, d2] }
  | _ => none }
def FnExactSwitchRunWrongFalsely : Prop := fnExactSwitchRunRow.holds Try.pinned (OpenSpec.ofChange fnExactSwitchRunWrong)

/-- 'laws.FnExactImageUnique': WHATEVER THE INPUT: true; the input reads as it did. -/
def fnExactImageUniqueSpec : ChangeSpec := { name := "fnExactImageUnique", fn := fun _ => fun
  | [d] => { results := [.lit (.bool true)], args := [d] }
  | _ => none }
def fnExactImageUniqueRow : OpenClaim := { program := "ytnhcknbbkmaiiaa", sum := "6bba5676c952fb517c81962848aaa8e3f2c9c546522b5f5cc9852e9264b636a7", func := "loop.example/discretetomography/laws.FnExactImageUnique", spec := "fnExactImageUnique", unfollowed := true, recurses := true, apart := false }
def FnExactImageUniqueSaid : Prop := fnExactImageUniqueRow.holds Try.pinned (OpenSpec.ofChange fnExactImageUniqueSpec)

/-- ITS FALSE NEIGHBOUR: 'it returns false'. Refute it at one input. -/
def fnExactImageUniqueWrong : ChangeSpec := { name := "fnExactImageUnique", fn := fun _ => fun
  | [d] => { results := [.lit (.bool false)], args := [d] }
  | _ => none }
def FnExactImageUniqueWrongFalsely : Prop := fnExactImageUniqueRow.holds Try.pinned (OpenSpec.ofChange fnExactImageUniqueWrong)

/-- 'laws.FnExactSumsUnique': WHATEVER THE INPUT: true; the input reads as it did. -/
def fnExactSumsUniqueSpec : ChangeSpec := { name := "fnExactSumsUnique", fn := fun _ => fun
  | [d1, d2] => { results := [.lit (.bool true)], args := [d1, d2] }
  | _ => none }
def fnExactSumsUniqueRow : OpenClaim := { program := "ytnhcknbbkmaiiaa", sum := "6bba5676c952fb517c81962848aaa8e3f2c9c546522b5f5cc9852e9264b636a7", func := "loop.example/discretetomography/laws.FnExactSumsUnique", spec := "fnExactSumsUnique", unfollowed := true, recurses := true, apart := false }
def FnExactSumsUniqueSaid : Prop := fnExactSumsUniqueRow.holds Try.pinned (OpenSpec.ofChange fnExactSumsUniqueSpec)

/-- ITS FALSE NEIGHBOUR: 'it returns false'. Refute it at one input. -/
def fnExactSumsUniqueWrong : ChangeSpec := { name := "fnExactSumsUnique", fn := fun _ => fun
  | [d1, d2] => { results := [.lit (.bool false)], args := [d1, d2] }
  | _ => none }
def FnExactSumsUniqueWrongFalsely : Prop := fnExactSumsUniqueRow.holds Try.pinned (OpenSpec.ofChange fnExactSumsUniqueWrong)

/-- 'laws.FnExactImageSorted': WHATEVER THE INPUT: true; the input reads as it did. -/
def fnExactImageSortedSpec : ChangeSpec := { name := "fnExactImageSorted", fn := fun _ => fun
  | [d] => { results := [.lit (.bool true)], args := [d] }
  | _ => none }
def fnExactImageSortedRow : OpenClaim := { program := "ytnhcknbbkmaiiaa", sum := "6bba5676c952fb517c81962848aaa8e3f2c9c546522b5f5cc9852e9264b636a7", func := "loop.example/discretetomography/laws.FnExactImageSorted", spec := "fnExactImageSorted", unfollowed := true, recurses := true, apart := false }
def FnExactImageSortedSaid : Prop := fnExactImageSortedRow.holds Try.pinned (OpenSpec.ofChange fnExactImageSortedSpec)

/-- ITS FALSE NEIGHBOUR: 'it returns false'. Refute it at one input. -/
def fnExactImageSortedWrong : ChangeSpec := { name := "fnExactImageSorted", fn := fun _ => fun
  | [d] => { results := [.lit (.bool false)], args := [d] }
  | _ => none }
def FnExactImageSortedWrongFalsely : Prop := fnExactImageSortedRow.holds Try.pinned (OpenSpec.ofChange fnExactImageSortedWrong)

/-- 'laws.FnExactImageSteps': WHATEVER THE INPUT: true; the input reads as it did. -/
def fnExactImageStepsSpec : ChangeSpec := { name := "fnExactImageSteps", fn := fun _ => fun
  | [d] => { results := [.lit (.bool true)], args := [d] }
  | _ => none }
def fnExactImageStepsRow : OpenClaim := { program := "ytnhcknbbkmaiiaa", sum := "6bba5676c952fb517c81962848aaa8e3f2c9c546522b5f5cc9852e9264b636a7", func := "loop.example/discretetomography/laws.FnExactImageSteps", spec := "fnExactImageSteps", recurses := true, apart := false }
def FnExactImageStepsSaid : Prop := fnExactImageStepsRow.holds Try.pinned (OpenSpec.ofChange fnExactImageStepsSpec)

/-- ITS FALSE NEIGHBOUR: 'it returns false'. Refute it at one input. -/
def fnExactImageStepsWrong : ChangeSpec := { name := "fnExactImageSteps", fn := fun _ => fun
  | [d] => { results := [.lit (.bool false)], args := [d] }
  | _ => none }
def FnExactImageStepsWrongFalsely : Prop := fnExactImageStepsRow.holds Try.pinned (OpenSpec.ofChange fnExactImageStepsWrong)

/- THE SECOND FORM. 'bulk': how many values and letters a reading holds, each counted each time it is reached (what is shared counts as often as it is met; a slice's spare places count too). A statement '..UptoSaid' is the law's where the arguments, and the package variables that the reading takes, are together of bulk at most 1048576: NARROWER than '..Said'. Prove '..Said' where nothing that the law and all that it calls make is longer than what came in: it says more and counts as full. Else prove '..UptoSaid'. A law counts once. -/
mutual
def uptoBulk {H : Type} : DataW H → Nat
  | .lit (.string bytes) => bytes.length + 1
  | .lit _ => 1
  | .nil => 1
  | .ptr d => uptoBulk d + 1
  | .slice elems spare => uptoBulkAll elems + uptoBulkAll spare + 1
  | .agg parts => uptoBulkAll parts + 1
  | .iface _ d => uptoBulk d + 1
  | .map entries => uptoBulkEntries entries + 1
  | .held _ => 1
def uptoBulkAll {H : Type} : List (DataW H) → Nat
  | [] => 0
  | d :: r => uptoBulk d + uptoBulkAll r
def uptoBulkEntries {H : Type} : List (Lit × DataW H) → Nat
  | [] => 0
  | x :: r => uptoBulkEntry x + uptoBulkEntries r
def uptoBulkEntry {H : Type} : Lit × DataW H → Nat
  | (.string bytes, d) => bytes.length + uptoBulk d + 1
  | (_, d) => uptoBulk d + 1
 end
def uptoSmall : (H : Type) → List (DataW H) → Bool := fun _ ds => decide (uptoBulkAll ds ≤ 1048576)
def OpenSpec.upto (s : _root_.Go.ChangeSpec) : _root_.Go.OpenSpec := { _root_.Go.OpenSpec.ofChange s with cond := some uptoSmall }

/-- 'laws.FnUniqueSame', WHERE WHAT IT READS IS OF BULK AT MOST 1048576: true; the input reads as it did. -/
def fnUniqueSameUptoRow : OpenClaim := { program := "ytnhcknbbkmaiiaa", sum := "6bba5676c952fb517c81962848aaa8e3f2c9c546522b5f5cc9852e9264b636a7", func := "loop.example/discretetomography/laws.FnUniqueSame", spec := "fnUniqueSame", unfollowed := true, recurses := true, apart := false, narrowed := true }
def FnUniqueSameUptoSaid : Prop := fnUniqueSameUptoRow.holds Try.pinned (OpenSpec.upto fnUniqueSameSpec)

/-- 'laws.FnUniqueSmall', WHERE WHAT IT READS IS OF BULK AT MOST 1048576: true; the input reads as it did. -/
def fnUniqueSmallUptoRow : OpenClaim := { program := "ytnhcknbbkmaiiaa", sum := "6bba5676c952fb517c81962848aaa8e3f2c9c546522b5f5cc9852e9264b636a7", func := "loop.example/discretetomography/laws.FnUniqueSmall", spec := "fnUniqueSmall", unfollowed := true, recurses := true, apart := false, narrowed := true }
def FnUniqueSmallUptoSaid : Prop := fnUniqueSmallUptoRow.holds Try.pinned (OpenSpec.upto fnUniqueSmallSpec)

/-- 'laws.FnUniqueRows', WHERE WHAT IT READS IS OF BULK AT MOST 1048576: true; the input reads as it did. -/
def fnUniqueRowsUptoRow : OpenClaim := { program := "ytnhcknbbkmaiiaa", sum := "6bba5676c952fb517c81962848aaa8e3f2c9c546522b5f5cc9852e9264b636a7", func := "loop.example/discretetomography/laws.FnUniqueRows", spec := "fnUniqueRows", unfollowed := true, recurses := true, apart := false, narrowed := true }
def FnUniqueRowsUptoSaid : Prop := fnUniqueRowsUptoRow.holds Try.pinned (OpenSpec.upto fnUniqueRowsSpec)

/-- 'laws.FnSumsUniqueNested', WHERE WHAT IT READS IS OF BULK AT MOST 1048576: true; the input reads as it did. -/
def fnSumsUniqueNestedUptoRow : OpenClaim := { program := "ytnhcknbbkmaiiaa", sum := "6bba5676c952fb517c81962848aaa8e3f2c9c546522b5f5cc9852e9264b636a7", func := "loop.example/discretetomography/laws.FnSumsUniqueNested", spec := "fnSumsUniqueNested", unfollowed := true, recurses := true, apart := false, narrowed := true }
def FnSumsUniqueNestedUptoSaid : Prop := fnSumsUniqueNestedUptoRow.holds Try.pinned (OpenSpec.upto fnSumsUniqueNestedSpec)

/-- 'laws.FnSorted', WHERE WHAT IT READS IS OF BULK AT MOST 1048576: true; the input reads as it did. -/
def fnSortedUptoRow : OpenClaim := { program := "ytnhcknbbkmaiiaa", sum := "6bba5676c952fb517c81962848aaa8e3f2c9c546522b5f5cc9852e9264b636a7", func := "loop.example/discretetomography/laws.FnSorted", spec := "fnSorted", unfollowed := true, recurses := true, apart := false, narrowed := true }
def FnSortedUptoSaid : Prop := fnSortedUptoRow.holds Try.pinned (OpenSpec.upto fnSortedSpec)

/-- 'laws.FnSortedSwitch', WHERE WHAT IT READS IS OF BULK AT MOST 1048576: true; the input reads as it did. -/
def fnSortedSwitchUptoRow : OpenClaim := { program := "ytnhcknbbkmaiiaa", sum := "6bba5676c952fb517c81962848aaa8e3f2c9c546522b5f5cc9852e9264b636a7", func := "loop.example/discretetomography/laws.FnSortedSwitch", spec := "fnSortedSwitch", unfollowed := true, recurses := true, apart := false, narrowed := true }
def FnSortedSwitchUptoSaid : Prop := fnSortedSwitchUptoRow.holds Try.pinned (OpenSpec.upto fnSortedSwitchSpec)

/-- 'laws.FnSortedUnique', WHERE WHAT IT READS IS OF BULK AT MOST 1048576: true; the input reads as it did. -/
def fnSortedUniqueUptoRow : OpenClaim := { program := "ytnhcknbbkmaiiaa", sum := "6bba5676c952fb517c81962848aaa8e3f2c9c546522b5f5cc9852e9264b636a7", func := "loop.example/discretetomography/laws.FnSortedUnique", spec := "fnSortedUnique", unfollowed := true, recurses := true, apart := false, narrowed := true }
def FnSortedUniqueUptoSaid : Prop := fnSortedUniqueUptoRow.holds Try.pinned (OpenSpec.upto fnSortedUniqueSpec)

/-- 'laws.FnSteps', WHERE WHAT IT READS IS OF BULK AT MOST 1048576: true; the input reads as it did. -/
def fnStepsUptoRow : OpenClaim := { program := "ytnhcknbbkmaiiaa", sum := "6bba5676c952fb517c81962848aaa8e3f2c9c546522b5f5cc9852e9264b636a7", func := "loop.example/discretetomography/laws.FnSteps", spec := "fnSteps", unfollowed := true, recurses := true, apart := false, narrowed := true }
def FnStepsUptoSaid : Prop := fnStepsUptoRow.holds Try.pinned (OpenSpec.upto fnStepsSpec)

/-- 'laws.FnStepsPut', WHERE WHAT IT READS IS OF BULK AT MOST 1048576: true; the input reads as it did. -/
def fnStepsPutUptoRow : OpenClaim := { program := "ytnhcknbbkmaiiaa", sum := "6bba5676c952fb517c81962848aaa8e3f2c9c546522b5f5cc9852e9264b636a7", func := "loop.example/discretetomography/laws.FnStepsPut", spec := "fnStepsPut", recurses := true, apart := false, narrowed := true }
def FnStepsPutUptoSaid : Prop := fnStepsPutUptoRow.holds Try.pinned (OpenSpec.upto fnStepsPutSpec)

/-- 'laws.FnStepsTurn', WHERE WHAT IT READS IS OF BULK AT MOST 1048576: true; the input reads as it did. -/
def fnStepsTurnUptoRow : OpenClaim := { program := "ytnhcknbbkmaiiaa", sum := "6bba5676c952fb517c81962848aaa8e3f2c9c546522b5f5cc9852e9264b636a7", func := "loop.example/discretetomography/laws.FnStepsTurn", spec := "fnStepsTurn", recurses := true, apart := false, narrowed := true }
def FnStepsTurnUptoSaid : Prop := fnStepsTurnUptoRow.holds Try.pinned (OpenSpec.upto fnStepsTurnSpec)

/-- 'laws.FnSumsUniqueOrder', WHERE WHAT IT READS IS OF BULK AT MOST 1048576: true; the input reads as it did. -/
def fnSumsUniqueOrderUptoRow : OpenClaim := { program := "ytnhcknbbkmaiiaa", sum := "6bba5676c952fb517c81962848aaa8e3f2c9c546522b5f5cc9852e9264b636a7", func := "loop.example/discretetomography/laws.FnSumsUniqueOrder", spec := "fnSumsUniqueOrder", unfollowed := true, recurses := true, apart := false, narrowed := true }
def FnSumsUniqueOrderUptoSaid : Prop := fnSumsUniqueOrderUptoRow.holds Try.pinned (OpenSpec.upto fnSumsUniqueOrderSpec)

/-- 'laws.FnUniqueVariable', WHERE WHAT IT READS IS OF BULK AT MOST 1048576: true; the input reads as it did. -/
def fnUniqueVariableUptoRow : OpenClaim := { program := "ytnhcknbbkmaiiaa", sum := "6bba5676c952fb517c81962848aaa8e3f2c9c546522b5f5cc9852e9264b636a7", func := "loop.example/discretetomography/laws.FnUniqueVariable", spec := "fnUniqueVariable", unfollowed := true, recurses := true, apart := false, narrowed := true }
def FnUniqueVariableUptoSaid : Prop := fnUniqueVariableUptoRow.holds Try.pinned (OpenSpec.upto fnUniqueVariableSpec)

/-- 'laws.FnStepsNested', WHERE WHAT IT READS IS OF BULK AT MOST 1048576: true; the input reads as it did. -/
def fnStepsNestedUptoRow : OpenClaim := { program := "ytnhcknbbkmaiiaa", sum := "6bba5676c952fb517c81962848aaa8e3f2c9c546522b5f5cc9852e9264b636a7", func := "loop.example/discretetomography/laws.FnStepsNested", spec := "fnStepsNested", unfollowed := true, recurses := true, apart := false, narrowed := true }
def FnStepsNestedUptoSaid : Prop := fnStepsNestedUptoRow.holds Try.pinned (OpenSpec.upto fnStepsNestedSpec)

/-- 'laws.FnExactSwitchRun', WHERE WHAT IT READS IS OF BULK AT MOST 1048576: true; the input reads as it did. -/
def fnExactSwitchRunUptoRow : OpenClaim := { program := "ytnhcknbbkmaiiaa", sum := "6bba5676c952fb517c81962848aaa8e3f2c9c546522b5f5cc9852e9264b636a7", func := "loop.example/discretetomography/laws.FnExactSwitchRun", spec := "fnExactSwitchRun", apart := false, narrowed := true }
def FnExactSwitchRunUptoSaid : Prop := fnExactSwitchRunUptoRow.holds Try.pinned (OpenSpec.upto fnExactSwitchRunSpec)

/-- 'laws.FnExactImageUnique', WHERE WHAT IT READS IS OF BULK AT MOST 1048576: true; the input reads as it did. -/
def fnExactImageUniqueUptoRow : OpenClaim := { program := "ytnhcknbbkmaiiaa", sum := "6bba5676c952fb517c81962848aaa8e3f2c9c546522b5f5cc9852e9264b636a7", func := "loop.example/discretetomography/laws.FnExactImageUnique", spec := "fnExactImageUnique", unfollowed := true, recurses := true, apart := false, narrowed := true }
def FnExactImageUniqueUptoSaid : Prop := fnExactImageUniqueUptoRow.holds Try.pinned (OpenSpec.upto fnExactImageUniqueSpec)

/-- 'laws.FnExactSumsUnique', WHERE WHAT IT READS IS OF BULK AT MOST 1048576: true; the input reads as it did. -/
def fnExactSumsUniqueUptoRow : OpenClaim := { program := "ytnhcknbbkmaiiaa", sum := "6bba5676c952fb517c81962848aaa8e3f2c9c546522b5f5cc9852e9264b636a7", func := "loop.example/discretetomography/laws.FnExactSumsUnique", spec := "fnExactSumsUnique", unfollowed := true, recurses := true, apart := false, narrowed := true }
def FnExactSumsUniqueUptoSaid : Prop := fnExactSumsUniqueUptoRow.holds Try.pinned (OpenSpec.upto fnExactSumsUniqueSpec)

/-- 'laws.FnExactImageSorted', WHERE WHAT IT READS IS OF BULK AT MOST 1048576: true; the input reads as it did. -/
def fnExactImageSortedUptoRow : OpenClaim := { program := "ytnhcknbbkmaiiaa", sum := "6bba5676c952fb517c81962848aaa8e3f2c9c546522b5f5cc9852e9264b636a7", func := "loop.example/discretetomography/laws.FnExactImageSorted", spec := "fnExactImageSorted", unfollowed := true, recurses := true, apart := false, narrowed := true }
def FnExactImageSortedUptoSaid : Prop := fnExactImageSortedUptoRow.holds Try.pinned (OpenSpec.upto fnExactImageSortedSpec)

/-- 'laws.FnExactImageSteps', WHERE WHAT IT READS IS OF BULK AT MOST 1048576: true; the input reads as it did. -/
def fnExactImageStepsUptoRow : OpenClaim := { program := "ytnhcknbbkmaiiaa", sum := "6bba5676c952fb517c81962848aaa8e3f2c9c546522b5f5cc9852e9264b636a7", func := "loop.example/discretetomography/laws.FnExactImageSteps", spec := "fnExactImageSteps", recurses := true, apart := false, narrowed := true }
def FnExactImageStepsUptoSaid : Prop := fnExactImageStepsUptoRow.holds Try.pinned (OpenSpec.upto fnExactImageStepsSpec)

end Rows
end Go.Proofs.Ytnhcknbbkmaiiaa
