/-
  NARROWER THAN 'FOR EVERY INPUT', by the rows' own cells (each row's printed sentence says how): FnCountSwitch: ifaces, laid · FnCellVariable: ifaces, laid · FnCountVariable: ifaces, laid.
  DERIVED. THE GIVEN ROWS OF THIS SEAT. 3 by the template 'for every input the law returns true; each argument reads behind the call as it read before'; 0 by the template 'total and deterministic' (their statements: YtnfkafaolelkbaaGreatDoorTotals.lean).
  GIVEN WITH THE SEED: the statements are not yours to turn. If you find one false, say at which input.
  Laid BY PROGRAM, IN A SANDBOX (cutbox-rows.mjs): the forced cells as the released guide's own fill.sh prints them over the translation 590b3dc6b0257f41… (all of the seat's roots in one cut). By AI agents, Wed Nov 11 2026. No macro, syntax, notation, axiom, sorry.
-/
import Derived.Test.YtnfkafaolelkbaaGreatDoorChecked
import GoSem.Claim
import GoSem.ClaimJoined
import GoSem.ClaimMapViews
import Derived.JoinedTies
import Derived.KernelRfl
namespace Go.Proofs.YtnfkafaolelkbaaGreatDoor
/- THE CELL 'sum', in the pinned program and in every row, IS THE sha256 OF THE DUMP (.gsa) THAT YtnfkafaolelkbaaGreatDoorProg.lean LOADS. Nothing in Lean hashes anything: it is a label: what it is worth is what the hold of that sum in a sandbox is worth. -/
noncomputable def Tryz.pinned : Pinned := { name := "ytnfkafaolelkbaagreatdoor", sum := "590b3dc6b0257f413a6ca432b32b7b39f56332e0211747e805b984f8beb9a784", checked := Tryz.checked }
namespace Rows
def none {H : Type} : Left H := { results := [], args := [] }

/- WHAT THE LISTED PACKAGE-LEVEL VARIABLES READ AS WHEN THE CALL BEGINS. Each datum BY PROGRAM (the guide's laid-datum.mjs) off the statement by which the dump's own 'gosem.cut.vars' lays the variable. In a bare row this is a premise. The card (YtnfkafaolelkbaaGreatDoorCards.lean) ties it to the program's text. -/
def laid_loop_example_discretetomography_impl_errNoImage {H : Type} : DataW H := .iface "*errors.errorString" (.ptr (.agg [.lit (.string [110, 111, 32, 105, 109, 97, 103, 101, 32, 104, 97, 115, 32, 116, 104, 101, 115, 101, 32, 115, 117, 109, 115])]))

/-- 'laws.FnCountSwitch': WHATEVER THE INPUT: true; the input reads as it did. -/
def fnCountSwitchSpec : ChangeSpec := { name := "fnCountSwitch", vars := ["loop.example/discretetomography/impl.errNoImage"], fn := fun _ => fun
  | [d, g1] => { results := [.lit (.bool true)], args := [d], vars := [g1] }
  | _ => none }
def fnCountSwitchRow : OpenClaim := { program := "ytnfkafaolelkbaagreatdoor", sum := "590b3dc6b0257f413a6ca432b32b7b39f56332e0211747e805b984f8beb9a784", func := "loop.example/discretetomography/laws.FnCountSwitch", spec := "fnCountSwitch", inPlace := ["internal/reflectlite.TypeOf"], unfollowed := true, recurses := true, named := ["loop.example/discretetomography/impl.errNoImage"], ifaces := true, plainKeys := false, apart := false, laid := [("loop.example/discretetomography/impl.errNoImage", laid_loop_example_discretetomography_impl_errNoImage)] }
def FnCountSwitchSaid : Prop := fnCountSwitchRow.holds Tryz.pinned (OpenSpec.ofChange fnCountSwitchSpec)

/-- ITS FALSE NEIGHBOUR: 'it returns false'. Refute it at one input. -/
def fnCountSwitchWrong : ChangeSpec := { name := "fnCountSwitch", vars := ["loop.example/discretetomography/impl.errNoImage"], fn := fun _ => fun
  | [d, g1] => { results := [.lit (.bool false)], args := [d], vars := [g1] }
  | _ => none }
def FnCountSwitchWrongFalsely : Prop := fnCountSwitchRow.holds Tryz.pinned (OpenSpec.ofChange fnCountSwitchWrong)

/-- 'laws.FnCellVariable': WHATEVER THE INPUT: true; the input reads as it did. -/
def fnCellVariableSpec : ChangeSpec := { name := "fnCellVariable", vars := ["loop.example/discretetomography/impl.errNoImage"], fn := fun _ => fun
  | [d, g1] => { results := [.lit (.bool true)], args := [d], vars := [g1] }
  | _ => none }
def fnCellVariableRow : OpenClaim := { program := "ytnfkafaolelkbaagreatdoor", sum := "590b3dc6b0257f413a6ca432b32b7b39f56332e0211747e805b984f8beb9a784", func := "loop.example/discretetomography/laws.FnCellVariable", spec := "fnCellVariable", inPlace := ["internal/reflectlite.TypeOf"], unfollowed := true, recurses := true, named := ["loop.example/discretetomography/impl.errNoImage"], ifaces := true, plainKeys := false, apart := false, laid := [("loop.example/discretetomography/impl.errNoImage", laid_loop_example_discretetomography_impl_errNoImage)] }
def FnCellVariableSaid : Prop := fnCellVariableRow.holds Tryz.pinned (OpenSpec.ofChange fnCellVariableSpec)

/-- ITS FALSE NEIGHBOUR: 'it returns false'. Refute it at one input. -/
def fnCellVariableWrong : ChangeSpec := { name := "fnCellVariable", vars := ["loop.example/discretetomography/impl.errNoImage"], fn := fun _ => fun
  | [d, g1] => { results := [.lit (.bool false)], args := [d], vars := [g1] }
  | _ => none }
def FnCellVariableWrongFalsely : Prop := fnCellVariableRow.holds Tryz.pinned (OpenSpec.ofChange fnCellVariableWrong)

/-- 'laws.FnCountVariable': WHATEVER THE INPUT: true; the input reads as it did. -/
def fnCountVariableSpec : ChangeSpec := { name := "fnCountVariable", vars := ["loop.example/discretetomography/impl.errNoImage"], fn := fun _ => fun
  | [d, g1] => { results := [.lit (.bool true)], args := [d], vars := [g1] }
  | _ => none }
def fnCountVariableRow : OpenClaim := { program := "ytnfkafaolelkbaagreatdoor", sum := "590b3dc6b0257f413a6ca432b32b7b39f56332e0211747e805b984f8beb9a784", func := "loop.example/discretetomography/laws.FnCountVariable", spec := "fnCountVariable", inPlace := ["internal/reflectlite.TypeOf"], unfollowed := true, recurses := true, named := ["loop.example/discretetomography/impl.errNoImage"], ifaces := true, plainKeys := false, apart := false, laid := [("loop.example/discretetomography/impl.errNoImage", laid_loop_example_discretetomography_impl_errNoImage)] }
def FnCountVariableSaid : Prop := fnCountVariableRow.holds Tryz.pinned (OpenSpec.ofChange fnCountVariableSpec)

/-- ITS FALSE NEIGHBOUR: 'it returns false'. Refute it at one input. -/
def fnCountVariableWrong : ChangeSpec := { name := "fnCountVariable", vars := ["loop.example/discretetomography/impl.errNoImage"], fn := fun _ => fun
  | [d, g1] => { results := [.lit (.bool false)], args := [d], vars := [g1] }
  | _ => none }
def FnCountVariableWrongFalsely : Prop := fnCountVariableRow.holds Tryz.pinned (OpenSpec.ofChange fnCountVariableWrong)

/- THE SECOND FORM. 'bulk': how many values and letters a reading holds, each counted each time it is reached (what is shared counts as often as it is met; a slice's spare places count too). A statement '..UptoSaid' is the law's where the arguments, and the package variables that the reading takes, are together of bulk at most 1048576: NARROWER than '..Said'. Prove '..Said' where nothing that the law and all that it calls make is longer than what came in: it says more and counts as full. Else prove '..UptoSaid'. A law counts once. -/
mutual
def uptoBulk {H : Type} : DataW H → Nat
  | .lit (.string bytes) => bytes.length + 1
  | .lit _ => 1
  | .nil => 1
  | .ptr d => uptoBulk d + 1
  | .slice elems spare => uptoBulkAll elems + uptoBulkAll spare + 1
  | .agg parts => uptoBulkAll parts + 1
  | .iface _ d => uptoBulk d + 1
  | .map entries => uptoBulkEntries entries + 1
  | .held _ => 1
def uptoBulkAll {H : Type} : List (DataW H) → Nat
  | [] => 0
  | d :: r => uptoBulk d + uptoBulkAll r
def uptoBulkEntries {H : Type} : List (Lit × DataW H) → Nat
  | [] => 0
  | x :: r => uptoBulkEntry x + uptoBulkEntries r
def uptoBulkEntry {H : Type} : Lit × DataW H → Nat
  | (.string bytes, d) => bytes.length + uptoBulk d + 1
  | (_, d) => uptoBulk d + 1
 end
def uptoSmall : (H : Type) → List (DataW H) → Bool := fun _ ds => decide (uptoBulkAll ds ≤ 1048576)
def OpenSpec.upto (s : _root_.Go.ChangeSpec) : _root_.Go.OpenSpec := { _root_.Go.OpenSpec.ofChange s with cond := some uptoSmall }

/-- 'laws.FnCountSwitch', WHERE WHAT IT READS IS OF BULK AT MOST 1048576: true; the input reads as it did. -/
def fnCountSwitchUptoRow : OpenClaim := { program := "ytnfkafaolelkbaagreatdoor", sum := "590b3dc6b0257f413a6ca432b32b7b39f56332e0211747e805b984f8beb9a784", func := "loop.example/discretetomography/laws.FnCountSwitch", spec := "fnCountSwitch", inPlace := ["internal/reflectlite.TypeOf"], unfollowed := true, recurses := true, named := ["loop.example/discretetomography/impl.errNoImage"], ifaces := true, plainKeys := false, apart := false, laid := [("loop.example/discretetomography/impl.errNoImage", laid_loop_example_discretetomography_impl_errNoImage)], narrowed := true }
def FnCountSwitchUptoSaid : Prop := fnCountSwitchUptoRow.holds Tryz.pinned (OpenSpec.upto fnCountSwitchSpec)

/-- 'laws.FnCellVariable', WHERE WHAT IT READS IS OF BULK AT MOST 1048576: true; the input reads as it did. -/
def fnCellVariableUptoRow : OpenClaim := { program := "ytnfkafaolelkbaagreatdoor", sum := "590b3dc6b0257f413a6ca432b32b7b39f56332e0211747e805b984f8beb9a784", func := "loop.example/discretetomography/laws.FnCellVariable", spec := "fnCellVariable", inPlace := ["internal/reflectlite.TypeOf"], unfollowed := true, recurses := true, named := ["loop.example/discretetomography/impl.errNoImage"], ifaces := true, plainKeys := false, apart := false, laid := [("loop.example/discretetomography/impl.errNoImage", laid_loop_example_discretetomography_impl_errNoImage)], narrowed := true }
def FnCellVariableUptoSaid : Prop := fnCellVariableUptoRow.holds Tryz.pinned (OpenSpec.upto fnCellVariableSpec)

/-- 'laws.FnCountVariable', WHERE WHAT IT READS IS OF BULK AT MOST 1048576: true; the input reads as it did. -/
def fnCountVariableUptoRow : OpenClaim := { program := "ytnfkafaolelkbaagreatdoor", sum := "590b3dc6b0257f413a6ca432b32b7b39f56332e0211747e805b984f8beb9a784", func := "loop.example/discretetomography/laws.FnCountVariable", spec := "fnCountVariable", inPlace := ["internal/reflectlite.TypeOf"], unfollowed := true, recurses := true, named := ["loop.example/discretetomography/impl.errNoImage"], ifaces := true, plainKeys := false, apart := false, laid := [("loop.example/discretetomography/impl.errNoImage", laid_loop_example_discretetomography_impl_errNoImage)], narrowed := true }
def FnCountVariableUptoSaid : Prop := fnCountVariableUptoRow.holds Tryz.pinned (OpenSpec.upto fnCountVariableSpec)

end Rows
end Go.Proofs.YtnfkafaolelkbaaGreatDoor
