/-
  NARROWER THAN 'FOR EVERY INPUT', by the rows' own cells (each row's printed sentence says how): FnPathBuild: ifaces, laid · FnUnique: ifaces, laid · FnSumsUnique: ifaces, laid · FnSortedSums: ifaces, laid.
  DERIVED. THE GIVEN ROWS OF THIS SEAT. 4 by the template 'for every input the law returns true; each argument reads behind the call as it read before'; 0 by the template 'total and deterministic' (their statements: YtnhcknbbkmaiiaaGreatDoorTotals.lean).
  GIVEN WITH THE SEED: the statements are not yours to turn. If you find one false, say at which input.
  Laid BY PROGRAM, IN A SANDBOX (cutbox-rows.mjs): the forced cells as the released guide's own fill.sh prints them over the translation b3906a3e42713158… (all of the seat's roots in one cut). By AI agents, Wed Nov 11 2026. No macro, syntax, notation, axiom, sorry.
-/
import Derived.Test.YtnhcknbbkmaiiaaGreatDoorChecked
import GoSem.Claim
import GoSem.ClaimJoined
import GoSem.ClaimMapViews
import Derived.JoinedTies
import Derived.KernelRfl
namespace Go.Proofs.YtnhcknbbkmaiiaaGreatDoor
/- THE CELL 'sum', in the pinned program and in every row, IS THE sha256 OF THE DUMP (.gsa) THAT YtnhcknbbkmaiiaaGreatDoorProg.lean LOADS. Nothing in Lean hashes anything: it is a label: what it is worth is what the hold of that sum in a sandbox is worth. -/
noncomputable def Tryz.pinned : Pinned := { name := "ytnhcknbbkmaiiaagreatdoor", sum := "b3906a3e4271315842c8f7c46b2bd3b5886388df4b383c69484cbab23432e8e3", checked := Tryz.checked }
namespace Rows
def none {H : Type} : Left H := { results := [], args := [] }

/- WHAT THE LISTED PACKAGE-LEVEL VARIABLES READ AS WHEN THE CALL BEGINS. Each datum BY PROGRAM (the guide's laid-datum.mjs) off the statement by which the dump's own 'gosem.cut.vars' lays the variable. In a bare row this is a premise. The card (YtnhcknbbkmaiiaaGreatDoorCards.lean) ties it to the program's text. -/
def laid_loop_example_discretetomography_impl_errNoImage {H : Type} : DataW H := .iface "*errors.errorString" (.ptr (.agg [.lit (.string [110, 111, 32, 105, 109, 97, 103, 101, 32, 104, 97, 115, 32, 116, 104, 101, 115, 101, 32, 115, 117, 109, 115])]))

/-- 'laws.FnPathBuild': WHATEVER THE INPUT: true; the input reads as it did. -/
def fnPathBuildSpec : ChangeSpec := { name := "fnPathBuild", vars := ["loop.example/discretetomography/impl.errNoImage"], fn := fun _ => fun
  | [d, g1] => { results := [.lit (.bool true)], args := [d], vars := [g1] }
  | _ => none }
def fnPathBuildRow : OpenClaim := { program := "ytnhcknbbkmaiiaagreatdoor", sum := "b3906a3e4271315842c8f7c46b2bd3b5886388df4b383c69484cbab23432e8e3", func := "loop.example/discretetomography/laws.FnPathBuild", spec := "fnPathBuild", inPlace := ["internal/reflectlite.TypeOf"], unfollowed := true, recurses := true, named := ["loop.example/discretetomography/impl.errNoImage"], ifaces := true, apart := false, laid := [("loop.example/discretetomography/impl.errNoImage", laid_loop_example_discretetomography_impl_errNoImage)] }
def FnPathBuildSaid : Prop := fnPathBuildRow.holds Tryz.pinned (OpenSpec.ofChange fnPathBuildSpec)

/-- ITS FALSE NEIGHBOUR: 'it returns false'. Refute it at one input. -/
def fnPathBuildWrong : ChangeSpec := { name := "fnPathBuild", vars := ["loop.example/discretetomography/impl.errNoImage"], fn := fun _ => fun
  | [d, g1] => { results := [.lit (.bool false)], args := [d], vars := [g1] }
  | _ => none }
def FnPathBuildWrongFalsely : Prop := fnPathBuildRow.holds Tryz.pinned (OpenSpec.ofChange fnPathBuildWrong)

/-- 'laws.FnUnique': WHATEVER THE INPUT: true; the input reads as it did. -/
def fnUniqueSpec : ChangeSpec := { name := "fnUnique", vars := ["loop.example/discretetomography/impl.errNoImage"], fn := fun _ => fun
  | [d, g1] => { results := [.lit (.bool true)], args := [d], vars := [g1] }
  | _ => none }
def fnUniqueRow : OpenClaim := { program := "ytnhcknbbkmaiiaagreatdoor", sum := "b3906a3e4271315842c8f7c46b2bd3b5886388df4b383c69484cbab23432e8e3", func := "loop.example/discretetomography/laws.FnUnique", spec := "fnUnique", inPlace := ["internal/reflectlite.TypeOf"], unfollowed := true, recurses := true, named := ["loop.example/discretetomography/impl.errNoImage"], ifaces := true, apart := false, laid := [("loop.example/discretetomography/impl.errNoImage", laid_loop_example_discretetomography_impl_errNoImage)] }
def FnUniqueSaid : Prop := fnUniqueRow.holds Tryz.pinned (OpenSpec.ofChange fnUniqueSpec)

/-- ITS FALSE NEIGHBOUR: 'it returns false'. Refute it at one input. -/
def fnUniqueWrong : ChangeSpec := { name := "fnUnique", vars := ["loop.example/discretetomography/impl.errNoImage"], fn := fun _ => fun
  | [d, g1] => { results := [.lit (.bool false)], args := [d], vars := [g1] }
  | _ => none }
def FnUniqueWrongFalsely : Prop := fnUniqueRow.holds Tryz.pinned (OpenSpec.ofChange fnUniqueWrong)

/-- 'laws.FnSumsUnique': WHATEVER THE INPUT: true; the input reads as it did. -/
def fnSumsUniqueSpec : ChangeSpec := { name := "fnSumsUnique", vars := ["loop.example/discretetomography/impl.errNoImage"], fn := fun _ => fun
  | [d, g1] => { results := [.lit (.bool true)], args := [d], vars := [g1] }
  | _ => none }
def fnSumsUniqueRow : OpenClaim := { program := "ytnhcknbbkmaiiaagreatdoor", sum := "b3906a3e4271315842c8f7c46b2bd3b5886388df4b383c69484cbab23432e8e3", func := "loop.example/discretetomography/laws.FnSumsUnique", spec := "fnSumsUnique", inPlace := ["internal/reflectlite.TypeOf"], unfollowed := true, recurses := true, named := ["loop.example/discretetomography/impl.errNoImage"], ifaces := true, apart := false, laid := [("loop.example/discretetomography/impl.errNoImage", laid_loop_example_discretetomography_impl_errNoImage)] }
def FnSumsUniqueSaid : Prop := fnSumsUniqueRow.holds Tryz.pinned (OpenSpec.ofChange fnSumsUniqueSpec)

/-- ITS FALSE NEIGHBOUR: 'it returns false'. Refute it at one input. -/
def fnSumsUniqueWrong : ChangeSpec := { name := "fnSumsUnique", vars := ["loop.example/discretetomography/impl.errNoImage"], fn := fun _ => fun
  | [d, g1] => { results := [.lit (.bool false)], args := [d], vars := [g1] }
  | _ => none }
def FnSumsUniqueWrongFalsely : Prop := fnSumsUniqueRow.holds Tryz.pinned (OpenSpec.ofChange fnSumsUniqueWrong)

/-- 'laws.FnSortedSums': WHATEVER THE INPUT: true; the input reads as it did. -/
def fnSortedSumsSpec : ChangeSpec := { name := "fnSortedSums", vars := ["loop.example/discretetomography/impl.errNoImage"], fn := fun _ => fun
  | [d, g1] => { results := [.lit (.bool true)], args := [d], vars := [g1] }
  | _ => none }
def fnSortedSumsRow : OpenClaim := { program := "ytnhcknbbkmaiiaagreatdoor", sum := "b3906a3e4271315842c8f7c46b2bd3b5886388df4b383c69484cbab23432e8e3", func := "loop.example/discretetomography/laws.FnSortedSums", spec := "fnSortedSums", inPlace := ["internal/reflectlite.TypeOf"], unfollowed := true, recurses := true, named := ["loop.example/discretetomography/impl.errNoImage"], ifaces := true, apart := false, laid := [("loop.example/discretetomography/impl.errNoImage", laid_loop_example_discretetomography_impl_errNoImage)] }
def FnSortedSumsSaid : Prop := fnSortedSumsRow.holds Tryz.pinned (OpenSpec.ofChange fnSortedSumsSpec)

/-- ITS FALSE NEIGHBOUR: 'it returns false'. Refute it at one input. -/
def fnSortedSumsWrong : ChangeSpec := { name := "fnSortedSums", vars := ["loop.example/discretetomography/impl.errNoImage"], fn := fun _ => fun
  | [d, g1] => { results := [.lit (.bool false)], args := [d], vars := [g1] }
  | _ => none }
def FnSortedSumsWrongFalsely : Prop := fnSortedSumsRow.holds Tryz.pinned (OpenSpec.ofChange fnSortedSumsWrong)

/- THE SECOND FORM. 'bulk': how many values and letters a reading holds, each counted each time it is reached (what is shared counts as often as it is met; a slice's spare places count too). A statement '..UptoSaid' is the law's where the arguments, and the package variables that the reading takes, are together of bulk at most 1048576: NARROWER than '..Said'. Prove '..Said' where nothing that the law and all that it calls make is longer than what came in: it says more and counts as full. Else prove '..UptoSaid'. A law counts once. -/
mutual
def uptoBulk {H : Type} : DataW H → Nat
  | .lit (.string bytes) => bytes.length + 1
  | .lit _ => 1
  | .nil => 1
  | .ptr d => uptoBulk d + 1
  | .slice elems spare => uptoBulkAll elems + uptoBulkAll spare + 1
  | .agg parts => uptoBulkAll parts + 1
  | .iface _ d => uptoBulk d + 1
  | .map entries => uptoBulkEntries entries + 1
  | .held _ => 1
def uptoBulkAll {H : Type} : List (DataW H) → Nat
  | [] => 0
  | d :: r => uptoBulk d + uptoBulkAll r
def uptoBulkEntries {H : Type} : List (Lit × DataW H) → Nat
  | [] => 0
  | x :: r => uptoBulkEntry x + uptoBulkEntries r
def uptoBulkEntry {H : Type} : Lit × DataW H → Nat
  | (.string bytes, d) => bytes.length + uptoBulk d + 1
  | (_, d) => uptoBulk d + 1
 end
def uptoSmall : (H : Type) → List (DataW H) → Bool := fun _ ds => decide (uptoBulkAll ds ≤ 1048576)
def OpenSpec.upto (s : _root_.Go.ChangeSpec) : _root_.Go.OpenSpec := { _root_.Go.OpenSpec.ofChange s with cond := some uptoSmall }

/-- 'laws.FnPathBuild', WHERE WHAT IT READS IS OF BULK AT MOST 1048576: true; the input reads as it did. -/
def fnPathBuildUptoRow : OpenClaim := { program := "ytnhcknbbkmaiiaagreatdoor", sum := "b3906a3e4271315842c8f7c46b2bd3b5886388df4b383c69484cbab23432e8e3", func := "loop.example/discretetomography/laws.FnPathBuild", spec := "fnPathBuild", inPlace := ["internal/reflectlite.TypeOf"], unfollowed := true, recurses := true, named := ["loop.example/discretetomography/impl.errNoImage"], ifaces := true, apart := false, laid := [("loop.example/discretetomography/impl.errNoImage", laid_loop_example_discretetomography_impl_errNoImage)], narrowed := true }
def FnPathBuildUptoSaid : Prop := fnPathBuildUptoRow.holds Tryz.pinned (OpenSpec.upto fnPathBuildSpec)

/-- 'laws.FnUnique', WHERE WHAT IT READS IS OF BULK AT MOST 1048576: true; the input reads as it did. -/
def fnUniqueUptoRow : OpenClaim := { program := "ytnhcknbbkmaiiaagreatdoor", sum := "b3906a3e4271315842c8f7c46b2bd3b5886388df4b383c69484cbab23432e8e3", func := "loop.example/discretetomography/laws.FnUnique", spec := "fnUnique", inPlace := ["internal/reflectlite.TypeOf"], unfollowed := true, recurses := true, named := ["loop.example/discretetomography/impl.errNoImage"], ifaces := true, apart := false, laid := [("loop.example/discretetomography/impl.errNoImage", laid_loop_example_discretetomography_impl_errNoImage)], narrowed := true }
def FnUniqueUptoSaid : Prop := fnUniqueUptoRow.holds Tryz.pinned (OpenSpec.upto fnUniqueSpec)

/-- 'laws.FnSumsUnique', WHERE WHAT IT READS IS OF BULK AT MOST 1048576: true; the input reads as it did. -/
def fnSumsUniqueUptoRow : OpenClaim := { program := "ytnhcknbbkmaiiaagreatdoor", sum := "b3906a3e4271315842c8f7c46b2bd3b5886388df4b383c69484cbab23432e8e3", func := "loop.example/discretetomography/laws.FnSumsUnique", spec := "fnSumsUnique", inPlace := ["internal/reflectlite.TypeOf"], unfollowed := true, recurses := true, named := ["loop.example/discretetomography/impl.errNoImage"], ifaces := true, apart := false, laid := [("loop.example/discretetomography/impl.errNoImage", laid_loop_example_discretetomography_impl_errNoImage)], narrowed := true }
def FnSumsUniqueUptoSaid : Prop := fnSumsUniqueUptoRow.holds Tryz.pinned (OpenSpec.upto fnSumsUniqueSpec)

/-- 'laws.FnSortedSums', WHERE WHAT IT READS IS OF BULK AT MOST 1048576: true; the input reads as it did. -/
def fnSortedSumsUptoRow : OpenClaim := { program := "ytnhcknbbkmaiiaagreatdoor", sum := "b3906a3e4271315842c8f7c46b2bd3b5886388df4b383c69484cbab23432e8e3", func := "loop.example/discretetomography/laws.FnSortedSums", spec := "fnSortedSums", inPlace := ["internal/reflectlite.TypeOf"], unfollowed := true, recurses := true, named := ["loop.example/discretetomography/impl.errNoImage"], ifaces := true, apart := false, laid := [("loop.example/discretetomography/impl.errNoImage", laid_loop_example_discretetomography_impl_errNoImage)], narrowed := true }
def FnSortedSumsUptoSaid : Prop := fnSortedSumsUptoRow.holds Tryz.pinned (OpenSpec.upto fnSortedSumsSpec)

end Rows
end Go.Proofs.YtnhcknbbkmaiiaaGreatDoor
