/-
  NARROWER THAN 'FOR EVERY INPUT', by the rows' own cells (each row's printed sentence says how): FnConsistentNested: ifaces, laid · FnBuildIff: ifaces, laid · FnBuildNestedBuild: ifaces, laid · FnExactBuildImage: ifaces, laid · FnExactBuildRow: ifaces, laid.
  DERIVED. THE GIVEN ROWS OF THIS SEAT. 5 by the template 'for every input the law returns true; each argument reads behind the call as it read before'; 0 by the template 'total and deterministic' (their statements: YtocbnpkdncnbgaaDoorTotals.lean).
  GIVEN WITH THE SEED: the statements are not yours to turn. If you find one false, say at which input.
  Laid BY PROGRAM, IN A SANDBOX (cutbox-rows.mjs): the forced cells as the released guide's own fill.sh prints them over the translation 5362fb9adad54dc5… (all of the seat's roots in one cut). By AI agents, Wed Nov 11 2026. No macro, syntax, notation, axiom, sorry.
-/
import Derived.Test.YtocbnpkdncnbgaaDoorChecked
import GoSem.Claim
import GoSem.ClaimJoined
import GoSem.ClaimMapViews
import Derived.JoinedTies
import Derived.KernelRfl
namespace Go.Proofs.YtocbnpkdncnbgaaDoor
/- THE CELL 'sum', in the pinned program and in every row, IS THE sha256 OF THE DUMP (.gsa) THAT YtocbnpkdncnbgaaDoorProg.lean LOADS. Nothing in Lean hashes anything: it is a label: what it is worth is what the hold of that sum in a sandbox is worth. -/
noncomputable def Tryd.pinned : Pinned := { name := "ytocbnpkdncnbgaadoor", sum := "5362fb9adad54dc51883c6ff7274c4b7601399914b993e8c37ba653e01e72fbe", checked := Tryd.checked }
namespace Rows
def none {H : Type} : Left H := { results := [], args := [] }

/- WHAT THE LISTED PACKAGE-LEVEL VARIABLES READ AS WHEN THE CALL BEGINS. Each datum BY PROGRAM (the guide's laid-datum.mjs) off the statement by which the dump's own 'gosem.cut.vars' lays the variable. In a bare row this is a premise. The card (YtocbnpkdncnbgaaDoorCards.lean) ties it to the program's text. -/
def laid_loop_example_discretetomography_impl_errNoImage {H : Type} : DataW H := .iface "*errors.errorString" (.ptr (.agg [.lit (.string [110, 111, 32, 105, 109, 97, 103, 101, 32, 104, 97, 115, 32, 116, 104, 101, 115, 101, 32, 115, 117, 109, 115])]))

/-- 'laws.FnConsistentNested': WHATEVER THE INPUT: true; the input reads as it did. -/
def fnConsistentNestedSpec : ChangeSpec := { name := "fnConsistentNested", vars := ["loop.example/discretetomography/impl.errNoImage"], fn := fun _ => fun
  | [d1, d2, g1] => { results := [.lit (.bool true)], args := [d1, d2], vars := [g1] }
  | _ => none }
def fnConsistentNestedRow : OpenClaim := { program := "ytocbnpkdncnbgaadoor", sum := "5362fb9adad54dc51883c6ff7274c4b7601399914b993e8c37ba653e01e72fbe", func := "loop.example/discretetomography/laws.FnConsistentNested", spec := "fnConsistentNested", inPlace := ["internal/reflectlite.TypeOf"], unfollowed := true, recurses := true, named := ["loop.example/discretetomography/impl.errNoImage"], ifaces := true, apart := false, laid := [("loop.example/discretetomography/impl.errNoImage", laid_loop_example_discretetomography_impl_errNoImage)] }
def FnConsistentNestedSaid : Prop := fnConsistentNestedRow.holds Tryd.pinned (OpenSpec.ofChange fnConsistentNestedSpec)

/-- ITS FALSE NEIGHBOUR: 'it returns false'. Refute it at one input. -/
def fnConsistentNestedWrong : ChangeSpec := { name := "fnConsistentNested", vars := ["loop.example/discretetomography/impl.errNoImage"], fn := fun _ => fun
  | [d1, d2, g1] => { results := [.lit (.bool false)], args := [d1, d2], vars := [g1] }
  | _ => none }
def FnConsistentNestedWrongFalsely : Prop := fnConsistentNestedRow.holds Tryd.pinned (OpenSpec.ofChange fnConsistentNestedWrong)

/-- 'laws.FnBuildIff': WHATEVER THE INPUT: true; the input reads as it did. -/
def fnBuildIffSpec : ChangeSpec := { name := "fnBuildIff", vars := ["loop.example/discretetomography/impl.errNoImage"], fn := fun _ => fun
  | [d, g1] => { results := [.lit (.bool true)], args := [d], vars := [g1] }
  | _ => none }
def fnBuildIffRow : OpenClaim := { program := "ytocbnpkdncnbgaadoor", sum := "5362fb9adad54dc51883c6ff7274c4b7601399914b993e8c37ba653e01e72fbe", func := "loop.example/discretetomography/laws.FnBuildIff", spec := "fnBuildIff", inPlace := ["internal/reflectlite.TypeOf"], unfollowed := true, recurses := true, named := ["loop.example/discretetomography/impl.errNoImage"], ifaces := true, apart := false, laid := [("loop.example/discretetomography/impl.errNoImage", laid_loop_example_discretetomography_impl_errNoImage)] }
def FnBuildIffSaid : Prop := fnBuildIffRow.holds Tryd.pinned (OpenSpec.ofChange fnBuildIffSpec)

/-- ITS FALSE NEIGHBOUR: 'it returns false'. Refute it at one input. -/
def fnBuildIffWrong : ChangeSpec := { name := "fnBuildIff", vars := ["loop.example/discretetomography/impl.errNoImage"], fn := fun _ => fun
  | [d, g1] => { results := [.lit (.bool false)], args := [d], vars := [g1] }
  | _ => none }
def FnBuildIffWrongFalsely : Prop := fnBuildIffRow.holds Tryd.pinned (OpenSpec.ofChange fnBuildIffWrong)

/-- 'laws.FnBuildNestedBuild': WHATEVER THE INPUT: true; the input reads as it did. -/
def fnBuildNestedBuildSpec : ChangeSpec := { name := "fnBuildNestedBuild", vars := ["loop.example/discretetomography/impl.errNoImage"], fn := fun _ => fun
  | [d, g1] => { results := [.lit (.bool true)], args := [d], vars := [g1] }
  | _ => none }
def fnBuildNestedBuildRow : OpenClaim := { program := "ytocbnpkdncnbgaadoor", sum := "5362fb9adad54dc51883c6ff7274c4b7601399914b993e8c37ba653e01e72fbe", func := "loop.example/discretetomography/laws.FnBuildNestedBuild", spec := "fnBuildNestedBuild", inPlace := ["internal/reflectlite.TypeOf"], unfollowed := true, recurses := true, named := ["loop.example/discretetomography/impl.errNoImage"], ifaces := true, apart := false, laid := [("loop.example/discretetomography/impl.errNoImage", laid_loop_example_discretetomography_impl_errNoImage)] }
def FnBuildNestedBuildSaid : Prop := fnBuildNestedBuildRow.holds Tryd.pinned (OpenSpec.ofChange fnBuildNestedBuildSpec)

/-- ITS FALSE NEIGHBOUR: 'it returns false'. Refute it at one input. -/
def fnBuildNestedBuildWrong : ChangeSpec := { name := "fnBuildNestedBuild", vars := ["loop.example/discretetomography/impl.errNoImage"], fn := fun _ => fun
  | [d, g1] => { results := [.lit (.bool false)], args := [d], vars := [g1] }
  | _ => none }
def FnBuildNestedBuildWrongFalsely : Prop := fnBuildNestedBuildRow.holds Tryd.pinned (OpenSpec.ofChange fnBuildNestedBuildWrong)

/-- 'laws.FnExactBuildImage': WHATEVER THE INPUT: true; the input reads as it did. -/
def fnExactBuildImageSpec : ChangeSpec := { name := "fnExactBuildImage", vars := ["loop.example/discretetomography/impl.errNoImage"], fn := fun _ => fun
  | [d1, d2, g1] => { results := [.lit (.bool true)], args := [d1, d2], vars := [g1] }
  | _ => none }
def fnExactBuildImageRow : OpenClaim := { program := "ytocbnpkdncnbgaadoor", sum := "5362fb9adad54dc51883c6ff7274c4b7601399914b993e8c37ba653e01e72fbe", func := "loop.example/discretetomography/laws.FnExactBuildImage", spec := "fnExactBuildImage", inPlace := ["internal/reflectlite.TypeOf"], unfollowed := true, recurses := true, named := ["loop.example/discretetomography/impl.errNoImage"], ifaces := true, apart := false, laid := [("loop.example/discretetomography/impl.errNoImage", laid_loop_example_discretetomography_impl_errNoImage)] }
def FnExactBuildImageSaid : Prop := fnExactBuildImageRow.holds Tryd.pinned (OpenSpec.ofChange fnExactBuildImageSpec)

/-- ITS FALSE NEIGHBOUR: 'it returns false'. Refute it at one input. -/
def fnExactBuildImageWrong : ChangeSpec := { name := "fnExactBuildImage", vars := ["loop.example/discretetomography/impl.errNoImage"], fn := fun _ => fun
  | [d1, d2, g1] => { results := [.lit (.bool false)], args := [d1, d2], vars := [g1] }
  | _ => none }
def FnExactBuildImageWrongFalsely : Prop := fnExactBuildImageRow.holds Tryd.pinned (OpenSpec.ofChange fnExactBuildImageWrong)

/-- 'laws.FnExactBuildRow': WHATEVER THE INPUT: true; the input reads as it did. -/
def fnExactBuildRowSpec : ChangeSpec := { name := "fnExactBuildRow", vars := ["loop.example/discretetomography/impl.errNoImage"], fn := fun _ => fun
  | [d1, d2, g1] => { results := [.lit (.bool true)], args := [d1, d2], vars := [g1] }
  | _ => none }
def fnExactBuildRowRow : OpenClaim := { program := "ytocbnpkdncnbgaadoor", sum := "5362fb9adad54dc51883c6ff7274c4b7601399914b993e8c37ba653e01e72fbe", func := "loop.example/discretetomography/laws.FnExactBuildRow", spec := "fnExactBuildRow", inPlace := ["internal/reflectlite.TypeOf"], unfollowed := true, recurses := true, named := ["loop.example/discretetomography/impl.errNoImage"], ifaces := true, apart := false, laid := [("loop.example/discretetomography/impl.errNoImage", laid_loop_example_discretetomography_impl_errNoImage)] }
def FnExactBuildRowSaid : Prop := fnExactBuildRowRow.holds Tryd.pinned (OpenSpec.ofChange fnExactBuildRowSpec)

/-- ITS FALSE NEIGHBOUR: 'it returns false'. Refute it at one input. -/
def fnExactBuildRowWrong : ChangeSpec := { name := "fnExactBuildRow", vars := ["loop.example/discretetomography/impl.errNoImage"], fn := fun _ => fun
  | [d1, d2, g1] => { results := [.lit (.bool false)], args := [d1, d2], vars := [g1] }
  | _ => none }
def FnExactBuildRowWrongFalsely : Prop := fnExactBuildRowRow.holds Tryd.pinned (OpenSpec.ofChange fnExactBuildRowWrong)

/- THE SECOND FORM. 'bulk': how many values and letters a reading holds, each counted each time it is reached (what is shared counts as often as it is met; a slice's spare places count too). A statement '..UptoSaid' is the law's where the arguments, and the package variables that the reading takes, are together of bulk at most 1048576: NARROWER than '..Said'. Prove '..Said' where nothing that the law and all that it calls make is longer than what came in: it says more and counts as full. Else prove '..UptoSaid'. A law counts once. -/
mutual
def uptoBulk {H : Type} : DataW H → Nat
  | .lit (.string bytes) => bytes.length + 1
  | .lit _ => 1
  | .nil => 1
  | .ptr d => uptoBulk d + 1
  | .slice elems spare => uptoBulkAll elems + uptoBulkAll spare + 1
  | .agg parts => uptoBulkAll parts + 1
  | .iface _ d => uptoBulk d + 1
  | .map entries => uptoBulkEntries entries + 1
  | .held _ => 1
def uptoBulkAll {H : Type} : List (DataW H) → Nat
  | [] => 0
  | d :: r => uptoBulk d + uptoBulkAll r
def uptoBulkEntries {H : Type} : List (Lit × DataW H) → Nat
  | [] => 0
  | x :: r => uptoBulkEntry x + uptoBulkEntries r
def uptoBulkEntry {H : Type} : Lit × DataW H → Nat
  | (.string bytes, d) => bytes.length + uptoBulk d + 1
  | (_, d) => uptoBulk d + 1
 end
def uptoSmall : (H : Type) → List (DataW H) → Bool := fun _ ds => decide (uptoBulkAll ds ≤ 1048576)
def OpenSpec.upto (s : _root_.Go.ChangeSpec) : _root_.Go.OpenSpec := { _root_.Go.OpenSpec.ofChange s with cond := some uptoSmall }

/-- 'laws.FnConsistentNested', WHERE WHAT IT READS IS OF BULK AT MOST 1048576: true; the input reads as it did. -/
def fnConsistentNestedUptoRow : OpenClaim := { program := "ytocbnpkdncnbgaadoor", sum := "5362fb9adad54dc51883c6ff7274c4b7601399914b993e8c37ba653e01e72fbe", func := "loop.example/discretetomography/laws.FnConsistentNested", spec := "fnConsistentNested", inPlace := ["internal/reflectlite.TypeOf"], unfollowed := true, recurses := true, named := ["loop.example/discretetomography/impl.errNoImage"], ifaces := true, apart := false, laid := [("loop.example/discretetomography/impl.errNoImage", laid_loop_example_discretetomography_impl_errNoImage)], narrowed := true }
def FnConsistentNestedUptoSaid : Prop := fnConsistentNestedUptoRow.holds Tryd.pinned (OpenSpec.upto fnConsistentNestedSpec)

/-- 'laws.FnBuildIff', WHERE WHAT IT READS IS OF BULK AT MOST 1048576: true; the input reads as it did. -/
def fnBuildIffUptoRow : OpenClaim := { program := "ytocbnpkdncnbgaadoor", sum := "5362fb9adad54dc51883c6ff7274c4b7601399914b993e8c37ba653e01e72fbe", func := "loop.example/discretetomography/laws.FnBuildIff", spec := "fnBuildIff", inPlace := ["internal/reflectlite.TypeOf"], unfollowed := true, recurses := true, named := ["loop.example/discretetomography/impl.errNoImage"], ifaces := true, apart := false, laid := [("loop.example/discretetomography/impl.errNoImage", laid_loop_example_discretetomography_impl_errNoImage)], narrowed := true }
def FnBuildIffUptoSaid : Prop := fnBuildIffUptoRow.holds Tryd.pinned (OpenSpec.upto fnBuildIffSpec)

/-- 'laws.FnBuildNestedBuild', WHERE WHAT IT READS IS OF BULK AT MOST 1048576: true; the input reads as it did. -/
def fnBuildNestedBuildUptoRow : OpenClaim := { program := "ytocbnpkdncnbgaadoor", sum := "5362fb9adad54dc51883c6ff7274c4b7601399914b993e8c37ba653e01e72fbe", func := "loop.example/discretetomography/laws.FnBuildNestedBuild", spec := "fnBuildNestedBuild", inPlace := ["internal/reflectlite.TypeOf"], unfollowed := true, recurses := true, named := ["loop.example/discretetomography/impl.errNoImage"], ifaces := true, apart := false, laid := [("loop.example/discretetomography/impl.errNoImage", laid_loop_example_discretetomography_impl_errNoImage)], narrowed := true }
def FnBuildNestedBuildUptoSaid : Prop := fnBuildNestedBuildUptoRow.holds Tryd.pinned (OpenSpec.upto fnBuildNestedBuildSpec)

/-- 'laws.FnExactBuildImage', WHERE WHAT IT READS IS OF BULK AT MOST 1048576: true; the input reads as it did. -/
def fnExactBuildImageUptoRow : OpenClaim := { program := "ytocbnpkdncnbgaadoor", sum := "5362fb9adad54dc51883c6ff7274c4b7601399914b993e8c37ba653e01e72fbe", func := "loop.example/discretetomography/laws.FnExactBuildImage", spec := "fnExactBuildImage", inPlace := ["internal/reflectlite.TypeOf"], unfollowed := true, recurses := true, named := ["loop.example/discretetomography/impl.errNoImage"], ifaces := true, apart := false, laid := [("loop.example/discretetomography/impl.errNoImage", laid_loop_example_discretetomography_impl_errNoImage)], narrowed := true }
def FnExactBuildImageUptoSaid : Prop := fnExactBuildImageUptoRow.holds Tryd.pinned (OpenSpec.upto fnExactBuildImageSpec)

/-- 'laws.FnExactBuildRow', WHERE WHAT IT READS IS OF BULK AT MOST 1048576: true; the input reads as it did. -/
def fnExactBuildRowUptoRow : OpenClaim := { program := "ytocbnpkdncnbgaadoor", sum := "5362fb9adad54dc51883c6ff7274c4b7601399914b993e8c37ba653e01e72fbe", func := "loop.example/discretetomography/laws.FnExactBuildRow", spec := "fnExactBuildRow", inPlace := ["internal/reflectlite.TypeOf"], unfollowed := true, recurses := true, named := ["loop.example/discretetomography/impl.errNoImage"], ifaces := true, apart := false, laid := [("loop.example/discretetomography/impl.errNoImage", laid_loop_example_discretetomography_impl_errNoImage)], narrowed := true }
def FnExactBuildRowUptoSaid : Prop := fnExactBuildRowUptoRow.holds Tryd.pinned (OpenSpec.upto fnExactBuildRowSpec)

end Rows
end Go.Proofs.YtocbnpkdncnbgaaDoor
