/-
  NARROWER THAN 'FOR EVERY INPUT', by the rows' own cells (each row's printed sentence says how): FnBuild: ifaces, laid · FnBuildRow: ifaces, laid · FnBuildFirst: ifaces, laid · FnBuildTurn: ifaces, laid.
  DERIVED. THE GIVEN ROWS OF THIS SEAT. 4 by the template 'for every input the law returns true; each argument reads behind the call as it read before'; 0 by the template 'total and deterministic' (their statements: YtocbnpkdncnbgaaGreatDoorTotals.lean).
  GIVEN WITH THE SEED: the statements are not yours to turn. If you find one false, say at which input.
  Laid BY PROGRAM, IN A SANDBOX (cutbox-rows.mjs): the forced cells as the released guide's own fill.sh prints them over the translation 9d9865fc3fb8a0dd… (all of the seat's roots in one cut). By AI agents, Wed Nov 11 2026. No macro, syntax, notation, axiom, sorry.
-/
import Derived.Test.YtocbnpkdncnbgaaGreatDoorChecked
import GoSem.Claim
import GoSem.ClaimJoined
import GoSem.ClaimMapViews
import Derived.JoinedTies
import Derived.KernelRfl
namespace Go.Proofs.YtocbnpkdncnbgaaGreatDoor
/- THE CELL 'sum', in the pinned program and in every row, IS THE sha256 OF THE DUMP (.gsa) THAT YtocbnpkdncnbgaaGreatDoorProg.lean LOADS. Nothing in Lean hashes anything: it is a label: what it is worth is what the hold of that sum in a sandbox is worth. -/
noncomputable def Tryz.pinned : Pinned := { name := "ytocbnpkdncnbgaagreatdoor", sum := "9d9865fc3fb8a0dd44a27864626bb0c1f55f408cbc0fc63f8dedebba7c54ba30", checked := Tryz.checked }
namespace Rows
def none {H : Type} : Left H := { results := [], args := [] }

/- WHAT THE LISTED PACKAGE-LEVEL VARIABLES READ AS WHEN THE CALL BEGINS. Each datum BY PROGRAM (the guide's laid-datum.mjs) off the statement by which the dump's own 'gosem.cut.vars' lays the variable. In a bare row this is a premise. The card (YtocbnpkdncnbgaaGreatDoorCards.lean) ties it to the program's text. -/
def laid_loop_example_discretetomography_impl_errNoImage {H : Type} : DataW H := .iface "*errors.errorString" (.ptr (.agg [.lit (.string [110, 111, 32, 105, 109, 97, 103, 101, 32, 104, 97, 115, 32, 116, 104, 101, 115, 101, 32, 115, 117, 109, 115])]))

/-- 'laws.FnBuild': WHATEVER THE INPUT: true; the input reads as it did. -/
def fnBuildSpec : ChangeSpec := { name := "fnBuild", vars := ["loop.example/discretetomography/impl.errNoImage"], fn := fun _ => fun
  | [d, g1] => { results := [.lit (.bool true)], args := [d], vars := [g1] }
  | _ => none }
def fnBuildRow : OpenClaim := { program := "ytocbnpkdncnbgaagreatdoor", sum := "9d9865fc3fb8a0dd44a27864626bb0c1f55f408cbc0fc63f8dedebba7c54ba30", func := "loop.example/discretetomography/laws.FnBuild", spec := "fnBuild", inPlace := ["internal/reflectlite.TypeOf"], unfollowed := true, recurses := true, named := ["loop.example/discretetomography/impl.errNoImage"], ifaces := true, apart := false, laid := [("loop.example/discretetomography/impl.errNoImage", laid_loop_example_discretetomography_impl_errNoImage)] }
def FnBuildSaid : Prop := fnBuildRow.holds Tryz.pinned (OpenSpec.ofChange fnBuildSpec)

/-- ITS FALSE NEIGHBOUR: 'it returns false'. Refute it at one input. -/
def fnBuildWrong : ChangeSpec := { name := "fnBuild", vars := ["loop.example/discretetomography/impl.errNoImage"], fn := fun _ => fun
  | [d, g1] => { results := [.lit (.bool false)], args := [d], vars := [g1] }
  | _ => none }
def FnBuildWrongFalsely : Prop := fnBuildRow.holds Tryz.pinned (OpenSpec.ofChange fnBuildWrong)

/-- 'laws.FnBuildRow': WHATEVER THE INPUT: true; the input reads as it did. -/
def fnBuildRowSpec : ChangeSpec := { name := "fnBuildRow", vars := ["loop.example/discretetomography/impl.errNoImage"], fn := fun _ => fun
  | [d, g1] => { results := [.lit (.bool true)], args := [d], vars := [g1] }
  | _ => none }
def fnBuildRowRow : OpenClaim := { program := "ytocbnpkdncnbgaagreatdoor", sum := "9d9865fc3fb8a0dd44a27864626bb0c1f55f408cbc0fc63f8dedebba7c54ba30", func := "loop.example/discretetomography/laws.FnBuildRow", spec := "fnBuildRow", inPlace := ["internal/reflectlite.TypeOf"], unfollowed := true, recurses := true, named := ["loop.example/discretetomography/impl.errNoImage"], ifaces := true, apart := false, laid := [("loop.example/discretetomography/impl.errNoImage", laid_loop_example_discretetomography_impl_errNoImage)] }
def FnBuildRowSaid : Prop := fnBuildRowRow.holds Tryz.pinned (OpenSpec.ofChange fnBuildRowSpec)

/-- ITS FALSE NEIGHBOUR: 'it returns false'. Refute it at one input. -/
def fnBuildRowWrong : ChangeSpec := { name := "fnBuildRow", vars := ["loop.example/discretetomography/impl.errNoImage"], fn := fun _ => fun
  | [d, g1] => { results := [.lit (.bool false)], args := [d], vars := [g1] }
  | _ => none }
def FnBuildRowWrongFalsely : Prop := fnBuildRowRow.holds Tryz.pinned (OpenSpec.ofChange fnBuildRowWrong)

/-- 'laws.FnBuildFirst': WHATEVER THE INPUT: true; the input reads as it did. -/
def fnBuildFirstSpec : ChangeSpec := { name := "fnBuildFirst", vars := ["loop.example/discretetomography/impl.errNoImage"], fn := fun _ => fun
  | [d, g1] => { results := [.lit (.bool true)], args := [d], vars := [g1] }
  | _ => none }
def fnBuildFirstRow : OpenClaim := { program := "ytocbnpkdncnbgaagreatdoor", sum := "9d9865fc3fb8a0dd44a27864626bb0c1f55f408cbc0fc63f8dedebba7c54ba30", func := "loop.example/discretetomography/laws.FnBuildFirst", spec := "fnBuildFirst", inPlace := ["internal/reflectlite.TypeOf"], unfollowed := true, recurses := true, named := ["loop.example/discretetomography/impl.errNoImage"], ifaces := true, apart := false, laid := [("loop.example/discretetomography/impl.errNoImage", laid_loop_example_discretetomography_impl_errNoImage)] }
def FnBuildFirstSaid : Prop := fnBuildFirstRow.holds Tryz.pinned (OpenSpec.ofChange fnBuildFirstSpec)

/-- ITS FALSE NEIGHBOUR: 'it returns false'. Refute it at one input. -/
def fnBuildFirstWrong : ChangeSpec := { name := "fnBuildFirst", vars := ["loop.example/discretetomography/impl.errNoImage"], fn := fun _ => fun
  | [d, g1] => { results := [.lit (.bool false)], args := [d], vars := [g1] }
  | _ => none }
def FnBuildFirstWrongFalsely : Prop := fnBuildFirstRow.holds Tryz.pinned (OpenSpec.ofChange fnBuildFirstWrong)

/-- 'laws.FnBuildTurn': WHATEVER THE INPUT: true; the input reads as it did. -/
def fnBuildTurnSpec : ChangeSpec := { name := "fnBuildTurn", vars := ["loop.example/discretetomography/impl.errNoImage"], fn := fun _ => fun
  | [d, g1] => { results := [.lit (.bool true)], args := [d], vars := [g1] }
  | _ => none }
def fnBuildTurnRow : OpenClaim := { program := "ytocbnpkdncnbgaagreatdoor", sum := "9d9865fc3fb8a0dd44a27864626bb0c1f55f408cbc0fc63f8dedebba7c54ba30", func := "loop.example/discretetomography/laws.FnBuildTurn", spec := "fnBuildTurn", inPlace := ["internal/reflectlite.TypeOf"], unfollowed := true, recurses := true, named := ["loop.example/discretetomography/impl.errNoImage"], ifaces := true, apart := false, laid := [("loop.example/discretetomography/impl.errNoImage", laid_loop_example_discretetomography_impl_errNoImage)] }
def FnBuildTurnSaid : Prop := fnBuildTurnRow.holds Tryz.pinned (OpenSpec.ofChange fnBuildTurnSpec)

/-- ITS FALSE NEIGHBOUR: 'it returns false'. Refute it at one input. -/
def fnBuildTurnWrong : ChangeSpec := { name := "fnBuildTurn", vars := ["loop.example/discretetomography/impl.errNoImage"], fn := fun _ => fun
  | [d, g1] => { results := [.lit (.bool false)], args := [d], vars := [g1] }
  | _ => none }
def FnBuildTurnWrongFalsely : Prop := fnBuildTurnRow.holds Tryz.pinned (OpenSpec.ofChange fnBuildTurnWrong)

/- THE SECOND FORM. 'bulk': how many values and letters a reading holds, each counted each time it is reached (what is shared counts as often as it is met; a slice's spare places count too). A statement '..UptoSaid' is the law's where the arguments, and the package variables that the reading takes, are together of bulk at most 1048576: NARROWER than '..Said'. Prove '..Said' where nothing that the law and all that it calls make is longer than what came in: it says more and counts as full. Else prove '..UptoSaid'. A law counts once. -/
mutual
def uptoBulk {H : Type} : DataW H → Nat
  | .lit (.string bytes) => bytes.length + 1
  | .lit _ => 1
  | .nil => 1
  | .ptr d => uptoBulk d + 1
  | .slice elems spare => uptoBulkAll elems + uptoBulkAll spare + 1
  | .agg parts => uptoBulkAll parts + 1
  | .iface _ d => uptoBulk d + 1
  | .map entries => uptoBulkEntries entries + 1
  | .held _ => 1
def uptoBulkAll {H : Type} : List (DataW H) → Nat
  | [] => 0
  | d :: r => uptoBulk d + uptoBulkAll r
def uptoBulkEntries {H : Type} : List (Lit × DataW H) → Nat
  | [] => 0
  | x :: r => uptoBulkEntry x + uptoBulkEntries r
def uptoBulkEntry {H : Type} : Lit × DataW H → Nat
  | (.string bytes, d) => bytes.length + uptoBulk d + 1
  | (_, d) => uptoBulk d + 1
 end
def uptoSmall : (H : Type) → List (DataW H) → Bool := fun _ ds => decide (uptoBulkAll ds ≤ 1048576)
def OpenSpec.upto (s : _root_.Go.ChangeSpec) : _root_.Go.OpenSpec := { _root_.Go.OpenSpec.ofChange s with cond := some uptoSmall }

/-- 'laws.FnBuild', WHERE WHAT IT READS IS OF BULK AT MOST 1048576: true; the input reads as it did. -/
def fnBuildUptoRow : OpenClaim := { program := "ytocbnpkdncnbgaagreatdoor", sum := "9d9865fc3fb8a0dd44a27864626bb0c1f55f408cbc0fc63f8dedebba7c54ba30", func := "loop.example/discretetomography/laws.FnBuild", spec := "fnBuild", inPlace := ["internal/reflectlite.TypeOf"], unfollowed := true, recurses := true, named := ["loop.example/discretetomography/impl.errNoImage"], ifaces := true, apart := false, laid := [("loop.example/discretetomography/impl.errNoImage", laid_loop_example_discretetomography_impl_errNoImage)], narrowed := true }
def FnBuildUptoSaid : Prop := fnBuildUptoRow.holds Tryz.pinned (OpenSpec.upto fnBuildSpec)

/-- 'laws.FnBuildRow', WHERE WHAT IT READS IS OF BULK AT MOST 1048576: true; the input reads as it did. -/
def fnBuildRowUptoRow : OpenClaim := { program := "ytocbnpkdncnbgaagreatdoor", sum := "9d9865fc3fb8a0dd44a27864626bb0c1f55f408cbc0fc63f8dedebba7c54ba30", func := "loop.example/discretetomography/laws.FnBuildRow", spec := "fnBuildRow", inPlace := ["internal/reflectlite.TypeOf"], unfollowed := true, recurses := true, named := ["loop.example/discretetomography/impl.errNoImage"], ifaces := true, apart := false, laid := [("loop.example/discretetomography/impl.errNoImage", laid_loop_example_discretetomography_impl_errNoImage)], narrowed := true }
def FnBuildRowUptoSaid : Prop := fnBuildRowUptoRow.holds Tryz.pinned (OpenSpec.upto fnBuildRowSpec)

/-- 'laws.FnBuildFirst', WHERE WHAT IT READS IS OF BULK AT MOST 1048576: true; the input reads as it did. -/
def fnBuildFirstUptoRow : OpenClaim := { program := "ytocbnpkdncnbgaagreatdoor", sum := "9d9865fc3fb8a0dd44a27864626bb0c1f55f408cbc0fc63f8dedebba7c54ba30", func := "loop.example/discretetomography/laws.FnBuildFirst", spec := "fnBuildFirst", inPlace := ["internal/reflectlite.TypeOf"], unfollowed := true, recurses := true, named := ["loop.example/discretetomography/impl.errNoImage"], ifaces := true, apart := false, laid := [("loop.example/discretetomography/impl.errNoImage", laid_loop_example_discretetomography_impl_errNoImage)], narrowed := true }
def FnBuildFirstUptoSaid : Prop := fnBuildFirstUptoRow.holds Tryz.pinned (OpenSpec.upto fnBuildFirstSpec)

/-- 'laws.FnBuildTurn', WHERE WHAT IT READS IS OF BULK AT MOST 1048576: true; the input reads as it did. -/
def fnBuildTurnUptoRow : OpenClaim := { program := "ytocbnpkdncnbgaagreatdoor", sum := "9d9865fc3fb8a0dd44a27864626bb0c1f55f408cbc0fc63f8dedebba7c54ba30", func := "loop.example/discretetomography/laws.FnBuildTurn", spec := "fnBuildTurn", inPlace := ["internal/reflectlite.TypeOf"], unfollowed := true, recurses := true, named := ["loop.example/discretetomography/impl.errNoImage"], ifaces := true, apart := false, laid := [("loop.example/discretetomography/impl.errNoImage", laid_loop_example_discretetomography_impl_errNoImage)], narrowed := true }
def FnBuildTurnUptoSaid : Prop := fnBuildTurnUptoRow.holds Tryz.pinned (OpenSpec.upto fnBuildTurnSpec)

end Rows
end Go.Proofs.YtocbnpkdncnbgaaGreatDoor
