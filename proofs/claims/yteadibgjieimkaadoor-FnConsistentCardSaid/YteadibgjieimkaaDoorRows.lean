/-
  NARROWER THAN 'FOR EVERY INPUT', by the rows' own cells (each row's printed sentence says how): FnConsistent: ifaces, laid · FnConsistentOrder: ifaces, laid · FnConsistentFlat: ifaces, laid · FnImageConsistent: ifaces, laid · FnExcess: ifaces, laid · FnConsistentZero: ifaces, laid · FnExactSumsConsistent: ifaces, laid.
  DERIVED. THE GIVEN ROWS OF THIS SEAT. 7 by the template 'for every input the law returns true; each argument reads behind the call as it read before'; 0 by the template 'total and deterministic' (their statements: YteadibgjieimkaaDoorTotals.lean).
  GIVEN WITH THE SEED: the statements are not yours to turn. If you find one false, say at which input.
  Laid BY PROGRAM, IN A SANDBOX (cutbox-rows.mjs): the forced cells as the released guide's own fill.sh prints them over the translation 29483bd23b21fa46… (all of the seat's roots in one cut). By AI agents, Wed Nov 11 2026. No macro, syntax, notation, axiom, sorry.
-/
import Derived.Test.YteadibgjieimkaaDoorChecked
import GoSem.Claim
import GoSem.ClaimJoined
import GoSem.ClaimMapViews
import Derived.JoinedTies
import Derived.KernelRfl
namespace Go.Proofs.YteadibgjieimkaaDoor
/- THE CELL 'sum', in the pinned program and in every row, IS THE sha256 OF THE DUMP (.gsa) THAT YteadibgjieimkaaDoorProg.lean LOADS. Nothing in Lean hashes anything: it is a label: what it is worth is what the hold of that sum in a sandbox is worth. -/
noncomputable def Tryd.pinned : Pinned := { name := "yteadibgjieimkaadoor", sum := "29483bd23b21fa4614454cc10393e184bca5c9d4a2a35d1361aabf92b5b3d9d0", checked := Tryd.checked }
namespace Rows
def none {H : Type} : Left H := { results := [], args := [] }

/- WHAT THE LISTED PACKAGE-LEVEL VARIABLES READ AS WHEN THE CALL BEGINS. Each datum BY PROGRAM (the guide's laid-datum.mjs) off the statement by which the dump's own 'gosem.cut.vars' lays the variable. In a bare row this is a premise. The card (YteadibgjieimkaaDoorCards.lean) ties it to the program's text. -/
def laid_loop_example_discretetomography_impl_errNoImage {H : Type} : DataW H := .iface "*errors.errorString" (.ptr (.agg [.lit (.string [110, 111, 32, 105, 109, 97, 103, 101, 32, 104, 97, 115, 32, 116, 104, 101, 115, 101, 32, 115, 117, 109, 115])]))

/-- 'laws.FnConsistent': WHATEVER THE INPUT: true; the input reads as it did. -/
def fnConsistentSpec : ChangeSpec := { name := "fnConsistent", vars := ["loop.example/discretetomography/impl.errNoImage"], fn := fun _ => fun
  | [d, g1] => { results := [.lit (.bool true)], args := [d], vars := [g1] }
  | _ => none }
def fnConsistentRow : OpenClaim := { program := "yteadibgjieimkaadoor", sum := "29483bd23b21fa4614454cc10393e184bca5c9d4a2a35d1361aabf92b5b3d9d0", func := "loop.example/discretetomography/laws.FnConsistent", spec := "fnConsistent", inPlace := ["internal/reflectlite.TypeOf"], unfollowed := true, recurses := true, named := ["loop.example/discretetomography/impl.errNoImage"], ifaces := true, apart := false, laid := [("loop.example/discretetomography/impl.errNoImage", laid_loop_example_discretetomography_impl_errNoImage)] }
def FnConsistentSaid : Prop := fnConsistentRow.holds Tryd.pinned (OpenSpec.ofChange fnConsistentSpec)

/-- ITS FALSE NEIGHBOUR: 'it returns false'. Refute it at one input. -/
def fnConsistentWrong : ChangeSpec := { name := "fnConsistent", vars := ["loop.example/discretetomography/impl.errNoImage"], fn := fun _ => fun
  | [d, g1] => { results := [.lit (.bool false)], args := [d], vars := [g1] }
  | _ => none }
def FnConsistentWrongFalsely : Prop := fnConsistentRow.holds Tryd.pinned (OpenSpec.ofChange fnConsistentWrong)

/-- 'laws.FnConsistentOrder': WHATEVER THE INPUT: true; the input reads as it did. -/
def fnConsistentOrderSpec : ChangeSpec := { name := "fnConsistentOrder", vars := ["loop.example/discretetomography/impl.errNoImage"], fn := fun _ => fun
  | [d1, d2, g1] => { results := [.lit (.bool true)], args := [d1, d2], vars := [g1] }
  | _ => none }
def fnConsistentOrderRow : OpenClaim := { program := "yteadibgjieimkaadoor", sum := "29483bd23b21fa4614454cc10393e184bca5c9d4a2a35d1361aabf92b5b3d9d0", func := "loop.example/discretetomography/laws.FnConsistentOrder", spec := "fnConsistentOrder", inPlace := ["internal/reflectlite.TypeOf"], unfollowed := true, recurses := true, named := ["loop.example/discretetomography/impl.errNoImage"], ifaces := true, apart := false, laid := [("loop.example/discretetomography/impl.errNoImage", laid_loop_example_discretetomography_impl_errNoImage)] }
def FnConsistentOrderSaid : Prop := fnConsistentOrderRow.holds Tryd.pinned (OpenSpec.ofChange fnConsistentOrderSpec)

/-- ITS FALSE NEIGHBOUR: 'it returns false'. Refute it at one input. -/
def fnConsistentOrderWrong : ChangeSpec := { name := "fnConsistentOrder", vars := ["loop.example/discretetomography/impl.errNoImage"], fn := fun _ => fun
  | [d1, d2, g1] => { results := [.lit (.bool false)], args := [d1, d2], vars := [g1] }
  | _ => none }
def FnConsistentOrderWrongFalsely : Prop := fnConsistentOrderRow.holds Tryd.pinned (OpenSpec.ofChange fnConsistentOrderWrong)

/-- 'laws.FnConsistentFlat': WHATEVER THE INPUT: true; the input reads as it did. -/
def fnConsistentFlatSpec : ChangeSpec := { name := "fnConsistentFlat", vars := ["loop.example/discretetomography/impl.errNoImage"], fn := fun _ => fun
  | [d, g1] => { results := [.lit (.bool true)], args := [d], vars := [g1] }
  | _ => none }
def fnConsistentFlatRow : OpenClaim := { program := "yteadibgjieimkaadoor", sum := "29483bd23b21fa4614454cc10393e184bca5c9d4a2a35d1361aabf92b5b3d9d0", func := "loop.example/discretetomography/laws.FnConsistentFlat", spec := "fnConsistentFlat", inPlace := ["internal/reflectlite.TypeOf"], unfollowed := true, recurses := true, named := ["loop.example/discretetomography/impl.errNoImage"], ifaces := true, apart := false, laid := [("loop.example/discretetomography/impl.errNoImage", laid_loop_example_discretetomography_impl_errNoImage)] }
def FnConsistentFlatSaid : Prop := fnConsistentFlatRow.holds Tryd.pinned (OpenSpec.ofChange fnConsistentFlatSpec)

/-- ITS FALSE NEIGHBOUR: 'it returns false'. Refute it at one input. -/
def fnConsistentFlatWrong : ChangeSpec := { name := "fnConsistentFlat", vars := ["loop.example/discretetomography/impl.errNoImage"], fn := fun _ => fun
  | [d, g1] => { results := [.lit (.bool false)], args := [d], vars := [g1] }
  | _ => none }
def FnConsistentFlatWrongFalsely : Prop := fnConsistentFlatRow.holds Tryd.pinned (OpenSpec.ofChange fnConsistentFlatWrong)

/-- 'laws.FnImageConsistent': WHATEVER THE INPUT: true; the input reads as it did. -/
def fnImageConsistentSpec : ChangeSpec := { name := "fnImageConsistent", vars := ["loop.example/discretetomography/impl.errNoImage"], fn := fun _ => fun
  | [d, g1] => { results := [.lit (.bool true)], args := [d], vars := [g1] }
  | _ => none }
def fnImageConsistentRow : OpenClaim := { program := "yteadibgjieimkaadoor", sum := "29483bd23b21fa4614454cc10393e184bca5c9d4a2a35d1361aabf92b5b3d9d0", func := "loop.example/discretetomography/laws.FnImageConsistent", spec := "fnImageConsistent", inPlace := ["internal/reflectlite.TypeOf"], unfollowed := true, recurses := true, named := ["loop.example/discretetomography/impl.errNoImage"], ifaces := true, apart := false, laid := [("loop.example/discretetomography/impl.errNoImage", laid_loop_example_discretetomography_impl_errNoImage)] }
def FnImageConsistentSaid : Prop := fnImageConsistentRow.holds Tryd.pinned (OpenSpec.ofChange fnImageConsistentSpec)

/-- ITS FALSE NEIGHBOUR: 'it returns false'. Refute it at one input. -/
def fnImageConsistentWrong : ChangeSpec := { name := "fnImageConsistent", vars := ["loop.example/discretetomography/impl.errNoImage"], fn := fun _ => fun
  | [d, g1] => { results := [.lit (.bool false)], args := [d], vars := [g1] }
  | _ => none }
def FnImageConsistentWrongFalsely : Prop := fnImageConsistentRow.holds Tryd.pinned (OpenSpec.ofChange fnImageConsistentWrong)

/-- 'laws.FnExcess': WHATEVER THE INPUT: true; the input reads as it did. -/
def fnExcessSpec : ChangeSpec := { name := "fnExcess", vars := ["loop.example/discretetomography/impl.errNoImage"], fn := fun _ => fun
  | [d, g1] => { results := [.lit (.bool true)], args := [d], vars := [g1] }
  | _ => none }
def fnExcessRow : OpenClaim := { program := "yteadibgjieimkaadoor", sum := "29483bd23b21fa4614454cc10393e184bca5c9d4a2a35d1361aabf92b5b3d9d0", func := "loop.example/discretetomography/laws.FnExcess", spec := "fnExcess", inPlace := ["internal/reflectlite.TypeOf"], unfollowed := true, recurses := true, named := ["loop.example/discretetomography/impl.errNoImage"], ifaces := true, apart := false, laid := [("loop.example/discretetomography/impl.errNoImage", laid_loop_example_discretetomography_impl_errNoImage)] }
def FnExcessSaid : Prop := fnExcessRow.holds Tryd.pinned (OpenSpec.ofChange fnExcessSpec)

/-- ITS FALSE NEIGHBOUR: 'it returns false'. Refute it at one input. -/
def fnExcessWrong : ChangeSpec := { name := "fnExcess", vars := ["loop.example/discretetomography/impl.errNoImage"], fn := fun _ => fun
  | [d, g1] => { results := [.lit (.bool false)], args := [d], vars := [g1] }
  | _ => none }
def FnExcessWrongFalsely : Prop := fnExcessRow.holds Tryd.pinned (OpenSpec.ofChange fnExcessWrong)

/-- 'laws.FnConsistentZero': WHATEVER THE INPUT: true; the input reads as it did. -/
def fnConsistentZeroSpec : ChangeSpec := { name := "fnConsistentZero", vars := ["loop.example/discretetomography/impl.errNoImage"], fn := fun _ => fun
  | [d, g1] => { results := [.lit (.bool true)], args := [d], vars := [g1] }
  | _ => none }
def fnConsistentZeroRow : OpenClaim := { program := "yteadibgjieimkaadoor", sum := "29483bd23b21fa4614454cc10393e184bca5c9d4a2a35d1361aabf92b5b3d9d0", func := "loop.example/discretetomography/laws.FnConsistentZero", spec := "fnConsistentZero", inPlace := ["internal/reflectlite.TypeOf"], unfollowed := true, recurses := true, named := ["loop.example/discretetomography/impl.errNoImage"], ifaces := true, apart := false, laid := [("loop.example/discretetomography/impl.errNoImage", laid_loop_example_discretetomography_impl_errNoImage)] }
def FnConsistentZeroSaid : Prop := fnConsistentZeroRow.holds Tryd.pinned (OpenSpec.ofChange fnConsistentZeroSpec)

/-- ITS FALSE NEIGHBOUR: 'it returns false'. Refute it at one input. -/
def fnConsistentZeroWrong : ChangeSpec := { name := "fnConsistentZero", vars := ["loop.example/discretetomography/impl.errNoImage"], fn := fun _ => fun
  | [d, g1] => { results := [.lit (.bool false)], args := [d], vars := [g1] }
  | _ => none }
def FnConsistentZeroWrongFalsely : Prop := fnConsistentZeroRow.holds Tryd.pinned (OpenSpec.ofChange fnConsistentZeroWrong)

/-- 'laws.FnExactSumsConsistent': WHATEVER THE INPUT: true; the input reads as it did. -/
def fnExactSumsConsistentSpec : ChangeSpec := { name := "fnExactSumsConsistent", vars := ["loop.example/discretetomography/impl.errNoImage"], fn := fun _ => fun
  | [d1, d2, g1] => { results := [.lit (.bool true)], args := [d1, d2], vars := [g1] }
  | _ => none }
def fnExactSumsConsistentRow : OpenClaim := { program := "yteadibgjieimkaadoor", sum := "29483bd23b21fa4614454cc10393e184bca5c9d4a2a35d1361aabf92b5b3d9d0", func := "loop.example/discretetomography/laws.FnExactSumsConsistent", spec := "fnExactSumsConsistent", inPlace := ["internal/reflectlite.TypeOf"], unfollowed := true, recurses := true, named := ["loop.example/discretetomography/impl.errNoImage"], ifaces := true, apart := false, laid := [("loop.example/discretetomography/impl.errNoImage", laid_loop_example_discretetomography_impl_errNoImage)] }
def FnExactSumsConsistentSaid : Prop := fnExactSumsConsistentRow.holds Tryd.pinned (OpenSpec.ofChange fnExactSumsConsistentSpec)

/-- ITS FALSE NEIGHBOUR: 'it returns false'. Refute it at one input. -/
def fnExactSumsConsistentWrong : ChangeSpec := { name := "fnExactSumsConsistent", vars := ["loop.example/discretetomography/impl.errNoImage"], fn := fun _ => fun
  | [d1, d2, g1] => { results := [.lit (.bool false)], args := [d1, d2], vars := [g1] }
  | _ => none }
def FnExactSumsConsistentWrongFalsely : Prop := fnExactSumsConsistentRow.holds Tryd.pinned (OpenSpec.ofChange fnExactSumsConsistentWrong)

/- THE SECOND FORM. 'bulk': how many values and letters a reading holds, each counted each time it is reached (what is shared counts as often as it is met; a slice's spare places count too). A statement '..UptoSaid' is the law's where the arguments, and the package variables that the reading takes, are together of bulk at most 1048576: NARROWER than '..Said'. Prove '..Said' where nothing that the law and all that it calls make is longer than what came in: it says more and counts as full. Else prove '..UptoSaid'. A law counts once. -/
mutual
def uptoBulk {H : Type} : DataW H → Nat
  | .lit (.string bytes) => bytes.length + 1
  | .lit _ => 1
  | .nil => 1
  | .ptr d => uptoBulk d + 1
  | .slice elems spare => uptoBulkAll elems + uptoBulkAll spare + 1
  | .agg parts => uptoBulkAll parts + 1
  | .iface _ d => uptoBulk d + 1
  | .map entries => uptoBulkEntries entries + 1
  | .held _ => 1
def uptoBulkAll {H : Type} : List (DataW H) → Nat
  | [] => 0
  | d :: r => uptoBulk d + uptoBulkAll r
def uptoBulkEntries {H : Type} : List (Lit × DataW H) → Nat
  | [] => 0
  | x :: r => uptoBulkEntry x + uptoBulkEntries r
def uptoBulkEntry {H : Type} : Lit × DataW H → Nat
  | (.string bytes, d) => bytes.length + uptoBulk d + 1
  | (_, d) => uptoBulk d + 1
 end
def uptoSmall : (H : Type) → List (DataW H) → Bool := fun _ ds => decide (uptoBulkAll ds ≤ 1048576)
def OpenSpec.upto (s : _root_.Go.ChangeSpec) : _root_.Go.OpenSpec := { _root_.Go.OpenSpec.ofChange s with cond := some uptoSmall }

/-- 'laws.FnConsistent', WHERE WHAT IT READS IS OF BULK AT MOST 1048576: true; the input reads as it did. -/
def fnConsistentUptoRow : OpenClaim := { program := "yteadibgjieimkaadoor", sum := "29483bd23b21fa4614454cc10393e184bca5c9d4a2a35d1361aabf92b5b3d9d0", func := "loop.example/discretetomography/laws.FnConsistent", spec := "fnConsistent", inPlace := ["internal/reflectlite.TypeOf"], unfollowed := true, recurses := true, named := ["loop.example/discretetomography/impl.errNoImage"], ifaces := true, apart := false, laid := [("loop.example/discretetomography/impl.errNoImage", laid_loop_example_discretetomography_impl_errNoImage)], narrowed := true }
def FnConsistentUptoSaid : Prop := fnConsistentUptoRow.holds Tryd.pinned (OpenSpec.upto fnConsistentSpec)

/-- 'laws.FnConsistentOrder', WHERE WHAT IT READS IS OF BULK AT MOST 1048576: true; the input reads as it did. -/
def fnConsistentOrderUptoRow : OpenClaim := { program := "yteadibgjieimkaadoor", sum := "29483bd23b21fa4614454cc10393e184bca5c9d4a2a35d1361aabf92b5b3d9d0", func := "loop.example/discretetomography/laws.FnConsistentOrder", spec := "fnConsistentOrder", inPlace := ["internal/reflectlite.TypeOf"], unfollowed := true, recurses := true, named := ["loop.example/discretetomography/impl.errNoImage"], ifaces := true, apart := false, laid := [("loop.example/discretetomography/impl.errNoImage", laid_loop_example_discretetomography_impl_errNoImage)], narrowed := true }
def FnConsistentOrderUptoSaid : Prop := fnConsistentOrderUptoRow.holds Tryd.pinned (OpenSpec.upto fnConsistentOrderSpec)

/-- 'laws.FnConsistentFlat', WHERE WHAT IT READS IS OF BULK AT MOST 1048576: true; the input reads as it did. -/
def fnConsistentFlatUptoRow : OpenClaim := { program := "yteadibgjieimkaadoor", sum := "29483bd23b21fa4614454cc10393e184bca5c9d4a2a35d1361aabf92b5b3d9d0", func := "loop.example/discretetomography/laws.FnConsistentFlat", spec := "fnConsistentFlat", inPlace := ["internal/reflectlite.TypeOf"], unfollowed := true, recurses := true, named := ["loop.example/discretetomography/impl.errNoImage"], ifaces := true, apart := false, laid := [("loop.example/discretetomography/impl.errNoImage", laid_loop_example_discretetomography_impl_errNoImage)], narrowed := true }
def FnConsistentFlatUptoSaid : Prop := fnConsistentFlatUptoRow.holds Tryd.pinned (OpenSpec.upto fnConsistentFlatSpec)

/-- 'laws.FnImageConsistent', WHERE WHAT IT READS IS OF BULK AT MOST 1048576: true; the input reads as it did. -/
def fnImageConsistentUptoRow : OpenClaim := { program := "yteadibgjieimkaadoor", sum := "29483bd23b21fa4614454cc10393e184bca5c9d4a2a35d1361aabf92b5b3d9d0", func := "loop.example/discretetomography/laws.FnImageConsistent", spec := "fnImageConsistent", inPlace := ["internal/reflectlite.TypeOf"], unfollowed := true, recurses := true, named := ["loop.example/discretetomography/impl.errNoImage"], ifaces := true, apart := false, laid := [("loop.example/discretetomography/impl.errNoImage", laid_loop_example_discretetomography_impl_errNoImage)], narrowed := true }
def FnImageConsistentUptoSaid : Prop := fnImageConsistentUptoRow.holds Tryd.pinned (OpenSpec.upto fnImageConsistentSpec)

/-- 'laws.FnExcess', WHERE WHAT IT READS IS OF BULK AT MOST 1048576: true; the input reads as it did. -/
def fnExcessUptoRow : OpenClaim := { program := "yteadibgjieimkaadoor", sum := "29483bd23b21fa4614454cc10393e184bca5c9d4a2a35d1361aabf92b5b3d9d0", func := "loop.example/discretetomography/laws.FnExcess", spec := "fnExcess", inPlace := ["internal/reflectlite.TypeOf"], unfollowed := true, recurses := true, named := ["loop.example/discretetomography/impl.errNoImage"], ifaces := true, apart := false, laid := [("loop.example/discretetomography/impl.errNoImage", laid_loop_example_discretetomography_impl_errNoImage)], narrowed := true }
def FnExcessUptoSaid : Prop := fnExcessUptoRow.holds Tryd.pinned (OpenSpec.upto fnExcessSpec)

/-- 'laws.FnConsistentZero', WHERE WHAT IT READS IS OF BULK AT MOST 1048576: true; the input reads as it did. -/
def fnConsistentZeroUptoRow : OpenClaim := { program := "yteadibgjieimkaadoor", sum := "29483bd23b21fa4614454cc10393e184bca5c9d4a2a35d1361aabf92b5b3d9d0", func := "loop.example/discretetomography/laws.FnConsistentZero", spec := "fnConsistentZero", inPlace := ["internal/reflectlite.TypeOf"], unfollowed := true, recurses := true, named := ["loop.example/discretetomography/impl.errNoImage"], ifaces := true, apart := false, laid := [("loop.example/discretetomography/impl.errNoImage", laid_loop_example_discretetomography_impl_errNoImage)], narrowed := true }
def FnConsistentZeroUptoSaid : Prop := fnConsistentZeroUptoRow.holds Tryd.pinned (OpenSpec.upto fnConsistentZeroSpec)

/-- 'laws.FnExactSumsConsistent', WHERE WHAT IT READS IS OF BULK AT MOST 1048576: true; the input reads as it did. -/
def fnExactSumsConsistentUptoRow : OpenClaim := { program := "yteadibgjieimkaadoor", sum := "29483bd23b21fa4614454cc10393e184bca5c9d4a2a35d1361aabf92b5b3d9d0", func := "loop.example/discretetomography/laws.FnExactSumsConsistent", spec := "fnExactSumsConsistent", inPlace := ["internal/reflectlite.TypeOf"], unfollowed := true, recurses := true, named := ["loop.example/discretetomography/impl.errNoImage"], ifaces := true, apart := false, laid := [("loop.example/discretetomography/impl.errNoImage", laid_loop_example_discretetomography_impl_errNoImage)], narrowed := true }
def FnExactSumsConsistentUptoSaid : Prop := fnExactSumsConsistentUptoRow.holds Tryd.pinned (OpenSpec.upto fnExactSumsConsistentSpec)

end Rows
end Go.Proofs.YteadibgjieimkaaDoor
