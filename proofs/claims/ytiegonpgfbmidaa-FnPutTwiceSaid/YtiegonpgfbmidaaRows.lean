/-
  No cell of these rows narrows 'for every input' (looked for: loops, veiled, ifaces, maps, wideKeys, modest, calm, conditions, laid).
  DERIVED. THE GIVEN ROWS OF THIS SEAT. 9 by the template 'for every input the law returns true; each argument reads behind the call as it read before'; 0 by the template 'total and deterministic' (their statements: YtiegonpgfbmidaaTotals.lean).
  GIVEN WITH THE SEED: the statements are not yours to turn. If you find one false, say at which input.
  Laid BY PROGRAM, IN A SANDBOX (cutbox-rows.mjs): the forced cells as the released guide's own fill.sh prints them over the translation 83dceaba7c941823… (all of the seat's roots in one cut). By AI agents, Wed Nov 11 2026. No macro, syntax, notation, axiom, sorry.
-/
import Derived.Test.YtiegonpgfbmidaaChecked
import GoSem.Claim
import GoSem.ClaimJoined
import GoSem.ClaimMapViews
import Derived.JoinedTies
import Derived.KernelRfl
namespace Go.Proofs.Ytiegonpgfbmidaa
/- THE CELL 'sum', in the pinned program and in every row, IS THE sha256 OF THE DUMP (.gsa) THAT YtiegonpgfbmidaaProg.lean LOADS. Nothing in Lean hashes anything: it is a label: what it is worth is what the hold of that sum in a sandbox is worth. -/
noncomputable def Try.pinned : Pinned := { name := "ytiegonpgfbmidaa", sum := "83dceaba7c941823a80d3f71bce75cee59d64f36425fbd88b37ed31c97858c04", checked := Try.checked }
namespace Rows
def none {H : Type} : Left H := { results := [], args := [] }

/-- 'laws.FnImage': WHATEVER THE INPUT: true; the input reads as it did. -/
def fnImageSpec : ChangeSpec := { name := "fnImage", fn := fun _ => fun
  | [d1, d2] => { results := [.lit (.bool true)], args := [d1, d2] }
  | _ => none }
def fnImageRow : OpenClaim := { program := "ytiegonpgfbmidaa", sum := "83dceaba7c941823a80d3f71bce75cee59d64f36425fbd88b37ed31c97858c04", func := "loop.example/discretetomography/laws.FnImage", spec := "fnImage", apart := false }
def FnImageSaid : Prop := fnImageRow.holds Try.pinned (OpenSpec.ofChange fnImageSpec)

/-- ITS FALSE NEIGHBOUR: 'it returns false'. Refute it at one input. -/
def fnImageWrong : ChangeSpec := { name := "fnImage", fn := fun _ => fun
  | [d1, d2] => { results := [.lit (.bool false)], args := [d1, d2] }
  | _ => none }
def FnImageWrongFalsely : Prop := fnImageRow.holds Try.pinned (OpenSpec.ofChange fnImageWrong)

/-- 'laws.FnHas': WHATEVER THE INPUT: true; the input reads as it did. -/
def fnHasSpec : ChangeSpec := { name := "fnHas", fn := fun _ => fun
  | [d] => { results := [.lit (.bool true)], args := [d] }
  | _ => none }
def fnHasRow : OpenClaim := { program := "ytiegonpgfbmidaa", sum := "83dceaba7c941823a80d3f71bce75cee59d64f36425fbd88b37ed31c97858c04", func := "loop.example/discretetomography/laws.FnHas", spec := "fnHas", apart := false }
def FnHasSaid : Prop := fnHasRow.holds Try.pinned (OpenSpec.ofChange fnHasSpec)

/-- ITS FALSE NEIGHBOUR: 'it returns false'. Refute it at one input. -/
def fnHasWrong : ChangeSpec := { name := "fnHas", fn := fun _ => fun
  | [d] => { results := [.lit (.bool false)], args := [d] }
  | _ => none }
def FnHasWrongFalsely : Prop := fnHasRow.holds Try.pinned (OpenSpec.ofChange fnHasWrong)

/-- 'laws.FnPut': WHATEVER THE INPUT: true; the input reads as it did. -/
def fnPutSpec : ChangeSpec := { name := "fnPut", fn := fun _ => fun
  | [d] => { results := [.lit (.bool true)], args := [d] }
  | _ => none }
def fnPutRow : OpenClaim := { program := "ytiegonpgfbmidaa", sum := "83dceaba7c941823a80d3f71bce75cee59d64f36425fbd88b37ed31c97858c04", func := "loop.example/discretetomography/laws.FnPut", spec := "fnPut", apart := false }
def FnPutSaid : Prop := fnPutRow.holds Try.pinned (OpenSpec.ofChange fnPutSpec)

/-- ITS FALSE NEIGHBOUR: 'it returns false'. Refute it at one input. -/
def fnPutWrong : ChangeSpec := { name := "fnPut", fn := fun _ => fun
  | [d] => { results := [.lit (.bool false)], args := [d] }
  | _ => none }
def FnPutWrongFalsely : Prop := fnPutRow.holds Try.pinned (OpenSpec.ofChange fnPutWrong)

/-- 'laws.FnPutTwice': WHATEVER THE INPUT: true; the input reads as it did. -/
def fnPutTwiceSpec : ChangeSpec := { name := "fnPutTwice", fn := fun _ => fun
  | [d] => { results := [.lit (.bool true)], args := [d] }
  | _ => none }
def fnPutTwiceRow : OpenClaim := { program := "ytiegonpgfbmidaa", sum := "83dceaba7c941823a80d3f71bce75cee59d64f36425fbd88b37ed31c97858c04", func := "loop.example/discretetomography/laws.FnPutTwice", spec := "fnPutTwice", apart := false }
def FnPutTwiceSaid : Prop := fnPutTwiceRow.holds Try.pinned (OpenSpec.ofChange fnPutTwiceSpec)

/-- ITS FALSE NEIGHBOUR: 'it returns false'. Refute it at one input. -/
def fnPutTwiceWrong : ChangeSpec := { name := "fnPutTwice", fn := fun _ => fun
  | [d] => { results := [.lit (.bool false)], args := [d] }
  | _ => none }
def FnPutTwiceWrongFalsely : Prop := fnPutTwiceRow.holds Try.pinned (OpenSpec.ofChange fnPutTwiceWrong)

/-- 'laws.FnManyOther': WHATEVER THE INPUT: true; the input reads as it did. -/
def fnManyOtherSpec : ChangeSpec := { name := "fnManyOther", fn := fun _ => fun
  | [d] => { results := [.lit (.bool true)], args := [d] }
  | _ => none }
def fnManyOtherRow : OpenClaim := { program := "ytiegonpgfbmidaa", sum := "83dceaba7c941823a80d3f71bce75cee59d64f36425fbd88b37ed31c97858c04", func := "loop.example/discretetomography/laws.FnManyOther", spec := "fnManyOther", apart := false }
def FnManyOtherSaid : Prop := fnManyOtherRow.holds Try.pinned (OpenSpec.ofChange fnManyOtherSpec)

/-- ITS FALSE NEIGHBOUR: 'it returns false'. Refute it at one input. -/
def fnManyOtherWrong : ChangeSpec := { name := "fnManyOther", fn := fun _ => fun
  | [d] => { results := [.lit (.bool false)], args := [d] }
  | _ => none }
def FnManyOtherWrongFalsely : Prop := fnManyOtherRow.holds Try.pinned (OpenSpec.ofChange fnManyOtherWrong)

/-- 'laws.FnOther': WHATEVER THE INPUT: true; the input reads as it did. -/
def fnOtherSpec : ChangeSpec := { name := "fnOther", fn := fun _ => fun
  | [d] => { results := [.lit (.bool true)], args := [d] }
  | _ => none }
def fnOtherRow : OpenClaim := { program := "ytiegonpgfbmidaa", sum := "83dceaba7c941823a80d3f71bce75cee59d64f36425fbd88b37ed31c97858c04", func := "loop.example/discretetomography/laws.FnOther", spec := "fnOther", apart := false }
def FnOtherSaid : Prop := fnOtherRow.holds Try.pinned (OpenSpec.ofChange fnOtherSpec)

/-- ITS FALSE NEIGHBOUR: 'it returns false'. Refute it at one input. -/
def fnOtherWrong : ChangeSpec := { name := "fnOther", fn := fun _ => fun
  | [d] => { results := [.lit (.bool false)], args := [d] }
  | _ => none }
def FnOtherWrongFalsely : Prop := fnOtherRow.holds Try.pinned (OpenSpec.ofChange fnOtherWrong)

/-- 'laws.FnFrom': WHATEVER THE INPUT: true; the input reads as it did. -/
def fnFromSpec : ChangeSpec := { name := "fnFrom", fn := fun _ => fun
  | [d] => { results := [.lit (.bool true)], args := [d] }
  | _ => none }
def fnFromRow : OpenClaim := { program := "ytiegonpgfbmidaa", sum := "83dceaba7c941823a80d3f71bce75cee59d64f36425fbd88b37ed31c97858c04", func := "loop.example/discretetomography/laws.FnFrom", spec := "fnFrom", inPlace := ["internal/bytealg.IndexByteString", "internal/abi.NoEscape"], apart := false }
def FnFromSaid : Prop := fnFromRow.holds Try.pinned (OpenSpec.ofChange fnFromSpec)

/-- ITS FALSE NEIGHBOUR: 'it returns false'. Refute it at one input. -/
def fnFromWrong : ChangeSpec := { name := "fnFrom", fn := fun _ => fun
  | [d] => { results := [.lit (.bool false)], args := [d] }
  | _ => none }
def FnFromWrongFalsely : Prop := fnFromRow.holds Try.pinned (OpenSpec.ofChange fnFromWrong)

/-- 'laws.FnPutOther': WHATEVER THE INPUT: true; the input reads as it did. -/
def fnPutOtherSpec : ChangeSpec := { name := "fnPutOther", fn := fun _ => fun
  | [d1, d2] => { results := [.lit (.bool true)], args := [d1, d2] }
  | _ => none }
def fnPutOtherRow : OpenClaim := { program := "ytiegonpgfbmidaa", sum := "83dceaba7c941823a80d3f71bce75cee59d64f36425fbd88b37ed31c97858c04", func := "loop.example/discretetomography/laws.FnPutOther", spec := "fnPutOther", apart := false }
def FnPutOtherSaid : Prop := fnPutOtherRow.holds Try.pinned (OpenSpec.ofChange fnPutOtherSpec)

/-- ITS FALSE NEIGHBOUR: 'it returns false'. Refute it at one input. -/
def fnPutOtherWrong : ChangeSpec := { name := "fnPutOther", fn := fun _ => fun
  | [d1, d2] => { results := [.lit (.bool false)], args := [d1, d2] }
  | _ => none }
def FnPutOtherWrongFalsely : Prop := fnPutOtherRow.holds Try.pinned (OpenSpec.ofChange fnPutOtherWrong)

/-- 'laws.FnHasOutside': WHATEVER THE INPUT: true; the input reads as it did. -/
def fnHasOutsideSpec : ChangeSpec := { name := "fnHasOutside", fn := fun _ => fun
  | [d1, d2] => { results := [.lit (.bool true)], args := [d1, d2] }
  | _ => none }
def fnHasOutsideRow : OpenClaim := { program := "ytiegonpgfbmidaa", sum := "83dceaba7c941823a80d3f71bce75cee59d64f36425fbd88b37ed31c97858c04", func := "loop.example/discretetomography/laws.FnHasOutside", spec := "fnHasOutside", apart := false }
def FnHasOutsideSaid : Prop := fnHasOutsideRow.holds Try.pinned (OpenSpec.ofChange fnHasOutsideSpec)

/-- ITS FALSE NEIGHBOUR: 'it returns false'. Refute it at one input. -/
def fnHasOutsideWrong : ChangeSpec := { name := "fnHasOutside", fn := fun _ => fun
  | [d1, d2] => { results := [.lit (.bool false)], args := [d1, d2] }
  | _ => none }
def FnHasOutsideWrongFalsely : Prop := fnHasOutsideRow.holds Try.pinned (OpenSpec.ofChange fnHasOutsideWrong)

/- THE SECOND FORM. 'bulk': how many values and letters a reading holds, each counted each time it is reached (what is shared counts as often as it is met; a slice's spare places count too). A statement '..UptoSaid' is the law's where the arguments, and the package variables that the reading takes, are together of bulk at most 1048576: NARROWER than '..Said'. Prove '..Said' where nothing that the law and all that it calls make is longer than what came in: it says more and counts as full. Else prove '..UptoSaid'. A law counts once. -/
mutual
def uptoBulk {H : Type} : DataW H → Nat
  | .lit (.string bytes) => bytes.length + 1
  | .lit _ => 1
  | .nil => 1
  | .ptr d => uptoBulk d + 1
  | .slice elems spare => uptoBulkAll elems + uptoBulkAll spare + 1
  | .agg parts => uptoBulkAll parts + 1
  | .iface _ d => uptoBulk d + 1
  | .map entries => uptoBulkEntries entries + 1
  | .held _ => 1
def uptoBulkAll {H : Type} : List (DataW H) → Nat
  | [] => 0
  | d :: r => uptoBulk d + uptoBulkAll r
def uptoBulkEntries {H : Type} : List (Lit × DataW H) → Nat
  | [] => 0
  | x :: r => uptoBulkEntry x + uptoBulkEntries r
def uptoBulkEntry {H : Type} : Lit × DataW H → Nat
  | (.string bytes, d) => bytes.length + uptoBulk d + 1
  | (_, d) => uptoBulk d + 1
 end
def uptoSmall : (H : Type) → List (DataW H) → Bool := fun _ ds => decide (uptoBulkAll ds ≤ 1048576)
def OpenSpec.upto (s : _root_.Go.ChangeSpec) : _root_.Go.OpenSpec := { _root_.Go.OpenSpec.ofChange s with cond := some uptoSmall }

/-- 'laws.FnImage', WHERE WHAT IT READS IS OF BULK AT MOST 1048576: true; the input reads as it did. -/
def fnImageUptoRow : OpenClaim := { program := "ytiegonpgfbmidaa", sum := "83dceaba7c941823a80d3f71bce75cee59d64f36425fbd88b37ed31c97858c04", func := "loop.example/discretetomography/laws.FnImage", spec := "fnImage", apart := false, narrowed := true }
def FnImageUptoSaid : Prop := fnImageUptoRow.holds Try.pinned (OpenSpec.upto fnImageSpec)

/-- 'laws.FnHas', WHERE WHAT IT READS IS OF BULK AT MOST 1048576: true; the input reads as it did. -/
def fnHasUptoRow : OpenClaim := { program := "ytiegonpgfbmidaa", sum := "83dceaba7c941823a80d3f71bce75cee59d64f36425fbd88b37ed31c97858c04", func := "loop.example/discretetomography/laws.FnHas", spec := "fnHas", apart := false, narrowed := true }
def FnHasUptoSaid : Prop := fnHasUptoRow.holds Try.pinned (OpenSpec.upto fnHasSpec)

/-- 'laws.FnPut', WHERE WHAT IT READS IS OF BULK AT MOST 1048576: true; the input reads as it did. -/
def fnPutUptoRow : OpenClaim := { program := "ytiegonpgfbmidaa", sum := "83dceaba7c941823a80d3f71bce75cee59d64f36425fbd88b37ed31c97858c04", func := "loop.example/discretetomography/laws.FnPut", spec := "fnPut", apart := false, narrowed := true }
def FnPutUptoSaid : Prop := fnPutUptoRow.holds Try.pinned (OpenSpec.upto fnPutSpec)

/-- 'laws.FnPutTwice', WHERE WHAT IT READS IS OF BULK AT MOST 1048576: true; the input reads as it did. -/
def fnPutTwiceUptoRow : OpenClaim := { program := "ytiegonpgfbmidaa", sum := "83dceaba7c941823a80d3f71bce75cee59d64f36425fbd88b37ed31c97858c04", func := "loop.example/discretetomography/laws.FnPutTwice", spec := "fnPutTwice", apart := false, narrowed := true }
def FnPutTwiceUptoSaid : Prop := fnPutTwiceUptoRow.holds Try.pinned (OpenSpec.upto fnPutTwiceSpec)

/-- 'laws.FnManyOther', WHERE WHAT IT READS IS OF BULK AT MOST 1048576: true; the input reads as it did. -/
def fnManyOtherUptoRow : OpenClaim := { program := "ytiegonpgfbmidaa", sum := "83dceaba7c941823a80d3f71bce75cee59d64f36425fbd88b37ed31c97858c04", func := "loop.example/discretetomography/laws.FnManyOther", spec := "fnManyOther", apart := false, narrowed := true }
def FnManyOtherUptoSaid : Prop := fnManyOtherUptoRow.holds Try.pinned (OpenSpec.upto fnManyOtherSpec)

/-- 'laws.FnOther', WHERE WHAT IT READS IS OF BULK AT MOST 1048576: true; the input reads as it did. -/
def fnOtherUptoRow : OpenClaim := { program := "ytiegonpgfbmidaa", sum := "83dceaba7c941823a80d3f71bce75cee59d64f36425fbd88b37ed31c97858c04", func := "loop.example/discretetomography/laws.FnOther", spec := "fnOther", apart := false, narrowed := true }
def FnOtherUptoSaid : Prop := fnOtherUptoRow.holds Try.pinned (OpenSpec.upto fnOtherSpec)

/-- 'laws.FnFrom', WHERE WHAT IT READS IS OF BULK AT MOST 1048576: true; the input reads as it did. -/
def fnFromUptoRow : OpenClaim := { program := "ytiegonpgfbmidaa", sum := "83dceaba7c941823a80d3f71bce75cee59d64f36425fbd88b37ed31c97858c04", func := "loop.example/discretetomography/laws.FnFrom", spec := "fnFrom", inPlace := ["internal/bytealg.IndexByteString", "internal/abi.NoEscape"], apart := false, narrowed := true }
def FnFromUptoSaid : Prop := fnFromUptoRow.holds Try.pinned (OpenSpec.upto fnFromSpec)

/-- 'laws.FnPutOther', WHERE WHAT IT READS IS OF BULK AT MOST 1048576: true; the input reads as it did. -/
def fnPutOtherUptoRow : OpenClaim := { program := "ytiegonpgfbmidaa", sum := "83dceaba7c941823a80d3f71bce75cee59d64f36425fbd88b37ed31c97858c04", func := "loop.example/discretetomography/laws.FnPutOther", spec := "fnPutOther", apart := false, narrowed := true }
def FnPutOtherUptoSaid : Prop := fnPutOtherUptoRow.holds Try.pinned (OpenSpec.upto fnPutOtherSpec)

/-- 'laws.FnHasOutside', WHERE WHAT IT READS IS OF BULK AT MOST 1048576: true; the input reads as it did. -/
def fnHasOutsideUptoRow : OpenClaim := { program := "ytiegonpgfbmidaa", sum := "83dceaba7c941823a80d3f71bce75cee59d64f36425fbd88b37ed31c97858c04", func := "loop.example/discretetomography/laws.FnHasOutside", spec := "fnHasOutside", apart := false, narrowed := true }
def FnHasOutsideUptoSaid : Prop := fnHasOutsideUptoRow.holds Try.pinned (OpenSpec.upto fnHasOutsideSpec)

end Rows
end Go.Proofs.Ytiegonpgfbmidaa
