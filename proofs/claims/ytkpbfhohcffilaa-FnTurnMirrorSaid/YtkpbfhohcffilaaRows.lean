/-
  No cell of these rows narrows 'for every input' (looked for: loops, veiled, ifaces, maps, wideKeys, modest, calm, conditions, laid).
  DERIVED. THE GIVEN ROWS OF THIS SEAT. 6 by the template 'for every input the law returns true; each argument reads behind the call as it read before'; 0 by the template 'total and deterministic' (their statements: YtkpbfhohcffilaaTotals.lean).
  GIVEN WITH THE SEED: the statements are not yours to turn. If you find one false, say at which input.
  Laid BY PROGRAM, IN A SANDBOX (cutbox-rows.mjs): the forced cells as the released guide's own fill.sh prints them over the translation a0bba37f313a8f74… (all of the seat's roots in one cut). By AI agents, Wed Nov 11 2026. No macro, syntax, notation, axiom, sorry.
-/
import Derived.Test.YtkpbfhohcffilaaChecked
import GoSem.Claim
import GoSem.ClaimJoined
import GoSem.ClaimMapViews
import Derived.JoinedTies
import Derived.KernelRfl
namespace Go.Proofs.Ytkpbfhohcffilaa
/- THE CELL 'sum', in the pinned program and in every row, IS THE sha256 OF THE DUMP (.gsa) THAT YtkpbfhohcffilaaProg.lean LOADS. Nothing in Lean hashes anything: it is a label: what it is worth is what the hold of that sum in a sandbox is worth. -/
noncomputable def Try.pinned : Pinned := { name := "ytkpbfhohcffilaa", sum := "a0bba37f313a8f74ce23d8233d06596eb8a18ec17696104016b8bb8f10d3631e", checked := Try.checked }
namespace Rows
def none {H : Type} : Left H := { results := [], args := [] }

/-- 'laws.FnTurnMirror': WHATEVER THE INPUT: true; the input reads as it did. -/
def fnTurnMirrorSpec : ChangeSpec := { name := "fnTurnMirror", fn := fun _ => fun
  | [d] => { results := [.lit (.bool true)], args := [d] }
  | _ => none }
def fnTurnMirrorRow : OpenClaim := { program := "ytkpbfhohcffilaa", sum := "a0bba37f313a8f74ce23d8233d06596eb8a18ec17696104016b8bb8f10d3631e", func := "loop.example/discretetomography/laws.FnTurnMirror", spec := "fnTurnMirror", apart := false }
def FnTurnMirrorSaid : Prop := fnTurnMirrorRow.holds Try.pinned (OpenSpec.ofChange fnTurnMirrorSpec)

/-- ITS FALSE NEIGHBOUR: 'it returns false'. Refute it at one input. -/
def fnTurnMirrorWrong : ChangeSpec := { name := "fnTurnMirror", fn := fun _ => fun
  | [d] => { results := [.lit (.bool false)], args := [d] }
  | _ => none }
def FnTurnMirrorWrongFalsely : Prop := fnTurnMirrorRow.holds Try.pinned (OpenSpec.ofChange fnTurnMirrorWrong)

/-- 'laws.FnRowSums': WHATEVER THE INPUT: true; the input reads as it did. -/
def fnRowSumsSpec : ChangeSpec := { name := "fnRowSums", fn := fun _ => fun
  | [d] => { results := [.lit (.bool true)], args := [d] }
  | _ => none }
def fnRowSumsRow : OpenClaim := { program := "ytkpbfhohcffilaa", sum := "a0bba37f313a8f74ce23d8233d06596eb8a18ec17696104016b8bb8f10d3631e", func := "loop.example/discretetomography/laws.FnRowSums", spec := "fnRowSums", unfollowed := true, recurses := true, apart := false }
def FnRowSumsSaid : Prop := fnRowSumsRow.holds Try.pinned (OpenSpec.ofChange fnRowSumsSpec)

/-- ITS FALSE NEIGHBOUR: 'it returns false'. Refute it at one input. -/
def fnRowSumsWrong : ChangeSpec := { name := "fnRowSums", fn := fun _ => fun
  | [d] => { results := [.lit (.bool false)], args := [d] }
  | _ => none }
def FnRowSumsWrongFalsely : Prop := fnRowSumsRow.holds Try.pinned (OpenSpec.ofChange fnRowSumsWrong)

/-- 'laws.FnColSums': WHATEVER THE INPUT: true; the input reads as it did. -/
def fnColSumsSpec : ChangeSpec := { name := "fnColSums", fn := fun _ => fun
  | [d] => { results := [.lit (.bool true)], args := [d] }
  | _ => none }
def fnColSumsRow : OpenClaim := { program := "ytkpbfhohcffilaa", sum := "a0bba37f313a8f74ce23d8233d06596eb8a18ec17696104016b8bb8f10d3631e", func := "loop.example/discretetomography/laws.FnColSums", spec := "fnColSums", unfollowed := true, recurses := true, apart := false }
def FnColSumsSaid : Prop := fnColSumsRow.holds Try.pinned (OpenSpec.ofChange fnColSumsSpec)

/-- ITS FALSE NEIGHBOUR: 'it returns false'. Refute it at one input. -/
def fnColSumsWrong : ChangeSpec := { name := "fnColSums", fn := fun _ => fun
  | [d] => { results := [.lit (.bool false)], args := [d] }
  | _ => none }
def FnColSumsWrongFalsely : Prop := fnColSumsRow.holds Try.pinned (OpenSpec.ofChange fnColSumsWrong)

/-- 'laws.FnExactImageMany': WHATEVER THE INPUT: true; the input reads as it did. -/
def fnExactImageManySpec : ChangeSpec := { name := "fnExactImageMany", fn := fun _ => fun
  | [d] => { results := [.lit (.bool true)], args := [d] }
  | _ => none }
def fnExactImageManyRow : OpenClaim := { program := "ytkpbfhohcffilaa", sum := "a0bba37f313a8f74ce23d8233d06596eb8a18ec17696104016b8bb8f10d3631e", func := "loop.example/discretetomography/laws.FnExactImageMany", spec := "fnExactImageMany", apart := false }
def FnExactImageManySaid : Prop := fnExactImageManyRow.holds Try.pinned (OpenSpec.ofChange fnExactImageManySpec)

/-- ITS FALSE NEIGHBOUR: 'it returns false'. Refute it at one input. -/
def fnExactImageManyWrong : ChangeSpec := { name := "fnExactImageMany", fn := fun _ => fun
  | [d] => { results := [.lit (.bool false)], args := [d] }
  | _ => none }
def FnExactImageManyWrongFalsely : Prop := fnExactImageManyRow.holds Try.pinned (OpenSpec.ofChange fnExactImageManyWrong)

/-- 'laws.FnFlip': WHATEVER THE INPUT: true; the input reads as it did. -/
def fnFlipSpec : ChangeSpec := { name := "fnFlip", fn := fun _ => fun
  | [d] => { results := [.lit (.bool true)], args := [d] }
  | _ => none }
def fnFlipRow : OpenClaim := { program := "ytkpbfhohcffilaa", sum := "a0bba37f313a8f74ce23d8233d06596eb8a18ec17696104016b8bb8f10d3631e", func := "loop.example/discretetomography/laws.FnFlip", spec := "fnFlip", apart := false }
def FnFlipSaid : Prop := fnFlipRow.holds Try.pinned (OpenSpec.ofChange fnFlipSpec)

/-- ITS FALSE NEIGHBOUR: 'it returns false'. Refute it at one input. -/
def fnFlipWrong : ChangeSpec := { name := "fnFlip", fn := fun _ => fun
  | [d] => { results := [.lit (.bool false)], args := [d] }
  | _ => none }
def FnFlipWrongFalsely : Prop := fnFlipRow.holds Try.pinned (OpenSpec.ofChange fnFlipWrong)

/-- 'laws.FnFlipPath': WHATEVER THE INPUT: true; the input reads as it did. -/
def fnFlipPathSpec : ChangeSpec := { name := "fnFlipPath", fn := fun _ => fun
  | [d] => { results := [.lit (.bool true)], args := [d] }
  | _ => none }
def fnFlipPathRow : OpenClaim := { program := "ytkpbfhohcffilaa", sum := "a0bba37f313a8f74ce23d8233d06596eb8a18ec17696104016b8bb8f10d3631e", func := "loop.example/discretetomography/laws.FnFlipPath", spec := "fnFlipPath", unfollowed := true, recurses := true, apart := false }
def FnFlipPathSaid : Prop := fnFlipPathRow.holds Try.pinned (OpenSpec.ofChange fnFlipPathSpec)

/-- ITS FALSE NEIGHBOUR: 'it returns false'. Refute it at one input. -/
def fnFlipPathWrong : ChangeSpec := { name := "fnFlipPath", fn := fun _ => fun
  | [d] => { results := [.lit (.bool false)], args := [d] }
  | _ => none }
def FnFlipPathWrongFalsely : Prop := fnFlipPathRow.holds Try.pinned (OpenSpec.ofChange fnFlipPathWrong)

/- THE SECOND FORM. 'bulk': how many values and letters a reading holds, each counted each time it is reached (what is shared counts as often as it is met; a slice's spare places count too). A statement '..UptoSaid' is the law's where the arguments, and the package variables that the reading takes, are together of bulk at most 1048576: NARROWER than '..Said'. Prove '..Said' where nothing that the law and all that it calls make is longer than what came in: it says more and counts as full. Else prove '..UptoSaid'. A law counts once. -/
mutual
def uptoBulk {H : Type} : DataW H → Nat
  | .lit (.string bytes) => bytes.length + 1
  | .lit _ => 1
  | .nil => 1
  | .ptr d => uptoBulk d + 1
  | .slice elems spare => uptoBulkAll elems + uptoBulkAll spare + 1
  | .agg parts => uptoBulkAll parts + 1
  | .iface _ d => uptoBulk d + 1
  | .map entries => uptoBulkEntries entries + 1
  | .held _ => 1
def uptoBulkAll {H : Type} : List (DataW H) → Nat
  | [] => 0
  | d :: r => uptoBulk d + uptoBulkAll r
def uptoBulkEntries {H : Type} : List (Lit × DataW H) → Nat
  | [] => 0
  | x :: r => uptoBulkEntry x + uptoBulkEntries r
def uptoBulkEntry {H : Type} : Lit × DataW H → Nat
  | (.string bytes, d) => bytes.length + uptoBulk d + 1
  | (_, d) => uptoBulk d + 1
 end
def uptoSmall : (H : Type) → List (DataW H) → Bool := fun _ ds => decide (uptoBulkAll ds ≤ 1048576)
def OpenSpec.upto (s : _root_.Go.ChangeSpec) : _root_.Go.OpenSpec := { _root_.Go.OpenSpec.ofChange s with cond := some uptoSmall }

/-- 'laws.FnTurnMirror', WHERE WHAT IT READS IS OF BULK AT MOST 1048576: true; the input reads as it did. -/
def fnTurnMirrorUptoRow : OpenClaim := { program := "ytkpbfhohcffilaa", sum := "a0bba37f313a8f74ce23d8233d06596eb8a18ec17696104016b8bb8f10d3631e", func := "loop.example/discretetomography/laws.FnTurnMirror", spec := "fnTurnMirror", apart := false, narrowed := true }
def FnTurnMirrorUptoSaid : Prop := fnTurnMirrorUptoRow.holds Try.pinned (OpenSpec.upto fnTurnMirrorSpec)

/-- 'laws.FnRowSums', WHERE WHAT IT READS IS OF BULK AT MOST 1048576: true; the input reads as it did. -/
def fnRowSumsUptoRow : OpenClaim := { program := "ytkpbfhohcffilaa", sum := "a0bba37f313a8f74ce23d8233d06596eb8a18ec17696104016b8bb8f10d3631e", func := "loop.example/discretetomography/laws.FnRowSums", spec := "fnRowSums", unfollowed := true, recurses := true, apart := false, narrowed := true }
def FnRowSumsUptoSaid : Prop := fnRowSumsUptoRow.holds Try.pinned (OpenSpec.upto fnRowSumsSpec)

/-- 'laws.FnColSums', WHERE WHAT IT READS IS OF BULK AT MOST 1048576: true; the input reads as it did. -/
def fnColSumsUptoRow : OpenClaim := { program := "ytkpbfhohcffilaa", sum := "a0bba37f313a8f74ce23d8233d06596eb8a18ec17696104016b8bb8f10d3631e", func := "loop.example/discretetomography/laws.FnColSums", spec := "fnColSums", unfollowed := true, recurses := true, apart := false, narrowed := true }
def FnColSumsUptoSaid : Prop := fnColSumsUptoRow.holds Try.pinned (OpenSpec.upto fnColSumsSpec)

/-- 'laws.FnExactImageMany', WHERE WHAT IT READS IS OF BULK AT MOST 1048576: true; the input reads as it did. -/
def fnExactImageManyUptoRow : OpenClaim := { program := "ytkpbfhohcffilaa", sum := "a0bba37f313a8f74ce23d8233d06596eb8a18ec17696104016b8bb8f10d3631e", func := "loop.example/discretetomography/laws.FnExactImageMany", spec := "fnExactImageMany", apart := false, narrowed := true }
def FnExactImageManyUptoSaid : Prop := fnExactImageManyUptoRow.holds Try.pinned (OpenSpec.upto fnExactImageManySpec)

/-- 'laws.FnFlip', WHERE WHAT IT READS IS OF BULK AT MOST 1048576: true; the input reads as it did. -/
def fnFlipUptoRow : OpenClaim := { program := "ytkpbfhohcffilaa", sum := "a0bba37f313a8f74ce23d8233d06596eb8a18ec17696104016b8bb8f10d3631e", func := "loop.example/discretetomography/laws.FnFlip", spec := "fnFlip", apart := false, narrowed := true }
def FnFlipUptoSaid : Prop := fnFlipUptoRow.holds Try.pinned (OpenSpec.upto fnFlipSpec)

/-- 'laws.FnFlipPath', WHERE WHAT IT READS IS OF BULK AT MOST 1048576: true; the input reads as it did. -/
def fnFlipPathUptoRow : OpenClaim := { program := "ytkpbfhohcffilaa", sum := "a0bba37f313a8f74ce23d8233d06596eb8a18ec17696104016b8bb8f10d3631e", func := "loop.example/discretetomography/laws.FnFlipPath", spec := "fnFlipPath", unfollowed := true, recurses := true, apart := false, narrowed := true }
def FnFlipPathUptoSaid : Prop := fnFlipPathUptoRow.holds Try.pinned (OpenSpec.upto fnFlipPathSpec)

end Rows
end Go.Proofs.Ytkpbfhohcffilaa
