/-
  No cell of these rows narrows 'for every input' (looked for: loops, veiled, ifaces, maps, wideKeys, modest, calm, conditions, laid).
  DERIVED. THE GIVEN ROWS OF THIS SEAT. 14 by the template 'for every input the law returns true; each argument reads behind the call as it read before'; 0 by the template 'total and deterministic' (their statements: YtgbbigekamapiaaTotals.lean).
  GIVEN WITH THE SEED: the statements are not yours to turn. If you find one false, say at which input.
  Laid BY PROGRAM, IN A SANDBOX (cutbox-rows.mjs): the forced cells as the released guide's own fill.sh prints them over the translation 4d24c72a49912705… (all of the seat's roots in one cut). By AI agents, Wed Nov 11 2026. No macro, syntax, notation, axiom, sorry.
-/
import Derived.Test.YtgbbigekamapiaaChecked
import GoSem.Claim
import GoSem.ClaimJoined
import GoSem.ClaimMapViews
import Derived.JoinedTies
import Derived.KernelRfl
namespace Go.Proofs.Ytgbbigekamapiaa
/- THE CELL 'sum', in the pinned program and in every row, IS THE sha256 OF THE DUMP (.gsa) THAT YtgbbigekamapiaaProg.lean LOADS. Nothing in Lean hashes anything: it is a label: what it is worth is what the hold of that sum in a sandbox is worth. -/
noncomputable def Try.pinned : Pinned := { name := "ytgbbigekamapiaa", sum := "4d24c72a499127058b928eb7b6ea374f7f64091f5ee2ebc2cb0ea0bc046122cb", checked := Try.checked }
namespace Rows
def none {H : Type} : Left H := { results := [], args := [] }

/-- 'laws.FnPut': WHATEVER THE INPUT: true; the input reads as it did. -/
def fnPutSpec : ChangeSpec := { name := "fnPut", fn := fun _ => fun
  | [d] => { results := [.lit (.bool true)], args := [d] }
  | _ => none }
def fnPutRow : OpenClaim := { program := "ytgbbigekamapiaa", sum := "4d24c72a499127058b928eb7b6ea374f7f64091f5ee2ebc2cb0ea0bc046122cb", func := "loop.example/discretetomography/laws.FnPut", spec := "fnPut", apart := false }
def FnPutSaid : Prop := fnPutRow.holds Try.pinned (OpenSpec.ofChange fnPutSpec)

/-- ITS FALSE NEIGHBOUR: 'it returns false'. Refute it at one input. -/
def fnPutWrong : ChangeSpec := { name := "fnPut", fn := fun _ => fun
  | [d] => { results := [.lit (.bool false)], args := [d] }
  | _ => none }
def FnPutWrongFalsely : Prop := fnPutRow.holds Try.pinned (OpenSpec.ofChange fnPutWrong)

/-- 'laws.FnPutTwice': WHATEVER THE INPUT: true; the input reads as it did. -/
def fnPutTwiceSpec : ChangeSpec := { name := "fnPutTwice", fn := fun _ => fun
  | [d] => { results := [.lit (.bool true)], args := [d] }
  | _ => none }
def fnPutTwiceRow : OpenClaim := { program := "ytgbbigekamapiaa", sum := "4d24c72a499127058b928eb7b6ea374f7f64091f5ee2ebc2cb0ea0bc046122cb", func := "loop.example/discretetomography/laws.FnPutTwice", spec := "fnPutTwice", apart := false }
def FnPutTwiceSaid : Prop := fnPutTwiceRow.holds Try.pinned (OpenSpec.ofChange fnPutTwiceSpec)

/-- ITS FALSE NEIGHBOUR: 'it returns false'. Refute it at one input. -/
def fnPutTwiceWrong : ChangeSpec := { name := "fnPutTwice", fn := fun _ => fun
  | [d] => { results := [.lit (.bool false)], args := [d] }
  | _ => none }
def FnPutTwiceWrongFalsely : Prop := fnPutTwiceRow.holds Try.pinned (OpenSpec.ofChange fnPutTwiceWrong)

/-- 'laws.FnPutOther': WHATEVER THE INPUT: true; the input reads as it did. -/
def fnPutOtherSpec : ChangeSpec := { name := "fnPutOther", fn := fun _ => fun
  | [d1, d2] => { results := [.lit (.bool true)], args := [d1, d2] }
  | _ => none }
def fnPutOtherRow : OpenClaim := { program := "ytgbbigekamapiaa", sum := "4d24c72a499127058b928eb7b6ea374f7f64091f5ee2ebc2cb0ea0bc046122cb", func := "loop.example/discretetomography/laws.FnPutOther", spec := "fnPutOther", apart := false }
def FnPutOtherSaid : Prop := fnPutOtherRow.holds Try.pinned (OpenSpec.ofChange fnPutOtherSpec)

/-- ITS FALSE NEIGHBOUR: 'it returns false'. Refute it at one input. -/
def fnPutOtherWrong : ChangeSpec := { name := "fnPutOther", fn := fun _ => fun
  | [d1, d2] => { results := [.lit (.bool false)], args := [d1, d2] }
  | _ => none }
def FnPutOtherWrongFalsely : Prop := fnPutOtherRow.holds Try.pinned (OpenSpec.ofChange fnPutOtherWrong)

/-- 'laws.FnSumsSamePut': WHATEVER THE INPUT: true; the input reads as it did. -/
def fnSumsSamePutSpec : ChangeSpec := { name := "fnSumsSamePut", fn := fun _ => fun
  | [d1, d2] => { results := [.lit (.bool true)], args := [d1, d2] }
  | _ => none }
def fnSumsSamePutRow : OpenClaim := { program := "ytgbbigekamapiaa", sum := "4d24c72a499127058b928eb7b6ea374f7f64091f5ee2ebc2cb0ea0bc046122cb", func := "loop.example/discretetomography/laws.FnSumsSamePut", spec := "fnSumsSamePut", unfollowed := true, recurses := true, apart := false }
def FnSumsSamePutSaid : Prop := fnSumsSamePutRow.holds Try.pinned (OpenSpec.ofChange fnSumsSamePutSpec)

/-- ITS FALSE NEIGHBOUR: 'it returns false'. Refute it at one input. -/
def fnSumsSamePutWrong : ChangeSpec := { name := "fnSumsSamePut", fn := fun _ => fun
  | [d1, d2] => { results := [.lit (.bool false)], args := [d1, d2] }
  | _ => none }
def FnSumsSamePutWrongFalsely : Prop := fnSumsSamePutRow.holds Try.pinned (OpenSpec.ofChange fnSumsSamePutWrong)

/-- 'laws.FnRowSumsPut': WHATEVER THE INPUT: true; the input reads as it did. -/
def fnRowSumsPutSpec : ChangeSpec := { name := "fnRowSumsPut", fn := fun _ => fun
  | [d1, d2] => { results := [.lit (.bool true)], args := [d1, d2] }
  | _ => none }
def fnRowSumsPutRow : OpenClaim := { program := "ytgbbigekamapiaa", sum := "4d24c72a499127058b928eb7b6ea374f7f64091f5ee2ebc2cb0ea0bc046122cb", func := "loop.example/discretetomography/laws.FnRowSumsPut", spec := "fnRowSumsPut", unfollowed := true, recurses := true, apart := false }
def FnRowSumsPutSaid : Prop := fnRowSumsPutRow.holds Try.pinned (OpenSpec.ofChange fnRowSumsPutSpec)

/-- ITS FALSE NEIGHBOUR: 'it returns false'. Refute it at one input. -/
def fnRowSumsPutWrong : ChangeSpec := { name := "fnRowSumsPut", fn := fun _ => fun
  | [d1, d2] => { results := [.lit (.bool false)], args := [d1, d2] }
  | _ => none }
def FnRowSumsPutWrongFalsely : Prop := fnRowSumsPutRow.holds Try.pinned (OpenSpec.ofChange fnRowSumsPutWrong)

/-- 'laws.FnSwitchSums': WHATEVER THE INPUT: true; the input reads as it did. -/
def fnSwitchSumsSpec : ChangeSpec := { name := "fnSwitchSums", fn := fun _ => fun
  | [d] => { results := [.lit (.bool true)], args := [d] }
  | _ => none }
def fnSwitchSumsRow : OpenClaim := { program := "ytgbbigekamapiaa", sum := "4d24c72a499127058b928eb7b6ea374f7f64091f5ee2ebc2cb0ea0bc046122cb", func := "loop.example/discretetomography/laws.FnSwitchSums", spec := "fnSwitchSums", unfollowed := true, recurses := true, apart := false }
def FnSwitchSumsSaid : Prop := fnSwitchSumsRow.holds Try.pinned (OpenSpec.ofChange fnSwitchSumsSpec)

/-- ITS FALSE NEIGHBOUR: 'it returns false'. Refute it at one input. -/
def fnSwitchSumsWrong : ChangeSpec := { name := "fnSwitchSums", fn := fun _ => fun
  | [d] => { results := [.lit (.bool false)], args := [d] }
  | _ => none }
def FnSwitchSumsWrongFalsely : Prop := fnSwitchSumsRow.holds Try.pinned (OpenSpec.ofChange fnSwitchSumsWrong)

/-- 'laws.FnSwitchTwice': WHATEVER THE INPUT: true; the input reads as it did. -/
def fnSwitchTwiceSpec : ChangeSpec := { name := "fnSwitchTwice", fn := fun _ => fun
  | [d] => { results := [.lit (.bool true)], args := [d] }
  | _ => none }
def fnSwitchTwiceRow : OpenClaim := { program := "ytgbbigekamapiaa", sum := "4d24c72a499127058b928eb7b6ea374f7f64091f5ee2ebc2cb0ea0bc046122cb", func := "loop.example/discretetomography/laws.FnSwitchTwice", spec := "fnSwitchTwice", apart := false }
def FnSwitchTwiceSaid : Prop := fnSwitchTwiceRow.holds Try.pinned (OpenSpec.ofChange fnSwitchTwiceSpec)

/-- ITS FALSE NEIGHBOUR: 'it returns false'. Refute it at one input. -/
def fnSwitchTwiceWrong : ChangeSpec := { name := "fnSwitchTwice", fn := fun _ => fun
  | [d] => { results := [.lit (.bool false)], args := [d] }
  | _ => none }
def FnSwitchTwiceWrongFalsely : Prop := fnSwitchTwiceRow.holds Try.pinned (OpenSpec.ofChange fnSwitchTwiceWrong)

/-- 'laws.FnSwitchCells': WHATEVER THE INPUT: true; the input reads as it did. -/
def fnSwitchCellsSpec : ChangeSpec := { name := "fnSwitchCells", fn := fun _ => fun
  | [d] => { results := [.lit (.bool true)], args := [d] }
  | _ => none }
def fnSwitchCellsRow : OpenClaim := { program := "ytgbbigekamapiaa", sum := "4d24c72a499127058b928eb7b6ea374f7f64091f5ee2ebc2cb0ea0bc046122cb", func := "loop.example/discretetomography/laws.FnSwitchCells", spec := "fnSwitchCells", apart := false }
def FnSwitchCellsSaid : Prop := fnSwitchCellsRow.holds Try.pinned (OpenSpec.ofChange fnSwitchCellsSpec)

/-- ITS FALSE NEIGHBOUR: 'it returns false'. Refute it at one input. -/
def fnSwitchCellsWrong : ChangeSpec := { name := "fnSwitchCells", fn := fun _ => fun
  | [d] => { results := [.lit (.bool false)], args := [d] }
  | _ => none }
def FnSwitchCellsWrongFalsely : Prop := fnSwitchCellsRow.holds Try.pinned (OpenSpec.ofChange fnSwitchCellsWrong)

/-- 'laws.FnSwitchFirst': WHATEVER THE INPUT: true; the input reads as it did. -/
def fnSwitchFirstSpec : ChangeSpec := { name := "fnSwitchFirst", fn := fun _ => fun
  | [d] => { results := [.lit (.bool true)], args := [d] }
  | _ => none }
def fnSwitchFirstRow : OpenClaim := { program := "ytgbbigekamapiaa", sum := "4d24c72a499127058b928eb7b6ea374f7f64091f5ee2ebc2cb0ea0bc046122cb", func := "loop.example/discretetomography/laws.FnSwitchFirst", spec := "fnSwitchFirst", unfollowed := true, recurses := true, apart := false }
def FnSwitchFirstSaid : Prop := fnSwitchFirstRow.holds Try.pinned (OpenSpec.ofChange fnSwitchFirstSpec)

/-- ITS FALSE NEIGHBOUR: 'it returns false'. Refute it at one input. -/
def fnSwitchFirstWrong : ChangeSpec := { name := "fnSwitchFirst", fn := fun _ => fun
  | [d] => { results := [.lit (.bool false)], args := [d] }
  | _ => none }
def FnSwitchFirstWrongFalsely : Prop := fnSwitchFirstRow.holds Try.pinned (OpenSpec.ofChange fnSwitchFirstWrong)

/-- 'laws.FnSwitchOrder': WHATEVER THE INPUT: true; the input reads as it did. -/
def fnSwitchOrderSpec : ChangeSpec := { name := "fnSwitchOrder", fn := fun _ => fun
  | [d] => { results := [.lit (.bool true)], args := [d] }
  | _ => none }
def fnSwitchOrderRow : OpenClaim := { program := "ytgbbigekamapiaa", sum := "4d24c72a499127058b928eb7b6ea374f7f64091f5ee2ebc2cb0ea0bc046122cb", func := "loop.example/discretetomography/laws.FnSwitchOrder", spec := "fnSwitchOrder", unfollowed := true, recurses := true, apart := false }
def FnSwitchOrderSaid : Prop := fnSwitchOrderRow.holds Try.pinned (OpenSpec.ofChange fnSwitchOrderSpec)

/-- ITS FALSE NEIGHBOUR: 'it returns false'. Refute it at one input. -/
def fnSwitchOrderWrong : ChangeSpec := { name := "fnSwitchOrder", fn := fun _ => fun
  | [d] => { results := [.lit (.bool false)], args := [d] }
  | _ => none }
def FnSwitchOrderWrongFalsely : Prop := fnSwitchOrderRow.holds Try.pinned (OpenSpec.ofChange fnSwitchOrderWrong)

/-- 'laws.FnSwitchRows': WHATEVER THE INPUT: true; the input reads as it did. -/
def fnSwitchRowsSpec : ChangeSpec := { name := "fnSwitchRows", fn := fun _ => fun
  | [d] => { results := [.lit (.bool true)], args := [d] }
  | _ => none }
def fnSwitchRowsRow : OpenClaim := { program := "ytgbbigekamapiaa", sum := "4d24c72a499127058b928eb7b6ea374f7f64091f5ee2ebc2cb0ea0bc046122cb", func := "loop.example/discretetomography/laws.FnSwitchRows", spec := "fnSwitchRows", apart := false }
def FnSwitchRowsSaid : Prop := fnSwitchRowsRow.holds Try.pinned (OpenSpec.ofChange fnSwitchRowsSpec)

/-- ITS FALSE NEIGHBOUR: 'it returns false'. Refute it at one input. -/
def fnSwitchRowsWrong : ChangeSpec := { name := "fnSwitchRows", fn := fun _ => fun
  | [d] => { results := [.lit (.bool false)], args := [d] }
  | _ => none }
def FnSwitchRowsWrongFalsely : Prop := fnSwitchRowsRow.holds Try.pinned (OpenSpec.ofChange fnSwitchRowsWrong)

/-- 'laws.FnExactSwitchDo': WHATEVER THE INPUT: true; the input reads as it did. -/
def fnExactSwitchDoSpec : ChangeSpec := { name := "fnExactSwitchDo", fn := fun _ => fun
  | [d1, d2] => { results := [.lit (.bool true)], args := [d1, d2] }
  | _ => none }
def fnExactSwitchDoRow : OpenClaim := { program := "ytgbbigekamapiaa", sum := "4d24c72a499127058b928eb7b6ea374f7f64091f5ee2ebc2cb0ea0bc046122cb", func := "loop.example/discretetomography/laws.FnExactSwitchDo", spec := "fnExactSwitchDo", apart := false }
def FnExactSwitchDoSaid : Prop := fnExactSwitchDoRow.holds Try.pinned (OpenSpec.ofChange fnExactSwitchDoSpec)

/-- ITS FALSE NEIGHBOUR: 'it returns false'. Refute it at one input. -/
def fnExactSwitchDoWrong : ChangeSpec := { name := "fnExactSwitchDo", fn := fun _ => fun
  | [d1, d2] => { results := [.lit (.bool false)], args := [d1, d2] }
  | _ => none }
def FnExactSwitchDoWrongFalsely : Prop := fnExactSwitchDoRow.holds Try.pinned (OpenSpec.ofChange fnExactSwitchDoWrong)

/-- 'laws.FnExactSwitchFirst': WHATEVER THE INPUT: true; the input reads as it did. -/
def fnExactSwitchFirstSpec : ChangeSpec := { name := "fnExactSwitchFirst", fn := fun _ => fun
  | [d] => { results := [.lit (.bool true)], args := [d] }
  | _ => none }
def fnExactSwitchFirstRow : OpenClaim := { program := "ytgbbigekamapiaa", sum := "4d24c72a499127058b928eb7b6ea374f7f64091f5ee2ebc2cb0ea0bc046122cb", func := "loop.example/discretetomography/laws.FnExactSwitchFirst", spec := "fnExactSwitchFirst", unfollowed := true, recurses := true, apart := false }
def FnExactSwitchFirstSaid : Prop := fnExactSwitchFirstRow.holds Try.pinned (OpenSpec.ofChange fnExactSwitchFirstSpec)

/-- ITS FALSE NEIGHBOUR: 'it returns false'. Refute it at one input. -/
def fnExactSwitchFirstWrong : ChangeSpec := { name := "fnExactSwitchFirst", fn := fun _ => fun
  | [d] => { results := [.lit (.bool false)], args := [d] }
  | _ => none }
def FnExactSwitchFirstWrongFalsely : Prop := fnExactSwitchFirstRow.holds Try.pinned (OpenSpec.ofChange fnExactSwitchFirstWrong)

/-- 'laws.FnExactImagePut': WHATEVER THE INPUT: true; the input reads as it did. -/
def fnExactImagePutSpec : ChangeSpec := { name := "fnExactImagePut", fn := fun _ => fun
  | [d1, d2, d3, d4] => { results := [.lit (.bool true)], args := [d1, d2, d3, d4] }
  | _ => none }
def fnExactImagePutRow : OpenClaim := { program := "ytgbbigekamapiaa", sum := "4d24c72a499127058b928eb7b6ea374f7f64091f5ee2ebc2cb0ea0bc046122cb", func := "loop.example/discretetomography/laws.FnExactImagePut", spec := "fnExactImagePut", apart := false }
def FnExactImagePutSaid : Prop := fnExactImagePutRow.holds Try.pinned (OpenSpec.ofChange fnExactImagePutSpec)

/-- ITS FALSE NEIGHBOUR: 'it returns false'. Refute it at one input. -/
def fnExactImagePutWrong : ChangeSpec := { name := "fnExactImagePut", fn := fun _ => fun
  | [d1, d2, d3, d4] => { results := [.lit (.bool false)], args := [d1, d2, d3, d4] }
  | _ => none }
def FnExactImagePutWrongFalsely : Prop := fnExactImagePutRow.holds Try.pinned (OpenSpec.ofChange fnExactImagePutWrong)

/- THE SECOND FORM. 'bulk': how many values and letters a reading holds, each counted each time it is reached (what is shared counts as often as it is met; a slice's spare places count too). A statement '..UptoSaid' is the law's where the arguments, and the package variables that the reading takes, are together of bulk at most 1048576: NARROWER than '..Said'. Prove '..Said' where nothing that the law and all that it calls make is longer than what came in: it says more and counts as full. Else prove '..UptoSaid'. A law counts once. -/
mutual
def uptoBulk {H : Type} : DataW H → Nat
  | .lit (.string bytes) => bytes.length + 1
  | .lit _ => 1
  | .nil => 1
  | .ptr d => uptoBulk d + 1
  | .slice elems spare => uptoBulkAll elems + uptoBulkAll spare + 1
  | .agg parts => uptoBulkAll parts + 1
  | .iface _ d => uptoBulk d + 1
  | .map entries => uptoBulkEntries entries + 1
  | .held _ => 1
def uptoBulkAll {H : Type} : List (DataW H) → Nat
  | [] => 0
  | d :: r => uptoBulk d + uptoBulkAll r
def uptoBulkEntries {H : Type} : List (Lit × DataW H) → Nat
  | [] => 0
  | x :: r => uptoBulkEntry x + uptoBulkEntries r
def uptoBulkEntry {H : Type} : Lit × DataW H → Nat
  | (.string bytes, d) => bytes.length + uptoBulk d + 1
  | (_, d) => uptoBulk d + 1
 end
def uptoSmall : (H : Type) → List (DataW H) → Bool := fun _ ds => decide (uptoBulkAll ds ≤ 1048576)
def OpenSpec.upto (s : _root_.Go.ChangeSpec) : _root_.Go.OpenSpec := { _root_.Go.OpenSpec.ofChange s with cond := some uptoSmall }

/-- 'laws.FnPut', WHERE WHAT IT READS IS OF BULK AT MOST 1048576: true; the input reads as it did. -/
def fnPutUptoRow : OpenClaim := { program := "ytgbbigekamapiaa", sum := "4d24c72a499127058b928eb7b6ea374f7f64091f5ee2ebc2cb0ea0bc046122cb", func := "loop.example/discretetomography/laws.FnPut", spec := "fnPut", apart := false, narrowed := true }
def FnPutUptoSaid : Prop := fnPutUptoRow.holds Try.pinned (OpenSpec.upto fnPutSpec)

/-- 'laws.FnPutTwice', WHERE WHAT IT READS IS OF BULK AT MOST 1048576: true; the input reads as it did. -/
def fnPutTwiceUptoRow : OpenClaim := { program := "ytgbbigekamapiaa", sum := "4d24c72a499127058b928eb7b6ea374f7f64091f5ee2ebc2cb0ea0bc046122cb", func := "loop.example/discretetomography/laws.FnPutTwice", spec := "fnPutTwice", apart := false, narrowed := true }
def FnPutTwiceUptoSaid : Prop := fnPutTwiceUptoRow.holds Try.pinned (OpenSpec.upto fnPutTwiceSpec)

/-- 'laws.FnPutOther', WHERE WHAT IT READS IS OF BULK AT MOST 1048576: true; the input reads as it did. -/
def fnPutOtherUptoRow : OpenClaim := { program := "ytgbbigekamapiaa", sum := "4d24c72a499127058b928eb7b6ea374f7f64091f5ee2ebc2cb0ea0bc046122cb", func := "loop.example/discretetomography/laws.FnPutOther", spec := "fnPutOther", apart := false, narrowed := true }
def FnPutOtherUptoSaid : Prop := fnPutOtherUptoRow.holds Try.pinned (OpenSpec.upto fnPutOtherSpec)

/-- 'laws.FnSumsSamePut', WHERE WHAT IT READS IS OF BULK AT MOST 1048576: true; the input reads as it did. -/
def fnSumsSamePutUptoRow : OpenClaim := { program := "ytgbbigekamapiaa", sum := "4d24c72a499127058b928eb7b6ea374f7f64091f5ee2ebc2cb0ea0bc046122cb", func := "loop.example/discretetomography/laws.FnSumsSamePut", spec := "fnSumsSamePut", unfollowed := true, recurses := true, apart := false, narrowed := true }
def FnSumsSamePutUptoSaid : Prop := fnSumsSamePutUptoRow.holds Try.pinned (OpenSpec.upto fnSumsSamePutSpec)

/-- 'laws.FnRowSumsPut', WHERE WHAT IT READS IS OF BULK AT MOST 1048576: true; the input reads as it did. -/
def fnRowSumsPutUptoRow : OpenClaim := { program := "ytgbbigekamapiaa", sum := "4d24c72a499127058b928eb7b6ea374f7f64091f5ee2ebc2cb0ea0bc046122cb", func := "loop.example/discretetomography/laws.FnRowSumsPut", spec := "fnRowSumsPut", unfollowed := true, recurses := true, apart := false, narrowed := true }
def FnRowSumsPutUptoSaid : Prop := fnRowSumsPutUptoRow.holds Try.pinned (OpenSpec.upto fnRowSumsPutSpec)

/-- 'laws.FnSwitchSums', WHERE WHAT IT READS IS OF BULK AT MOST 1048576: true; the input reads as it did. -/
def fnSwitchSumsUptoRow : OpenClaim := { program := "ytgbbigekamapiaa", sum := "4d24c72a499127058b928eb7b6ea374f7f64091f5ee2ebc2cb0ea0bc046122cb", func := "loop.example/discretetomography/laws.FnSwitchSums", spec := "fnSwitchSums", unfollowed := true, recurses := true, apart := false, narrowed := true }
def FnSwitchSumsUptoSaid : Prop := fnSwitchSumsUptoRow.holds Try.pinned (OpenSpec.upto fnSwitchSumsSpec)

/-- 'laws.FnSwitchTwice', WHERE WHAT IT READS IS OF BULK AT MOST 1048576: true; the input reads as it did. -/
def fnSwitchTwiceUptoRow : OpenClaim := { program := "ytgbbigekamapiaa", sum := "4d24c72a499127058b928eb7b6ea374f7f64091f5ee2ebc2cb0ea0bc046122cb", func := "loop.example/discretetomography/laws.FnSwitchTwice", spec := "fnSwitchTwice", apart := false, narrowed := true }
def FnSwitchTwiceUptoSaid : Prop := fnSwitchTwiceUptoRow.holds Try.pinned (OpenSpec.upto fnSwitchTwiceSpec)

/-- 'laws.FnSwitchCells', WHERE WHAT IT READS IS OF BULK AT MOST 1048576: true; the input reads as it did. -/
def fnSwitchCellsUptoRow : OpenClaim := { program := "ytgbbigekamapiaa", sum := "4d24c72a499127058b928eb7b6ea374f7f64091f5ee2ebc2cb0ea0bc046122cb", func := "loop.example/discretetomography/laws.FnSwitchCells", spec := "fnSwitchCells", apart := false, narrowed := true }
def FnSwitchCellsUptoSaid : Prop := fnSwitchCellsUptoRow.holds Try.pinned (OpenSpec.upto fnSwitchCellsSpec)

/-- 'laws.FnSwitchFirst', WHERE WHAT IT READS IS OF BULK AT MOST 1048576: true; the input reads as it did. -/
def fnSwitchFirstUptoRow : OpenClaim := { program := "ytgbbigekamapiaa", sum := "4d24c72a499127058b928eb7b6ea374f7f64091f5ee2ebc2cb0ea0bc046122cb", func := "loop.example/discretetomography/laws.FnSwitchFirst", spec := "fnSwitchFirst", unfollowed := true, recurses := true, apart := false, narrowed := true }
def FnSwitchFirstUptoSaid : Prop := fnSwitchFirstUptoRow.holds Try.pinned (OpenSpec.upto fnSwitchFirstSpec)

/-- 'laws.FnSwitchOrder', WHERE WHAT IT READS IS OF BULK AT MOST 1048576: true; the input reads as it did. -/
def fnSwitchOrderUptoRow : OpenClaim := { program := "ytgbbigekamapiaa", sum := "4d24c72a499127058b928eb7b6ea374f7f64091f5ee2ebc2cb0ea0bc046122cb", func := "loop.example/discretetomography/laws.FnSwitchOrder", spec := "fnSwitchOrder", unfollowed := true, recurses := true, apart := false, narrowed := true }
def FnSwitchOrderUptoSaid : Prop := fnSwitchOrderUptoRow.holds Try.pinned (OpenSpec.upto fnSwitchOrderSpec)

/-- 'laws.FnSwitchRows', WHERE WHAT IT READS IS OF BULK AT MOST 1048576: true; the input reads as it did. -/
def fnSwitchRowsUptoRow : OpenClaim := { program := "ytgbbigekamapiaa", sum := "4d24c72a499127058b928eb7b6ea374f7f64091f5ee2ebc2cb0ea0bc046122cb", func := "loop.example/discretetomography/laws.FnSwitchRows", spec := "fnSwitchRows", apart := false, narrowed := true }
def FnSwitchRowsUptoSaid : Prop := fnSwitchRowsUptoRow.holds Try.pinned (OpenSpec.upto fnSwitchRowsSpec)

/-- 'laws.FnExactSwitchDo', WHERE WHAT IT READS IS OF BULK AT MOST 1048576: true; the input reads as it did. -/
def fnExactSwitchDoUptoRow : OpenClaim := { program := "ytgbbigekamapiaa", sum := "4d24c72a499127058b928eb7b6ea374f7f64091f5ee2ebc2cb0ea0bc046122cb", func := "loop.example/discretetomography/laws.FnExactSwitchDo", spec := "fnExactSwitchDo", apart := false, narrowed := true }
def FnExactSwitchDoUptoSaid : Prop := fnExactSwitchDoUptoRow.holds Try.pinned (OpenSpec.upto fnExactSwitchDoSpec)

/-- 'laws.FnExactSwitchFirst', WHERE WHAT IT READS IS OF BULK AT MOST 1048576: true; the input reads as it did. -/
def fnExactSwitchFirstUptoRow : OpenClaim := { program := "ytgbbigekamapiaa", sum := "4d24c72a499127058b928eb7b6ea374f7f64091f5ee2ebc2cb0ea0bc046122cb", func := "loop.example/discretetomography/laws.FnExactSwitchFirst", spec := "fnExactSwitchFirst", unfollowed := true, recurses := true, apart := false, narrowed := true }
def FnExactSwitchFirstUptoSaid : Prop := fnExactSwitchFirstUptoRow.holds Try.pinned (OpenSpec.upto fnExactSwitchFirstSpec)

/-- 'laws.FnExactImagePut', WHERE WHAT IT READS IS OF BULK AT MOST 1048576: true; the input reads as it did. -/
def fnExactImagePutUptoRow : OpenClaim := { program := "ytgbbigekamapiaa", sum := "4d24c72a499127058b928eb7b6ea374f7f64091f5ee2ebc2cb0ea0bc046122cb", func := "loop.example/discretetomography/laws.FnExactImagePut", spec := "fnExactImagePut", apart := false, narrowed := true }
def FnExactImagePutUptoSaid : Prop := fnExactImagePutUptoRow.holds Try.pinned (OpenSpec.upto fnExactImagePutSpec)

end Rows
end Go.Proofs.Ytgbbigekamapiaa
