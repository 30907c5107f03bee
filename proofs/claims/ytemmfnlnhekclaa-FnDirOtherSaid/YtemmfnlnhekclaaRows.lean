/-
  No cell of these rows narrows 'for every input' (looked for: loops, veiled, ifaces, maps, wideKeys, modest, calm, conditions, laid).
  DERIVED. THE GIVEN ROWS OF THIS SEAT. 16 by the template 'for every input the law returns true; each argument reads behind the call as it read before'; 0 by the template 'total and deterministic' (their statements: YtemmfnlnhekclaaTotals.lean).
  GIVEN WITH THE SEED: the statements are not yours to turn. If you find one false, say at which input.
  Laid BY PROGRAM, IN A SANDBOX (cutbox-rows.mjs): the forced cells as the released guide's own fill.sh prints them over the translation 62c72019980335a4… (all of the seat's roots in one cut). By AI agents, Wed Nov 11 2026. No macro, syntax, notation, axiom, sorry.
-/
import Derived.Test.YtemmfnlnhekclaaChecked
import GoSem.Claim
import GoSem.ClaimJoined
import GoSem.ClaimMapViews
import Derived.JoinedTies
import Derived.KernelRfl
namespace Go.Proofs.Ytemmfnlnhekclaa
/- THE CELL 'sum', in the pinned program and in every row, IS THE sha256 OF THE DUMP (.gsa) THAT YtemmfnlnhekclaaProg.lean LOADS. Nothing in Lean hashes anything: it is a label: what it is worth is what the hold of that sum in a sandbox is worth. -/
noncomputable def Try.pinned : Pinned := { name := "ytemmfnlnhekclaa", sum := "62c72019980335a4682dca98504f9b18fdb25006a4e065eae7846ddd3bf72743", checked := Try.checked }
namespace Rows
def none {H : Type} : Left H := { results := [], args := [] }

/-- 'laws.FnStep': WHATEVER THE INPUT: true; the input reads as it did. -/
def fnStepSpec : ChangeSpec := { name := "fnStep", fn := fun _ => fun
  | [d] => { results := [.lit (.bool true)], args := [d] }
  | _ => none }
def fnStepRow : OpenClaim := { program := "ytemmfnlnhekclaa", sum := "62c72019980335a4682dca98504f9b18fdb25006a4e065eae7846ddd3bf72743", func := "loop.example/discretetomography/laws.FnStep", spec := "fnStep", unfollowed := true, recurses := true, apart := false }
def FnStepSaid : Prop := fnStepRow.holds Try.pinned (OpenSpec.ofChange fnStepSpec)

/-- ITS FALSE NEIGHBOUR: 'it returns false'. Refute it at one input. -/
def fnStepWrong : ChangeSpec := { name := "fnStep", fn := fun _ => fun
  | [d] => { results := [.lit (.bool false)], args := [d] }
  | _ => none }
def FnStepWrongFalsely : Prop := fnStepRow.holds Try.pinned (OpenSpec.ofChange fnStepWrong)

/-- 'laws.FnLine': WHATEVER THE INPUT: true; the input reads as it did. -/
def fnLineSpec : ChangeSpec := { name := "fnLine", fn := fun _ => fun
  | [d1, d2] => { results := [.lit (.bool true)], args := [d1, d2] }
  | _ => none }
def fnLineRow : OpenClaim := { program := "ytemmfnlnhekclaa", sum := "62c72019980335a4682dca98504f9b18fdb25006a4e065eae7846ddd3bf72743", func := "loop.example/discretetomography/laws.FnLine", spec := "fnLine", unfollowed := true, recurses := true, apart := false }
def FnLineSaid : Prop := fnLineRow.holds Try.pinned (OpenSpec.ofChange fnLineSpec)

/-- ITS FALSE NEIGHBOUR: 'it returns false'. Refute it at one input. -/
def fnLineWrong : ChangeSpec := { name := "fnLine", fn := fun _ => fun
  | [d1, d2] => { results := [.lit (.bool false)], args := [d1, d2] }
  | _ => none }
def FnLineWrongFalsely : Prop := fnLineRow.holds Try.pinned (OpenSpec.ofChange fnLineWrong)

/-- 'laws.FnDirSums': WHATEVER THE INPUT: true; the input reads as it did. -/
def fnDirSumsSpec : ChangeSpec := { name := "fnDirSums", fn := fun _ => fun
  | [d] => { results := [.lit (.bool true)], args := [d] }
  | _ => none }
def fnDirSumsRow : OpenClaim := { program := "ytemmfnlnhekclaa", sum := "62c72019980335a4682dca98504f9b18fdb25006a4e065eae7846ddd3bf72743", func := "loop.example/discretetomography/laws.FnDirSums", spec := "fnDirSums", unfollowed := true, recurses := true, apart := false }
def FnDirSumsSaid : Prop := fnDirSumsRow.holds Try.pinned (OpenSpec.ofChange fnDirSumsSpec)

/-- ITS FALSE NEIGHBOUR: 'it returns false'. Refute it at one input. -/
def fnDirSumsWrong : ChangeSpec := { name := "fnDirSums", fn := fun _ => fun
  | [d] => { results := [.lit (.bool false)], args := [d] }
  | _ => none }
def FnDirSumsWrongFalsely : Prop := fnDirSumsRow.holds Try.pinned (OpenSpec.ofChange fnDirSumsWrong)

/-- 'laws.FnDirRows': WHATEVER THE INPUT: true; the input reads as it did. -/
def fnDirRowsSpec : ChangeSpec := { name := "fnDirRows", fn := fun _ => fun
  | [d] => { results := [.lit (.bool true)], args := [d] }
  | _ => none }
def fnDirRowsRow : OpenClaim := { program := "ytemmfnlnhekclaa", sum := "62c72019980335a4682dca98504f9b18fdb25006a4e065eae7846ddd3bf72743", func := "loop.example/discretetomography/laws.FnDirRows", spec := "fnDirRows", unfollowed := true, recurses := true, apart := false }
def FnDirRowsSaid : Prop := fnDirRowsRow.holds Try.pinned (OpenSpec.ofChange fnDirRowsSpec)

/-- ITS FALSE NEIGHBOUR: 'it returns false'. Refute it at one input. -/
def fnDirRowsWrong : ChangeSpec := { name := "fnDirRows", fn := fun _ => fun
  | [d] => { results := [.lit (.bool false)], args := [d] }
  | _ => none }
def FnDirRowsWrongFalsely : Prop := fnDirRowsRow.holds Try.pinned (OpenSpec.ofChange fnDirRowsWrong)

/-- 'laws.FnDirPut': WHATEVER THE INPUT: true; the input reads as it did. -/
def fnDirPutSpec : ChangeSpec := { name := "fnDirPut", fn := fun _ => fun
  | [d1, d2] => { results := [.lit (.bool true)], args := [d1, d2] }
  | _ => none }
def fnDirPutRow : OpenClaim := { program := "ytemmfnlnhekclaa", sum := "62c72019980335a4682dca98504f9b18fdb25006a4e065eae7846ddd3bf72743", func := "loop.example/discretetomography/laws.FnDirPut", spec := "fnDirPut", unfollowed := true, recurses := true, apart := false }
def FnDirPutSaid : Prop := fnDirPutRow.holds Try.pinned (OpenSpec.ofChange fnDirPutSpec)

/-- ITS FALSE NEIGHBOUR: 'it returns false'. Refute it at one input. -/
def fnDirPutWrong : ChangeSpec := { name := "fnDirPut", fn := fun _ => fun
  | [d1, d2] => { results := [.lit (.bool false)], args := [d1, d2] }
  | _ => none }
def FnDirPutWrongFalsely : Prop := fnDirPutRow.holds Try.pinned (OpenSpec.ofChange fnDirPutWrong)

/-- 'laws.FnDirMirror': WHATEVER THE INPUT: true; the input reads as it did. -/
def fnDirMirrorSpec : ChangeSpec := { name := "fnDirMirror", fn := fun _ => fun
  | [d] => { results := [.lit (.bool true)], args := [d] }
  | _ => none }
def fnDirMirrorRow : OpenClaim := { program := "ytemmfnlnhekclaa", sum := "62c72019980335a4682dca98504f9b18fdb25006a4e065eae7846ddd3bf72743", func := "loop.example/discretetomography/laws.FnDirMirror", spec := "fnDirMirror", unfollowed := true, recurses := true, apart := false }
def FnDirMirrorSaid : Prop := fnDirMirrorRow.holds Try.pinned (OpenSpec.ofChange fnDirMirrorSpec)

/-- ITS FALSE NEIGHBOUR: 'it returns false'. Refute it at one input. -/
def fnDirMirrorWrong : ChangeSpec := { name := "fnDirMirror", fn := fun _ => fun
  | [d] => { results := [.lit (.bool false)], args := [d] }
  | _ => none }
def FnDirMirrorWrongFalsely : Prop := fnDirMirrorRow.holds Try.pinned (OpenSpec.ofChange fnDirMirrorWrong)

/-- 'laws.FnDirTurn': WHATEVER THE INPUT: true; the input reads as it did. -/
def fnDirTurnSpec : ChangeSpec := { name := "fnDirTurn", fn := fun _ => fun
  | [d] => { results := [.lit (.bool true)], args := [d] }
  | _ => none }
def fnDirTurnRow : OpenClaim := { program := "ytemmfnlnhekclaa", sum := "62c72019980335a4682dca98504f9b18fdb25006a4e065eae7846ddd3bf72743", func := "loop.example/discretetomography/laws.FnDirTurn", spec := "fnDirTurn", unfollowed := true, recurses := true, apart := false }
def FnDirTurnSaid : Prop := fnDirTurnRow.holds Try.pinned (OpenSpec.ofChange fnDirTurnSpec)

/-- ITS FALSE NEIGHBOUR: 'it returns false'. Refute it at one input. -/
def fnDirTurnWrong : ChangeSpec := { name := "fnDirTurn", fn := fun _ => fun
  | [d] => { results := [.lit (.bool false)], args := [d] }
  | _ => none }
def FnDirTurnWrongFalsely : Prop := fnDirTurnRow.holds Try.pinned (OpenSpec.ofChange fnDirTurnWrong)

/-- 'laws.FnDirOther': WHATEVER THE INPUT: true; the input reads as it did. -/
def fnDirOtherSpec : ChangeSpec := { name := "fnDirOther", fn := fun _ => fun
  | [d] => { results := [.lit (.bool true)], args := [d] }
  | _ => none }
def fnDirOtherRow : OpenClaim := { program := "ytemmfnlnhekclaa", sum := "62c72019980335a4682dca98504f9b18fdb25006a4e065eae7846ddd3bf72743", func := "loop.example/discretetomography/laws.FnDirOther", spec := "fnDirOther", unfollowed := true, recurses := true, apart := false }
def FnDirOtherSaid : Prop := fnDirOtherRow.holds Try.pinned (OpenSpec.ofChange fnDirOtherSpec)

/-- ITS FALSE NEIGHBOUR: 'it returns false'. Refute it at one input. -/
def fnDirOtherWrong : ChangeSpec := { name := "fnDirOther", fn := fun _ => fun
  | [d] => { results := [.lit (.bool false)], args := [d] }
  | _ => none }
def FnDirOtherWrongFalsely : Prop := fnDirOtherRow.holds Try.pinned (OpenSpec.ofChange fnDirOtherWrong)

/-- 'laws.FnLineNext': WHATEVER THE INPUT: true; the input reads as it did. -/
def fnLineNextSpec : ChangeSpec := { name := "fnLineNext", fn := fun _ => fun
  | [d] => { results := [.lit (.bool true)], args := [d] }
  | _ => none }
def fnLineNextRow : OpenClaim := { program := "ytemmfnlnhekclaa", sum := "62c72019980335a4682dca98504f9b18fdb25006a4e065eae7846ddd3bf72743", func := "loop.example/discretetomography/laws.FnLineNext", spec := "fnLineNext", unfollowed := true, recurses := true, apart := false }
def FnLineNextSaid : Prop := fnLineNextRow.holds Try.pinned (OpenSpec.ofChange fnLineNextSpec)

/-- ITS FALSE NEIGHBOUR: 'it returns false'. Refute it at one input. -/
def fnLineNextWrong : ChangeSpec := { name := "fnLineNext", fn := fun _ => fun
  | [d] => { results := [.lit (.bool false)], args := [d] }
  | _ => none }
def FnLineNextWrongFalsely : Prop := fnLineNextRow.holds Try.pinned (OpenSpec.ofChange fnLineNextWrong)

/-- 'laws.FnDirHalf': WHATEVER THE INPUT: true; the input reads as it did. -/
def fnDirHalfSpec : ChangeSpec := { name := "fnDirHalf", fn := fun _ => fun
  | [d] => { results := [.lit (.bool true)], args := [d] }
  | _ => none }
def fnDirHalfRow : OpenClaim := { program := "ytemmfnlnhekclaa", sum := "62c72019980335a4682dca98504f9b18fdb25006a4e065eae7846ddd3bf72743", func := "loop.example/discretetomography/laws.FnDirHalf", spec := "fnDirHalf", unfollowed := true, recurses := true, apart := false }
def FnDirHalfSaid : Prop := fnDirHalfRow.holds Try.pinned (OpenSpec.ofChange fnDirHalfSpec)

/-- ITS FALSE NEIGHBOUR: 'it returns false'. Refute it at one input. -/
def fnDirHalfWrong : ChangeSpec := { name := "fnDirHalf", fn := fun _ => fun
  | [d] => { results := [.lit (.bool false)], args := [d] }
  | _ => none }
def FnDirHalfWrongFalsely : Prop := fnDirHalfRow.holds Try.pinned (OpenSpec.ofChange fnDirHalfWrong)

/-- 'laws.FnDirShort': WHATEVER THE INPUT: true; the input reads as it did. -/
def fnDirShortSpec : ChangeSpec := { name := "fnDirShort", fn := fun _ => fun
  | [d] => { results := [.lit (.bool true)], args := [d] }
  | _ => none }
def fnDirShortRow : OpenClaim := { program := "ytemmfnlnhekclaa", sum := "62c72019980335a4682dca98504f9b18fdb25006a4e065eae7846ddd3bf72743", func := "loop.example/discretetomography/laws.FnDirShort", spec := "fnDirShort", unfollowed := true, recurses := true, apart := false }
def FnDirShortSaid : Prop := fnDirShortRow.holds Try.pinned (OpenSpec.ofChange fnDirShortSpec)

/-- ITS FALSE NEIGHBOUR: 'it returns false'. Refute it at one input. -/
def fnDirShortWrong : ChangeSpec := { name := "fnDirShort", fn := fun _ => fun
  | [d] => { results := [.lit (.bool false)], args := [d] }
  | _ => none }
def FnDirShortWrongFalsely : Prop := fnDirShortRow.holds Try.pinned (OpenSpec.ofChange fnDirShortWrong)

/-- 'laws.FnSwitchDiagonal': WHATEVER THE INPUT: true; the input reads as it did. -/
def fnSwitchDiagonalSpec : ChangeSpec := { name := "fnSwitchDiagonal", fn := fun _ => fun
  | [d] => { results := [.lit (.bool true)], args := [d] }
  | _ => none }
def fnSwitchDiagonalRow : OpenClaim := { program := "ytemmfnlnhekclaa", sum := "62c72019980335a4682dca98504f9b18fdb25006a4e065eae7846ddd3bf72743", func := "loop.example/discretetomography/laws.FnSwitchDiagonal", spec := "fnSwitchDiagonal", unfollowed := true, recurses := true, apart := false }
def FnSwitchDiagonalSaid : Prop := fnSwitchDiagonalRow.holds Try.pinned (OpenSpec.ofChange fnSwitchDiagonalSpec)

/-- ITS FALSE NEIGHBOUR: 'it returns false'. Refute it at one input. -/
def fnSwitchDiagonalWrong : ChangeSpec := { name := "fnSwitchDiagonal", fn := fun _ => fun
  | [d] => { results := [.lit (.bool false)], args := [d] }
  | _ => none }
def FnSwitchDiagonalWrongFalsely : Prop := fnSwitchDiagonalRow.holds Try.pinned (OpenSpec.ofChange fnSwitchDiagonalWrong)

/-- 'laws.FnExactDirStep': WHATEVER THE INPUT: true; the input reads as it did. -/
def fnExactDirStepSpec : ChangeSpec := { name := "fnExactDirStep", fn := fun _ => fun
  | [d] => { results := [.lit (.bool true)], args := [d] }
  | _ => none }
def fnExactDirStepRow : OpenClaim := { program := "ytemmfnlnhekclaa", sum := "62c72019980335a4682dca98504f9b18fdb25006a4e065eae7846ddd3bf72743", func := "loop.example/discretetomography/laws.FnExactDirStep", spec := "fnExactDirStep", unfollowed := true, recurses := true, apart := false }
def FnExactDirStepSaid : Prop := fnExactDirStepRow.holds Try.pinned (OpenSpec.ofChange fnExactDirStepSpec)

/-- ITS FALSE NEIGHBOUR: 'it returns false'. Refute it at one input. -/
def fnExactDirStepWrong : ChangeSpec := { name := "fnExactDirStep", fn := fun _ => fun
  | [d] => { results := [.lit (.bool false)], args := [d] }
  | _ => none }
def FnExactDirStepWrongFalsely : Prop := fnExactDirStepRow.holds Try.pinned (OpenSpec.ofChange fnExactDirStepWrong)

/-- 'laws.FnExactDirLine': WHATEVER THE INPUT: true; the input reads as it did. -/
def fnExactDirLineSpec : ChangeSpec := { name := "fnExactDirLine", fn := fun _ => fun
  | [d1, d2, d3] => { results := [.lit (.bool true)], args := [d1, d2, d3] }
  | _ => none }
def fnExactDirLineRow : OpenClaim := { program := "ytemmfnlnhekclaa", sum := "62c72019980335a4682dca98504f9b18fdb25006a4e065eae7846ddd3bf72743", func := "loop.example/discretetomography/laws.FnExactDirLine", spec := "fnExactDirLine", unfollowed := true, recurses := true, apart := false }
def FnExactDirLineSaid : Prop := fnExactDirLineRow.holds Try.pinned (OpenSpec.ofChange fnExactDirLineSpec)

/-- ITS FALSE NEIGHBOUR: 'it returns false'. Refute it at one input. -/
def fnExactDirLineWrong : ChangeSpec := { name := "fnExactDirLine", fn := fun _ => fun
  | [d1, d2, d3] => { results := [.lit (.bool false)], args := [d1, d2, d3] }
  | _ => none }
def FnExactDirLineWrongFalsely : Prop := fnExactDirLineRow.holds Try.pinned (OpenSpec.ofChange fnExactDirLineWrong)

/-- 'laws.FnExactDirLines': WHATEVER THE INPUT: true; the input reads as it did. -/
def fnExactDirLinesSpec : ChangeSpec := { name := "fnExactDirLines", fn := fun _ => fun
  | [d1, d2, d3] => { results := [.lit (.bool true)], args := [d1, d2, d3] }
  | _ => none }
def fnExactDirLinesRow : OpenClaim := { program := "ytemmfnlnhekclaa", sum := "62c72019980335a4682dca98504f9b18fdb25006a4e065eae7846ddd3bf72743", func := "loop.example/discretetomography/laws.FnExactDirLines", spec := "fnExactDirLines", unfollowed := true, recurses := true, apart := false }
def FnExactDirLinesSaid : Prop := fnExactDirLinesRow.holds Try.pinned (OpenSpec.ofChange fnExactDirLinesSpec)

/-- ITS FALSE NEIGHBOUR: 'it returns false'. Refute it at one input. -/
def fnExactDirLinesWrong : ChangeSpec := { name := "fnExactDirLines", fn := fun _ => fun
  | [d1, d2, d3] => { results := [.lit (.bool false)], args := [d1, d2, d3] }
  | _ => none }
def FnExactDirLinesWrongFalsely : Prop := fnExactDirLinesRow.holds Try.pinned (OpenSpec.ofChange fnExactDirLinesWrong)

/-- 'laws.FnExactDirSums': WHATEVER THE INPUT: true; the input reads as it did. -/
def fnExactDirSumsSpec : ChangeSpec := { name := "fnExactDirSums", fn := fun _ => fun
  | [d1, d2] => { results := [.lit (.bool true)], args := [d1, d2] }
  | _ => none }
def fnExactDirSumsRow : OpenClaim := { program := "ytemmfnlnhekclaa", sum := "62c72019980335a4682dca98504f9b18fdb25006a4e065eae7846ddd3bf72743", func := "loop.example/discretetomography/laws.FnExactDirSums", spec := "fnExactDirSums", unfollowed := true, recurses := true, apart := false }
def FnExactDirSumsSaid : Prop := fnExactDirSumsRow.holds Try.pinned (OpenSpec.ofChange fnExactDirSumsSpec)

/-- ITS FALSE NEIGHBOUR: 'it returns false'. Refute it at one input. -/
def fnExactDirSumsWrong : ChangeSpec := { name := "fnExactDirSums", fn := fun _ => fun
  | [d1, d2] => { results := [.lit (.bool false)], args := [d1, d2] }
  | _ => none }
def FnExactDirSumsWrongFalsely : Prop := fnExactDirSumsRow.holds Try.pinned (OpenSpec.ofChange fnExactDirSumsWrong)

/- THE SECOND FORM. 'bulk': how many values and letters a reading holds, each counted each time it is reached (what is shared counts as often as it is met; a slice's spare places count too). A statement '..UptoSaid' is the law's where the arguments, and the package variables that the reading takes, are together of bulk at most 1048576: NARROWER than '..Said'. Prove '..Said' where nothing that the law and all that it calls make is longer than what came in: it says more and counts as full. Else prove '..UptoSaid'. A law counts once. -/
mutual
def uptoBulk {H : Type} : DataW H → Nat
  | .lit (.string bytes) => bytes.length + 1
  | .lit _ => 1
  | .nil => 1
  | .ptr d => uptoBulk d + 1
  | .slice elems spare => uptoBulkAll elems + uptoBulkAll spare + 1
  | .agg parts => uptoBulkAll parts + 1
  | .iface _ d => uptoBulk d + 1
  | .map entries => uptoBulkEntries entries + 1
  | .held _ => 1
def uptoBulkAll {H : Type} : List (DataW H) → Nat
  | [] => 0
  | d :: r => uptoBulk d + uptoBulkAll r
def uptoBulkEntries {H : Type} : List (Lit × DataW H) → Nat
  | [] => 0
  | x :: r => uptoBulkEntry x + uptoBulkEntries r
def uptoBulkEntry {H : Type} : Lit × DataW H → Nat
  | (.string bytes, d) => bytes.length + uptoBulk d + 1
  | (_, d) => uptoBulk d + 1
 end
def uptoSmall : (H : Type) → List (DataW H) → Bool := fun _ ds => decide (uptoBulkAll ds ≤ 1048576)
def OpenSpec.upto (s : _root_.Go.ChangeSpec) : _root_.Go.OpenSpec := { _root_.Go.OpenSpec.ofChange s with cond := some uptoSmall }

/-- 'laws.FnStep', WHERE WHAT IT READS IS OF BULK AT MOST 1048576: true; the input reads as it did. -/
def fnStepUptoRow : OpenClaim := { program := "ytemmfnlnhekclaa", sum := "62c72019980335a4682dca98504f9b18fdb25006a4e065eae7846ddd3bf72743", func := "loop.example/discretetomography/laws.FnStep", spec := "fnStep", unfollowed := true, recurses := true, apart := false, narrowed := true }
def FnStepUptoSaid : Prop := fnStepUptoRow.holds Try.pinned (OpenSpec.upto fnStepSpec)

/-- 'laws.FnLine', WHERE WHAT IT READS IS OF BULK AT MOST 1048576: true; the input reads as it did. -/
def fnLineUptoRow : OpenClaim := { program := "ytemmfnlnhekclaa", sum := "62c72019980335a4682dca98504f9b18fdb25006a4e065eae7846ddd3bf72743", func := "loop.example/discretetomography/laws.FnLine", spec := "fnLine", unfollowed := true, recurses := true, apart := false, narrowed := true }
def FnLineUptoSaid : Prop := fnLineUptoRow.holds Try.pinned (OpenSpec.upto fnLineSpec)

/-- 'laws.FnDirSums', WHERE WHAT IT READS IS OF BULK AT MOST 1048576: true; the input reads as it did. -/
def fnDirSumsUptoRow : OpenClaim := { program := "ytemmfnlnhekclaa", sum := "62c72019980335a4682dca98504f9b18fdb25006a4e065eae7846ddd3bf72743", func := "loop.example/discretetomography/laws.FnDirSums", spec := "fnDirSums", unfollowed := true, recurses := true, apart := false, narrowed := true }
def FnDirSumsUptoSaid : Prop := fnDirSumsUptoRow.holds Try.pinned (OpenSpec.upto fnDirSumsSpec)

/-- 'laws.FnDirRows', WHERE WHAT IT READS IS OF BULK AT MOST 1048576: true; the input reads as it did. -/
def fnDirRowsUptoRow : OpenClaim := { program := "ytemmfnlnhekclaa", sum := "62c72019980335a4682dca98504f9b18fdb25006a4e065eae7846ddd3bf72743", func := "loop.example/discretetomography/laws.FnDirRows", spec := "fnDirRows", unfollowed := true, recurses := true, apart := false, narrowed := true }
def FnDirRowsUptoSaid : Prop := fnDirRowsUptoRow.holds Try.pinned (OpenSpec.upto fnDirRowsSpec)

/-- 'laws.FnDirPut', WHERE WHAT IT READS IS OF BULK AT MOST 1048576: true; the input reads as it did. -/
def fnDirPutUptoRow : OpenClaim := { program := "ytemmfnlnhekclaa", sum := "62c72019980335a4682dca98504f9b18fdb25006a4e065eae7846ddd3bf72743", func := "loop.example/discretetomography/laws.FnDirPut", spec := "fnDirPut", unfollowed := true, recurses := true, apart := false, narrowed := true }
def FnDirPutUptoSaid : Prop := fnDirPutUptoRow.holds Try.pinned (OpenSpec.upto fnDirPutSpec)

/-- 'laws.FnDirMirror', WHERE WHAT IT READS IS OF BULK AT MOST 1048576: true; the input reads as it did. -/
def fnDirMirrorUptoRow : OpenClaim := { program := "ytemmfnlnhekclaa", sum := "62c72019980335a4682dca98504f9b18fdb25006a4e065eae7846ddd3bf72743", func := "loop.example/discretetomography/laws.FnDirMirror", spec := "fnDirMirror", unfollowed := true, recurses := true, apart := false, narrowed := true }
def FnDirMirrorUptoSaid : Prop := fnDirMirrorUptoRow.holds Try.pinned (OpenSpec.upto fnDirMirrorSpec)

/-- 'laws.FnDirTurn', WHERE WHAT IT READS IS OF BULK AT MOST 1048576: true; the input reads as it did. -/
def fnDirTurnUptoRow : OpenClaim := { program := "ytemmfnlnhekclaa", sum := "62c72019980335a4682dca98504f9b18fdb25006a4e065eae7846ddd3bf72743", func := "loop.example/discretetomography/laws.FnDirTurn", spec := "fnDirTurn", unfollowed := true, recurses := true, apart := false, narrowed := true }
def FnDirTurnUptoSaid : Prop := fnDirTurnUptoRow.holds Try.pinned (OpenSpec.upto fnDirTurnSpec)

/-- 'laws.FnDirOther', WHERE WHAT IT READS IS OF BULK AT MOST 1048576: true; the input reads as it did. -/
def fnDirOtherUptoRow : OpenClaim := { program := "ytemmfnlnhekclaa", sum := "62c72019980335a4682dca98504f9b18fdb25006a4e065eae7846ddd3bf72743", func := "loop.example/discretetomography/laws.FnDirOther", spec := "fnDirOther", unfollowed := true, recurses := true, apart := false, narrowed := true }
def FnDirOtherUptoSaid : Prop := fnDirOtherUptoRow.holds Try.pinned (OpenSpec.upto fnDirOtherSpec)

/-- 'laws.FnLineNext', WHERE WHAT IT READS IS OF BULK AT MOST 1048576: true; the input reads as it did. -/
def fnLineNextUptoRow : OpenClaim := { program := "ytemmfnlnhekclaa", sum := "62c72019980335a4682dca98504f9b18fdb25006a4e065eae7846ddd3bf72743", func := "loop.example/discretetomography/laws.FnLineNext", spec := "fnLineNext", unfollowed := true, recurses := true, apart := false, narrowed := true }
def FnLineNextUptoSaid : Prop := fnLineNextUptoRow.holds Try.pinned (OpenSpec.upto fnLineNextSpec)

/-- 'laws.FnDirHalf', WHERE WHAT IT READS IS OF BULK AT MOST 1048576: true; the input reads as it did. -/
def fnDirHalfUptoRow : OpenClaim := { program := "ytemmfnlnhekclaa", sum := "62c72019980335a4682dca98504f9b18fdb25006a4e065eae7846ddd3bf72743", func := "loop.example/discretetomography/laws.FnDirHalf", spec := "fnDirHalf", unfollowed := true, recurses := true, apart := false, narrowed := true }
def FnDirHalfUptoSaid : Prop := fnDirHalfUptoRow.holds Try.pinned (OpenSpec.upto fnDirHalfSpec)

/-- 'laws.FnDirShort', WHERE WHAT IT READS IS OF BULK AT MOST 1048576: true; the input reads as it did. -/
def fnDirShortUptoRow : OpenClaim := { program := "ytemmfnlnhekclaa", sum := "62c72019980335a4682dca98504f9b18fdb25006a4e065eae7846ddd3bf72743", func := "loop.example/discretetomography/laws.FnDirShort", spec := "fnDirShort", unfollowed := true, recurses := true, apart := false, narrowed := true }
def FnDirShortUptoSaid : Prop := fnDirShortUptoRow.holds Try.pinned (OpenSpec.upto fnDirShortSpec)

/-- 'laws.FnSwitchDiagonal', WHERE WHAT IT READS IS OF BULK AT MOST 1048576: true; the input reads as it did. -/
def fnSwitchDiagonalUptoRow : OpenClaim := { program := "ytemmfnlnhekclaa", sum := "62c72019980335a4682dca98504f9b18fdb25006a4e065eae7846ddd3bf72743", func := "loop.example/discretetomography/laws.FnSwitchDiagonal", spec := "fnSwitchDiagonal", unfollowed := true, recurses := true, apart := false, narrowed := true }
def FnSwitchDiagonalUptoSaid : Prop := fnSwitchDiagonalUptoRow.holds Try.pinned (OpenSpec.upto fnSwitchDiagonalSpec)

/-- 'laws.FnExactDirStep', WHERE WHAT IT READS IS OF BULK AT MOST 1048576: true; the input reads as it did. -/
def fnExactDirStepUptoRow : OpenClaim := { program := "ytemmfnlnhekclaa", sum := "62c72019980335a4682dca98504f9b18fdb25006a4e065eae7846ddd3bf72743", func := "loop.example/discretetomography/laws.FnExactDirStep", spec := "fnExactDirStep", unfollowed := true, recurses := true, apart := false, narrowed := true }
def FnExactDirStepUptoSaid : Prop := fnExactDirStepUptoRow.holds Try.pinned (OpenSpec.upto fnExactDirStepSpec)

/-- 'laws.FnExactDirLine', WHERE WHAT IT READS IS OF BULK AT MOST 1048576: true; the input reads as it did. -/
def fnExactDirLineUptoRow : OpenClaim := { program := "ytemmfnlnhekclaa", sum := "62c72019980335a4682dca98504f9b18fdb25006a4e065eae7846ddd3bf72743", func := "loop.example/discretetomography/laws.FnExactDirLine", spec := "fnExactDirLine", unfollowed := true, recurses := true, apart := false, narrowed := true }
def FnExactDirLineUptoSaid : Prop := fnExactDirLineUptoRow.holds Try.pinned (OpenSpec.upto fnExactDirLineSpec)

/-- 'laws.FnExactDirLines', WHERE WHAT IT READS IS OF BULK AT MOST 1048576: true; the input reads as it did. -/
def fnExactDirLinesUptoRow : OpenClaim := { program := "ytemmfnlnhekclaa", sum := "62c72019980335a4682dca98504f9b18fdb25006a4e065eae7846ddd3bf72743", func := "loop.example/discretetomography/laws.FnExactDirLines", spec := "fnExactDirLines", unfollowed := true, recurses := true, apart := false, narrowed := true }
def FnExactDirLinesUptoSaid : Prop := fnExactDirLinesUptoRow.holds Try.pinned (OpenSpec.upto fnExactDirLinesSpec)

/-- 'laws.FnExactDirSums', WHERE WHAT IT READS IS OF BULK AT MOST 1048576: true; the input reads as it did. -/
def fnExactDirSumsUptoRow : OpenClaim := { program := "ytemmfnlnhekclaa", sum := "62c72019980335a4682dca98504f9b18fdb25006a4e065eae7846ddd3bf72743", func := "loop.example/discretetomography/laws.FnExactDirSums", spec := "fnExactDirSums", unfollowed := true, recurses := true, apart := false, narrowed := true }
def FnExactDirSumsUptoSaid : Prop := fnExactDirSumsUptoRow.holds Try.pinned (OpenSpec.upto fnExactDirSumsSpec)

end Rows
end Go.Proofs.Ytemmfnlnhekclaa
