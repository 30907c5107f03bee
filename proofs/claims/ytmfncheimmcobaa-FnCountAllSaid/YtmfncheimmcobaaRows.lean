/-
  No cell of these rows narrows 'for every input' (looked for: loops, veiled, ifaces, maps, wideKeys, modest, calm, conditions, laid).
  DERIVED. THE GIVEN ROWS OF THIS SEAT. 15 by the template 'for every input the law returns true; each argument reads behind the call as it read before'; 0 by the template 'total and deterministic' (their statements: YtmfncheimmcobaaTotals.lean).
  GIVEN WITH THE SEED: the statements are not yours to turn. If you find one false, say at which input.
  Laid BY PROGRAM, IN A SANDBOX (cutbox-rows.mjs): the forced cells as the released guide's own fill.sh prints them over the translation 12cd547a38473e7e… (all of the seat's roots in one cut). By AI agents, Wed Nov 11 2026. No macro, syntax, notation, axiom, sorry.
-/
import Derived.Test.YtmfncheimmcobaaChecked
import GoSem.Claim
import GoSem.ClaimJoined
import GoSem.ClaimMapViews
import Derived.JoinedTies
import Derived.KernelRfl
namespace Go.Proofs.Ytmfncheimmcobaa
/- THE CELL 'sum', in the pinned program and in every row, IS THE sha256 OF THE DUMP (.gsa) THAT YtmfncheimmcobaaProg.lean LOADS. Nothing in Lean hashes anything: it is a label: what it is worth is what the hold of that sum in a sandbox is worth. -/
noncomputable def Try.pinned : Pinned := { name := "ytmfncheimmcobaa", sum := "12cd547a38473e7ebb8acaf255911bf8b1357ceaacd93e269a56213c0d497a59", checked := Try.checked }
namespace Rows
def none {H : Type} : Left H := { results := [], args := [] }

/-- 'laws.FnCountTurn': WHATEVER THE INPUT: true; the input reads as it did. -/
def fnCountTurnSpec : ChangeSpec := { name := "fnCountTurn", fn := fun _ => fun
  | [d] => { results := [.lit (.bool true)], args := [d] }
  | _ => none }
def fnCountTurnRow : OpenClaim := { program := "ytmfncheimmcobaa", sum := "12cd547a38473e7ebb8acaf255911bf8b1357ceaacd93e269a56213c0d497a59", func := "loop.example/discretetomography/laws.FnCountTurn", spec := "fnCountTurn", recurses := true, plainKeys := false, apart := false }
def FnCountTurnSaid : Prop := fnCountTurnRow.holds Try.pinned (OpenSpec.ofChange fnCountTurnSpec)

/-- ITS FALSE NEIGHBOUR: 'it returns false'. Refute it at one input. -/
def fnCountTurnWrong : ChangeSpec := { name := "fnCountTurn", fn := fun _ => fun
  | [d] => { results := [.lit (.bool false)], args := [d] }
  | _ => none }
def FnCountTurnWrongFalsely : Prop := fnCountTurnRow.holds Try.pinned (OpenSpec.ofChange fnCountTurnWrong)

/-- 'laws.FnCountOrder': WHATEVER THE INPUT: true; the input reads as it did. -/
def fnCountOrderSpec : ChangeSpec := { name := "fnCountOrder", fn := fun _ => fun
  | [d1, d2] => { results := [.lit (.bool true)], args := [d1, d2] }
  | _ => none }
def fnCountOrderRow : OpenClaim := { program := "ytmfncheimmcobaa", sum := "12cd547a38473e7ebb8acaf255911bf8b1357ceaacd93e269a56213c0d497a59", func := "loop.example/discretetomography/laws.FnCountOrder", spec := "fnCountOrder", recurses := true, plainKeys := false, apart := false }
def FnCountOrderSaid : Prop := fnCountOrderRow.holds Try.pinned (OpenSpec.ofChange fnCountOrderSpec)

/-- ITS FALSE NEIGHBOUR: 'it returns false'. Refute it at one input. -/
def fnCountOrderWrong : ChangeSpec := { name := "fnCountOrder", fn := fun _ => fun
  | [d1, d2] => { results := [.lit (.bool false)], args := [d1, d2] }
  | _ => none }
def FnCountOrderWrongFalsely : Prop := fnCountOrderRow.holds Try.pinned (OpenSpec.ofChange fnCountOrderWrong)

/-- 'laws.FnCountSmall': WHATEVER THE INPUT: true; the input reads as it did. -/
def fnCountSmallSpec : ChangeSpec := { name := "fnCountSmall", fn := fun _ => fun
  | [d] => { results := [.lit (.bool true)], args := [d] }
  | _ => none }
def fnCountSmallRow : OpenClaim := { program := "ytmfncheimmcobaa", sum := "12cd547a38473e7ebb8acaf255911bf8b1357ceaacd93e269a56213c0d497a59", func := "loop.example/discretetomography/laws.FnCountSmall", spec := "fnCountSmall", unfollowed := true, recurses := true, plainKeys := false, apart := false }
def FnCountSmallSaid : Prop := fnCountSmallRow.holds Try.pinned (OpenSpec.ofChange fnCountSmallSpec)

/-- ITS FALSE NEIGHBOUR: 'it returns false'. Refute it at one input. -/
def fnCountSmallWrong : ChangeSpec := { name := "fnCountSmall", fn := fun _ => fun
  | [d] => { results := [.lit (.bool false)], args := [d] }
  | _ => none }
def FnCountSmallWrongFalsely : Prop := fnCountSmallRow.holds Try.pinned (OpenSpec.ofChange fnCountSmallWrong)

/-- 'laws.FnCountRow': WHATEVER THE INPUT: true; the input reads as it did. -/
def fnCountRowSpec : ChangeSpec := { name := "fnCountRow", fn := fun _ => fun
  | [d] => { results := [.lit (.bool true)], args := [d] }
  | _ => none }
def fnCountRowRow : OpenClaim := { program := "ytmfncheimmcobaa", sum := "12cd547a38473e7ebb8acaf255911bf8b1357ceaacd93e269a56213c0d497a59", func := "loop.example/discretetomography/laws.FnCountRow", spec := "fnCountRow", recurses := true, plainKeys := false, apart := false }
def FnCountRowSaid : Prop := fnCountRowRow.holds Try.pinned (OpenSpec.ofChange fnCountRowSpec)

/-- ITS FALSE NEIGHBOUR: 'it returns false'. Refute it at one input. -/
def fnCountRowWrong : ChangeSpec := { name := "fnCountRow", fn := fun _ => fun
  | [d] => { results := [.lit (.bool false)], args := [d] }
  | _ => none }
def FnCountRowWrongFalsely : Prop := fnCountRowRow.holds Try.pinned (OpenSpec.ofChange fnCountRowWrong)

/-- 'laws.FnCellSum': WHATEVER THE INPUT: true; the input reads as it did. -/
def fnCellSumSpec : ChangeSpec := { name := "fnCellSum", fn := fun _ => fun
  | [d] => { results := [.lit (.bool true)], args := [d] }
  | _ => none }
def fnCellSumRow : OpenClaim := { program := "ytmfncheimmcobaa", sum := "12cd547a38473e7ebb8acaf255911bf8b1357ceaacd93e269a56213c0d497a59", func := "loop.example/discretetomography/laws.FnCellSum", spec := "fnCellSum", unfollowed := true, recurses := true, plainKeys := false, apart := false }
def FnCellSumSaid : Prop := fnCellSumRow.holds Try.pinned (OpenSpec.ofChange fnCellSumSpec)

/-- ITS FALSE NEIGHBOUR: 'it returns false'. Refute it at one input. -/
def fnCellSumWrong : ChangeSpec := { name := "fnCellSum", fn := fun _ => fun
  | [d] => { results := [.lit (.bool false)], args := [d] }
  | _ => none }
def FnCellSumWrongFalsely : Prop := fnCellSumRow.holds Try.pinned (OpenSpec.ofChange fnCellSumWrong)

/-- 'laws.FnCellTurn': WHATEVER THE INPUT: true; the input reads as it did. -/
def fnCellTurnSpec : ChangeSpec := { name := "fnCellTurn", fn := fun _ => fun
  | [d] => { results := [.lit (.bool true)], args := [d] }
  | _ => none }
def fnCellTurnRow : OpenClaim := { program := "ytmfncheimmcobaa", sum := "12cd547a38473e7ebb8acaf255911bf8b1357ceaacd93e269a56213c0d497a59", func := "loop.example/discretetomography/laws.FnCellTurn", spec := "fnCellTurn", unfollowed := true, recurses := true, plainKeys := false, apart := false }
def FnCellTurnSaid : Prop := fnCellTurnRow.holds Try.pinned (OpenSpec.ofChange fnCellTurnSpec)

/-- ITS FALSE NEIGHBOUR: 'it returns false'. Refute it at one input. -/
def fnCellTurnWrong : ChangeSpec := { name := "fnCellTurn", fn := fun _ => fun
  | [d] => { results := [.lit (.bool false)], args := [d] }
  | _ => none }
def FnCellTurnWrongFalsely : Prop := fnCellTurnRow.holds Try.pinned (OpenSpec.ofChange fnCellTurnWrong)

/-- 'laws.FnCountAll': WHATEVER THE INPUT: true; the input reads as it did. -/
def fnCountAllSpec : ChangeSpec := { name := "fnCountAll", fn := fun _ => fun
  | [d] => { results := [.lit (.bool true)], args := [d] }
  | _ => none }
def fnCountAllRow : OpenClaim := { program := "ytmfncheimmcobaa", sum := "12cd547a38473e7ebb8acaf255911bf8b1357ceaacd93e269a56213c0d497a59", func := "loop.example/discretetomography/laws.FnCountAll", spec := "fnCountAll", plainKeys := false, apart := false }
def FnCountAllSaid : Prop := fnCountAllRow.holds Try.pinned (OpenSpec.ofChange fnCountAllSpec)

/-- ITS FALSE NEIGHBOUR: 'it returns false'. Refute it at one input. -/
def fnCountAllWrong : ChangeSpec := { name := "fnCountAll", fn := fun _ => fun
  | [d] => { results := [.lit (.bool false)], args := [d] }
  | _ => none }
def FnCountAllWrongFalsely : Prop := fnCountAllRow.holds Try.pinned (OpenSpec.ofChange fnCountAllWrong)

/-- 'laws.FnCountAllSum': WHATEVER THE INPUT: true; the input reads as it did. -/
def fnCountAllSumSpec : ChangeSpec := { name := "fnCountAllSum", fn := fun _ => fun
  | [d] => { results := [.lit (.bool true)], args := [d] }
  | _ => none }
def fnCountAllSumRow : OpenClaim := { program := "ytmfncheimmcobaa", sum := "12cd547a38473e7ebb8acaf255911bf8b1357ceaacd93e269a56213c0d497a59", func := "loop.example/discretetomography/laws.FnCountAllSum", spec := "fnCountAllSum", plainKeys := false, apart := false }
def FnCountAllSumSaid : Prop := fnCountAllSumRow.holds Try.pinned (OpenSpec.ofChange fnCountAllSumSpec)

/-- ITS FALSE NEIGHBOUR: 'it returns false'. Refute it at one input. -/
def fnCountAllSumWrong : ChangeSpec := { name := "fnCountAllSum", fn := fun _ => fun
  | [d] => { results := [.lit (.bool false)], args := [d] }
  | _ => none }
def FnCountAllSumWrongFalsely : Prop := fnCountAllSumRow.holds Try.pinned (OpenSpec.ofChange fnCountAllSumWrong)

/-- 'laws.FnCountOnes': WHATEVER THE INPUT: true; the input reads as it did. -/
def fnCountOnesSpec : ChangeSpec := { name := "fnCountOnes", fn := fun _ => fun
  | [d] => { results := [.lit (.bool true)], args := [d] }
  | _ => none }
def fnCountOnesRow : OpenClaim := { program := "ytmfncheimmcobaa", sum := "12cd547a38473e7ebb8acaf255911bf8b1357ceaacd93e269a56213c0d497a59", func := "loop.example/discretetomography/laws.FnCountOnes", spec := "fnCountOnes", recurses := true, plainKeys := false, apart := false }
def FnCountOnesSaid : Prop := fnCountOnesRow.holds Try.pinned (OpenSpec.ofChange fnCountOnesSpec)

/-- ITS FALSE NEIGHBOUR: 'it returns false'. Refute it at one input. -/
def fnCountOnesWrong : ChangeSpec := { name := "fnCountOnes", fn := fun _ => fun
  | [d] => { results := [.lit (.bool false)], args := [d] }
  | _ => none }
def FnCountOnesWrongFalsely : Prop := fnCountOnesRow.holds Try.pinned (OpenSpec.ofChange fnCountOnesWrong)

/-- 'laws.FnCountColumn': WHATEVER THE INPUT: true; the input reads as it did. -/
def fnCountColumnSpec : ChangeSpec := { name := "fnCountColumn", fn := fun _ => fun
  | [d1, d2] => { results := [.lit (.bool true)], args := [d1, d2] }
  | _ => none }
def fnCountColumnRow : OpenClaim := { program := "ytmfncheimmcobaa", sum := "12cd547a38473e7ebb8acaf255911bf8b1357ceaacd93e269a56213c0d497a59", func := "loop.example/discretetomography/laws.FnCountColumn", spec := "fnCountColumn", recurses := true, plainKeys := false, apart := false }
def FnCountColumnSaid : Prop := fnCountColumnRow.holds Try.pinned (OpenSpec.ofChange fnCountColumnSpec)

/-- ITS FALSE NEIGHBOUR: 'it returns false'. Refute it at one input. -/
def fnCountColumnWrong : ChangeSpec := { name := "fnCountColumn", fn := fun _ => fun
  | [d1, d2] => { results := [.lit (.bool false)], args := [d1, d2] }
  | _ => none }
def FnCountColumnWrongFalsely : Prop := fnCountColumnRow.holds Try.pinned (OpenSpec.ofChange fnCountColumnWrong)

/-- 'laws.FnCellAll': WHATEVER THE INPUT: true; the input reads as it did. -/
def fnCellAllSpec : ChangeSpec := { name := "fnCellAll", fn := fun _ => fun
  | [d] => { results := [.lit (.bool true)], args := [d] }
  | _ => none }
def fnCellAllRow : OpenClaim := { program := "ytmfncheimmcobaa", sum := "12cd547a38473e7ebb8acaf255911bf8b1357ceaacd93e269a56213c0d497a59", func := "loop.example/discretetomography/laws.FnCellAll", spec := "fnCellAll", unfollowed := true, recurses := true, plainKeys := false, apart := false }
def FnCellAllSaid : Prop := fnCellAllRow.holds Try.pinned (OpenSpec.ofChange fnCellAllSpec)

/-- ITS FALSE NEIGHBOUR: 'it returns false'. Refute it at one input. -/
def fnCellAllWrong : ChangeSpec := { name := "fnCellAll", fn := fun _ => fun
  | [d] => { results := [.lit (.bool false)], args := [d] }
  | _ => none }
def FnCellAllWrongFalsely : Prop := fnCellAllRow.holds Try.pinned (OpenSpec.ofChange fnCellAllWrong)

/-- 'laws.FnCountLess': WHATEVER THE INPUT: true; the input reads as it did. -/
def fnCountLessSpec : ChangeSpec := { name := "fnCountLess", fn := fun _ => fun
  | [d] => { results := [.lit (.bool true)], args := [d] }
  | _ => none }
def fnCountLessRow : OpenClaim := { program := "ytmfncheimmcobaa", sum := "12cd547a38473e7ebb8acaf255911bf8b1357ceaacd93e269a56213c0d497a59", func := "loop.example/discretetomography/laws.FnCountLess", spec := "fnCountLess", recurses := true, plainKeys := false, apart := false }
def FnCountLessSaid : Prop := fnCountLessRow.holds Try.pinned (OpenSpec.ofChange fnCountLessSpec)

/-- ITS FALSE NEIGHBOUR: 'it returns false'. Refute it at one input. -/
def fnCountLessWrong : ChangeSpec := { name := "fnCountLess", fn := fun _ => fun
  | [d] => { results := [.lit (.bool false)], args := [d] }
  | _ => none }
def FnCountLessWrongFalsely : Prop := fnCountLessRow.holds Try.pinned (OpenSpec.ofChange fnCountLessWrong)

/-- 'laws.FnExactSumsCount': WHATEVER THE INPUT: true; the input reads as it did. -/
def fnExactSumsCountSpec : ChangeSpec := { name := "fnExactSumsCount", fn := fun _ => fun
  | [d1, d2] => { results := [.lit (.bool true)], args := [d1, d2] }
  | _ => none }
def fnExactSumsCountRow : OpenClaim := { program := "ytmfncheimmcobaa", sum := "12cd547a38473e7ebb8acaf255911bf8b1357ceaacd93e269a56213c0d497a59", func := "loop.example/discretetomography/laws.FnExactSumsCount", spec := "fnExactSumsCount", recurses := true, plainKeys := false, apart := false }
def FnExactSumsCountSaid : Prop := fnExactSumsCountRow.holds Try.pinned (OpenSpec.ofChange fnExactSumsCountSpec)

/-- ITS FALSE NEIGHBOUR: 'it returns false'. Refute it at one input. -/
def fnExactSumsCountWrong : ChangeSpec := { name := "fnExactSumsCount", fn := fun _ => fun
  | [d1, d2] => { results := [.lit (.bool false)], args := [d1, d2] }
  | _ => none }
def FnExactSumsCountWrongFalsely : Prop := fnExactSumsCountRow.holds Try.pinned (OpenSpec.ofChange fnExactSumsCountWrong)

/-- 'laws.FnExactCellCount': WHATEVER THE INPUT: true; the input reads as it did. -/
def fnExactCellCountSpec : ChangeSpec := { name := "fnExactCellCount", fn := fun _ => fun
  | [d1, d2, d3, d4] => { results := [.lit (.bool true)], args := [d1, d2, d3, d4] }
  | _ => none }
def fnExactCellCountRow : OpenClaim := { program := "ytmfncheimmcobaa", sum := "12cd547a38473e7ebb8acaf255911bf8b1357ceaacd93e269a56213c0d497a59", func := "loop.example/discretetomography/laws.FnExactCellCount", spec := "fnExactCellCount", unfollowed := true, recurses := true, plainKeys := false, apart := false }
def FnExactCellCountSaid : Prop := fnExactCellCountRow.holds Try.pinned (OpenSpec.ofChange fnExactCellCountSpec)

/-- ITS FALSE NEIGHBOUR: 'it returns false'. Refute it at one input. -/
def fnExactCellCountWrong : ChangeSpec := { name := "fnExactCellCount", fn := fun _ => fun
  | [d1, d2, d3, d4] => { results := [.lit (.bool false)], args := [d1, d2, d3, d4] }
  | _ => none }
def FnExactCellCountWrongFalsely : Prop := fnExactCellCountRow.holds Try.pinned (OpenSpec.ofChange fnExactCellCountWrong)

/-- 'laws.FnExactCountAll': WHATEVER THE INPUT: true; the input reads as it did. -/
def fnExactCountAllSpec : ChangeSpec := { name := "fnExactCountAll", fn := fun _ => fun
  | [d1, d2] => { results := [.lit (.bool true)], args := [d1, d2] }
  | _ => none }
def fnExactCountAllRow : OpenClaim := { program := "ytmfncheimmcobaa", sum := "12cd547a38473e7ebb8acaf255911bf8b1357ceaacd93e269a56213c0d497a59", func := "loop.example/discretetomography/laws.FnExactCountAll", spec := "fnExactCountAll", plainKeys := false, apart := false }
def FnExactCountAllSaid : Prop := fnExactCountAllRow.holds Try.pinned (OpenSpec.ofChange fnExactCountAllSpec)

/-- ITS FALSE NEIGHBOUR: 'it returns false'. Refute it at one input. -/
def fnExactCountAllWrong : ChangeSpec := { name := "fnExactCountAll", fn := fun _ => fun
  | [d1, d2] => { results := [.lit (.bool false)], args := [d1, d2] }
  | _ => none }
def FnExactCountAllWrongFalsely : Prop := fnExactCountAllRow.holds Try.pinned (OpenSpec.ofChange fnExactCountAllWrong)

/- THE SECOND FORM. 'bulk': how many values and letters a reading holds, each counted each time it is reached (what is shared counts as often as it is met; a slice's spare places count too). A statement '..UptoSaid' is the law's where the arguments, and the package variables that the reading takes, are together of bulk at most 1048576: NARROWER than '..Said'. Prove '..Said' where nothing that the law and all that it calls make is longer than what came in: it says more and counts as full. Else prove '..UptoSaid'. A law counts once. -/
mutual
def uptoBulk {H : Type} : DataW H → Nat
  | .lit (.string bytes) => bytes.length + 1
  | .lit _ => 1
  | .nil => 1
  | .ptr d => uptoBulk d + 1
  | .slice elems spare => uptoBulkAll elems + uptoBulkAll spare + 1
  | .agg parts => uptoBulkAll parts + 1
  | .iface _ d => uptoBulk d + 1
  | .map entries => uptoBulkEntries entries + 1
  | .held _ => 1
def uptoBulkAll {H : Type} : List (DataW H) → Nat
  | [] => 0
  | d :: r => uptoBulk d + uptoBulkAll r
def uptoBulkEntries {H : Type} : List (Lit × DataW H) → Nat
  | [] => 0
  | x :: r => uptoBulkEntry x + uptoBulkEntries r
def uptoBulkEntry {H : Type} : Lit × DataW H → Nat
  | (.string bytes, d) => bytes.length + uptoBulk d + 1
  | (_, d) => uptoBulk d + 1
 end
def uptoSmall : (H : Type) → List (DataW H) → Bool := fun _ ds => decide (uptoBulkAll ds ≤ 1048576)
def OpenSpec.upto (s : _root_.Go.ChangeSpec) : _root_.Go.OpenSpec := { _root_.Go.OpenSpec.ofChange s with cond := some uptoSmall }

/-- 'laws.FnCountTurn', WHERE WHAT IT READS IS OF BULK AT MOST 1048576: true; the input reads as it did. -/
def fnCountTurnUptoRow : OpenClaim := { program := "ytmfncheimmcobaa", sum := "12cd547a38473e7ebb8acaf255911bf8b1357ceaacd93e269a56213c0d497a59", func := "loop.example/discretetomography/laws.FnCountTurn", spec := "fnCountTurn", recurses := true, plainKeys := false, apart := false, narrowed := true }
def FnCountTurnUptoSaid : Prop := fnCountTurnUptoRow.holds Try.pinned (OpenSpec.upto fnCountTurnSpec)

/-- 'laws.FnCountOrder', WHERE WHAT IT READS IS OF BULK AT MOST 1048576: true; the input reads as it did. -/
def fnCountOrderUptoRow : OpenClaim := { program := "ytmfncheimmcobaa", sum := "12cd547a38473e7ebb8acaf255911bf8b1357ceaacd93e269a56213c0d497a59", func := "loop.example/discretetomography/laws.FnCountOrder", spec := "fnCountOrder", recurses := true, plainKeys := false, apart := false, narrowed := true }
def FnCountOrderUptoSaid : Prop := fnCountOrderUptoRow.holds Try.pinned (OpenSpec.upto fnCountOrderSpec)

/-- 'laws.FnCountSmall', WHERE WHAT IT READS IS OF BULK AT MOST 1048576: true; the input reads as it did. -/
def fnCountSmallUptoRow : OpenClaim := { program := "ytmfncheimmcobaa", sum := "12cd547a38473e7ebb8acaf255911bf8b1357ceaacd93e269a56213c0d497a59", func := "loop.example/discretetomography/laws.FnCountSmall", spec := "fnCountSmall", unfollowed := true, recurses := true, plainKeys := false, apart := false, narrowed := true }
def FnCountSmallUptoSaid : Prop := fnCountSmallUptoRow.holds Try.pinned (OpenSpec.upto fnCountSmallSpec)

/-- 'laws.FnCountRow', WHERE WHAT IT READS IS OF BULK AT MOST 1048576: true; the input reads as it did. -/
def fnCountRowUptoRow : OpenClaim := { program := "ytmfncheimmcobaa", sum := "12cd547a38473e7ebb8acaf255911bf8b1357ceaacd93e269a56213c0d497a59", func := "loop.example/discretetomography/laws.FnCountRow", spec := "fnCountRow", recurses := true, plainKeys := false, apart := false, narrowed := true }
def FnCountRowUptoSaid : Prop := fnCountRowUptoRow.holds Try.pinned (OpenSpec.upto fnCountRowSpec)

/-- 'laws.FnCellSum', WHERE WHAT IT READS IS OF BULK AT MOST 1048576: true; the input reads as it did. -/
def fnCellSumUptoRow : OpenClaim := { program := "ytmfncheimmcobaa", sum := "12cd547a38473e7ebb8acaf255911bf8b1357ceaacd93e269a56213c0d497a59", func := "loop.example/discretetomography/laws.FnCellSum", spec := "fnCellSum", unfollowed := true, recurses := true, plainKeys := false, apart := false, narrowed := true }
def FnCellSumUptoSaid : Prop := fnCellSumUptoRow.holds Try.pinned (OpenSpec.upto fnCellSumSpec)

/-- 'laws.FnCellTurn', WHERE WHAT IT READS IS OF BULK AT MOST 1048576: true; the input reads as it did. -/
def fnCellTurnUptoRow : OpenClaim := { program := "ytmfncheimmcobaa", sum := "12cd547a38473e7ebb8acaf255911bf8b1357ceaacd93e269a56213c0d497a59", func := "loop.example/discretetomography/laws.FnCellTurn", spec := "fnCellTurn", unfollowed := true, recurses := true, plainKeys := false, apart := false, narrowed := true }
def FnCellTurnUptoSaid : Prop := fnCellTurnUptoRow.holds Try.pinned (OpenSpec.upto fnCellTurnSpec)

/-- 'laws.FnCountAll', WHERE WHAT IT READS IS OF BULK AT MOST 1048576: true; the input reads as it did. -/
def fnCountAllUptoRow : OpenClaim := { program := "ytmfncheimmcobaa", sum := "12cd547a38473e7ebb8acaf255911bf8b1357ceaacd93e269a56213c0d497a59", func := "loop.example/discretetomography/laws.FnCountAll", spec := "fnCountAll", plainKeys := false, apart := false, narrowed := true }
def FnCountAllUptoSaid : Prop := fnCountAllUptoRow.holds Try.pinned (OpenSpec.upto fnCountAllSpec)

/-- 'laws.FnCountAllSum', WHERE WHAT IT READS IS OF BULK AT MOST 1048576: true; the input reads as it did. -/
def fnCountAllSumUptoRow : OpenClaim := { program := "ytmfncheimmcobaa", sum := "12cd547a38473e7ebb8acaf255911bf8b1357ceaacd93e269a56213c0d497a59", func := "loop.example/discretetomography/laws.FnCountAllSum", spec := "fnCountAllSum", plainKeys := false, apart := false, narrowed := true }
def FnCountAllSumUptoSaid : Prop := fnCountAllSumUptoRow.holds Try.pinned (OpenSpec.upto fnCountAllSumSpec)

/-- 'laws.FnCountOnes', WHERE WHAT IT READS IS OF BULK AT MOST 1048576: true; the input reads as it did. -/
def fnCountOnesUptoRow : OpenClaim := { program := "ytmfncheimmcobaa", sum := "12cd547a38473e7ebb8acaf255911bf8b1357ceaacd93e269a56213c0d497a59", func := "loop.example/discretetomography/laws.FnCountOnes", spec := "fnCountOnes", recurses := true, plainKeys := false, apart := false, narrowed := true }
def FnCountOnesUptoSaid : Prop := fnCountOnesUptoRow.holds Try.pinned (OpenSpec.upto fnCountOnesSpec)

/-- 'laws.FnCountColumn', WHERE WHAT IT READS IS OF BULK AT MOST 1048576: true; the input reads as it did. -/
def fnCountColumnUptoRow : OpenClaim := { program := "ytmfncheimmcobaa", sum := "12cd547a38473e7ebb8acaf255911bf8b1357ceaacd93e269a56213c0d497a59", func := "loop.example/discretetomography/laws.FnCountColumn", spec := "fnCountColumn", recurses := true, plainKeys := false, apart := false, narrowed := true }
def FnCountColumnUptoSaid : Prop := fnCountColumnUptoRow.holds Try.pinned (OpenSpec.upto fnCountColumnSpec)

/-- 'laws.FnCellAll', WHERE WHAT IT READS IS OF BULK AT MOST 1048576: true; the input reads as it did. -/
def fnCellAllUptoRow : OpenClaim := { program := "ytmfncheimmcobaa", sum := "12cd547a38473e7ebb8acaf255911bf8b1357ceaacd93e269a56213c0d497a59", func := "loop.example/discretetomography/laws.FnCellAll", spec := "fnCellAll", unfollowed := true, recurses := true, plainKeys := false, apart := false, narrowed := true }
def FnCellAllUptoSaid : Prop := fnCellAllUptoRow.holds Try.pinned (OpenSpec.upto fnCellAllSpec)

/-- 'laws.FnCountLess', WHERE WHAT IT READS IS OF BULK AT MOST 1048576: true; the input reads as it did. -/
def fnCountLessUptoRow : OpenClaim := { program := "ytmfncheimmcobaa", sum := "12cd547a38473e7ebb8acaf255911bf8b1357ceaacd93e269a56213c0d497a59", func := "loop.example/discretetomography/laws.FnCountLess", spec := "fnCountLess", recurses := true, plainKeys := false, apart := false, narrowed := true }
def FnCountLessUptoSaid : Prop := fnCountLessUptoRow.holds Try.pinned (OpenSpec.upto fnCountLessSpec)

/-- 'laws.FnExactSumsCount', WHERE WHAT IT READS IS OF BULK AT MOST 1048576: true; the input reads as it did. -/
def fnExactSumsCountUptoRow : OpenClaim := { program := "ytmfncheimmcobaa", sum := "12cd547a38473e7ebb8acaf255911bf8b1357ceaacd93e269a56213c0d497a59", func := "loop.example/discretetomography/laws.FnExactSumsCount", spec := "fnExactSumsCount", recurses := true, plainKeys := false, apart := false, narrowed := true }
def FnExactSumsCountUptoSaid : Prop := fnExactSumsCountUptoRow.holds Try.pinned (OpenSpec.upto fnExactSumsCountSpec)

/-- 'laws.FnExactCellCount', WHERE WHAT IT READS IS OF BULK AT MOST 1048576: true; the input reads as it did. -/
def fnExactCellCountUptoRow : OpenClaim := { program := "ytmfncheimmcobaa", sum := "12cd547a38473e7ebb8acaf255911bf8b1357ceaacd93e269a56213c0d497a59", func := "loop.example/discretetomography/laws.FnExactCellCount", spec := "fnExactCellCount", unfollowed := true, recurses := true, plainKeys := false, apart := false, narrowed := true }
def FnExactCellCountUptoSaid : Prop := fnExactCellCountUptoRow.holds Try.pinned (OpenSpec.upto fnExactCellCountSpec)

/-- 'laws.FnExactCountAll', WHERE WHAT IT READS IS OF BULK AT MOST 1048576: true; the input reads as it did. -/
def fnExactCountAllUptoRow : OpenClaim := { program := "ytmfncheimmcobaa", sum := "12cd547a38473e7ebb8acaf255911bf8b1357ceaacd93e269a56213c0d497a59", func := "loop.example/discretetomography/laws.FnExactCountAll", spec := "fnExactCountAll", plainKeys := false, apart := false, narrowed := true }
def FnExactCountAllUptoSaid : Prop := fnExactCountAllUptoRow.holds Try.pinned (OpenSpec.upto fnExactCountAllSpec)

end Rows
end Go.Proofs.Ytmfncheimmcobaa
