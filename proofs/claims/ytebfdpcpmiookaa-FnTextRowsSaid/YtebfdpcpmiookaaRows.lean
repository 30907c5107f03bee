/-
  No cell of these rows narrows 'for every input' (looked for: loops, veiled, ifaces, maps, wideKeys, modest, calm, conditions, laid).
  DERIVED. THE GIVEN ROWS OF THIS SEAT. 10 by the template 'for every input the law returns true; each argument reads behind the call as it read before'; 0 by the template 'total and deterministic' (their statements: YtebfdpcpmiookaaTotals.lean).
  GIVEN WITH THE SEED: the statements are not yours to turn. If you find one false, say at which input.
  Laid BY PROGRAM, IN A SANDBOX (cutbox-rows.mjs): the forced cells as the released guide's own fill.sh prints them over the translation 0929eddd34d9b120… (all of the seat's roots in one cut). By AI agents, Wed Nov 11 2026. No macro, syntax, notation, axiom, sorry.
-/
import Derived.Test.YtebfdpcpmiookaaChecked
import GoSem.Claim
import GoSem.ClaimJoined
import GoSem.ClaimMapViews
import Derived.JoinedTies
import Derived.KernelRfl
namespace Go.Proofs.Ytebfdpcpmiookaa
/- THE CELL 'sum', in the pinned program and in every row, IS THE sha256 OF THE DUMP (.gsa) THAT YtebfdpcpmiookaaProg.lean LOADS. Nothing in Lean hashes anything: it is a label: what it is worth is what the hold of that sum in a sandbox is worth. -/
noncomputable def Try.pinned : Pinned := { name := "ytebfdpcpmiookaa", sum := "0929eddd34d9b12023689b3b17673279b59898812f2cba262ebdf4cfdc6f4749", checked := Try.checked }
namespace Rows
def none {H : Type} : Left H := { results := [], args := [] }

/-- 'laws.FnMany': WHATEVER THE INPUT: true; the input reads as it did. -/
def fnManySpec : ChangeSpec := { name := "fnMany", fn := fun _ => fun
  | [d] => { results := [.lit (.bool true)], args := [d] }
  | _ => none }
def fnManyRow : OpenClaim := { program := "ytebfdpcpmiookaa", sum := "0929eddd34d9b12023689b3b17673279b59898812f2cba262ebdf4cfdc6f4749", func := "loop.example/discretetomography/laws.FnMany", spec := "fnMany", apart := false }
def FnManySaid : Prop := fnManyRow.holds Try.pinned (OpenSpec.ofChange fnManySpec)

/-- ITS FALSE NEIGHBOUR: 'it returns false'. Refute it at one input. -/
def fnManyWrong : ChangeSpec := { name := "fnMany", fn := fun _ => fun
  | [d] => { results := [.lit (.bool false)], args := [d] }
  | _ => none }
def FnManyWrongFalsely : Prop := fnManyRow.holds Try.pinned (OpenSpec.ofChange fnManyWrong)

/-- 'laws.FnTurn': WHATEVER THE INPUT: true; the input reads as it did. -/
def fnTurnSpec : ChangeSpec := { name := "fnTurn", fn := fun _ => fun
  | [d] => { results := [.lit (.bool true)], args := [d] }
  | _ => none }
def fnTurnRow : OpenClaim := { program := "ytebfdpcpmiookaa", sum := "0929eddd34d9b12023689b3b17673279b59898812f2cba262ebdf4cfdc6f4749", func := "loop.example/discretetomography/laws.FnTurn", spec := "fnTurn", apart := false }
def FnTurnSaid : Prop := fnTurnRow.holds Try.pinned (OpenSpec.ofChange fnTurnSpec)

/-- ITS FALSE NEIGHBOUR: 'it returns false'. Refute it at one input. -/
def fnTurnWrong : ChangeSpec := { name := "fnTurn", fn := fun _ => fun
  | [d] => { results := [.lit (.bool false)], args := [d] }
  | _ => none }
def FnTurnWrongFalsely : Prop := fnTurnRow.holds Try.pinned (OpenSpec.ofChange fnTurnWrong)

/-- 'laws.FnMirror': WHATEVER THE INPUT: true; the input reads as it did. -/
def fnMirrorSpec : ChangeSpec := { name := "fnMirror", fn := fun _ => fun
  | [d] => { results := [.lit (.bool true)], args := [d] }
  | _ => none }
def fnMirrorRow : OpenClaim := { program := "ytebfdpcpmiookaa", sum := "0929eddd34d9b12023689b3b17673279b59898812f2cba262ebdf4cfdc6f4749", func := "loop.example/discretetomography/laws.FnMirror", spec := "fnMirror", apart := false }
def FnMirrorSaid : Prop := fnMirrorRow.holds Try.pinned (OpenSpec.ofChange fnMirrorSpec)

/-- ITS FALSE NEIGHBOUR: 'it returns false'. Refute it at one input. -/
def fnMirrorWrong : ChangeSpec := { name := "fnMirror", fn := fun _ => fun
  | [d] => { results := [.lit (.bool false)], args := [d] }
  | _ => none }
def FnMirrorWrongFalsely : Prop := fnMirrorRow.holds Try.pinned (OpenSpec.ofChange fnMirrorWrong)

/-- 'laws.FnTurnMirror': WHATEVER THE INPUT: true; the input reads as it did. -/
def fnTurnMirrorSpec : ChangeSpec := { name := "fnTurnMirror", fn := fun _ => fun
  | [d] => { results := [.lit (.bool true)], args := [d] }
  | _ => none }
def fnTurnMirrorRow : OpenClaim := { program := "ytebfdpcpmiookaa", sum := "0929eddd34d9b12023689b3b17673279b59898812f2cba262ebdf4cfdc6f4749", func := "loop.example/discretetomography/laws.FnTurnMirror", spec := "fnTurnMirror", apart := false }
def FnTurnMirrorSaid : Prop := fnTurnMirrorRow.holds Try.pinned (OpenSpec.ofChange fnTurnMirrorSpec)

/-- ITS FALSE NEIGHBOUR: 'it returns false'. Refute it at one input. -/
def fnTurnMirrorWrong : ChangeSpec := { name := "fnTurnMirror", fn := fun _ => fun
  | [d] => { results := [.lit (.bool false)], args := [d] }
  | _ => none }
def FnTurnMirrorWrongFalsely : Prop := fnTurnMirrorRow.holds Try.pinned (OpenSpec.ofChange fnTurnMirrorWrong)

/-- 'laws.FnText': WHATEVER THE INPUT: true; the input reads as it did. -/
def fnTextSpec : ChangeSpec := { name := "fnText", fn := fun _ => fun
  | [d] => { results := [.lit (.bool true)], args := [d] }
  | _ => none }
def fnTextRow : OpenClaim := { program := "ytebfdpcpmiookaa", sum := "0929eddd34d9b12023689b3b17673279b59898812f2cba262ebdf4cfdc6f4749", func := "loop.example/discretetomography/laws.FnText", spec := "fnText", inPlace := ["internal/abi.NoEscape", "internal/bytealg.IndexByteString"], apart := false }
def FnTextSaid : Prop := fnTextRow.holds Try.pinned (OpenSpec.ofChange fnTextSpec)

/-- ITS FALSE NEIGHBOUR: 'it returns false'. Refute it at one input. -/
def fnTextWrong : ChangeSpec := { name := "fnText", fn := fun _ => fun
  | [d] => { results := [.lit (.bool false)], args := [d] }
  | _ => none }
def FnTextWrongFalsely : Prop := fnTextRow.holds Try.pinned (OpenSpec.ofChange fnTextWrong)

/-- 'laws.FnTextMarks': WHATEVER THE INPUT: true; the input reads as it did. -/
def fnTextMarksSpec : ChangeSpec := { name := "fnTextMarks", fn := fun _ => fun
  | [d] => { results := [.lit (.bool true)], args := [d] }
  | _ => none }
def fnTextMarksRow : OpenClaim := { program := "ytebfdpcpmiookaa", sum := "0929eddd34d9b12023689b3b17673279b59898812f2cba262ebdf4cfdc6f4749", func := "loop.example/discretetomography/laws.FnTextMarks", spec := "fnTextMarks", inPlace := ["internal/abi.NoEscape"], apart := false }
def FnTextMarksSaid : Prop := fnTextMarksRow.holds Try.pinned (OpenSpec.ofChange fnTextMarksSpec)

/-- ITS FALSE NEIGHBOUR: 'it returns false'. Refute it at one input. -/
def fnTextMarksWrong : ChangeSpec := { name := "fnTextMarks", fn := fun _ => fun
  | [d] => { results := [.lit (.bool false)], args := [d] }
  | _ => none }
def FnTextMarksWrongFalsely : Prop := fnTextMarksRow.holds Try.pinned (OpenSpec.ofChange fnTextMarksWrong)

/-- 'laws.FnTurnSize': WHATEVER THE INPUT: true; the input reads as it did. -/
def fnTurnSizeSpec : ChangeSpec := { name := "fnTurnSize", fn := fun _ => fun
  | [d] => { results := [.lit (.bool true)], args := [d] }
  | _ => none }
def fnTurnSizeRow : OpenClaim := { program := "ytebfdpcpmiookaa", sum := "0929eddd34d9b12023689b3b17673279b59898812f2cba262ebdf4cfdc6f4749", func := "loop.example/discretetomography/laws.FnTurnSize", spec := "fnTurnSize", apart := false }
def FnTurnSizeSaid : Prop := fnTurnSizeRow.holds Try.pinned (OpenSpec.ofChange fnTurnSizeSpec)

/-- ITS FALSE NEIGHBOUR: 'it returns false'. Refute it at one input. -/
def fnTurnSizeWrong : ChangeSpec := { name := "fnTurnSize", fn := fun _ => fun
  | [d] => { results := [.lit (.bool false)], args := [d] }
  | _ => none }
def FnTurnSizeWrongFalsely : Prop := fnTurnSizeRow.holds Try.pinned (OpenSpec.ofChange fnTurnSizeWrong)

/-- 'laws.FnTextRows': WHATEVER THE INPUT: true; the input reads as it did. -/
def fnTextRowsSpec : ChangeSpec := { name := "fnTextRows", fn := fun _ => fun
  | [d1, d2] => { results := [.lit (.bool true)], args := [d1, d2] }
  | _ => none }
def fnTextRowsRow : OpenClaim := { program := "ytebfdpcpmiookaa", sum := "0929eddd34d9b12023689b3b17673279b59898812f2cba262ebdf4cfdc6f4749", func := "loop.example/discretetomography/laws.FnTextRows", spec := "fnTextRows", inPlace := ["internal/abi.NoEscape"], apart := false }
def FnTextRowsSaid : Prop := fnTextRowsRow.holds Try.pinned (OpenSpec.ofChange fnTextRowsSpec)

/-- ITS FALSE NEIGHBOUR: 'it returns false'. Refute it at one input. -/
def fnTextRowsWrong : ChangeSpec := { name := "fnTextRows", fn := fun _ => fun
  | [d1, d2] => { results := [.lit (.bool false)], args := [d1, d2] }
  | _ => none }
def FnTextRowsWrongFalsely : Prop := fnTextRowsRow.holds Try.pinned (OpenSpec.ofChange fnTextRowsWrong)

/-- 'laws.FnExactImageText': WHATEVER THE INPUT: true; the input reads as it did. -/
def fnExactImageTextSpec : ChangeSpec := { name := "fnExactImageText", fn := fun _ => fun
  | [d] => { results := [.lit (.bool true)], args := [d] }
  | _ => none }
def fnExactImageTextRow : OpenClaim := { program := "ytebfdpcpmiookaa", sum := "0929eddd34d9b12023689b3b17673279b59898812f2cba262ebdf4cfdc6f4749", func := "loop.example/discretetomography/laws.FnExactImageText", spec := "fnExactImageText", inPlace := ["internal/abi.NoEscape"], apart := false }
def FnExactImageTextSaid : Prop := fnExactImageTextRow.holds Try.pinned (OpenSpec.ofChange fnExactImageTextSpec)

/-- ITS FALSE NEIGHBOUR: 'it returns false'. Refute it at one input. -/
def fnExactImageTextWrong : ChangeSpec := { name := "fnExactImageText", fn := fun _ => fun
  | [d] => { results := [.lit (.bool false)], args := [d] }
  | _ => none }
def FnExactImageTextWrongFalsely : Prop := fnExactImageTextRow.holds Try.pinned (OpenSpec.ofChange fnExactImageTextWrong)

/-- 'laws.FnExactImageFrom': WHATEVER THE INPUT: true; the input reads as it did. -/
def fnExactImageFromSpec : ChangeSpec := { name := "fnExactImageFrom", fn := fun _ => fun
  | [d] => { results := [.lit (.bool true)], args := [d] }
  | _ => none }
def fnExactImageFromRow : OpenClaim := { program := "ytebfdpcpmiookaa", sum := "0929eddd34d9b12023689b3b17673279b59898812f2cba262ebdf4cfdc6f4749", func := "loop.example/discretetomography/laws.FnExactImageFrom", spec := "fnExactImageFrom", inPlace := ["internal/bytealg.IndexByteString"], apart := false }
def FnExactImageFromSaid : Prop := fnExactImageFromRow.holds Try.pinned (OpenSpec.ofChange fnExactImageFromSpec)

/-- ITS FALSE NEIGHBOUR: 'it returns false'. Refute it at one input. -/
def fnExactImageFromWrong : ChangeSpec := { name := "fnExactImageFrom", fn := fun _ => fun
  | [d] => { results := [.lit (.bool false)], args := [d] }
  | _ => none }
def FnExactImageFromWrongFalsely : Prop := fnExactImageFromRow.holds Try.pinned (OpenSpec.ofChange fnExactImageFromWrong)

/- THE SECOND FORM. 'bulk': how many values and letters a reading holds, each counted each time it is reached (what is shared counts as often as it is met; a slice's spare places count too). A statement '..UptoSaid' is the law's where the arguments, and the package variables that the reading takes, are together of bulk at most 1048576: NARROWER than '..Said'. Prove '..Said' where nothing that the law and all that it calls make is longer than what came in: it says more and counts as full. Else prove '..UptoSaid'. A law counts once. -/
mutual
def uptoBulk {H : Type} : DataW H → Nat
  | .lit (.string bytes) => bytes.length + 1
  | .lit _ => 1
  | .nil => 1
  | .ptr d => uptoBulk d + 1
  | .slice elems spare => uptoBulkAll elems + uptoBulkAll spare + 1
  | .agg parts => uptoBulkAll parts + 1
  | .iface _ d => uptoBulk d + 1
  | .map entries => uptoBulkEntries entries + 1
  | .held _ => 1
def uptoBulkAll {H : Type} : List (DataW H) → Nat
  | [] => 0
  | d :: r => uptoBulk d + uptoBulkAll r
def uptoBulkEntries {H : Type} : List (Lit × DataW H) → Nat
  | [] => 0
  | x :: r => uptoBulkEntry x + uptoBulkEntries r
def uptoBulkEntry {H : Type} : Lit × DataW H → Nat
  | (.string bytes, d) => bytes.length + uptoBulk d + 1
  | (_, d) => uptoBulk d + 1
 end
def uptoSmall : (H : Type) → List (DataW H) → Bool := fun _ ds => decide (uptoBulkAll ds ≤ 1048576)
def OpenSpec.upto (s : _root_.Go.ChangeSpec) : _root_.Go.OpenSpec := { _root_.Go.OpenSpec.ofChange s with cond := some uptoSmall }

/-- 'laws.FnMany', WHERE WHAT IT READS IS OF BULK AT MOST 1048576: true; the input reads as it did. -/
def fnManyUptoRow : OpenClaim := { program := "ytebfdpcpmiookaa", sum := "0929eddd34d9b12023689b3b17673279b59898812f2cba262ebdf4cfdc6f4749", func := "loop.example/discretetomography/laws.FnMany", spec := "fnMany", apart := false, narrowed := true }
def FnManyUptoSaid : Prop := fnManyUptoRow.holds Try.pinned (OpenSpec.upto fnManySpec)

/-- 'laws.FnTurn', WHERE WHAT IT READS IS OF BULK AT MOST 1048576: true; the input reads as it did. -/
def fnTurnUptoRow : OpenClaim := { program := "ytebfdpcpmiookaa", sum := "0929eddd34d9b12023689b3b17673279b59898812f2cba262ebdf4cfdc6f4749", func := "loop.example/discretetomography/laws.FnTurn", spec := "fnTurn", apart := false, narrowed := true }
def FnTurnUptoSaid : Prop := fnTurnUptoRow.holds Try.pinned (OpenSpec.upto fnTurnSpec)

/-- 'laws.FnMirror', WHERE WHAT IT READS IS OF BULK AT MOST 1048576: true; the input reads as it did. -/
def fnMirrorUptoRow : OpenClaim := { program := "ytebfdpcpmiookaa", sum := "0929eddd34d9b12023689b3b17673279b59898812f2cba262ebdf4cfdc6f4749", func := "loop.example/discretetomography/laws.FnMirror", spec := "fnMirror", apart := false, narrowed := true }
def FnMirrorUptoSaid : Prop := fnMirrorUptoRow.holds Try.pinned (OpenSpec.upto fnMirrorSpec)

/-- 'laws.FnTurnMirror', WHERE WHAT IT READS IS OF BULK AT MOST 1048576: true; the input reads as it did. -/
def fnTurnMirrorUptoRow : OpenClaim := { program := "ytebfdpcpmiookaa", sum := "0929eddd34d9b12023689b3b17673279b59898812f2cba262ebdf4cfdc6f4749", func := "loop.example/discretetomography/laws.FnTurnMirror", spec := "fnTurnMirror", apart := false, narrowed := true }
def FnTurnMirrorUptoSaid : Prop := fnTurnMirrorUptoRow.holds Try.pinned (OpenSpec.upto fnTurnMirrorSpec)

/-- 'laws.FnText', WHERE WHAT IT READS IS OF BULK AT MOST 1048576: true; the input reads as it did. -/
def fnTextUptoRow : OpenClaim := { program := "ytebfdpcpmiookaa", sum := "0929eddd34d9b12023689b3b17673279b59898812f2cba262ebdf4cfdc6f4749", func := "loop.example/discretetomography/laws.FnText", spec := "fnText", inPlace := ["internal/abi.NoEscape", "internal/bytealg.IndexByteString"], apart := false, narrowed := true }
def FnTextUptoSaid : Prop := fnTextUptoRow.holds Try.pinned (OpenSpec.upto fnTextSpec)

/-- 'laws.FnTextMarks', WHERE WHAT IT READS IS OF BULK AT MOST 1048576: true; the input reads as it did. -/
def fnTextMarksUptoRow : OpenClaim := { program := "ytebfdpcpmiookaa", sum := "0929eddd34d9b12023689b3b17673279b59898812f2cba262ebdf4cfdc6f4749", func := "loop.example/discretetomography/laws.FnTextMarks", spec := "fnTextMarks", inPlace := ["internal/abi.NoEscape"], apart := false, narrowed := true }
def FnTextMarksUptoSaid : Prop := fnTextMarksUptoRow.holds Try.pinned (OpenSpec.upto fnTextMarksSpec)

/-- 'laws.FnTurnSize', WHERE WHAT IT READS IS OF BULK AT MOST 1048576: true; the input reads as it did. -/
def fnTurnSizeUptoRow : OpenClaim := { program := "ytebfdpcpmiookaa", sum := "0929eddd34d9b12023689b3b17673279b59898812f2cba262ebdf4cfdc6f4749", func := "loop.example/discretetomography/laws.FnTurnSize", spec := "fnTurnSize", apart := false, narrowed := true }
def FnTurnSizeUptoSaid : Prop := fnTurnSizeUptoRow.holds Try.pinned (OpenSpec.upto fnTurnSizeSpec)

/-- 'laws.FnTextRows', WHERE WHAT IT READS IS OF BULK AT MOST 1048576: true; the input reads as it did. -/
def fnTextRowsUptoRow : OpenClaim := { program := "ytebfdpcpmiookaa", sum := "0929eddd34d9b12023689b3b17673279b59898812f2cba262ebdf4cfdc6f4749", func := "loop.example/discretetomography/laws.FnTextRows", spec := "fnTextRows", inPlace := ["internal/abi.NoEscape"], apart := false, narrowed := true }
def FnTextRowsUptoSaid : Prop := fnTextRowsUptoRow.holds Try.pinned (OpenSpec.upto fnTextRowsSpec)

/-- 'laws.FnExactImageText', WHERE WHAT IT READS IS OF BULK AT MOST 1048576: true; the input reads as it did. -/
def fnExactImageTextUptoRow : OpenClaim := { program := "ytebfdpcpmiookaa", sum := "0929eddd34d9b12023689b3b17673279b59898812f2cba262ebdf4cfdc6f4749", func := "loop.example/discretetomography/laws.FnExactImageText", spec := "fnExactImageText", inPlace := ["internal/abi.NoEscape"], apart := false, narrowed := true }
def FnExactImageTextUptoSaid : Prop := fnExactImageTextUptoRow.holds Try.pinned (OpenSpec.upto fnExactImageTextSpec)

/-- 'laws.FnExactImageFrom', WHERE WHAT IT READS IS OF BULK AT MOST 1048576: true; the input reads as it did. -/
def fnExactImageFromUptoRow : OpenClaim := { program := "ytebfdpcpmiookaa", sum := "0929eddd34d9b12023689b3b17673279b59898812f2cba262ebdf4cfdc6f4749", func := "loop.example/discretetomography/laws.FnExactImageFrom", spec := "fnExactImageFrom", inPlace := ["internal/bytealg.IndexByteString"], apart := false, narrowed := true }
def FnExactImageFromUptoSaid : Prop := fnExactImageFromUptoRow.holds Try.pinned (OpenSpec.upto fnExactImageFromSpec)

end Rows
end Go.Proofs.Ytebfdpcpmiookaa
