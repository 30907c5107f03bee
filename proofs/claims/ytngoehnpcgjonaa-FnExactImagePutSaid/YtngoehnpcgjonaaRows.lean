/-
  No cell of these rows narrows 'for every input' (looked for: loops, veiled, ifaces, maps, wideKeys, modest, calm, conditions, laid).
  DERIVED. THE GIVEN ROWS OF THIS SEAT. 17 by the template 'for every input the law returns true; each argument reads behind the call as it read before'; 0 by the template 'total and deterministic' (their statements: YtngoehnpcgjonaaTotals.lean).
  GIVEN WITH THE SEED: the statements are not yours to turn. If you find one false, say at which input.
  Laid BY PROGRAM, IN A SANDBOX (cutbox-rows.mjs): the forced cells as the released guide's own fill.sh prints them over the translation 44a128b4827c2021… (all of the seat's roots in one cut). By AI agents, Wed Nov 11 2026. No macro, syntax, notation, axiom, sorry.
-/
import Derived.Test.YtngoehnpcgjonaaChecked
import GoSem.Claim
import GoSem.ClaimJoined
import GoSem.ClaimMapViews
import Derived.JoinedTies
import Derived.KernelRfl
namespace Go.Proofs.Ytngoehnpcgjonaa
/- THE CELL 'sum', in the pinned program and in every row, IS THE sha256 OF THE DUMP (.gsa) THAT YtngoehnpcgjonaaProg.lean LOADS. Nothing in Lean hashes anything: it is a label: what it is worth is what the hold of that sum in a sandbox is worth. -/
noncomputable def Try.pinned : Pinned := { name := "ytngoehnpcgjonaa", sum := "44a128b4827c2021121fee64f96901e8460410f11aa7464f241980fc1bededa9", checked := Try.checked }
namespace Rows
def none {H : Type} : Left H := { results := [], args := [] }

/-- 'laws.FnMany': WHATEVER THE INPUT: true; the input reads as it did. -/
def fnManySpec : ChangeSpec := { name := "fnMany", fn := fun _ => fun
  | [d] => { results := [.lit (.bool true)], args := [d] }
  | _ => none }
def fnManyRow : OpenClaim := { program := "ytngoehnpcgjonaa", sum := "44a128b4827c2021121fee64f96901e8460410f11aa7464f241980fc1bededa9", func := "loop.example/discretetomography/laws.FnMany", spec := "fnMany", apart := false }
def FnManySaid : Prop := fnManyRow.holds Try.pinned (OpenSpec.ofChange fnManySpec)

/-- ITS FALSE NEIGHBOUR: 'it returns false'. Refute it at one input. -/
def fnManyWrong : ChangeSpec := { name := "fnMany", fn := fun _ => fun
  | [d] => { results := [.lit (.bool false)], args := [d] }
  | _ => none }
def FnManyWrongFalsely : Prop := fnManyRow.holds Try.pinned (OpenSpec.ofChange fnManyWrong)

/-- 'laws.FnTurn': WHATEVER THE INPUT: true; the input reads as it did. -/
def fnTurnSpec : ChangeSpec := { name := "fnTurn", fn := fun _ => fun
  | [d] => { results := [.lit (.bool true)], args := [d] }
  | _ => none }
def fnTurnRow : OpenClaim := { program := "ytngoehnpcgjonaa", sum := "44a128b4827c2021121fee64f96901e8460410f11aa7464f241980fc1bededa9", func := "loop.example/discretetomography/laws.FnTurn", spec := "fnTurn", apart := false }
def FnTurnSaid : Prop := fnTurnRow.holds Try.pinned (OpenSpec.ofChange fnTurnSpec)

/-- ITS FALSE NEIGHBOUR: 'it returns false'. Refute it at one input. -/
def fnTurnWrong : ChangeSpec := { name := "fnTurn", fn := fun _ => fun
  | [d] => { results := [.lit (.bool false)], args := [d] }
  | _ => none }
def FnTurnWrongFalsely : Prop := fnTurnRow.holds Try.pinned (OpenSpec.ofChange fnTurnWrong)

/-- 'laws.FnMirror': WHATEVER THE INPUT: true; the input reads as it did. -/
def fnMirrorSpec : ChangeSpec := { name := "fnMirror", fn := fun _ => fun
  | [d] => { results := [.lit (.bool true)], args := [d] }
  | _ => none }
def fnMirrorRow : OpenClaim := { program := "ytngoehnpcgjonaa", sum := "44a128b4827c2021121fee64f96901e8460410f11aa7464f241980fc1bededa9", func := "loop.example/discretetomography/laws.FnMirror", spec := "fnMirror", apart := false }
def FnMirrorSaid : Prop := fnMirrorRow.holds Try.pinned (OpenSpec.ofChange fnMirrorSpec)

/-- ITS FALSE NEIGHBOUR: 'it returns false'. Refute it at one input. -/
def fnMirrorWrong : ChangeSpec := { name := "fnMirror", fn := fun _ => fun
  | [d] => { results := [.lit (.bool false)], args := [d] }
  | _ => none }
def FnMirrorWrongFalsely : Prop := fnMirrorRow.holds Try.pinned (OpenSpec.ofChange fnMirrorWrong)

/-- 'laws.FnTurnMirror': WHATEVER THE INPUT: true; the input reads as it did. -/
def fnTurnMirrorSpec : ChangeSpec := { name := "fnTurnMirror", fn := fun _ => fun
  | [d] => { results := [.lit (.bool true)], args := [d] }
  | _ => none }
def fnTurnMirrorRow : OpenClaim := { program := "ytngoehnpcgjonaa", sum := "44a128b4827c2021121fee64f96901e8460410f11aa7464f241980fc1bededa9", func := "loop.example/discretetomography/laws.FnTurnMirror", spec := "fnTurnMirror", apart := false }
def FnTurnMirrorSaid : Prop := fnTurnMirrorRow.holds Try.pinned (OpenSpec.ofChange fnTurnMirrorSpec)

/-- ITS FALSE NEIGHBOUR: 'it returns false'. Refute it at one input. -/
def fnTurnMirrorWrong : ChangeSpec := { name := "fnTurnMirror", fn := fun _ => fun
  | [d] => { results := [.lit (.bool false)], args := [d] }
  | _ => none }
def FnTurnMirrorWrongFalsely : Prop := fnTurnMirrorRow.holds Try.pinned (OpenSpec.ofChange fnTurnMirrorWrong)

/-- 'laws.FnText': WHATEVER THE INPUT: true; the input reads as it did. -/
def fnTextSpec : ChangeSpec := { name := "fnText", fn := fun _ => fun
  | [d] => { results := [.lit (.bool true)], args := [d] }
  | _ => none }
def fnTextRow : OpenClaim := { program := "ytngoehnpcgjonaa", sum := "44a128b4827c2021121fee64f96901e8460410f11aa7464f241980fc1bededa9", func := "loop.example/discretetomography/laws.FnText", spec := "fnText", inPlace := ["internal/abi.NoEscape", "internal/bytealg.IndexByteString"], apart := false }
def FnTextSaid : Prop := fnTextRow.holds Try.pinned (OpenSpec.ofChange fnTextSpec)

/-- ITS FALSE NEIGHBOUR: 'it returns false'. Refute it at one input. -/
def fnTextWrong : ChangeSpec := { name := "fnText", fn := fun _ => fun
  | [d] => { results := [.lit (.bool false)], args := [d] }
  | _ => none }
def FnTextWrongFalsely : Prop := fnTextRow.holds Try.pinned (OpenSpec.ofChange fnTextWrong)

/-- 'laws.FnTextMarks': WHATEVER THE INPUT: true; the input reads as it did. -/
def fnTextMarksSpec : ChangeSpec := { name := "fnTextMarks", fn := fun _ => fun
  | [d] => { results := [.lit (.bool true)], args := [d] }
  | _ => none }
def fnTextMarksRow : OpenClaim := { program := "ytngoehnpcgjonaa", sum := "44a128b4827c2021121fee64f96901e8460410f11aa7464f241980fc1bededa9", func := "loop.example/discretetomography/laws.FnTextMarks", spec := "fnTextMarks", inPlace := ["internal/abi.NoEscape"], apart := false }
def FnTextMarksSaid : Prop := fnTextMarksRow.holds Try.pinned (OpenSpec.ofChange fnTextMarksSpec)

/-- ITS FALSE NEIGHBOUR: 'it returns false'. Refute it at one input. -/
def fnTextMarksWrong : ChangeSpec := { name := "fnTextMarks", fn := fun _ => fun
  | [d] => { results := [.lit (.bool false)], args := [d] }
  | _ => none }
def FnTextMarksWrongFalsely : Prop := fnTextMarksRow.holds Try.pinned (OpenSpec.ofChange fnTextMarksWrong)

/-- 'laws.FnTurnSize': WHATEVER THE INPUT: true; the input reads as it did. -/
def fnTurnSizeSpec : ChangeSpec := { name := "fnTurnSize", fn := fun _ => fun
  | [d] => { results := [.lit (.bool true)], args := [d] }
  | _ => none }
def fnTurnSizeRow : OpenClaim := { program := "ytngoehnpcgjonaa", sum := "44a128b4827c2021121fee64f96901e8460410f11aa7464f241980fc1bededa9", func := "loop.example/discretetomography/laws.FnTurnSize", spec := "fnTurnSize", apart := false }
def FnTurnSizeSaid : Prop := fnTurnSizeRow.holds Try.pinned (OpenSpec.ofChange fnTurnSizeSpec)

/-- ITS FALSE NEIGHBOUR: 'it returns false'. Refute it at one input. -/
def fnTurnSizeWrong : ChangeSpec := { name := "fnTurnSize", fn := fun _ => fun
  | [d] => { results := [.lit (.bool false)], args := [d] }
  | _ => none }
def FnTurnSizeWrongFalsely : Prop := fnTurnSizeRow.holds Try.pinned (OpenSpec.ofChange fnTurnSizeWrong)

/-- 'laws.FnTextRows': WHATEVER THE INPUT: true; the input reads as it did. -/
def fnTextRowsSpec : ChangeSpec := { name := "fnTextRows", fn := fun _ => fun
  | [d1, d2] => { results := [.lit (.bool true)], args := [d1, d2] }
  | _ => none }
def fnTextRowsRow : OpenClaim := { program := "ytngoehnpcgjonaa", sum := "44a128b4827c2021121fee64f96901e8460410f11aa7464f241980fc1bededa9", func := "loop.example/discretetomography/laws.FnTextRows", spec := "fnTextRows", inPlace := ["internal/abi.NoEscape"], apart := false }
def FnTextRowsSaid : Prop := fnTextRowsRow.holds Try.pinned (OpenSpec.ofChange fnTextRowsSpec)

/-- ITS FALSE NEIGHBOUR: 'it returns false'. Refute it at one input. -/
def fnTextRowsWrong : ChangeSpec := { name := "fnTextRows", fn := fun _ => fun
  | [d1, d2] => { results := [.lit (.bool false)], args := [d1, d2] }
  | _ => none }
def FnTextRowsWrongFalsely : Prop := fnTextRowsRow.holds Try.pinned (OpenSpec.ofChange fnTextRowsWrong)

/-- 'laws.FnExactImageValid': WHATEVER THE INPUT: true; the input reads as it did. -/
def fnExactImageValidSpec : ChangeSpec := { name := "fnExactImageValid", fn := fun _ => fun
  | [d] => { results := [.lit (.bool true)], args := [d] }
  | _ => none }
def fnExactImageValidRow : OpenClaim := { program := "ytngoehnpcgjonaa", sum := "44a128b4827c2021121fee64f96901e8460410f11aa7464f241980fc1bededa9", func := "loop.example/discretetomography/laws.FnExactImageValid", spec := "fnExactImageValid", apart := false }
def FnExactImageValidSaid : Prop := fnExactImageValidRow.holds Try.pinned (OpenSpec.ofChange fnExactImageValidSpec)

/-- ITS FALSE NEIGHBOUR: 'it returns false'. Refute it at one input. -/
def fnExactImageValidWrong : ChangeSpec := { name := "fnExactImageValid", fn := fun _ => fun
  | [d] => { results := [.lit (.bool false)], args := [d] }
  | _ => none }
def FnExactImageValidWrongFalsely : Prop := fnExactImageValidRow.holds Try.pinned (OpenSpec.ofChange fnExactImageValidWrong)

/-- 'laws.FnExactImageHas': WHATEVER THE INPUT: true; the input reads as it did. -/
def fnExactImageHasSpec : ChangeSpec := { name := "fnExactImageHas", fn := fun _ => fun
  | [d1, d2, d3] => { results := [.lit (.bool true)], args := [d1, d2, d3] }
  | _ => none }
def fnExactImageHasRow : OpenClaim := { program := "ytngoehnpcgjonaa", sum := "44a128b4827c2021121fee64f96901e8460410f11aa7464f241980fc1bededa9", func := "loop.example/discretetomography/laws.FnExactImageHas", spec := "fnExactImageHas", apart := false }
def FnExactImageHasSaid : Prop := fnExactImageHasRow.holds Try.pinned (OpenSpec.ofChange fnExactImageHasSpec)

/-- ITS FALSE NEIGHBOUR: 'it returns false'. Refute it at one input. -/
def fnExactImageHasWrong : ChangeSpec := { name := "fnExactImageHas", fn := fun _ => fun
  | [d1, d2, d3] => { results := [.lit (.bool false)], args := [d1, d2, d3] }
  | _ => none }
def FnExactImageHasWrongFalsely : Prop := fnExactImageHasRow.holds Try.pinned (OpenSpec.ofChange fnExactImageHasWrong)

/-- 'laws.FnExactImagePut': WHATEVER THE INPUT: true; the input reads as it did. -/
def fnExactImagePutSpec : ChangeSpec := { name := "fnExactImagePut", fn := fun _ => fun
  | [d1, d2, d3, d4] => { results := [.lit (.bool true)], args := [d1, d2, d3, d4] }
  | _ => none }
def fnExactImagePutRow : OpenClaim := { program := "ytngoehnpcgjonaa", sum := "44a128b4827c2021121fee64f96901e8460410f11aa7464f241980fc1bededa9", func := "loop.example/discretetomography/laws.FnExactImagePut", spec := "fnExactImagePut", apart := false }
def FnExactImagePutSaid : Prop := fnExactImagePutRow.holds Try.pinned (OpenSpec.ofChange fnExactImagePutSpec)

/-- ITS FALSE NEIGHBOUR: 'it returns false'. Refute it at one input. -/
def fnExactImagePutWrong : ChangeSpec := { name := "fnExactImagePut", fn := fun _ => fun
  | [d1, d2, d3, d4] => { results := [.lit (.bool false)], args := [d1, d2, d3, d4] }
  | _ => none }
def FnExactImagePutWrongFalsely : Prop := fnExactImagePutRow.holds Try.pinned (OpenSpec.ofChange fnExactImagePutWrong)

/-- 'laws.FnExactImageMany': WHATEVER THE INPUT: true; the input reads as it did. -/
def fnExactImageManySpec : ChangeSpec := { name := "fnExactImageMany", fn := fun _ => fun
  | [d] => { results := [.lit (.bool true)], args := [d] }
  | _ => none }
def fnExactImageManyRow : OpenClaim := { program := "ytngoehnpcgjonaa", sum := "44a128b4827c2021121fee64f96901e8460410f11aa7464f241980fc1bededa9", func := "loop.example/discretetomography/laws.FnExactImageMany", spec := "fnExactImageMany", apart := false }
def FnExactImageManySaid : Prop := fnExactImageManyRow.holds Try.pinned (OpenSpec.ofChange fnExactImageManySpec)

/-- ITS FALSE NEIGHBOUR: 'it returns false'. Refute it at one input. -/
def fnExactImageManyWrong : ChangeSpec := { name := "fnExactImageMany", fn := fun _ => fun
  | [d] => { results := [.lit (.bool false)], args := [d] }
  | _ => none }
def FnExactImageManyWrongFalsely : Prop := fnExactImageManyRow.holds Try.pinned (OpenSpec.ofChange fnExactImageManyWrong)

/-- 'laws.FnExactImageTurn': WHATEVER THE INPUT: true; the input reads as it did. -/
def fnExactImageTurnSpec : ChangeSpec := { name := "fnExactImageTurn", fn := fun _ => fun
  | [d] => { results := [.lit (.bool true)], args := [d] }
  | _ => none }
def fnExactImageTurnRow : OpenClaim := { program := "ytngoehnpcgjonaa", sum := "44a128b4827c2021121fee64f96901e8460410f11aa7464f241980fc1bededa9", func := "loop.example/discretetomography/laws.FnExactImageTurn", spec := "fnExactImageTurn", apart := false }
def FnExactImageTurnSaid : Prop := fnExactImageTurnRow.holds Try.pinned (OpenSpec.ofChange fnExactImageTurnSpec)

/-- ITS FALSE NEIGHBOUR: 'it returns false'. Refute it at one input. -/
def fnExactImageTurnWrong : ChangeSpec := { name := "fnExactImageTurn", fn := fun _ => fun
  | [d] => { results := [.lit (.bool false)], args := [d] }
  | _ => none }
def FnExactImageTurnWrongFalsely : Prop := fnExactImageTurnRow.holds Try.pinned (OpenSpec.ofChange fnExactImageTurnWrong)

/-- 'laws.FnExactImageMirror': WHATEVER THE INPUT: true; the input reads as it did. -/
def fnExactImageMirrorSpec : ChangeSpec := { name := "fnExactImageMirror", fn := fun _ => fun
  | [d] => { results := [.lit (.bool true)], args := [d] }
  | _ => none }
def fnExactImageMirrorRow : OpenClaim := { program := "ytngoehnpcgjonaa", sum := "44a128b4827c2021121fee64f96901e8460410f11aa7464f241980fc1bededa9", func := "loop.example/discretetomography/laws.FnExactImageMirror", spec := "fnExactImageMirror", apart := false }
def FnExactImageMirrorSaid : Prop := fnExactImageMirrorRow.holds Try.pinned (OpenSpec.ofChange fnExactImageMirrorSpec)

/-- ITS FALSE NEIGHBOUR: 'it returns false'. Refute it at one input. -/
def fnExactImageMirrorWrong : ChangeSpec := { name := "fnExactImageMirror", fn := fun _ => fun
  | [d] => { results := [.lit (.bool false)], args := [d] }
  | _ => none }
def FnExactImageMirrorWrongFalsely : Prop := fnExactImageMirrorRow.holds Try.pinned (OpenSpec.ofChange fnExactImageMirrorWrong)

/-- 'laws.FnExactImageOther': WHATEVER THE INPUT: true; the input reads as it did. -/
def fnExactImageOtherSpec : ChangeSpec := { name := "fnExactImageOther", fn := fun _ => fun
  | [d] => { results := [.lit (.bool true)], args := [d] }
  | _ => none }
def fnExactImageOtherRow : OpenClaim := { program := "ytngoehnpcgjonaa", sum := "44a128b4827c2021121fee64f96901e8460410f11aa7464f241980fc1bededa9", func := "loop.example/discretetomography/laws.FnExactImageOther", spec := "fnExactImageOther", apart := false }
def FnExactImageOtherSaid : Prop := fnExactImageOtherRow.holds Try.pinned (OpenSpec.ofChange fnExactImageOtherSpec)

/-- ITS FALSE NEIGHBOUR: 'it returns false'. Refute it at one input. -/
def fnExactImageOtherWrong : ChangeSpec := { name := "fnExactImageOther", fn := fun _ => fun
  | [d] => { results := [.lit (.bool false)], args := [d] }
  | _ => none }
def FnExactImageOtherWrongFalsely : Prop := fnExactImageOtherRow.holds Try.pinned (OpenSpec.ofChange fnExactImageOtherWrong)

/-- 'laws.FnExactImageText': WHATEVER THE INPUT: true; the input reads as it did. -/
def fnExactImageTextSpec : ChangeSpec := { name := "fnExactImageText", fn := fun _ => fun
  | [d] => { results := [.lit (.bool true)], args := [d] }
  | _ => none }
def fnExactImageTextRow : OpenClaim := { program := "ytngoehnpcgjonaa", sum := "44a128b4827c2021121fee64f96901e8460410f11aa7464f241980fc1bededa9", func := "loop.example/discretetomography/laws.FnExactImageText", spec := "fnExactImageText", inPlace := ["internal/abi.NoEscape"], apart := false }
def FnExactImageTextSaid : Prop := fnExactImageTextRow.holds Try.pinned (OpenSpec.ofChange fnExactImageTextSpec)

/-- ITS FALSE NEIGHBOUR: 'it returns false'. Refute it at one input. -/
def fnExactImageTextWrong : ChangeSpec := { name := "fnExactImageText", fn := fun _ => fun
  | [d] => { results := [.lit (.bool false)], args := [d] }
  | _ => none }
def FnExactImageTextWrongFalsely : Prop := fnExactImageTextRow.holds Try.pinned (OpenSpec.ofChange fnExactImageTextWrong)

/-- 'laws.FnExactImageFrom': WHATEVER THE INPUT: true; the input reads as it did. -/
def fnExactImageFromSpec : ChangeSpec := { name := "fnExactImageFrom", fn := fun _ => fun
  | [d] => { results := [.lit (.bool true)], args := [d] }
  | _ => none }
def fnExactImageFromRow : OpenClaim := { program := "ytngoehnpcgjonaa", sum := "44a128b4827c2021121fee64f96901e8460410f11aa7464f241980fc1bededa9", func := "loop.example/discretetomography/laws.FnExactImageFrom", spec := "fnExactImageFrom", inPlace := ["internal/bytealg.IndexByteString"], apart := false }
def FnExactImageFromSaid : Prop := fnExactImageFromRow.holds Try.pinned (OpenSpec.ofChange fnExactImageFromSpec)

/-- ITS FALSE NEIGHBOUR: 'it returns false'. Refute it at one input. -/
def fnExactImageFromWrong : ChangeSpec := { name := "fnExactImageFrom", fn := fun _ => fun
  | [d] => { results := [.lit (.bool false)], args := [d] }
  | _ => none }
def FnExactImageFromWrongFalsely : Prop := fnExactImageFromRow.holds Try.pinned (OpenSpec.ofChange fnExactImageFromWrong)

/- THE SECOND FORM. 'bulk': how many values and letters a reading holds, each counted each time it is reached (what is shared counts as often as it is met; a slice's spare places count too). A statement '..UptoSaid' is the law's where the arguments, and the package variables that the reading takes, are together of bulk at most 1048576: NARROWER than '..Said'. Prove '..Said' where nothing that the law and all that it calls make is longer than what came in: it says more and counts as full. Else prove '..UptoSaid'. A law counts once. -/
mutual
def uptoBulk {H : Type} : DataW H → Nat
  | .lit (.string bytes) => bytes.length + 1
  | .lit _ => 1
  | .nil => 1
  | .ptr d => uptoBulk d + 1
  | .slice elems spare => uptoBulkAll elems + uptoBulkAll spare + 1
  | .agg parts => uptoBulkAll parts + 1
  | .iface _ d => uptoBulk d + 1
  | .map entries => uptoBulkEntries entries + 1
  | .held _ => 1
def uptoBulkAll {H : Type} : List (DataW H) → Nat
  | [] => 0
  | d :: r => uptoBulk d + uptoBulkAll r
def uptoBulkEntries {H : Type} : List (Lit × DataW H) → Nat
  | [] => 0
  | x :: r => uptoBulkEntry x + uptoBulkEntries r
def uptoBulkEntry {H : Type} : Lit × DataW H → Nat
  | (.string bytes, d) => bytes.length + uptoBulk d + 1
  | (_, d) => uptoBulk d + 1
 end
def uptoSmall : (H : Type) → List (DataW H) → Bool := fun _ ds => decide (uptoBulkAll ds ≤ 1048576)
def OpenSpec.upto (s : _root_.Go.ChangeSpec) : _root_.Go.OpenSpec := { _root_.Go.OpenSpec.ofChange s with cond := some uptoSmall }

/-- 'laws.FnMany', WHERE WHAT IT READS IS OF BULK AT MOST 1048576: true; the input reads as it did. -/
def fnManyUptoRow : OpenClaim := { program := "ytngoehnpcgjonaa", sum := "44a128b4827c2021121fee64f96901e8460410f11aa7464f241980fc1bededa9", func := "loop.example/discretetomography/laws.FnMany", spec := "fnMany", apart := false, narrowed := true }
def FnManyUptoSaid : Prop := fnManyUptoRow.holds Try.pinned (OpenSpec.upto fnManySpec)

/-- 'laws.FnTurn', WHERE WHAT IT READS IS OF BULK AT MOST 1048576: true; the input reads as it did. -/
def fnTurnUptoRow : OpenClaim := { program := "ytngoehnpcgjonaa", sum := "44a128b4827c2021121fee64f96901e8460410f11aa7464f241980fc1bededa9", func := "loop.example/discretetomography/laws.FnTurn", spec := "fnTurn", apart := false, narrowed := true }
def FnTurnUptoSaid : Prop := fnTurnUptoRow.holds Try.pinned (OpenSpec.upto fnTurnSpec)

/-- 'laws.FnMirror', WHERE WHAT IT READS IS OF BULK AT MOST 1048576: true; the input reads as it did. -/
def fnMirrorUptoRow : OpenClaim := { program := "ytngoehnpcgjonaa", sum := "44a128b4827c2021121fee64f96901e8460410f11aa7464f241980fc1bededa9", func := "loop.example/discretetomography/laws.FnMirror", spec := "fnMirror", apart := false, narrowed := true }
def FnMirrorUptoSaid : Prop := fnMirrorUptoRow.holds Try.pinned (OpenSpec.upto fnMirrorSpec)

/-- 'laws.FnTurnMirror', WHERE WHAT IT READS IS OF BULK AT MOST 1048576: true; the input reads as it did. -/
def fnTurnMirrorUptoRow : OpenClaim := { program := "ytngoehnpcgjonaa", sum := "44a128b4827c2021121fee64f96901e8460410f11aa7464f241980fc1bededa9", func := "loop.example/discretetomography/laws.FnTurnMirror", spec := "fnTurnMirror", apart := false, narrowed := true }
def FnTurnMirrorUptoSaid : Prop := fnTurnMirrorUptoRow.holds Try.pinned (OpenSpec.upto fnTurnMirrorSpec)

/-- 'laws.FnText', WHERE WHAT IT READS IS OF BULK AT MOST 1048576: true; the input reads as it did. -/
def fnTextUptoRow : OpenClaim := { program := "ytngoehnpcgjonaa", sum := "44a128b4827c2021121fee64f96901e8460410f11aa7464f241980fc1bededa9", func := "loop.example/discretetomography/laws.FnText", spec := "fnText", inPlace := ["internal/abi.NoEscape", "internal/bytealg.IndexByteString"], apart := false, narrowed := true }
def FnTextUptoSaid : Prop := fnTextUptoRow.holds Try.pinned (OpenSpec.upto fnTextSpec)

/-- 'laws.FnTextMarks', WHERE WHAT IT READS IS OF BULK AT MOST 1048576: true; the input reads as it did. -/
def fnTextMarksUptoRow : OpenClaim := { program := "ytngoehnpcgjonaa", sum := "44a128b4827c2021121fee64f96901e8460410f11aa7464f241980fc1bededa9", func := "loop.example/discretetomography/laws.FnTextMarks", spec := "fnTextMarks", inPlace := ["internal/abi.NoEscape"], apart := false, narrowed := true }
def FnTextMarksUptoSaid : Prop := fnTextMarksUptoRow.holds Try.pinned (OpenSpec.upto fnTextMarksSpec)

/-- 'laws.FnTurnSize', WHERE WHAT IT READS IS OF BULK AT MOST 1048576: true; the input reads as it did. -/
def fnTurnSizeUptoRow : OpenClaim := { program := "ytngoehnpcgjonaa", sum := "44a128b4827c2021121fee64f96901e8460410f11aa7464f241980fc1bededa9", func := "loop.example/discretetomography/laws.FnTurnSize", spec := "fnTurnSize", apart := false, narrowed := true }
def FnTurnSizeUptoSaid : Prop := fnTurnSizeUptoRow.holds Try.pinned (OpenSpec.upto fnTurnSizeSpec)

/-- 'laws.FnTextRows', WHERE WHAT IT READS IS OF BULK AT MOST 1048576: true; the input reads as it did. -/
def fnTextRowsUptoRow : OpenClaim := { program := "ytngoehnpcgjonaa", sum := "44a128b4827c2021121fee64f96901e8460410f11aa7464f241980fc1bededa9", func := "loop.example/discretetomography/laws.FnTextRows", spec := "fnTextRows", inPlace := ["internal/abi.NoEscape"], apart := false, narrowed := true }
def FnTextRowsUptoSaid : Prop := fnTextRowsUptoRow.holds Try.pinned (OpenSpec.upto fnTextRowsSpec)

/-- 'laws.FnExactImageValid', WHERE WHAT IT READS IS OF BULK AT MOST 1048576: true; the input reads as it did. -/
def fnExactImageValidUptoRow : OpenClaim := { program := "ytngoehnpcgjonaa", sum := "44a128b4827c2021121fee64f96901e8460410f11aa7464f241980fc1bededa9", func := "loop.example/discretetomography/laws.FnExactImageValid", spec := "fnExactImageValid", apart := false, narrowed := true }
def FnExactImageValidUptoSaid : Prop := fnExactImageValidUptoRow.holds Try.pinned (OpenSpec.upto fnExactImageValidSpec)

/-- 'laws.FnExactImageHas', WHERE WHAT IT READS IS OF BULK AT MOST 1048576: true; the input reads as it did. -/
def fnExactImageHasUptoRow : OpenClaim := { program := "ytngoehnpcgjonaa", sum := "44a128b4827c2021121fee64f96901e8460410f11aa7464f241980fc1bededa9", func := "loop.example/discretetomography/laws.FnExactImageHas", spec := "fnExactImageHas", apart := false, narrowed := true }
def FnExactImageHasUptoSaid : Prop := fnExactImageHasUptoRow.holds Try.pinned (OpenSpec.upto fnExactImageHasSpec)

/-- 'laws.FnExactImagePut', WHERE WHAT IT READS IS OF BULK AT MOST 1048576: true; the input reads as it did. -/
def fnExactImagePutUptoRow : OpenClaim := { program := "ytngoehnpcgjonaa", sum := "44a128b4827c2021121fee64f96901e8460410f11aa7464f241980fc1bededa9", func := "loop.example/discretetomography/laws.FnExactImagePut", spec := "fnExactImagePut", apart := false, narrowed := true }
def FnExactImagePutUptoSaid : Prop := fnExactImagePutUptoRow.holds Try.pinned (OpenSpec.upto fnExactImagePutSpec)

/-- 'laws.FnExactImageMany', WHERE WHAT IT READS IS OF BULK AT MOST 1048576: true; the input reads as it did. -/
def fnExactImageManyUptoRow : OpenClaim := { program := "ytngoehnpcgjonaa", sum := "44a128b4827c2021121fee64f96901e8460410f11aa7464f241980fc1bededa9", func := "loop.example/discretetomography/laws.FnExactImageMany", spec := "fnExactImageMany", apart := false, narrowed := true }
def FnExactImageManyUptoSaid : Prop := fnExactImageManyUptoRow.holds Try.pinned (OpenSpec.upto fnExactImageManySpec)

/-- 'laws.FnExactImageTurn', WHERE WHAT IT READS IS OF BULK AT MOST 1048576: true; the input reads as it did. -/
def fnExactImageTurnUptoRow : OpenClaim := { program := "ytngoehnpcgjonaa", sum := "44a128b4827c2021121fee64f96901e8460410f11aa7464f241980fc1bededa9", func := "loop.example/discretetomography/laws.FnExactImageTurn", spec := "fnExactImageTurn", apart := false, narrowed := true }
def FnExactImageTurnUptoSaid : Prop := fnExactImageTurnUptoRow.holds Try.pinned (OpenSpec.upto fnExactImageTurnSpec)

/-- 'laws.FnExactImageMirror', WHERE WHAT IT READS IS OF BULK AT MOST 1048576: true; the input reads as it did. -/
def fnExactImageMirrorUptoRow : OpenClaim := { program := "ytngoehnpcgjonaa", sum := "44a128b4827c2021121fee64f96901e8460410f11aa7464f241980fc1bededa9", func := "loop.example/discretetomography/laws.FnExactImageMirror", spec := "fnExactImageMirror", apart := false, narrowed := true }
def FnExactImageMirrorUptoSaid : Prop := fnExactImageMirrorUptoRow.holds Try.pinned (OpenSpec.upto fnExactImageMirrorSpec)

/-- 'laws.FnExactImageOther', WHERE WHAT IT READS IS OF BULK AT MOST 1048576: true; the input reads as it did. -/
def fnExactImageOtherUptoRow : OpenClaim := { program := "ytngoehnpcgjonaa", sum := "44a128b4827c2021121fee64f96901e8460410f11aa7464f241980fc1bededa9", func := "loop.example/discretetomography/laws.FnExactImageOther", spec := "fnExactImageOther", apart := false, narrowed := true }
def FnExactImageOtherUptoSaid : Prop := fnExactImageOtherUptoRow.holds Try.pinned (OpenSpec.upto fnExactImageOtherSpec)

/-- 'laws.FnExactImageText', WHERE WHAT IT READS IS OF BULK AT MOST 1048576: true; the input reads as it did. -/
def fnExactImageTextUptoRow : OpenClaim := { program := "ytngoehnpcgjonaa", sum := "44a128b4827c2021121fee64f96901e8460410f11aa7464f241980fc1bededa9", func := "loop.example/discretetomography/laws.FnExactImageText", spec := "fnExactImageText", inPlace := ["internal/abi.NoEscape"], apart := false, narrowed := true }
def FnExactImageTextUptoSaid : Prop := fnExactImageTextUptoRow.holds Try.pinned (OpenSpec.upto fnExactImageTextSpec)

/-- 'laws.FnExactImageFrom', WHERE WHAT IT READS IS OF BULK AT MOST 1048576: true; the input reads as it did. -/
def fnExactImageFromUptoRow : OpenClaim := { program := "ytngoehnpcgjonaa", sum := "44a128b4827c2021121fee64f96901e8460410f11aa7464f241980fc1bededa9", func := "loop.example/discretetomography/laws.FnExactImageFrom", spec := "fnExactImageFrom", inPlace := ["internal/bytealg.IndexByteString"], apart := false, narrowed := true }
def FnExactImageFromUptoSaid : Prop := fnExactImageFromUptoRow.holds Try.pinned (OpenSpec.upto fnExactImageFromSpec)

end Rows
end Go.Proofs.Ytngoehnpcgjonaa
