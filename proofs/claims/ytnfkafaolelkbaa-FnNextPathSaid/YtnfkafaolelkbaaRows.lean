/-
  No cell of these rows narrows 'for every input' (looked for: loops, veiled, ifaces, maps, wideKeys, modest, calm, conditions, laid).
  DERIVED. THE GIVEN ROWS OF THIS SEAT. 17 by the template 'for every input the law returns true; each argument reads behind the call as it read before'; 0 by the template 'total and deterministic' (their statements: YtnfkafaolelkbaaTotals.lean).
  GIVEN WITH THE SEED: the statements are not yours to turn. If you find one false, say at which input.
  Laid BY PROGRAM, IN A SANDBOX (cutbox-rows.mjs): the forced cells as the released guide's own fill.sh prints them over the translation e40bef4292cd6af3… (all of the seat's roots in one cut). By AI agents, Wed Nov 11 2026. No macro, syntax, notation, axiom, sorry.
-/
import Derived.Test.YtnfkafaolelkbaaChecked
import GoSem.Claim
import GoSem.ClaimJoined
import GoSem.ClaimMapViews
import Derived.JoinedTies
import Derived.KernelRfl
namespace Go.Proofs.Ytnfkafaolelkbaa
/- THE CELL 'sum', in the pinned program and in every row, IS THE sha256 OF THE DUMP (.gsa) THAT YtnfkafaolelkbaaProg.lean LOADS. Nothing in Lean hashes anything: it is a label: what it is worth is what the hold of that sum in a sandbox is worth. -/
noncomputable def Try.pinned : Pinned := { name := "ytnfkafaolelkbaa", sum := "e40bef4292cd6af3cf68b95bfee414c1576312b3132c2fb860c567a4e669f283", checked := Try.checked }
namespace Rows
def none {H : Type} : Left H := { results := [], args := [] }

/-- 'laws.FnCountOnes': WHATEVER THE INPUT: true; the input reads as it did. -/
def fnCountOnesSpec : ChangeSpec := { name := "fnCountOnes", fn := fun _ => fun
  | [d] => { results := [.lit (.bool true)], args := [d] }
  | _ => none }
def fnCountOnesRow : OpenClaim := { program := "ytnfkafaolelkbaa", sum := "e40bef4292cd6af3cf68b95bfee414c1576312b3132c2fb860c567a4e669f283", func := "loop.example/discretetomography/laws.FnCountOnes", spec := "fnCountOnes", recurses := true, plainKeys := false, apart := false }
def FnCountOnesSaid : Prop := fnCountOnesRow.holds Try.pinned (OpenSpec.ofChange fnCountOnesSpec)

/-- ITS FALSE NEIGHBOUR: 'it returns false'. Refute it at one input. -/
def fnCountOnesWrong : ChangeSpec := { name := "fnCountOnes", fn := fun _ => fun
  | [d] => { results := [.lit (.bool false)], args := [d] }
  | _ => none }
def FnCountOnesWrongFalsely : Prop := fnCountOnesRow.holds Try.pinned (OpenSpec.ofChange fnCountOnesWrong)

/-- 'laws.FnRank': WHATEVER THE INPUT: true; the input reads as it did. -/
def fnRankSpec : ChangeSpec := { name := "fnRank", fn := fun _ => fun
  | [d] => { results := [.lit (.bool true)], args := [d] }
  | _ => none }
def fnRankRow : OpenClaim := { program := "ytnfkafaolelkbaa", sum := "e40bef4292cd6af3cf68b95bfee414c1576312b3132c2fb860c567a4e669f283", func := "loop.example/discretetomography/laws.FnRank", spec := "fnRank", unfollowed := true, recurses := true, plainKeys := false, apart := false }
def FnRankSaid : Prop := fnRankRow.holds Try.pinned (OpenSpec.ofChange fnRankSpec)

/-- ITS FALSE NEIGHBOUR: 'it returns false'. Refute it at one input. -/
def fnRankWrong : ChangeSpec := { name := "fnRank", fn := fun _ => fun
  | [d] => { results := [.lit (.bool false)], args := [d] }
  | _ => none }
def FnRankWrongFalsely : Prop := fnRankRow.holds Try.pinned (OpenSpec.ofChange fnRankWrong)

/-- 'laws.FnRankSmall': WHATEVER THE INPUT: true; the input reads as it did. -/
def fnRankSmallSpec : ChangeSpec := { name := "fnRankSmall", fn := fun _ => fun
  | [d] => { results := [.lit (.bool true)], args := [d] }
  | _ => none }
def fnRankSmallRow : OpenClaim := { program := "ytnfkafaolelkbaa", sum := "e40bef4292cd6af3cf68b95bfee414c1576312b3132c2fb860c567a4e669f283", func := "loop.example/discretetomography/laws.FnRankSmall", spec := "fnRankSmall", unfollowed := true, recurses := true, plainKeys := false, apart := false }
def FnRankSmallSaid : Prop := fnRankSmallRow.holds Try.pinned (OpenSpec.ofChange fnRankSmallSpec)

/-- ITS FALSE NEIGHBOUR: 'it returns false'. Refute it at one input. -/
def fnRankSmallWrong : ChangeSpec := { name := "fnRankSmall", fn := fun _ => fun
  | [d] => { results := [.lit (.bool false)], args := [d] }
  | _ => none }
def FnRankSmallWrongFalsely : Prop := fnRankSmallRow.holds Try.pinned (OpenSpec.ofChange fnRankSmallWrong)

/-- 'laws.FnNth': WHATEVER THE INPUT: true; the input reads as it did. -/
def fnNthSpec : ChangeSpec := { name := "fnNth", fn := fun _ => fun
  | [d] => { results := [.lit (.bool true)], args := [d] }
  | _ => none }
def fnNthRow : OpenClaim := { program := "ytnfkafaolelkbaa", sum := "e40bef4292cd6af3cf68b95bfee414c1576312b3132c2fb860c567a4e669f283", func := "loop.example/discretetomography/laws.FnNth", spec := "fnNth", unfollowed := true, recurses := true, plainKeys := false, apart := false }
def FnNthSaid : Prop := fnNthRow.holds Try.pinned (OpenSpec.ofChange fnNthSpec)

/-- ITS FALSE NEIGHBOUR: 'it returns false'. Refute it at one input. -/
def fnNthWrong : ChangeSpec := { name := "fnNth", fn := fun _ => fun
  | [d] => { results := [.lit (.bool false)], args := [d] }
  | _ => none }
def FnNthWrongFalsely : Prop := fnNthRow.holds Try.pinned (OpenSpec.ofChange fnNthWrong)

/-- 'laws.FnNthRange': WHATEVER THE INPUT: true; the input reads as it did. -/
def fnNthRangeSpec : ChangeSpec := { name := "fnNthRange", fn := fun _ => fun
  | [d1, d2] => { results := [.lit (.bool true)], args := [d1, d2] }
  | _ => none }
def fnNthRangeRow : OpenClaim := { program := "ytnfkafaolelkbaa", sum := "e40bef4292cd6af3cf68b95bfee414c1576312b3132c2fb860c567a4e669f283", func := "loop.example/discretetomography/laws.FnNthRange", spec := "fnNthRange", unfollowed := true, recurses := true, plainKeys := false, apart := false }
def FnNthRangeSaid : Prop := fnNthRangeRow.holds Try.pinned (OpenSpec.ofChange fnNthRangeSpec)

/-- ITS FALSE NEIGHBOUR: 'it returns false'. Refute it at one input. -/
def fnNthRangeWrong : ChangeSpec := { name := "fnNthRange", fn := fun _ => fun
  | [d1, d2] => { results := [.lit (.bool false)], args := [d1, d2] }
  | _ => none }
def FnNthRangeWrongFalsely : Prop := fnNthRangeRow.holds Try.pinned (OpenSpec.ofChange fnNthRangeWrong)

/-- 'laws.FnNthOrder': WHATEVER THE INPUT: true; the input reads as it did. -/
def fnNthOrderSpec : ChangeSpec := { name := "fnNthOrder", fn := fun _ => fun
  | [d] => { results := [.lit (.bool true)], args := [d] }
  | _ => none }
def fnNthOrderRow : OpenClaim := { program := "ytnfkafaolelkbaa", sum := "e40bef4292cd6af3cf68b95bfee414c1576312b3132c2fb860c567a4e669f283", func := "loop.example/discretetomography/laws.FnNthOrder", spec := "fnNthOrder", unfollowed := true, recurses := true, plainKeys := false, apart := false }
def FnNthOrderSaid : Prop := fnNthOrderRow.holds Try.pinned (OpenSpec.ofChange fnNthOrderSpec)

/-- ITS FALSE NEIGHBOUR: 'it returns false'. Refute it at one input. -/
def fnNthOrderWrong : ChangeSpec := { name := "fnNthOrder", fn := fun _ => fun
  | [d] => { results := [.lit (.bool false)], args := [d] }
  | _ => none }
def FnNthOrderWrongFalsely : Prop := fnNthOrderRow.holds Try.pinned (OpenSpec.ofChange fnNthOrderWrong)

/-- 'laws.FnNext': WHATEVER THE INPUT: true; the input reads as it did. -/
def fnNextSpec : ChangeSpec := { name := "fnNext", fn := fun _ => fun
  | [d] => { results := [.lit (.bool true)], args := [d] }
  | _ => none }
def fnNextRow : OpenClaim := { program := "ytnfkafaolelkbaa", sum := "e40bef4292cd6af3cf68b95bfee414c1576312b3132c2fb860c567a4e669f283", func := "loop.example/discretetomography/laws.FnNext", spec := "fnNext", unfollowed := true, recurses := true, plainKeys := false, apart := false }
def FnNextSaid : Prop := fnNextRow.holds Try.pinned (OpenSpec.ofChange fnNextSpec)

/-- ITS FALSE NEIGHBOUR: 'it returns false'. Refute it at one input. -/
def fnNextWrong : ChangeSpec := { name := "fnNext", fn := fun _ => fun
  | [d] => { results := [.lit (.bool false)], args := [d] }
  | _ => none }
def FnNextWrongFalsely : Prop := fnNextRow.holds Try.pinned (OpenSpec.ofChange fnNextWrong)

/-- 'laws.FnNextAll': WHATEVER THE INPUT: true; the input reads as it did. -/
def fnNextAllSpec : ChangeSpec := { name := "fnNextAll", fn := fun _ => fun
  | [d] => { results := [.lit (.bool true)], args := [d] }
  | _ => none }
def fnNextAllRow : OpenClaim := { program := "ytnfkafaolelkbaa", sum := "e40bef4292cd6af3cf68b95bfee414c1576312b3132c2fb860c567a4e669f283", func := "loop.example/discretetomography/laws.FnNextAll", spec := "fnNextAll", unfollowed := true, recurses := true, plainKeys := false, apart := false }
def FnNextAllSaid : Prop := fnNextAllRow.holds Try.pinned (OpenSpec.ofChange fnNextAllSpec)

/-- ITS FALSE NEIGHBOUR: 'it returns false'. Refute it at one input. -/
def fnNextAllWrong : ChangeSpec := { name := "fnNextAll", fn := fun _ => fun
  | [d] => { results := [.lit (.bool false)], args := [d] }
  | _ => none }
def FnNextAllWrongFalsely : Prop := fnNextAllRow.holds Try.pinned (OpenSpec.ofChange fnNextAllWrong)

/-- 'laws.FnNextLast': WHATEVER THE INPUT: true; the input reads as it did. -/
def fnNextLastSpec : ChangeSpec := { name := "fnNextLast", fn := fun _ => fun
  | [d] => { results := [.lit (.bool true)], args := [d] }
  | _ => none }
def fnNextLastRow : OpenClaim := { program := "ytnfkafaolelkbaa", sum := "e40bef4292cd6af3cf68b95bfee414c1576312b3132c2fb860c567a4e669f283", func := "loop.example/discretetomography/laws.FnNextLast", spec := "fnNextLast", unfollowed := true, recurses := true, plainKeys := false, apart := false }
def FnNextLastSaid : Prop := fnNextLastRow.holds Try.pinned (OpenSpec.ofChange fnNextLastSpec)

/-- ITS FALSE NEIGHBOUR: 'it returns false'. Refute it at one input. -/
def fnNextLastWrong : ChangeSpec := { name := "fnNextLast", fn := fun _ => fun
  | [d] => { results := [.lit (.bool false)], args := [d] }
  | _ => none }
def FnNextLastWrongFalsely : Prop := fnNextLastRow.holds Try.pinned (OpenSpec.ofChange fnNextLastWrong)

/-- 'laws.FnRankOther': WHATEVER THE INPUT: true; the input reads as it did. -/
def fnRankOtherSpec : ChangeSpec := { name := "fnRankOther", fn := fun _ => fun
  | [d] => { results := [.lit (.bool true)], args := [d] }
  | _ => none }
def fnRankOtherRow : OpenClaim := { program := "ytnfkafaolelkbaa", sum := "e40bef4292cd6af3cf68b95bfee414c1576312b3132c2fb860c567a4e669f283", func := "loop.example/discretetomography/laws.FnRankOther", spec := "fnRankOther", unfollowed := true, recurses := true, plainKeys := false, apart := false }
def FnRankOtherSaid : Prop := fnRankOtherRow.holds Try.pinned (OpenSpec.ofChange fnRankOtherSpec)

/-- ITS FALSE NEIGHBOUR: 'it returns false'. Refute it at one input. -/
def fnRankOtherWrong : ChangeSpec := { name := "fnRankOther", fn := fun _ => fun
  | [d] => { results := [.lit (.bool false)], args := [d] }
  | _ => none }
def FnRankOtherWrongFalsely : Prop := fnRankOtherRow.holds Try.pinned (OpenSpec.ofChange fnRankOtherWrong)

/-- 'laws.FnNthDistinct': WHATEVER THE INPUT: true; the input reads as it did. -/
def fnNthDistinctSpec : ChangeSpec := { name := "fnNthDistinct", fn := fun _ => fun
  | [d] => { results := [.lit (.bool true)], args := [d] }
  | _ => none }
def fnNthDistinctRow : OpenClaim := { program := "ytnfkafaolelkbaa", sum := "e40bef4292cd6af3cf68b95bfee414c1576312b3132c2fb860c567a4e669f283", func := "loop.example/discretetomography/laws.FnNthDistinct", spec := "fnNthDistinct", unfollowed := true, recurses := true, plainKeys := false, apart := false }
def FnNthDistinctSaid : Prop := fnNthDistinctRow.holds Try.pinned (OpenSpec.ofChange fnNthDistinctSpec)

/-- ITS FALSE NEIGHBOUR: 'it returns false'. Refute it at one input. -/
def fnNthDistinctWrong : ChangeSpec := { name := "fnNthDistinct", fn := fun _ => fun
  | [d] => { results := [.lit (.bool false)], args := [d] }
  | _ => none }
def FnNthDistinctWrongFalsely : Prop := fnNthDistinctRow.holds Try.pinned (OpenSpec.ofChange fnNthDistinctWrong)

/-- 'laws.FnNextPath': WHATEVER THE INPUT: true; the input reads as it did. -/
def fnNextPathSpec : ChangeSpec := { name := "fnNextPath", fn := fun _ => fun
  | [d] => { results := [.lit (.bool true)], args := [d] }
  | _ => none }
def fnNextPathRow : OpenClaim := { program := "ytnfkafaolelkbaa", sum := "e40bef4292cd6af3cf68b95bfee414c1576312b3132c2fb860c567a4e669f283", func := "loop.example/discretetomography/laws.FnNextPath", spec := "fnNextPath", unfollowed := true, recurses := true, plainKeys := false, apart := false }
def FnNextPathSaid : Prop := fnNextPathRow.holds Try.pinned (OpenSpec.ofChange fnNextPathSpec)

/-- ITS FALSE NEIGHBOUR: 'it returns false'. Refute it at one input. -/
def fnNextPathWrong : ChangeSpec := { name := "fnNextPath", fn := fun _ => fun
  | [d] => { results := [.lit (.bool false)], args := [d] }
  | _ => none }
def FnNextPathWrongFalsely : Prop := fnNextPathRow.holds Try.pinned (OpenSpec.ofChange fnNextPathWrong)

/-- 'laws.FnNthOther': WHATEVER THE INPUT: true; the input reads as it did. -/
def fnNthOtherSpec : ChangeSpec := { name := "fnNthOther", fn := fun _ => fun
  | [d] => { results := [.lit (.bool true)], args := [d] }
  | _ => none }
def fnNthOtherRow : OpenClaim := { program := "ytnfkafaolelkbaa", sum := "e40bef4292cd6af3cf68b95bfee414c1576312b3132c2fb860c567a4e669f283", func := "loop.example/discretetomography/laws.FnNthOther", spec := "fnNthOther", unfollowed := true, recurses := true, plainKeys := false, apart := false }
def FnNthOtherSaid : Prop := fnNthOtherRow.holds Try.pinned (OpenSpec.ofChange fnNthOtherSpec)

/-- ITS FALSE NEIGHBOUR: 'it returns false'. Refute it at one input. -/
def fnNthOtherWrong : ChangeSpec := { name := "fnNthOther", fn := fun _ => fun
  | [d] => { results := [.lit (.bool false)], args := [d] }
  | _ => none }
def FnNthOtherWrongFalsely : Prop := fnNthOtherRow.holds Try.pinned (OpenSpec.ofChange fnNthOtherWrong)

/-- 'laws.FnRankFirst': WHATEVER THE INPUT: true; the input reads as it did. -/
def fnRankFirstSpec : ChangeSpec := { name := "fnRankFirst", fn := fun _ => fun
  | [d] => { results := [.lit (.bool true)], args := [d] }
  | _ => none }
def fnRankFirstRow : OpenClaim := { program := "ytnfkafaolelkbaa", sum := "e40bef4292cd6af3cf68b95bfee414c1576312b3132c2fb860c567a4e669f283", func := "loop.example/discretetomography/laws.FnRankFirst", spec := "fnRankFirst", unfollowed := true, recurses := true, plainKeys := false, apart := false }
def FnRankFirstSaid : Prop := fnRankFirstRow.holds Try.pinned (OpenSpec.ofChange fnRankFirstSpec)

/-- ITS FALSE NEIGHBOUR: 'it returns false'. Refute it at one input. -/
def fnRankFirstWrong : ChangeSpec := { name := "fnRankFirst", fn := fun _ => fun
  | [d] => { results := [.lit (.bool false)], args := [d] }
  | _ => none }
def FnRankFirstWrongFalsely : Prop := fnRankFirstRow.holds Try.pinned (OpenSpec.ofChange fnRankFirstWrong)

/-- 'laws.FnExactImageRank': WHATEVER THE INPUT: true; the input reads as it did. -/
def fnExactImageRankSpec : ChangeSpec := { name := "fnExactImageRank", fn := fun _ => fun
  | [d] => { results := [.lit (.bool true)], args := [d] }
  | _ => none }
def fnExactImageRankRow : OpenClaim := { program := "ytnfkafaolelkbaa", sum := "e40bef4292cd6af3cf68b95bfee414c1576312b3132c2fb860c567a4e669f283", func := "loop.example/discretetomography/laws.FnExactImageRank", spec := "fnExactImageRank", unfollowed := true, recurses := true, plainKeys := false, apart := false }
def FnExactImageRankSaid : Prop := fnExactImageRankRow.holds Try.pinned (OpenSpec.ofChange fnExactImageRankSpec)

/-- ITS FALSE NEIGHBOUR: 'it returns false'. Refute it at one input. -/
def fnExactImageRankWrong : ChangeSpec := { name := "fnExactImageRank", fn := fun _ => fun
  | [d] => { results := [.lit (.bool false)], args := [d] }
  | _ => none }
def FnExactImageRankWrongFalsely : Prop := fnExactImageRankRow.holds Try.pinned (OpenSpec.ofChange fnExactImageRankWrong)

/-- 'laws.FnExactImageNth': WHATEVER THE INPUT: true; the input reads as it did. -/
def fnExactImageNthSpec : ChangeSpec := { name := "fnExactImageNth", fn := fun _ => fun
  | [d1, d2, d3] => { results := [.lit (.bool true)], args := [d1, d2, d3] }
  | _ => none }
def fnExactImageNthRow : OpenClaim := { program := "ytnfkafaolelkbaa", sum := "e40bef4292cd6af3cf68b95bfee414c1576312b3132c2fb860c567a4e669f283", func := "loop.example/discretetomography/laws.FnExactImageNth", spec := "fnExactImageNth", unfollowed := true, recurses := true, plainKeys := false, apart := false }
def FnExactImageNthSaid : Prop := fnExactImageNthRow.holds Try.pinned (OpenSpec.ofChange fnExactImageNthSpec)

/-- ITS FALSE NEIGHBOUR: 'it returns false'. Refute it at one input. -/
def fnExactImageNthWrong : ChangeSpec := { name := "fnExactImageNth", fn := fun _ => fun
  | [d1, d2, d3] => { results := [.lit (.bool false)], args := [d1, d2, d3] }
  | _ => none }
def FnExactImageNthWrongFalsely : Prop := fnExactImageNthRow.holds Try.pinned (OpenSpec.ofChange fnExactImageNthWrong)

/-- 'laws.FnExactImageNext': WHATEVER THE INPUT: true; the input reads as it did. -/
def fnExactImageNextSpec : ChangeSpec := { name := "fnExactImageNext", fn := fun _ => fun
  | [d] => { results := [.lit (.bool true)], args := [d] }
  | _ => none }
def fnExactImageNextRow : OpenClaim := { program := "ytnfkafaolelkbaa", sum := "e40bef4292cd6af3cf68b95bfee414c1576312b3132c2fb860c567a4e669f283", func := "loop.example/discretetomography/laws.FnExactImageNext", spec := "fnExactImageNext", unfollowed := true, recurses := true, plainKeys := false, apart := false }
def FnExactImageNextSaid : Prop := fnExactImageNextRow.holds Try.pinned (OpenSpec.ofChange fnExactImageNextSpec)

/-- ITS FALSE NEIGHBOUR: 'it returns false'. Refute it at one input. -/
def fnExactImageNextWrong : ChangeSpec := { name := "fnExactImageNext", fn := fun _ => fun
  | [d] => { results := [.lit (.bool false)], args := [d] }
  | _ => none }
def FnExactImageNextWrongFalsely : Prop := fnExactImageNextRow.holds Try.pinned (OpenSpec.ofChange fnExactImageNextWrong)

/- THE SECOND FORM. 'bulk': how many values and letters a reading holds, each counted each time it is reached (what is shared counts as often as it is met; a slice's spare places count too). A statement '..UptoSaid' is the law's where the arguments, and the package variables that the reading takes, are together of bulk at most 1048576: NARROWER than '..Said'. Prove '..Said' where nothing that the law and all that it calls make is longer than what came in: it says more and counts as full. Else prove '..UptoSaid'. A law counts once. -/
mutual
def uptoBulk {H : Type} : DataW H → Nat
  | .lit (.string bytes) => bytes.length + 1
  | .lit _ => 1
  | .nil => 1
  | .ptr d => uptoBulk d + 1
  | .slice elems spare => uptoBulkAll elems + uptoBulkAll spare + 1
  | .agg parts => uptoBulkAll parts + 1
  | .iface _ d => uptoBulk d + 1
  | .map entries => uptoBulkEntries entries + 1
  | .held _ => 1
def uptoBulkAll {H : Type} : List (DataW H) → Nat
  | [] => 0
  | d :: r => uptoBulk d + uptoBulkAll r
def uptoBulkEntries {H : Type} : List (Lit × DataW H) → Nat
  | [] => 0
  | x :: r => uptoBulkEntry x + uptoBulkEntries r
def uptoBulkEntry {H : Type} : Lit × DataW H → Nat
  | (.string bytes, d) => bytes.length + uptoBulk d + 1
  | (_, d) => uptoBulk d + 1
 end
def uptoSmall : (H : Type) → List (DataW H) → Bool := fun _ ds => decide (uptoBulkAll ds ≤ 1048576)
def OpenSpec.upto (s : _root_.Go.ChangeSpec) : _root_.Go.OpenSpec := { _root_.Go.OpenSpec.ofChange s with cond := some uptoSmall }

/-- 'laws.FnCountOnes', WHERE WHAT IT READS IS OF BULK AT MOST 1048576: true; the input reads as it did. -/
def fnCountOnesUptoRow : OpenClaim := { program := "ytnfkafaolelkbaa", sum := "e40bef4292cd6af3cf68b95bfee414c1576312b3132c2fb860c567a4e669f283", func := "loop.example/discretetomography/laws.FnCountOnes", spec := "fnCountOnes", recurses := true, plainKeys := false, apart := false, narrowed := true }
def FnCountOnesUptoSaid : Prop := fnCountOnesUptoRow.holds Try.pinned (OpenSpec.upto fnCountOnesSpec)

/-- 'laws.FnRank', WHERE WHAT IT READS IS OF BULK AT MOST 1048576: true; the input reads as it did. -/
def fnRankUptoRow : OpenClaim := { program := "ytnfkafaolelkbaa", sum := "e40bef4292cd6af3cf68b95bfee414c1576312b3132c2fb860c567a4e669f283", func := "loop.example/discretetomography/laws.FnRank", spec := "fnRank", unfollowed := true, recurses := true, plainKeys := false, apart := false, narrowed := true }
def FnRankUptoSaid : Prop := fnRankUptoRow.holds Try.pinned (OpenSpec.upto fnRankSpec)

/-- 'laws.FnRankSmall', WHERE WHAT IT READS IS OF BULK AT MOST 1048576: true; the input reads as it did. -/
def fnRankSmallUptoRow : OpenClaim := { program := "ytnfkafaolelkbaa", sum := "e40bef4292cd6af3cf68b95bfee414c1576312b3132c2fb860c567a4e669f283", func := "loop.example/discretetomography/laws.FnRankSmall", spec := "fnRankSmall", unfollowed := true, recurses := true, plainKeys := false, apart := false, narrowed := true }
def FnRankSmallUptoSaid : Prop := fnRankSmallUptoRow.holds Try.pinned (OpenSpec.upto fnRankSmallSpec)

/-- 'laws.FnNth', WHERE WHAT IT READS IS OF BULK AT MOST 1048576: true; the input reads as it did. -/
def fnNthUptoRow : OpenClaim := { program := "ytnfkafaolelkbaa", sum := "e40bef4292cd6af3cf68b95bfee414c1576312b3132c2fb860c567a4e669f283", func := "loop.example/discretetomography/laws.FnNth", spec := "fnNth", unfollowed := true, recurses := true, plainKeys := false, apart := false, narrowed := true }
def FnNthUptoSaid : Prop := fnNthUptoRow.holds Try.pinned (OpenSpec.upto fnNthSpec)

/-- 'laws.FnNthRange', WHERE WHAT IT READS IS OF BULK AT MOST 1048576: true; the input reads as it did. -/
def fnNthRangeUptoRow : OpenClaim := { program := "ytnfkafaolelkbaa", sum := "e40bef4292cd6af3cf68b95bfee414c1576312b3132c2fb860c567a4e669f283", func := "loop.example/discretetomography/laws.FnNthRange", spec := "fnNthRange", unfollowed := true, recurses := true, plainKeys := false, apart := false, narrowed := true }
def FnNthRangeUptoSaid : Prop := fnNthRangeUptoRow.holds Try.pinned (OpenSpec.upto fnNthRangeSpec)

/-- 'laws.FnNthOrder', WHERE WHAT IT READS IS OF BULK AT MOST 1048576: true; the input reads as it did. -/
def fnNthOrderUptoRow : OpenClaim := { program := "ytnfkafaolelkbaa", sum := "e40bef4292cd6af3cf68b95bfee414c1576312b3132c2fb860c567a4e669f283", func := "loop.example/discretetomography/laws.FnNthOrder", spec := "fnNthOrder", unfollowed := true, recurses := true, plainKeys := false, apart := false, narrowed := true }
def FnNthOrderUptoSaid : Prop := fnNthOrderUptoRow.holds Try.pinned (OpenSpec.upto fnNthOrderSpec)

/-- 'laws.FnNext', WHERE WHAT IT READS IS OF BULK AT MOST 1048576: true; the input reads as it did. -/
def fnNextUptoRow : OpenClaim := { program := "ytnfkafaolelkbaa", sum := "e40bef4292cd6af3cf68b95bfee414c1576312b3132c2fb860c567a4e669f283", func := "loop.example/discretetomography/laws.FnNext", spec := "fnNext", unfollowed := true, recurses := true, plainKeys := false, apart := false, narrowed := true }
def FnNextUptoSaid : Prop := fnNextUptoRow.holds Try.pinned (OpenSpec.upto fnNextSpec)

/-- 'laws.FnNextAll', WHERE WHAT IT READS IS OF BULK AT MOST 1048576: true; the input reads as it did. -/
def fnNextAllUptoRow : OpenClaim := { program := "ytnfkafaolelkbaa", sum := "e40bef4292cd6af3cf68b95bfee414c1576312b3132c2fb860c567a4e669f283", func := "loop.example/discretetomography/laws.FnNextAll", spec := "fnNextAll", unfollowed := true, recurses := true, plainKeys := false, apart := false, narrowed := true }
def FnNextAllUptoSaid : Prop := fnNextAllUptoRow.holds Try.pinned (OpenSpec.upto fnNextAllSpec)

/-- 'laws.FnNextLast', WHERE WHAT IT READS IS OF BULK AT MOST 1048576: true; the input reads as it did. -/
def fnNextLastUptoRow : OpenClaim := { program := "ytnfkafaolelkbaa", sum := "e40bef4292cd6af3cf68b95bfee414c1576312b3132c2fb860c567a4e669f283", func := "loop.example/discretetomography/laws.FnNextLast", spec := "fnNextLast", unfollowed := true, recurses := true, plainKeys := false, apart := false, narrowed := true }
def FnNextLastUptoSaid : Prop := fnNextLastUptoRow.holds Try.pinned (OpenSpec.upto fnNextLastSpec)

/-- 'laws.FnRankOther', WHERE WHAT IT READS IS OF BULK AT MOST 1048576: true; the input reads as it did. -/
def fnRankOtherUptoRow : OpenClaim := { program := "ytnfkafaolelkbaa", sum := "e40bef4292cd6af3cf68b95bfee414c1576312b3132c2fb860c567a4e669f283", func := "loop.example/discretetomography/laws.FnRankOther", spec := "fnRankOther", unfollowed := true, recurses := true, plainKeys := false, apart := false, narrowed := true }
def FnRankOtherUptoSaid : Prop := fnRankOtherUptoRow.holds Try.pinned (OpenSpec.upto fnRankOtherSpec)

/-- 'laws.FnNthDistinct', WHERE WHAT IT READS IS OF BULK AT MOST 1048576: true; the input reads as it did. -/
def fnNthDistinctUptoRow : OpenClaim := { program := "ytnfkafaolelkbaa", sum := "e40bef4292cd6af3cf68b95bfee414c1576312b3132c2fb860c567a4e669f283", func := "loop.example/discretetomography/laws.FnNthDistinct", spec := "fnNthDistinct", unfollowed := true, recurses := true, plainKeys := false, apart := false, narrowed := true }
def FnNthDistinctUptoSaid : Prop := fnNthDistinctUptoRow.holds Try.pinned (OpenSpec.upto fnNthDistinctSpec)

/-- 'laws.FnNextPath', WHERE WHAT IT READS IS OF BULK AT MOST 1048576: true; the input reads as it did. -/
def fnNextPathUptoRow : OpenClaim := { program := "ytnfkafaolelkbaa", sum := "e40bef4292cd6af3cf68b95bfee414c1576312b3132c2fb860c567a4e669f283", func := "loop.example/discretetomography/laws.FnNextPath", spec := "fnNextPath", unfollowed := true, recurses := true, plainKeys := false, apart := false, narrowed := true }
def FnNextPathUptoSaid : Prop := fnNextPathUptoRow.holds Try.pinned (OpenSpec.upto fnNextPathSpec)

/-- 'laws.FnNthOther', WHERE WHAT IT READS IS OF BULK AT MOST 1048576: true; the input reads as it did. -/
def fnNthOtherUptoRow : OpenClaim := { program := "ytnfkafaolelkbaa", sum := "e40bef4292cd6af3cf68b95bfee414c1576312b3132c2fb860c567a4e669f283", func := "loop.example/discretetomography/laws.FnNthOther", spec := "fnNthOther", unfollowed := true, recurses := true, plainKeys := false, apart := false, narrowed := true }
def FnNthOtherUptoSaid : Prop := fnNthOtherUptoRow.holds Try.pinned (OpenSpec.upto fnNthOtherSpec)

/-- 'laws.FnRankFirst', WHERE WHAT IT READS IS OF BULK AT MOST 1048576: true; the input reads as it did. -/
def fnRankFirstUptoRow : OpenClaim := { program := "ytnfkafaolelkbaa", sum := "e40bef4292cd6af3cf68b95bfee414c1576312b3132c2fb860c567a4e669f283", func := "loop.example/discretetomography/laws.FnRankFirst", spec := "fnRankFirst", unfollowed := true, recurses := true, plainKeys := false, apart := false, narrowed := true }
def FnRankFirstUptoSaid : Prop := fnRankFirstUptoRow.holds Try.pinned (OpenSpec.upto fnRankFirstSpec)

/-- 'laws.FnExactImageRank', WHERE WHAT IT READS IS OF BULK AT MOST 1048576: true; the input reads as it did. -/
def fnExactImageRankUptoRow : OpenClaim := { program := "ytnfkafaolelkbaa", sum := "e40bef4292cd6af3cf68b95bfee414c1576312b3132c2fb860c567a4e669f283", func := "loop.example/discretetomography/laws.FnExactImageRank", spec := "fnExactImageRank", unfollowed := true, recurses := true, plainKeys := false, apart := false, narrowed := true }
def FnExactImageRankUptoSaid : Prop := fnExactImageRankUptoRow.holds Try.pinned (OpenSpec.upto fnExactImageRankSpec)

/-- 'laws.FnExactImageNth', WHERE WHAT IT READS IS OF BULK AT MOST 1048576: true; the input reads as it did. -/
def fnExactImageNthUptoRow : OpenClaim := { program := "ytnfkafaolelkbaa", sum := "e40bef4292cd6af3cf68b95bfee414c1576312b3132c2fb860c567a4e669f283", func := "loop.example/discretetomography/laws.FnExactImageNth", spec := "fnExactImageNth", unfollowed := true, recurses := true, plainKeys := false, apart := false, narrowed := true }
def FnExactImageNthUptoSaid : Prop := fnExactImageNthUptoRow.holds Try.pinned (OpenSpec.upto fnExactImageNthSpec)

/-- 'laws.FnExactImageNext', WHERE WHAT IT READS IS OF BULK AT MOST 1048576: true; the input reads as it did. -/
def fnExactImageNextUptoRow : OpenClaim := { program := "ytnfkafaolelkbaa", sum := "e40bef4292cd6af3cf68b95bfee414c1576312b3132c2fb860c567a4e669f283", func := "loop.example/discretetomography/laws.FnExactImageNext", spec := "fnExactImageNext", unfollowed := true, recurses := true, plainKeys := false, apart := false, narrowed := true }
def FnExactImageNextUptoSaid : Prop := fnExactImageNextUptoRow.holds Try.pinned (OpenSpec.upto fnExactImageNextSpec)

end Rows
end Go.Proofs.Ytnfkafaolelkbaa
