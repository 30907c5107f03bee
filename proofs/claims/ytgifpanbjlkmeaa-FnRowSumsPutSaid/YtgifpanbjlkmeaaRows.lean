/-
  No cell of these rows narrows 'for every input' (looked for: loops, veiled, ifaces, maps, wideKeys, modest, calm, conditions, laid).
  DERIVED. THE GIVEN ROWS OF THIS SEAT. 15 by the template 'for every input the law returns true; each argument reads behind the call as it read before'; 0 by the template 'total and deterministic' (their statements: YtgifpanbjlkmeaaTotals.lean).
  GIVEN WITH THE SEED: the statements are not yours to turn. If you find one false, say at which input.
  Laid BY PROGRAM, IN A SANDBOX (cutbox-rows.mjs): the forced cells as the released guide's own fill.sh prints them over the translation 947d16e50a823831… (all of the seat's roots in one cut). By AI agents, Wed Nov 11 2026. No macro, syntax, notation, axiom, sorry.
-/
import Derived.Test.YtgifpanbjlkmeaaChecked
import GoSem.Claim
import GoSem.ClaimJoined
import GoSem.ClaimMapViews
import Derived.JoinedTies
import Derived.KernelRfl
namespace Go.Proofs.Ytgifpanbjlkmeaa
/- THE CELL 'sum', in the pinned program and in every row, IS THE sha256 OF THE DUMP (.gsa) THAT YtgifpanbjlkmeaaProg.lean LOADS. Nothing in Lean hashes anything: it is a label: what it is worth is what the hold of that sum in a sandbox is worth. -/
noncomputable def Try.pinned : Pinned := { name := "ytgifpanbjlkmeaa", sum := "947d16e50a823831dfc54dc88ae38f318137bf4b9b5e12a0840bf2549168b6d6", checked := Try.checked }
namespace Rows
def none {H : Type} : Left H := { results := [], args := [] }

/-- 'laws.FnRowSums': WHATEVER THE INPUT: true; the input reads as it did. -/
def fnRowSumsSpec : ChangeSpec := { name := "fnRowSums", fn := fun _ => fun
  | [d] => { results := [.lit (.bool true)], args := [d] }
  | _ => none }
def fnRowSumsRow : OpenClaim := { program := "ytgifpanbjlkmeaa", sum := "947d16e50a823831dfc54dc88ae38f318137bf4b9b5e12a0840bf2549168b6d6", func := "loop.example/discretetomography/laws.FnRowSums", spec := "fnRowSums", unfollowed := true, recurses := true, apart := false }
def FnRowSumsSaid : Prop := fnRowSumsRow.holds Try.pinned (OpenSpec.ofChange fnRowSumsSpec)

/-- ITS FALSE NEIGHBOUR: 'it returns false'. Refute it at one input. -/
def fnRowSumsWrong : ChangeSpec := { name := "fnRowSums", fn := fun _ => fun
  | [d] => { results := [.lit (.bool false)], args := [d] }
  | _ => none }
def FnRowSumsWrongFalsely : Prop := fnRowSumsRow.holds Try.pinned (OpenSpec.ofChange fnRowSumsWrong)

/-- 'laws.FnRowSumsTurn': WHATEVER THE INPUT: true; the input reads as it did. -/
def fnRowSumsTurnSpec : ChangeSpec := { name := "fnRowSumsTurn", fn := fun _ => fun
  | [d] => { results := [.lit (.bool true)], args := [d] }
  | _ => none }
def fnRowSumsTurnRow : OpenClaim := { program := "ytgifpanbjlkmeaa", sum := "947d16e50a823831dfc54dc88ae38f318137bf4b9b5e12a0840bf2549168b6d6", func := "loop.example/discretetomography/laws.FnRowSumsTurn", spec := "fnRowSumsTurn", unfollowed := true, recurses := true, apart := false }
def FnRowSumsTurnSaid : Prop := fnRowSumsTurnRow.holds Try.pinned (OpenSpec.ofChange fnRowSumsTurnSpec)

/-- ITS FALSE NEIGHBOUR: 'it returns false'. Refute it at one input. -/
def fnRowSumsTurnWrong : ChangeSpec := { name := "fnRowSumsTurn", fn := fun _ => fun
  | [d] => { results := [.lit (.bool false)], args := [d] }
  | _ => none }
def FnRowSumsTurnWrongFalsely : Prop := fnRowSumsTurnRow.holds Try.pinned (OpenSpec.ofChange fnRowSumsTurnWrong)

/-- 'laws.FnColSums': WHATEVER THE INPUT: true; the input reads as it did. -/
def fnColSumsSpec : ChangeSpec := { name := "fnColSums", fn := fun _ => fun
  | [d] => { results := [.lit (.bool true)], args := [d] }
  | _ => none }
def fnColSumsRow : OpenClaim := { program := "ytgifpanbjlkmeaa", sum := "947d16e50a823831dfc54dc88ae38f318137bf4b9b5e12a0840bf2549168b6d6", func := "loop.example/discretetomography/laws.FnColSums", spec := "fnColSums", unfollowed := true, recurses := true, apart := false }
def FnColSumsSaid : Prop := fnColSumsRow.holds Try.pinned (OpenSpec.ofChange fnColSumsSpec)

/-- ITS FALSE NEIGHBOUR: 'it returns false'. Refute it at one input. -/
def fnColSumsWrong : ChangeSpec := { name := "fnColSums", fn := fun _ => fun
  | [d] => { results := [.lit (.bool false)], args := [d] }
  | _ => none }
def FnColSumsWrongFalsely : Prop := fnColSumsRow.holds Try.pinned (OpenSpec.ofChange fnColSumsWrong)

/-- 'laws.FnColSumsMirror': WHATEVER THE INPUT: true; the input reads as it did. -/
def fnColSumsMirrorSpec : ChangeSpec := { name := "fnColSumsMirror", fn := fun _ => fun
  | [d] => { results := [.lit (.bool true)], args := [d] }
  | _ => none }
def fnColSumsMirrorRow : OpenClaim := { program := "ytgifpanbjlkmeaa", sum := "947d16e50a823831dfc54dc88ae38f318137bf4b9b5e12a0840bf2549168b6d6", func := "loop.example/discretetomography/laws.FnColSumsMirror", spec := "fnColSumsMirror", unfollowed := true, recurses := true, apart := false }
def FnColSumsMirrorSaid : Prop := fnColSumsMirrorRow.holds Try.pinned (OpenSpec.ofChange fnColSumsMirrorSpec)

/-- ITS FALSE NEIGHBOUR: 'it returns false'. Refute it at one input. -/
def fnColSumsMirrorWrong : ChangeSpec := { name := "fnColSumsMirror", fn := fun _ => fun
  | [d] => { results := [.lit (.bool false)], args := [d] }
  | _ => none }
def FnColSumsMirrorWrongFalsely : Prop := fnColSumsMirrorRow.holds Try.pinned (OpenSpec.ofChange fnColSumsMirrorWrong)

/-- 'laws.FnSums': WHATEVER THE INPUT: true; the input reads as it did. -/
def fnSumsSpec : ChangeSpec := { name := "fnSums", fn := fun _ => fun
  | [d] => { results := [.lit (.bool true)], args := [d] }
  | _ => none }
def fnSumsRow : OpenClaim := { program := "ytgifpanbjlkmeaa", sum := "947d16e50a823831dfc54dc88ae38f318137bf4b9b5e12a0840bf2549168b6d6", func := "loop.example/discretetomography/laws.FnSums", spec := "fnSums", apart := false }
def FnSumsSaid : Prop := fnSumsRow.holds Try.pinned (OpenSpec.ofChange fnSumsSpec)

/-- ITS FALSE NEIGHBOUR: 'it returns false'. Refute it at one input. -/
def fnSumsWrong : ChangeSpec := { name := "fnSums", fn := fun _ => fun
  | [d] => { results := [.lit (.bool false)], args := [d] }
  | _ => none }
def FnSumsWrongFalsely : Prop := fnSumsRow.holds Try.pinned (OpenSpec.ofChange fnSumsWrong)

/-- 'laws.FnSumsFit': WHATEVER THE INPUT: true; the input reads as it did. -/
def fnSumsFitSpec : ChangeSpec := { name := "fnSumsFit", fn := fun _ => fun
  | [d] => { results := [.lit (.bool true)], args := [d] }
  | _ => none }
def fnSumsFitRow : OpenClaim := { program := "ytgifpanbjlkmeaa", sum := "947d16e50a823831dfc54dc88ae38f318137bf4b9b5e12a0840bf2549168b6d6", func := "loop.example/discretetomography/laws.FnSumsFit", spec := "fnSumsFit", unfollowed := true, recurses := true, apart := false }
def FnSumsFitSaid : Prop := fnSumsFitRow.holds Try.pinned (OpenSpec.ofChange fnSumsFitSpec)

/-- ITS FALSE NEIGHBOUR: 'it returns false'. Refute it at one input. -/
def fnSumsFitWrong : ChangeSpec := { name := "fnSumsFit", fn := fun _ => fun
  | [d] => { results := [.lit (.bool false)], args := [d] }
  | _ => none }
def FnSumsFitWrongFalsely : Prop := fnSumsFitRow.holds Try.pinned (OpenSpec.ofChange fnSumsFitWrong)

/-- 'laws.FnSumsFitSame': WHATEVER THE INPUT: true; the input reads as it did. -/
def fnSumsFitSameSpec : ChangeSpec := { name := "fnSumsFitSame", fn := fun _ => fun
  | [d] => { results := [.lit (.bool true)], args := [d] }
  | _ => none }
def fnSumsFitSameRow : OpenClaim := { program := "ytgifpanbjlkmeaa", sum := "947d16e50a823831dfc54dc88ae38f318137bf4b9b5e12a0840bf2549168b6d6", func := "loop.example/discretetomography/laws.FnSumsFitSame", spec := "fnSumsFitSame", unfollowed := true, recurses := true, apart := false }
def FnSumsFitSameSaid : Prop := fnSumsFitSameRow.holds Try.pinned (OpenSpec.ofChange fnSumsFitSameSpec)

/-- ITS FALSE NEIGHBOUR: 'it returns false'. Refute it at one input. -/
def fnSumsFitSameWrong : ChangeSpec := { name := "fnSumsFitSame", fn := fun _ => fun
  | [d] => { results := [.lit (.bool false)], args := [d] }
  | _ => none }
def FnSumsFitSameWrongFalsely : Prop := fnSumsFitSameRow.holds Try.pinned (OpenSpec.ofChange fnSumsFitSameWrong)

/-- 'laws.FnExactRowSums': WHATEVER THE INPUT: true; the input reads as it did. -/
def fnExactRowSumsSpec : ChangeSpec := { name := "fnExactRowSums", fn := fun _ => fun
  | [d] => { results := [.lit (.bool true)], args := [d] }
  | _ => none }
def fnExactRowSumsRow : OpenClaim := { program := "ytgifpanbjlkmeaa", sum := "947d16e50a823831dfc54dc88ae38f318137bf4b9b5e12a0840bf2549168b6d6", func := "loop.example/discretetomography/laws.FnExactRowSums", spec := "fnExactRowSums", unfollowed := true, recurses := true, apart := false }
def FnExactRowSumsSaid : Prop := fnExactRowSumsRow.holds Try.pinned (OpenSpec.ofChange fnExactRowSumsSpec)

/-- ITS FALSE NEIGHBOUR: 'it returns false'. Refute it at one input. -/
def fnExactRowSumsWrong : ChangeSpec := { name := "fnExactRowSums", fn := fun _ => fun
  | [d] => { results := [.lit (.bool false)], args := [d] }
  | _ => none }
def FnExactRowSumsWrongFalsely : Prop := fnExactRowSumsRow.holds Try.pinned (OpenSpec.ofChange fnExactRowSumsWrong)

/-- 'laws.FnExactColSums': WHATEVER THE INPUT: true; the input reads as it did. -/
def fnExactColSumsSpec : ChangeSpec := { name := "fnExactColSums", fn := fun _ => fun
  | [d] => { results := [.lit (.bool true)], args := [d] }
  | _ => none }
def fnExactColSumsRow : OpenClaim := { program := "ytgifpanbjlkmeaa", sum := "947d16e50a823831dfc54dc88ae38f318137bf4b9b5e12a0840bf2549168b6d6", func := "loop.example/discretetomography/laws.FnExactColSums", spec := "fnExactColSums", unfollowed := true, recurses := true, apart := false }
def FnExactColSumsSaid : Prop := fnExactColSumsRow.holds Try.pinned (OpenSpec.ofChange fnExactColSumsSpec)

/-- ITS FALSE NEIGHBOUR: 'it returns false'. Refute it at one input. -/
def fnExactColSumsWrong : ChangeSpec := { name := "fnExactColSums", fn := fun _ => fun
  | [d] => { results := [.lit (.bool false)], args := [d] }
  | _ => none }
def FnExactColSumsWrongFalsely : Prop := fnExactColSumsRow.holds Try.pinned (OpenSpec.ofChange fnExactColSumsWrong)

/-- 'laws.FnExactSumsValid': WHATEVER THE INPUT: true; the input reads as it did. -/
def fnExactSumsValidSpec : ChangeSpec := { name := "fnExactSumsValid", fn := fun _ => fun
  | [d1, d2] => { results := [.lit (.bool true)], args := [d1, d2] }
  | _ => none }
def fnExactSumsValidRow : OpenClaim := { program := "ytgifpanbjlkmeaa", sum := "947d16e50a823831dfc54dc88ae38f318137bf4b9b5e12a0840bf2549168b6d6", func := "loop.example/discretetomography/laws.FnExactSumsValid", spec := "fnExactSumsValid", apart := false }
def FnExactSumsValidSaid : Prop := fnExactSumsValidRow.holds Try.pinned (OpenSpec.ofChange fnExactSumsValidSpec)

/-- ITS FALSE NEIGHBOUR: 'it returns false'. Refute it at one input. -/
def fnExactSumsValidWrong : ChangeSpec := { name := "fnExactSumsValid", fn := fun _ => fun
  | [d1, d2] => { results := [.lit (.bool false)], args := [d1, d2] }
  | _ => none }
def FnExactSumsValidWrongFalsely : Prop := fnExactSumsValidRow.holds Try.pinned (OpenSpec.ofChange fnExactSumsValidWrong)

/-- 'laws.FnExactSumsFit': WHATEVER THE INPUT: true; the input reads as it did. -/
def fnExactSumsFitSpec : ChangeSpec := { name := "fnExactSumsFit", fn := fun _ => fun
  | [d1, d2, d3] => { results := [.lit (.bool true)], args := [d1, d2, d3] }
  | _ => none }
def fnExactSumsFitRow : OpenClaim := { program := "ytgifpanbjlkmeaa", sum := "947d16e50a823831dfc54dc88ae38f318137bf4b9b5e12a0840bf2549168b6d6", func := "loop.example/discretetomography/laws.FnExactSumsFit", spec := "fnExactSumsFit", unfollowed := true, recurses := true, apart := false }
def FnExactSumsFitSaid : Prop := fnExactSumsFitRow.holds Try.pinned (OpenSpec.ofChange fnExactSumsFitSpec)

/-- ITS FALSE NEIGHBOUR: 'it returns false'. Refute it at one input. -/
def fnExactSumsFitWrong : ChangeSpec := { name := "fnExactSumsFit", fn := fun _ => fun
  | [d1, d2, d3] => { results := [.lit (.bool false)], args := [d1, d2, d3] }
  | _ => none }
def FnExactSumsFitWrongFalsely : Prop := fnExactSumsFitRow.holds Try.pinned (OpenSpec.ofChange fnExactSumsFitWrong)

/-- 'laws.FnExactSumsSame': WHATEVER THE INPUT: true; the input reads as it did. -/
def fnExactSumsSameSpec : ChangeSpec := { name := "fnExactSumsSame", fn := fun _ => fun
  | [d1, d2] => { results := [.lit (.bool true)], args := [d1, d2] }
  | _ => none }
def fnExactSumsSameRow : OpenClaim := { program := "ytgifpanbjlkmeaa", sum := "947d16e50a823831dfc54dc88ae38f318137bf4b9b5e12a0840bf2549168b6d6", func := "loop.example/discretetomography/laws.FnExactSumsSame", spec := "fnExactSumsSame", unfollowed := true, recurses := true, apart := false }
def FnExactSumsSameSaid : Prop := fnExactSumsSameRow.holds Try.pinned (OpenSpec.ofChange fnExactSumsSameSpec)

/-- ITS FALSE NEIGHBOUR: 'it returns false'. Refute it at one input. -/
def fnExactSumsSameWrong : ChangeSpec := { name := "fnExactSumsSame", fn := fun _ => fun
  | [d1, d2] => { results := [.lit (.bool false)], args := [d1, d2] }
  | _ => none }
def FnExactSumsSameWrongFalsely : Prop := fnExactSumsSameRow.holds Try.pinned (OpenSpec.ofChange fnExactSumsSameWrong)

/-- 'laws.FnSumsSame': WHATEVER THE INPUT: true; the input reads as it did. -/
def fnSumsSameSpec : ChangeSpec := { name := "fnSumsSame", fn := fun _ => fun
  | [d] => { results := [.lit (.bool true)], args := [d] }
  | _ => none }
def fnSumsSameRow : OpenClaim := { program := "ytgifpanbjlkmeaa", sum := "947d16e50a823831dfc54dc88ae38f318137bf4b9b5e12a0840bf2549168b6d6", func := "loop.example/discretetomography/laws.FnSumsSame", spec := "fnSumsSame", unfollowed := true, recurses := true, apart := false }
def FnSumsSameSaid : Prop := fnSumsSameRow.holds Try.pinned (OpenSpec.ofChange fnSumsSameSpec)

/-- ITS FALSE NEIGHBOUR: 'it returns false'. Refute it at one input. -/
def fnSumsSameWrong : ChangeSpec := { name := "fnSumsSame", fn := fun _ => fun
  | [d] => { results := [.lit (.bool false)], args := [d] }
  | _ => none }
def FnSumsSameWrongFalsely : Prop := fnSumsSameRow.holds Try.pinned (OpenSpec.ofChange fnSumsSameWrong)

/-- 'laws.FnSumsSamePut': WHATEVER THE INPUT: true; the input reads as it did. -/
def fnSumsSamePutSpec : ChangeSpec := { name := "fnSumsSamePut", fn := fun _ => fun
  | [d1, d2] => { results := [.lit (.bool true)], args := [d1, d2] }
  | _ => none }
def fnSumsSamePutRow : OpenClaim := { program := "ytgifpanbjlkmeaa", sum := "947d16e50a823831dfc54dc88ae38f318137bf4b9b5e12a0840bf2549168b6d6", func := "loop.example/discretetomography/laws.FnSumsSamePut", spec := "fnSumsSamePut", unfollowed := true, recurses := true, apart := false }
def FnSumsSamePutSaid : Prop := fnSumsSamePutRow.holds Try.pinned (OpenSpec.ofChange fnSumsSamePutSpec)

/-- ITS FALSE NEIGHBOUR: 'it returns false'. Refute it at one input. -/
def fnSumsSamePutWrong : ChangeSpec := { name := "fnSumsSamePut", fn := fun _ => fun
  | [d1, d2] => { results := [.lit (.bool false)], args := [d1, d2] }
  | _ => none }
def FnSumsSamePutWrongFalsely : Prop := fnSumsSamePutRow.holds Try.pinned (OpenSpec.ofChange fnSumsSamePutWrong)

/-- 'laws.FnRowSumsPut': WHATEVER THE INPUT: true; the input reads as it did. -/
def fnRowSumsPutSpec : ChangeSpec := { name := "fnRowSumsPut", fn := fun _ => fun
  | [d1, d2] => { results := [.lit (.bool true)], args := [d1, d2] }
  | _ => none }
def fnRowSumsPutRow : OpenClaim := { program := "ytgifpanbjlkmeaa", sum := "947d16e50a823831dfc54dc88ae38f318137bf4b9b5e12a0840bf2549168b6d6", func := "loop.example/discretetomography/laws.FnRowSumsPut", spec := "fnRowSumsPut", unfollowed := true, recurses := true, apart := false }
def FnRowSumsPutSaid : Prop := fnRowSumsPutRow.holds Try.pinned (OpenSpec.ofChange fnRowSumsPutSpec)

/-- ITS FALSE NEIGHBOUR: 'it returns false'. Refute it at one input. -/
def fnRowSumsPutWrong : ChangeSpec := { name := "fnRowSumsPut", fn := fun _ => fun
  | [d1, d2] => { results := [.lit (.bool false)], args := [d1, d2] }
  | _ => none }
def FnRowSumsPutWrongFalsely : Prop := fnRowSumsPutRow.holds Try.pinned (OpenSpec.ofChange fnRowSumsPutWrong)

/- THE SECOND FORM. 'bulk': how many values and letters a reading holds, each counted each time it is reached (what is shared counts as often as it is met; a slice's spare places count too). A statement '..UptoSaid' is the law's where the arguments, and the package variables that the reading takes, are together of bulk at most 1048576: NARROWER than '..Said'. Prove '..Said' where nothing that the law and all that it calls make is longer than what came in: it says more and counts as full. Else prove '..UptoSaid'. A law counts once. -/
mutual
def uptoBulk {H : Type} : DataW H → Nat
  | .lit (.string bytes) => bytes.length + 1
  | .lit _ => 1
  | .nil => 1
  | .ptr d => uptoBulk d + 1
  | .slice elems spare => uptoBulkAll elems + uptoBulkAll spare + 1
  | .agg parts => uptoBulkAll parts + 1
  | .iface _ d => uptoBulk d + 1
  | .map entries => uptoBulkEntries entries + 1
  | .held _ => 1
def uptoBulkAll {H : Type} : List (DataW H) → Nat
  | [] => 0
  | d :: r => uptoBulk d + uptoBulkAll r
def uptoBulkEntries {H : Type} : List (Lit × DataW H) → Nat
  | [] => 0
  | x :: r => uptoBulkEntry x + uptoBulkEntries r
def uptoBulkEntry {H : Type} : Lit × DataW H → Nat
  | (.string bytes, d) => bytes.length + uptoBulk d + 1
  | (_, d) => uptoBulk d + 1
 end
def uptoSmall : (H : Type) → List (DataW H) → Bool := fun _ ds => decide (uptoBulkAll ds ≤ 1048576)
def OpenSpec.upto (s : _root_.Go.ChangeSpec) : _root_.Go.OpenSpec := { _root_.Go.OpenSpec.ofChange s with cond := some uptoSmall }

/-- 'laws.FnRowSums', WHERE WHAT IT READS IS OF BULK AT MOST 1048576: true; the input reads as it did. -/
def fnRowSumsUptoRow : OpenClaim := { program := "ytgifpanbjlkmeaa", sum := "947d16e50a823831dfc54dc88ae38f318137bf4b9b5e12a0840bf2549168b6d6", func := "loop.example/discretetomography/laws.FnRowSums", spec := "fnRowSums", unfollowed := true, recurses := true, apart := false, narrowed := true }
def FnRowSumsUptoSaid : Prop := fnRowSumsUptoRow.holds Try.pinned (OpenSpec.upto fnRowSumsSpec)

/-- 'laws.FnRowSumsTurn', WHERE WHAT IT READS IS OF BULK AT MOST 1048576: true; the input reads as it did. -/
def fnRowSumsTurnUptoRow : OpenClaim := { program := "ytgifpanbjlkmeaa", sum := "947d16e50a823831dfc54dc88ae38f318137bf4b9b5e12a0840bf2549168b6d6", func := "loop.example/discretetomography/laws.FnRowSumsTurn", spec := "fnRowSumsTurn", unfollowed := true, recurses := true, apart := false, narrowed := true }
def FnRowSumsTurnUptoSaid : Prop := fnRowSumsTurnUptoRow.holds Try.pinned (OpenSpec.upto fnRowSumsTurnSpec)

/-- 'laws.FnColSums', WHERE WHAT IT READS IS OF BULK AT MOST 1048576: true; the input reads as it did. -/
def fnColSumsUptoRow : OpenClaim := { program := "ytgifpanbjlkmeaa", sum := "947d16e50a823831dfc54dc88ae38f318137bf4b9b5e12a0840bf2549168b6d6", func := "loop.example/discretetomography/laws.FnColSums", spec := "fnColSums", unfollowed := true, recurses := true, apart := false, narrowed := true }
def FnColSumsUptoSaid : Prop := fnColSumsUptoRow.holds Try.pinned (OpenSpec.upto fnColSumsSpec)

/-- 'laws.FnColSumsMirror', WHERE WHAT IT READS IS OF BULK AT MOST 1048576: true; the input reads as it did. -/
def fnColSumsMirrorUptoRow : OpenClaim := { program := "ytgifpanbjlkmeaa", sum := "947d16e50a823831dfc54dc88ae38f318137bf4b9b5e12a0840bf2549168b6d6", func := "loop.example/discretetomography/laws.FnColSumsMirror", spec := "fnColSumsMirror", unfollowed := true, recurses := true, apart := false, narrowed := true }
def FnColSumsMirrorUptoSaid : Prop := fnColSumsMirrorUptoRow.holds Try.pinned (OpenSpec.upto fnColSumsMirrorSpec)

/-- 'laws.FnSums', WHERE WHAT IT READS IS OF BULK AT MOST 1048576: true; the input reads as it did. -/
def fnSumsUptoRow : OpenClaim := { program := "ytgifpanbjlkmeaa", sum := "947d16e50a823831dfc54dc88ae38f318137bf4b9b5e12a0840bf2549168b6d6", func := "loop.example/discretetomography/laws.FnSums", spec := "fnSums", apart := false, narrowed := true }
def FnSumsUptoSaid : Prop := fnSumsUptoRow.holds Try.pinned (OpenSpec.upto fnSumsSpec)

/-- 'laws.FnSumsFit', WHERE WHAT IT READS IS OF BULK AT MOST 1048576: true; the input reads as it did. -/
def fnSumsFitUptoRow : OpenClaim := { program := "ytgifpanbjlkmeaa", sum := "947d16e50a823831dfc54dc88ae38f318137bf4b9b5e12a0840bf2549168b6d6", func := "loop.example/discretetomography/laws.FnSumsFit", spec := "fnSumsFit", unfollowed := true, recurses := true, apart := false, narrowed := true }
def FnSumsFitUptoSaid : Prop := fnSumsFitUptoRow.holds Try.pinned (OpenSpec.upto fnSumsFitSpec)

/-- 'laws.FnSumsFitSame', WHERE WHAT IT READS IS OF BULK AT MOST 1048576: true; the input reads as it did. -/
def fnSumsFitSameUptoRow : OpenClaim := { program := "ytgifpanbjlkmeaa", sum := "947d16e50a823831dfc54dc88ae38f318137bf4b9b5e12a0840bf2549168b6d6", func := "loop.example/discretetomography/laws.FnSumsFitSame", spec := "fnSumsFitSame", unfollowed := true, recurses := true, apart := false, narrowed := true }
def FnSumsFitSameUptoSaid : Prop := fnSumsFitSameUptoRow.holds Try.pinned (OpenSpec.upto fnSumsFitSameSpec)

/-- 'laws.FnExactRowSums', WHERE WHAT IT READS IS OF BULK AT MOST 1048576: true; the input reads as it did. -/
def fnExactRowSumsUptoRow : OpenClaim := { program := "ytgifpanbjlkmeaa", sum := "947d16e50a823831dfc54dc88ae38f318137bf4b9b5e12a0840bf2549168b6d6", func := "loop.example/discretetomography/laws.FnExactRowSums", spec := "fnExactRowSums", unfollowed := true, recurses := true, apart := false, narrowed := true }
def FnExactRowSumsUptoSaid : Prop := fnExactRowSumsUptoRow.holds Try.pinned (OpenSpec.upto fnExactRowSumsSpec)

/-- 'laws.FnExactColSums', WHERE WHAT IT READS IS OF BULK AT MOST 1048576: true; the input reads as it did. -/
def fnExactColSumsUptoRow : OpenClaim := { program := "ytgifpanbjlkmeaa", sum := "947d16e50a823831dfc54dc88ae38f318137bf4b9b5e12a0840bf2549168b6d6", func := "loop.example/discretetomography/laws.FnExactColSums", spec := "fnExactColSums", unfollowed := true, recurses := true, apart := false, narrowed := true }
def FnExactColSumsUptoSaid : Prop := fnExactColSumsUptoRow.holds Try.pinned (OpenSpec.upto fnExactColSumsSpec)

/-- 'laws.FnExactSumsValid', WHERE WHAT IT READS IS OF BULK AT MOST 1048576: true; the input reads as it did. -/
def fnExactSumsValidUptoRow : OpenClaim := { program := "ytgifpanbjlkmeaa", sum := "947d16e50a823831dfc54dc88ae38f318137bf4b9b5e12a0840bf2549168b6d6", func := "loop.example/discretetomography/laws.FnExactSumsValid", spec := "fnExactSumsValid", apart := false, narrowed := true }
def FnExactSumsValidUptoSaid : Prop := fnExactSumsValidUptoRow.holds Try.pinned (OpenSpec.upto fnExactSumsValidSpec)

/-- 'laws.FnExactSumsFit', WHERE WHAT IT READS IS OF BULK AT MOST 1048576: true; the input reads as it did. -/
def fnExactSumsFitUptoRow : OpenClaim := { program := "ytgifpanbjlkmeaa", sum := "947d16e50a823831dfc54dc88ae38f318137bf4b9b5e12a0840bf2549168b6d6", func := "loop.example/discretetomography/laws.FnExactSumsFit", spec := "fnExactSumsFit", unfollowed := true, recurses := true, apart := false, narrowed := true }
def FnExactSumsFitUptoSaid : Prop := fnExactSumsFitUptoRow.holds Try.pinned (OpenSpec.upto fnExactSumsFitSpec)

/-- 'laws.FnExactSumsSame', WHERE WHAT IT READS IS OF BULK AT MOST 1048576: true; the input reads as it did. -/
def fnExactSumsSameUptoRow : OpenClaim := { program := "ytgifpanbjlkmeaa", sum := "947d16e50a823831dfc54dc88ae38f318137bf4b9b5e12a0840bf2549168b6d6", func := "loop.example/discretetomography/laws.FnExactSumsSame", spec := "fnExactSumsSame", unfollowed := true, recurses := true, apart := false, narrowed := true }
def FnExactSumsSameUptoSaid : Prop := fnExactSumsSameUptoRow.holds Try.pinned (OpenSpec.upto fnExactSumsSameSpec)

/-- 'laws.FnSumsSame', WHERE WHAT IT READS IS OF BULK AT MOST 1048576: true; the input reads as it did. -/
def fnSumsSameUptoRow : OpenClaim := { program := "ytgifpanbjlkmeaa", sum := "947d16e50a823831dfc54dc88ae38f318137bf4b9b5e12a0840bf2549168b6d6", func := "loop.example/discretetomography/laws.FnSumsSame", spec := "fnSumsSame", unfollowed := true, recurses := true, apart := false, narrowed := true }
def FnSumsSameUptoSaid : Prop := fnSumsSameUptoRow.holds Try.pinned (OpenSpec.upto fnSumsSameSpec)

/-- 'laws.FnSumsSamePut', WHERE WHAT IT READS IS OF BULK AT MOST 1048576: true; the input reads as it did. -/
def fnSumsSamePutUptoRow : OpenClaim := { program := "ytgifpanbjlkmeaa", sum := "947d16e50a823831dfc54dc88ae38f318137bf4b9b5e12a0840bf2549168b6d6", func := "loop.example/discretetomography/laws.FnSumsSamePut", spec := "fnSumsSamePut", unfollowed := true, recurses := true, apart := false, narrowed := true }
def FnSumsSamePutUptoSaid : Prop := fnSumsSamePutUptoRow.holds Try.pinned (OpenSpec.upto fnSumsSamePutSpec)

/-- 'laws.FnRowSumsPut', WHERE WHAT IT READS IS OF BULK AT MOST 1048576: true; the input reads as it did. -/
def fnRowSumsPutUptoRow : OpenClaim := { program := "ytgifpanbjlkmeaa", sum := "947d16e50a823831dfc54dc88ae38f318137bf4b9b5e12a0840bf2549168b6d6", func := "loop.example/discretetomography/laws.FnRowSumsPut", spec := "fnRowSumsPut", unfollowed := true, recurses := true, apart := false, narrowed := true }
def FnRowSumsPutUptoSaid : Prop := fnRowSumsPutUptoRow.holds Try.pinned (OpenSpec.upto fnRowSumsPutSpec)

end Rows
end Go.Proofs.Ytgifpanbjlkmeaa
