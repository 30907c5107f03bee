/-
  No cell of these rows narrows 'for every input' (looked for: loops, veiled, ifaces, maps, wideKeys, modest, calm, conditions, laid).
  DERIVED. THE GIVEN ROWS OF THIS SEAT. 19 by the template 'for every input the law returns true; each argument reads behind the call as it read before'; 0 by the template 'total and deterministic' (their statements: YtgamkmkpmcenpaaTotals.lean).
  GIVEN WITH THE SEED: the statements are not yours to turn. If you find one false, say at which input.
  Laid BY PROGRAM, IN A SANDBOX (cutbox-rows.mjs): the forced cells as the released guide's own fill.sh prints them over the translation 2af14e289eac0551… (all of the seat's roots in one cut). By AI agents, Wed Nov 11 2026. No macro, syntax, notation, axiom, sorry.
-/
import Derived.Test.YtgamkmkpmcenpaaChecked
import GoSem.Claim
import GoSem.ClaimJoined
import GoSem.ClaimMapViews
import Derived.JoinedTies
import Derived.KernelRfl
namespace Go.Proofs.Ytgamkmkpmcenpaa
/- THE CELL 'sum', in the pinned program and in every row, IS THE sha256 OF THE DUMP (.gsa) THAT YtgamkmkpmcenpaaProg.lean LOADS. Nothing in Lean hashes anything: it is a label: what it is worth is what the hold of that sum in a sandbox is worth. -/
noncomputable def Try.pinned : Pinned := { name := "ytgamkmkpmcenpaa", sum := "2af14e289eac0551b6ae690a5323b131e2e26c4bb9af5ec0fc631e88ac4d6b74", checked := Try.checked }
namespace Rows
def none {H : Type} : Left H := { results := [], args := [] }

/-- 'laws.FnDistance': WHATEVER THE INPUT: true; the input reads as it did. -/
def fnDistanceSpec : ChangeSpec := { name := "fnDistance", fn := fun _ => fun
  | [d] => { results := [.lit (.bool true)], args := [d] }
  | _ => none }
def fnDistanceRow : OpenClaim := { program := "ytgamkmkpmcenpaa", sum := "2af14e289eac0551b6ae690a5323b131e2e26c4bb9af5ec0fc631e88ac4d6b74", func := "loop.example/discretetomography/laws.FnDistance", spec := "fnDistance", apart := false }
def FnDistanceSaid : Prop := fnDistanceRow.holds Try.pinned (OpenSpec.ofChange fnDistanceSpec)

/-- ITS FALSE NEIGHBOUR: 'it returns false'. Refute it at one input. -/
def fnDistanceWrong : ChangeSpec := { name := "fnDistance", fn := fun _ => fun
  | [d] => { results := [.lit (.bool false)], args := [d] }
  | _ => none }
def FnDistanceWrongFalsely : Prop := fnDistanceRow.holds Try.pinned (OpenSpec.ofChange fnDistanceWrong)

/-- 'laws.FnDistanceOther': WHATEVER THE INPUT: true; the input reads as it did. -/
def fnDistanceOtherSpec : ChangeSpec := { name := "fnDistanceOther", fn := fun _ => fun
  | [d1, d2] => { results := [.lit (.bool true)], args := [d1, d2] }
  | _ => none }
def fnDistanceOtherRow : OpenClaim := { program := "ytgamkmkpmcenpaa", sum := "2af14e289eac0551b6ae690a5323b131e2e26c4bb9af5ec0fc631e88ac4d6b74", func := "loop.example/discretetomography/laws.FnDistanceOther", spec := "fnDistanceOther", apart := false }
def FnDistanceOtherSaid : Prop := fnDistanceOtherRow.holds Try.pinned (OpenSpec.ofChange fnDistanceOtherSpec)

/-- ITS FALSE NEIGHBOUR: 'it returns false'. Refute it at one input. -/
def fnDistanceOtherWrong : ChangeSpec := { name := "fnDistanceOther", fn := fun _ => fun
  | [d1, d2] => { results := [.lit (.bool false)], args := [d1, d2] }
  | _ => none }
def FnDistanceOtherWrongFalsely : Prop := fnDistanceOtherRow.holds Try.pinned (OpenSpec.ofChange fnDistanceOtherWrong)

/-- 'laws.FnDistanceSame': WHATEVER THE INPUT: true; the input reads as it did. -/
def fnDistanceSameSpec : ChangeSpec := { name := "fnDistanceSame", fn := fun _ => fun
  | [d] => { results := [.lit (.bool true)], args := [d] }
  | _ => none }
def fnDistanceSameRow : OpenClaim := { program := "ytgamkmkpmcenpaa", sum := "2af14e289eac0551b6ae690a5323b131e2e26c4bb9af5ec0fc631e88ac4d6b74", func := "loop.example/discretetomography/laws.FnDistanceSame", spec := "fnDistanceSame", unfollowed := true, recurses := true, apart := false }
def FnDistanceSameSaid : Prop := fnDistanceSameRow.holds Try.pinned (OpenSpec.ofChange fnDistanceSameSpec)

/-- ITS FALSE NEIGHBOUR: 'it returns false'. Refute it at one input. -/
def fnDistanceSameWrong : ChangeSpec := { name := "fnDistanceSame", fn := fun _ => fun
  | [d] => { results := [.lit (.bool false)], args := [d] }
  | _ => none }
def FnDistanceSameWrongFalsely : Prop := fnDistanceSameRow.holds Try.pinned (OpenSpec.ofChange fnDistanceSameWrong)

/-- 'laws.FnToward': WHATEVER THE INPUT: true; the input reads as it did. -/
def fnTowardSpec : ChangeSpec := { name := "fnToward", fn := fun _ => fun
  | [d] => { results := [.lit (.bool true)], args := [d] }
  | _ => none }
def fnTowardRow : OpenClaim := { program := "ytgamkmkpmcenpaa", sum := "2af14e289eac0551b6ae690a5323b131e2e26c4bb9af5ec0fc631e88ac4d6b74", func := "loop.example/discretetomography/laws.FnToward", spec := "fnToward", unfollowed := true, recurses := true, apart := false }
def FnTowardSaid : Prop := fnTowardRow.holds Try.pinned (OpenSpec.ofChange fnTowardSpec)

/-- ITS FALSE NEIGHBOUR: 'it returns false'. Refute it at one input. -/
def fnTowardWrong : ChangeSpec := { name := "fnToward", fn := fun _ => fun
  | [d] => { results := [.lit (.bool false)], args := [d] }
  | _ => none }
def FnTowardWrongFalsely : Prop := fnTowardRow.holds Try.pinned (OpenSpec.ofChange fnTowardWrong)

/-- 'laws.FnTowardFirst': WHATEVER THE INPUT: true; the input reads as it did. -/
def fnTowardFirstSpec : ChangeSpec := { name := "fnTowardFirst", fn := fun _ => fun
  | [d] => { results := [.lit (.bool true)], args := [d] }
  | _ => none }
def fnTowardFirstRow : OpenClaim := { program := "ytgamkmkpmcenpaa", sum := "2af14e289eac0551b6ae690a5323b131e2e26c4bb9af5ec0fc631e88ac4d6b74", func := "loop.example/discretetomography/laws.FnTowardFirst", spec := "fnTowardFirst", unfollowed := true, recurses := true, apart := false }
def FnTowardFirstSaid : Prop := fnTowardFirstRow.holds Try.pinned (OpenSpec.ofChange fnTowardFirstSpec)

/-- ITS FALSE NEIGHBOUR: 'it returns false'. Refute it at one input. -/
def fnTowardFirstWrong : ChangeSpec := { name := "fnTowardFirst", fn := fun _ => fun
  | [d] => { results := [.lit (.bool false)], args := [d] }
  | _ => none }
def FnTowardFirstWrongFalsely : Prop := fnTowardFirstRow.holds Try.pinned (OpenSpec.ofChange fnTowardFirstWrong)

/-- 'laws.FnTowardEither': WHATEVER THE INPUT: true; the input reads as it did. -/
def fnTowardEitherSpec : ChangeSpec := { name := "fnTowardEither", fn := fun _ => fun
  | [d] => { results := [.lit (.bool true)], args := [d] }
  | _ => none }
def fnTowardEitherRow : OpenClaim := { program := "ytgamkmkpmcenpaa", sum := "2af14e289eac0551b6ae690a5323b131e2e26c4bb9af5ec0fc631e88ac4d6b74", func := "loop.example/discretetomography/laws.FnTowardEither", spec := "fnTowardEither", unfollowed := true, recurses := true, apart := false }
def FnTowardEitherSaid : Prop := fnTowardEitherRow.holds Try.pinned (OpenSpec.ofChange fnTowardEitherSpec)

/-- ITS FALSE NEIGHBOUR: 'it returns false'. Refute it at one input. -/
def fnTowardEitherWrong : ChangeSpec := { name := "fnTowardEither", fn := fun _ => fun
  | [d] => { results := [.lit (.bool false)], args := [d] }
  | _ => none }
def FnTowardEitherWrongFalsely : Prop := fnTowardEitherRow.holds Try.pinned (OpenSpec.ofChange fnTowardEitherWrong)

/-- 'laws.FnPath': WHATEVER THE INPUT: true; the input reads as it did. -/
def fnPathSpec : ChangeSpec := { name := "fnPath", fn := fun _ => fun
  | [d] => { results := [.lit (.bool true)], args := [d] }
  | _ => none }
def fnPathRow : OpenClaim := { program := "ytgamkmkpmcenpaa", sum := "2af14e289eac0551b6ae690a5323b131e2e26c4bb9af5ec0fc631e88ac4d6b74", func := "loop.example/discretetomography/laws.FnPath", spec := "fnPath", unfollowed := true, recurses := true, apart := false }
def FnPathSaid : Prop := fnPathRow.holds Try.pinned (OpenSpec.ofChange fnPathSpec)

/-- ITS FALSE NEIGHBOUR: 'it returns false'. Refute it at one input. -/
def fnPathWrong : ChangeSpec := { name := "fnPath", fn := fun _ => fun
  | [d] => { results := [.lit (.bool false)], args := [d] }
  | _ => none }
def FnPathWrongFalsely : Prop := fnPathRow.holds Try.pinned (OpenSpec.ofChange fnPathWrong)

/-- 'laws.FnPathShort': WHATEVER THE INPUT: true; the input reads as it did. -/
def fnPathShortSpec : ChangeSpec := { name := "fnPathShort", fn := fun _ => fun
  | [d] => { results := [.lit (.bool true)], args := [d] }
  | _ => none }
def fnPathShortRow : OpenClaim := { program := "ytgamkmkpmcenpaa", sum := "2af14e289eac0551b6ae690a5323b131e2e26c4bb9af5ec0fc631e88ac4d6b74", func := "loop.example/discretetomography/laws.FnPathShort", spec := "fnPathShort", unfollowed := true, recurses := true, apart := false }
def FnPathShortSaid : Prop := fnPathShortRow.holds Try.pinned (OpenSpec.ofChange fnPathShortSpec)

/-- ITS FALSE NEIGHBOUR: 'it returns false'. Refute it at one input. -/
def fnPathShortWrong : ChangeSpec := { name := "fnPathShort", fn := fun _ => fun
  | [d] => { results := [.lit (.bool false)], args := [d] }
  | _ => none }
def FnPathShortWrongFalsely : Prop := fnPathShortRow.holds Try.pinned (OpenSpec.ofChange fnPathShortWrong)

/-- 'laws.FnPathIff': WHATEVER THE INPUT: true; the input reads as it did. -/
def fnPathIffSpec : ChangeSpec := { name := "fnPathIff", fn := fun _ => fun
  | [d] => { results := [.lit (.bool true)], args := [d] }
  | _ => none }
def fnPathIffRow : OpenClaim := { program := "ytgamkmkpmcenpaa", sum := "2af14e289eac0551b6ae690a5323b131e2e26c4bb9af5ec0fc631e88ac4d6b74", func := "loop.example/discretetomography/laws.FnPathIff", spec := "fnPathIff", unfollowed := true, recurses := true, apart := false }
def FnPathIffSaid : Prop := fnPathIffRow.holds Try.pinned (OpenSpec.ofChange fnPathIffSpec)

/-- ITS FALSE NEIGHBOUR: 'it returns false'. Refute it at one input. -/
def fnPathIffWrong : ChangeSpec := { name := "fnPathIff", fn := fun _ => fun
  | [d] => { results := [.lit (.bool false)], args := [d] }
  | _ => none }
def FnPathIffWrongFalsely : Prop := fnPathIffRow.holds Try.pinned (OpenSpec.ofChange fnPathIffWrong)

/-- 'laws.FnPathBack': WHATEVER THE INPUT: true; the input reads as it did. -/
def fnPathBackSpec : ChangeSpec := { name := "fnPathBack", fn := fun _ => fun
  | [d] => { results := [.lit (.bool true)], args := [d] }
  | _ => none }
def fnPathBackRow : OpenClaim := { program := "ytgamkmkpmcenpaa", sum := "2af14e289eac0551b6ae690a5323b131e2e26c4bb9af5ec0fc631e88ac4d6b74", func := "loop.example/discretetomography/laws.FnPathBack", spec := "fnPathBack", unfollowed := true, recurses := true, apart := false }
def FnPathBackSaid : Prop := fnPathBackRow.holds Try.pinned (OpenSpec.ofChange fnPathBackSpec)

/-- ITS FALSE NEIGHBOUR: 'it returns false'. Refute it at one input. -/
def fnPathBackWrong : ChangeSpec := { name := "fnPathBack", fn := fun _ => fun
  | [d] => { results := [.lit (.bool false)], args := [d] }
  | _ => none }
def FnPathBackWrongFalsely : Prop := fnPathBackRow.holds Try.pinned (OpenSpec.ofChange fnPathBackWrong)

/-- 'laws.FnRun': WHATEVER THE INPUT: true; the input reads as it did. -/
def fnRunSpec : ChangeSpec := { name := "fnRun", fn := fun _ => fun
  | [d1, d2] => { results := [.lit (.bool true)], args := [d1, d2] }
  | _ => none }
def fnRunRow : OpenClaim := { program := "ytgamkmkpmcenpaa", sum := "2af14e289eac0551b6ae690a5323b131e2e26c4bb9af5ec0fc631e88ac4d6b74", func := "loop.example/discretetomography/laws.FnRun", spec := "fnRun", unfollowed := true, recurses := true, apart := false }
def FnRunSaid : Prop := fnRunRow.holds Try.pinned (OpenSpec.ofChange fnRunSpec)

/-- ITS FALSE NEIGHBOUR: 'it returns false'. Refute it at one input. -/
def fnRunWrong : ChangeSpec := { name := "fnRun", fn := fun _ => fun
  | [d1, d2] => { results := [.lit (.bool false)], args := [d1, d2] }
  | _ => none }
def FnRunWrongFalsely : Prop := fnRunRow.holds Try.pinned (OpenSpec.ofChange fnRunWrong)

/-- 'laws.FnRunFar': WHATEVER THE INPUT: true; the input reads as it did. -/
def fnRunFarSpec : ChangeSpec := { name := "fnRunFar", fn := fun _ => fun
  | [d] => { results := [.lit (.bool true)], args := [d] }
  | _ => none }
def fnRunFarRow : OpenClaim := { program := "ytgamkmkpmcenpaa", sum := "2af14e289eac0551b6ae690a5323b131e2e26c4bb9af5ec0fc631e88ac4d6b74", func := "loop.example/discretetomography/laws.FnRunFar", spec := "fnRunFar", apart := false }
def FnRunFarSaid : Prop := fnRunFarRow.holds Try.pinned (OpenSpec.ofChange fnRunFarSpec)

/-- ITS FALSE NEIGHBOUR: 'it returns false'. Refute it at one input. -/
def fnRunFarWrong : ChangeSpec := { name := "fnRunFar", fn := fun _ => fun
  | [d] => { results := [.lit (.bool false)], args := [d] }
  | _ => none }
def FnRunFarWrongFalsely : Prop := fnRunFarRow.holds Try.pinned (OpenSpec.ofChange fnRunFarWrong)

/-- 'laws.FnDistanceThree': WHATEVER THE INPUT: true; the input reads as it did. -/
def fnDistanceThreeSpec : ChangeSpec := { name := "fnDistanceThree", fn := fun _ => fun
  | [d1, d2] => { results := [.lit (.bool true)], args := [d1, d2] }
  | _ => none }
def fnDistanceThreeRow : OpenClaim := { program := "ytgamkmkpmcenpaa", sum := "2af14e289eac0551b6ae690a5323b131e2e26c4bb9af5ec0fc631e88ac4d6b74", func := "loop.example/discretetomography/laws.FnDistanceThree", spec := "fnDistanceThree", apart := false }
def FnDistanceThreeSaid : Prop := fnDistanceThreeRow.holds Try.pinned (OpenSpec.ofChange fnDistanceThreeSpec)

/-- ITS FALSE NEIGHBOUR: 'it returns false'. Refute it at one input. -/
def fnDistanceThreeWrong : ChangeSpec := { name := "fnDistanceThree", fn := fun _ => fun
  | [d1, d2] => { results := [.lit (.bool false)], args := [d1, d2] }
  | _ => none }
def FnDistanceThreeWrongFalsely : Prop := fnDistanceThreeRow.holds Try.pinned (OpenSpec.ofChange fnDistanceThreeWrong)

/-- 'laws.FnPathTurn': WHATEVER THE INPUT: true; the input reads as it did. -/
def fnPathTurnSpec : ChangeSpec := { name := "fnPathTurn", fn := fun _ => fun
  | [d] => { results := [.lit (.bool true)], args := [d] }
  | _ => none }
def fnPathTurnRow : OpenClaim := { program := "ytgamkmkpmcenpaa", sum := "2af14e289eac0551b6ae690a5323b131e2e26c4bb9af5ec0fc631e88ac4d6b74", func := "loop.example/discretetomography/laws.FnPathTurn", spec := "fnPathTurn", unfollowed := true, recurses := true, apart := false }
def FnPathTurnSaid : Prop := fnPathTurnRow.holds Try.pinned (OpenSpec.ofChange fnPathTurnSpec)

/-- ITS FALSE NEIGHBOUR: 'it returns false'. Refute it at one input. -/
def fnPathTurnWrong : ChangeSpec := { name := "fnPathTurn", fn := fun _ => fun
  | [d] => { results := [.lit (.bool false)], args := [d] }
  | _ => none }
def FnPathTurnWrongFalsely : Prop := fnPathTurnRow.holds Try.pinned (OpenSpec.ofChange fnPathTurnWrong)

/-- 'laws.FnPathOther': WHATEVER THE INPUT: true; the input reads as it did. -/
def fnPathOtherSpec : ChangeSpec := { name := "fnPathOther", fn := fun _ => fun
  | [d] => { results := [.lit (.bool true)], args := [d] }
  | _ => none }
def fnPathOtherRow : OpenClaim := { program := "ytgamkmkpmcenpaa", sum := "2af14e289eac0551b6ae690a5323b131e2e26c4bb9af5ec0fc631e88ac4d6b74", func := "loop.example/discretetomography/laws.FnPathOther", spec := "fnPathOther", unfollowed := true, recurses := true, apart := false }
def FnPathOtherSaid : Prop := fnPathOtherRow.holds Try.pinned (OpenSpec.ofChange fnPathOtherSpec)

/-- ITS FALSE NEIGHBOUR: 'it returns false'. Refute it at one input. -/
def fnPathOtherWrong : ChangeSpec := { name := "fnPathOther", fn := fun _ => fun
  | [d] => { results := [.lit (.bool false)], args := [d] }
  | _ => none }
def FnPathOtherWrongFalsely : Prop := fnPathOtherRow.holds Try.pinned (OpenSpec.ofChange fnPathOtherWrong)

/-- 'laws.FnRunJoin': WHATEVER THE INPUT: true; the input reads as it did. -/
def fnRunJoinSpec : ChangeSpec := { name := "fnRunJoin", fn := fun _ => fun
  | [d] => { results := [.lit (.bool true)], args := [d] }
  | _ => none }
def fnRunJoinRow : OpenClaim := { program := "ytgamkmkpmcenpaa", sum := "2af14e289eac0551b6ae690a5323b131e2e26c4bb9af5ec0fc631e88ac4d6b74", func := "loop.example/discretetomography/laws.FnRunJoin", spec := "fnRunJoin", apart := false }
def FnRunJoinSaid : Prop := fnRunJoinRow.holds Try.pinned (OpenSpec.ofChange fnRunJoinSpec)

/-- ITS FALSE NEIGHBOUR: 'it returns false'. Refute it at one input. -/
def fnRunJoinWrong : ChangeSpec := { name := "fnRunJoin", fn := fun _ => fun
  | [d] => { results := [.lit (.bool false)], args := [d] }
  | _ => none }
def FnRunJoinWrongFalsely : Prop := fnRunJoinRow.holds Try.pinned (OpenSpec.ofChange fnRunJoinWrong)

/-- 'laws.FnExactImageDistance': WHATEVER THE INPUT: true; the input reads as it did. -/
def fnExactImageDistanceSpec : ChangeSpec := { name := "fnExactImageDistance", fn := fun _ => fun
  | [d1, d2] => { results := [.lit (.bool true)], args := [d1, d2] }
  | _ => none }
def fnExactImageDistanceRow : OpenClaim := { program := "ytgamkmkpmcenpaa", sum := "2af14e289eac0551b6ae690a5323b131e2e26c4bb9af5ec0fc631e88ac4d6b74", func := "loop.example/discretetomography/laws.FnExactImageDistance", spec := "fnExactImageDistance", apart := false }
def FnExactImageDistanceSaid : Prop := fnExactImageDistanceRow.holds Try.pinned (OpenSpec.ofChange fnExactImageDistanceSpec)

/-- ITS FALSE NEIGHBOUR: 'it returns false'. Refute it at one input. -/
def fnExactImageDistanceWrong : ChangeSpec := { name := "fnExactImageDistance", fn := fun _ => fun
  | [d1, d2] => { results := [.lit (.bool false)], args := [d1, d2] }
  | _ => none }
def FnExactImageDistanceWrongFalsely : Prop := fnExactImageDistanceRow.holds Try.pinned (OpenSpec.ofChange fnExactImageDistanceWrong)

/-- 'laws.FnExactSwitchToward': WHATEVER THE INPUT: true; the input reads as it did. -/
def fnExactSwitchTowardSpec : ChangeSpec := { name := "fnExactSwitchToward", fn := fun _ => fun
  | [d1, d2] => { results := [.lit (.bool true)], args := [d1, d2] }
  | _ => none }
def fnExactSwitchTowardRow : OpenClaim := { program := "ytgamkmkpmcenpaa", sum := "2af14e289eac0551b6ae690a5323b131e2e26c4bb9af5ec0fc631e88ac4d6b74", func := "loop.example/discretetomography/laws.FnExactSwitchToward", spec := "fnExactSwitchToward", unfollowed := true, recurses := true, apart := false }
def FnExactSwitchTowardSaid : Prop := fnExactSwitchTowardRow.holds Try.pinned (OpenSpec.ofChange fnExactSwitchTowardSpec)

/-- ITS FALSE NEIGHBOUR: 'it returns false'. Refute it at one input. -/
def fnExactSwitchTowardWrong : ChangeSpec := { name := "fnExactSwitchToward", fn := fun _ => fun
  | [d1, d2] => { results := [.lit (.bool false)], args := [d1, d2] }
  | _ => none }
def FnExactSwitchTowardWrongFalsely : Prop := fnExactSwitchTowardRow.holds Try.pinned (OpenSpec.ofChange fnExactSwitchTowardWrong)

/-- 'laws.FnExactSwitchPath': WHATEVER THE INPUT: true; the input reads as it did. -/
def fnExactSwitchPathSpec : ChangeSpec := { name := "fnExactSwitchPath", fn := fun _ => fun
  | [d1, d2] => { results := [.lit (.bool true)], args := [d1, d2] }
  | _ => none }
def fnExactSwitchPathRow : OpenClaim := { program := "ytgamkmkpmcenpaa", sum := "2af14e289eac0551b6ae690a5323b131e2e26c4bb9af5ec0fc631e88ac4d6b74", func := "loop.example/discretetomography/laws.FnExactSwitchPath", spec := "fnExactSwitchPath", unfollowed := true, recurses := true, apart := false }
def FnExactSwitchPathSaid : Prop := fnExactSwitchPathRow.holds Try.pinned (OpenSpec.ofChange fnExactSwitchPathSpec)

/-- ITS FALSE NEIGHBOUR: 'it returns false'. Refute it at one input. -/
def fnExactSwitchPathWrong : ChangeSpec := { name := "fnExactSwitchPath", fn := fun _ => fun
  | [d1, d2] => { results := [.lit (.bool false)], args := [d1, d2] }
  | _ => none }
def FnExactSwitchPathWrongFalsely : Prop := fnExactSwitchPathRow.holds Try.pinned (OpenSpec.ofChange fnExactSwitchPathWrong)

/- THE SECOND FORM. 'bulk': how many values and letters a reading holds, each counted each time it is reached (what is shared counts as often as it is met; a slice's spare places count too). A statement '..UptoSaid' is the law's where the arguments, and the package variables that the reading takes, are together of bulk at most 1048576: NARROWER than '..Said'. Prove '..Said' where nothing that the law and all that it calls make is longer than what came in: it says more and counts as full. Else prove '..UptoSaid'. A law counts once. -/
mutual
def uptoBulk {H : Type} : DataW H → Nat
  | .lit (.string bytes) => bytes.length + 1
  | .lit _ => 1
  | .nil => 1
  | .ptr d => uptoBulk d + 1
  | .slice elems spare => uptoBulkAll elems + uptoBulkAll spare + 1
  | .agg parts => uptoBulkAll parts + 1
  | .iface _ d => uptoBulk d + 1
  | .map entries => uptoBulkEntries entries + 1
  | .held _ => 1
def uptoBulkAll {H : Type} : List (DataW H) → Nat
  | [] => 0
  | d :: r => uptoBulk d + uptoBulkAll r
def uptoBulkEntries {H : Type} : List (Lit × DataW H) → Nat
  | [] => 0
  | x :: r => uptoBulkEntry x + uptoBulkEntries r
def uptoBulkEntry {H : Type} : Lit × DataW H → Nat
  | (.string bytes, d) => bytes.length + uptoBulk d + 1
  | (_, d) => uptoBulk d + 1
 end
def uptoSmall : (H : Type) → List (DataW H) → Bool := fun _ ds => decide (uptoBulkAll ds ≤ 1048576)
def OpenSpec.upto (s : _root_.Go.ChangeSpec) : _root_.Go.OpenSpec := { _root_.Go.OpenSpec.ofChange s with cond := some uptoSmall }

/-- 'laws.FnDistance', WHERE WHAT IT READS IS OF BULK AT MOST 1048576: true; the input reads as it did. -/
def fnDistanceUptoRow : OpenClaim := { program := "ytgamkmkpmcenpaa", sum := "2af14e289eac0551b6ae690a5323b131e2e26c4bb9af5ec0fc631e88ac4d6b74", func := "loop.example/discretetomography/laws.FnDistance", spec := "fnDistance", apart := false, narrowed := true }
def FnDistanceUptoSaid : Prop := fnDistanceUptoRow.holds Try.pinned (OpenSpec.upto fnDistanceSpec)

/-- 'laws.FnDistanceOther', WHERE WHAT IT READS IS OF BULK AT MOST 1048576: true; the input reads as it did. -/
def fnDistanceOtherUptoRow : OpenClaim := { program := "ytgamkmkpmcenpaa", sum := "2af14e289eac0551b6ae690a5323b131e2e26c4bb9af5ec0fc631e88ac4d6b74", func := "loop.example/discretetomography/laws.FnDistanceOther", spec := "fnDistanceOther", apart := false, narrowed := true }
def FnDistanceOtherUptoSaid : Prop := fnDistanceOtherUptoRow.holds Try.pinned (OpenSpec.upto fnDistanceOtherSpec)

/-- 'laws.FnDistanceSame', WHERE WHAT IT READS IS OF BULK AT MOST 1048576: true; the input reads as it did. -/
def fnDistanceSameUptoRow : OpenClaim := { program := "ytgamkmkpmcenpaa", sum := "2af14e289eac0551b6ae690a5323b131e2e26c4bb9af5ec0fc631e88ac4d6b74", func := "loop.example/discretetomography/laws.FnDistanceSame", spec := "fnDistanceSame", unfollowed := true, recurses := true, apart := false, narrowed := true }
def FnDistanceSameUptoSaid : Prop := fnDistanceSameUptoRow.holds Try.pinned (OpenSpec.upto fnDistanceSameSpec)

/-- 'laws.FnToward', WHERE WHAT IT READS IS OF BULK AT MOST 1048576: true; the input reads as it did. -/
def fnTowardUptoRow : OpenClaim := { program := "ytgamkmkpmcenpaa", sum := "2af14e289eac0551b6ae690a5323b131e2e26c4bb9af5ec0fc631e88ac4d6b74", func := "loop.example/discretetomography/laws.FnToward", spec := "fnToward", unfollowed := true, recurses := true, apart := false, narrowed := true }
def FnTowardUptoSaid : Prop := fnTowardUptoRow.holds Try.pinned (OpenSpec.upto fnTowardSpec)

/-- 'laws.FnTowardFirst', WHERE WHAT IT READS IS OF BULK AT MOST 1048576: true; the input reads as it did. -/
def fnTowardFirstUptoRow : OpenClaim := { program := "ytgamkmkpmcenpaa", sum := "2af14e289eac0551b6ae690a5323b131e2e26c4bb9af5ec0fc631e88ac4d6b74", func := "loop.example/discretetomography/laws.FnTowardFirst", spec := "fnTowardFirst", unfollowed := true, recurses := true, apart := false, narrowed := true }
def FnTowardFirstUptoSaid : Prop := fnTowardFirstUptoRow.holds Try.pinned (OpenSpec.upto fnTowardFirstSpec)

/-- 'laws.FnTowardEither', WHERE WHAT IT READS IS OF BULK AT MOST 1048576: true; the input reads as it did. -/
def fnTowardEitherUptoRow : OpenClaim := { program := "ytgamkmkpmcenpaa", sum := "2af14e289eac0551b6ae690a5323b131e2e26c4bb9af5ec0fc631e88ac4d6b74", func := "loop.example/discretetomography/laws.FnTowardEither", spec := "fnTowardEither", unfollowed := true, recurses := true, apart := false, narrowed := true }
def FnTowardEitherUptoSaid : Prop := fnTowardEitherUptoRow.holds Try.pinned (OpenSpec.upto fnTowardEitherSpec)

/-- 'laws.FnPath', WHERE WHAT IT READS IS OF BULK AT MOST 1048576: true; the input reads as it did. -/
def fnPathUptoRow : OpenClaim := { program := "ytgamkmkpmcenpaa", sum := "2af14e289eac0551b6ae690a5323b131e2e26c4bb9af5ec0fc631e88ac4d6b74", func := "loop.example/discretetomography/laws.FnPath", spec := "fnPath", unfollowed := true, recurses := true, apart := false, narrowed := true }
def FnPathUptoSaid : Prop := fnPathUptoRow.holds Try.pinned (OpenSpec.upto fnPathSpec)

/-- 'laws.FnPathShort', WHERE WHAT IT READS IS OF BULK AT MOST 1048576: true; the input reads as it did. -/
def fnPathShortUptoRow : OpenClaim := { program := "ytgamkmkpmcenpaa", sum := "2af14e289eac0551b6ae690a5323b131e2e26c4bb9af5ec0fc631e88ac4d6b74", func := "loop.example/discretetomography/laws.FnPathShort", spec := "fnPathShort", unfollowed := true, recurses := true, apart := false, narrowed := true }
def FnPathShortUptoSaid : Prop := fnPathShortUptoRow.holds Try.pinned (OpenSpec.upto fnPathShortSpec)

/-- 'laws.FnPathIff', WHERE WHAT IT READS IS OF BULK AT MOST 1048576: true; the input reads as it did. -/
def fnPathIffUptoRow : OpenClaim := { program := "ytgamkmkpmcenpaa", sum := "2af14e289eac0551b6ae690a5323b131e2e26c4bb9af5ec0fc631e88ac4d6b74", func := "loop.example/discretetomography/laws.FnPathIff", spec := "fnPathIff", unfollowed := true, recurses := true, apart := false, narrowed := true }
def FnPathIffUptoSaid : Prop := fnPathIffUptoRow.holds Try.pinned (OpenSpec.upto fnPathIffSpec)

/-- 'laws.FnPathBack', WHERE WHAT IT READS IS OF BULK AT MOST 1048576: true; the input reads as it did. -/
def fnPathBackUptoRow : OpenClaim := { program := "ytgamkmkpmcenpaa", sum := "2af14e289eac0551b6ae690a5323b131e2e26c4bb9af5ec0fc631e88ac4d6b74", func := "loop.example/discretetomography/laws.FnPathBack", spec := "fnPathBack", unfollowed := true, recurses := true, apart := false, narrowed := true }
def FnPathBackUptoSaid : Prop := fnPathBackUptoRow.holds Try.pinned (OpenSpec.upto fnPathBackSpec)

/-- 'laws.FnRun', WHERE WHAT IT READS IS OF BULK AT MOST 1048576: true; the input reads as it did. -/
def fnRunUptoRow : OpenClaim := { program := "ytgamkmkpmcenpaa", sum := "2af14e289eac0551b6ae690a5323b131e2e26c4bb9af5ec0fc631e88ac4d6b74", func := "loop.example/discretetomography/laws.FnRun", spec := "fnRun", unfollowed := true, recurses := true, apart := false, narrowed := true }
def FnRunUptoSaid : Prop := fnRunUptoRow.holds Try.pinned (OpenSpec.upto fnRunSpec)

/-- 'laws.FnRunFar', WHERE WHAT IT READS IS OF BULK AT MOST 1048576: true; the input reads as it did. -/
def fnRunFarUptoRow : OpenClaim := { program := "ytgamkmkpmcenpaa", sum := "2af14e289eac0551b6ae690a5323b131e2e26c4bb9af5ec0fc631e88ac4d6b74", func := "loop.example/discretetomography/laws.FnRunFar", spec := "fnRunFar", apart := false, narrowed := true }
def FnRunFarUptoSaid : Prop := fnRunFarUptoRow.holds Try.pinned (OpenSpec.upto fnRunFarSpec)

/-- 'laws.FnDistanceThree', WHERE WHAT IT READS IS OF BULK AT MOST 1048576: true; the input reads as it did. -/
def fnDistanceThreeUptoRow : OpenClaim := { program := "ytgamkmkpmcenpaa", sum := "2af14e289eac0551b6ae690a5323b131e2e26c4bb9af5ec0fc631e88ac4d6b74", func := "loop.example/discretetomography/laws.FnDistanceThree", spec := "fnDistanceThree", apart := false, narrowed := true }
def FnDistanceThreeUptoSaid : Prop := fnDistanceThreeUptoRow.holds Try.pinned (OpenSpec.upto fnDistanceThreeSpec)

/-- 'laws.FnPathTurn', WHERE WHAT IT READS IS OF BULK AT MOST 1048576: true; the input reads as it did. -/
def fnPathTurnUptoRow : OpenClaim := { program := "ytgamkmkpmcenpaa", sum := "2af14e289eac0551b6ae690a5323b131e2e26c4bb9af5ec0fc631e88ac4d6b74", func := "loop.example/discretetomography/laws.FnPathTurn", spec := "fnPathTurn", unfollowed := true, recurses := true, apart := false, narrowed := true }
def FnPathTurnUptoSaid : Prop := fnPathTurnUptoRow.holds Try.pinned (OpenSpec.upto fnPathTurnSpec)

/-- 'laws.FnPathOther', WHERE WHAT IT READS IS OF BULK AT MOST 1048576: true; the input reads as it did. -/
def fnPathOtherUptoRow : OpenClaim := { program := "ytgamkmkpmcenpaa", sum := "2af14e289eac0551b6ae690a5323b131e2e26c4bb9af5ec0fc631e88ac4d6b74", func := "loop.example/discretetomography/laws.FnPathOther", spec := "fnPathOther", unfollowed := true, recurses := true, apart := false, narrowed := true }
def FnPathOtherUptoSaid : Prop := fnPathOtherUptoRow.holds Try.pinned (OpenSpec.upto fnPathOtherSpec)

/-- 'laws.FnRunJoin', WHERE WHAT IT READS IS OF BULK AT MOST 1048576: true; the input reads as it did. -/
def fnRunJoinUptoRow : OpenClaim := { program := "ytgamkmkpmcenpaa", sum := "2af14e289eac0551b6ae690a5323b131e2e26c4bb9af5ec0fc631e88ac4d6b74", func := "loop.example/discretetomography/laws.FnRunJoin", spec := "fnRunJoin", apart := false, narrowed := true }
def FnRunJoinUptoSaid : Prop := fnRunJoinUptoRow.holds Try.pinned (OpenSpec.upto fnRunJoinSpec)

/-- 'laws.FnExactImageDistance', WHERE WHAT IT READS IS OF BULK AT MOST 1048576: true; the input reads as it did. -/
def fnExactImageDistanceUptoRow : OpenClaim := { program := "ytgamkmkpmcenpaa", sum := "2af14e289eac0551b6ae690a5323b131e2e26c4bb9af5ec0fc631e88ac4d6b74", func := "loop.example/discretetomography/laws.FnExactImageDistance", spec := "fnExactImageDistance", apart := false, narrowed := true }
def FnExactImageDistanceUptoSaid : Prop := fnExactImageDistanceUptoRow.holds Try.pinned (OpenSpec.upto fnExactImageDistanceSpec)

/-- 'laws.FnExactSwitchToward', WHERE WHAT IT READS IS OF BULK AT MOST 1048576: true; the input reads as it did. -/
def fnExactSwitchTowardUptoRow : OpenClaim := { program := "ytgamkmkpmcenpaa", sum := "2af14e289eac0551b6ae690a5323b131e2e26c4bb9af5ec0fc631e88ac4d6b74", func := "loop.example/discretetomography/laws.FnExactSwitchToward", spec := "fnExactSwitchToward", unfollowed := true, recurses := true, apart := false, narrowed := true }
def FnExactSwitchTowardUptoSaid : Prop := fnExactSwitchTowardUptoRow.holds Try.pinned (OpenSpec.upto fnExactSwitchTowardSpec)

/-- 'laws.FnExactSwitchPath', WHERE WHAT IT READS IS OF BULK AT MOST 1048576: true; the input reads as it did. -/
def fnExactSwitchPathUptoRow : OpenClaim := { program := "ytgamkmkpmcenpaa", sum := "2af14e289eac0551b6ae690a5323b131e2e26c4bb9af5ec0fc631e88ac4d6b74", func := "loop.example/discretetomography/laws.FnExactSwitchPath", spec := "fnExactSwitchPath", unfollowed := true, recurses := true, apart := false, narrowed := true }
def FnExactSwitchPathUptoSaid : Prop := fnExactSwitchPathUptoRow.holds Try.pinned (OpenSpec.upto fnExactSwitchPathSpec)

end Rows
end Go.Proofs.Ytgamkmkpmcenpaa
