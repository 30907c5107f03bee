/-
  The contracts of the drawing functions of chapter 13's laws.
-/
import Derived.Test.YtnfkafaolelkbaaGreatDoorSh
import Derived.Test.YtnfkafaolelkbaaGreatDoorKd
namespace Go.Proofs.YtnfkafaolelkbaaGreatDoor
set_option maxRecDepth 100000
open Go.RowKit

def DrawnR (w : World) (e : Ending) (w' : World) : Prop :=
  ∃ (W : Int) (s : Option Addr) (n cg : Nat) (xs : List Int) (i : Int), e = .returned (.tuple #[.agg #[.int .i64 W, .slice s n cg], .int .i64 i]) ∧ Row w' s n xs ∧ (n ≤ 6 ∧ n ≤ cg) ∧ Below w.heap.size w w'
end Go.Proofs.YtnfkafaolelkbaaGreatDoor

