/-
  The contract of ImageDistance in the form that the laws ask for; images compared by a law.
-/
import Derived.Test.YtnfkafaolelkbaaGreatDoorWa
import Derived.Test.YtnfkafaolelkbaaGreatDoorEp
namespace Go.Proofs.YtnfkafaolelkbaaGreatDoor
set_option maxRecDepth 100000
open Go.RowKit

end Go.Proofs.YtnfkafaolelkbaaGreatDoor

