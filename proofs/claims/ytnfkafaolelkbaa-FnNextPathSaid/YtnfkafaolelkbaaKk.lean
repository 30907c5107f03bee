/-
  What the exact laws of chapter 11 share: a switch that came in, opened; its copy.
-/
import Derived.Test.YtnfkafaolelkbaaF
import Derived.Test.YtnfkafaolelkbaaKc
import Derived.Test.YtnfkafaolelkbaaA
import Derived.Deep.RegionHeld3
namespace Go.Proofs.Ytnfkafaolelkbaa
set_option maxRecDepth 100000
open Go.ChangeShapes Go.WideShapes Go.ChangeAt Go.RowKit Go.Joins

end Go.Proofs.Ytnfkafaolelkbaa

