/-
  What the exact laws of chapter 11 share: a switch that came in, opened; its copy.
-/
import Derived.Test.YtgamkmkpmcenpaaF
import Derived.Test.YtgamkmkpmcenpaaKc
import Derived.Test.YtgamkmkpmcenpaaA
import Derived.Deep.RegionHeld3
namespace Go.Proofs.Ytgamkmkpmcenpaa
set_option maxRecDepth 100000
open Go.ChangeShapes Go.WideShapes Go.ChangeAt Go.RowKit Go.Joins

end Go.Proofs.Ytgamkmkpmcenpaa

