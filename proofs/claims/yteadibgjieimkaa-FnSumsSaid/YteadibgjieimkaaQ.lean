/-
  The contract of the program's ImageMirror.
-/
import Derived.Test.YteadibgjieimkaaP
namespace Go.Proofs.Yteadibgjieimkaa
set_option maxRecDepth 100000
open Go.RowKit

end Go.Proofs.Yteadibgjieimkaa

