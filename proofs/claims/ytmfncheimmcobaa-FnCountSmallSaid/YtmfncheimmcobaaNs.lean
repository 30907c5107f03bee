/-
  The contracts of the drawing functions of chapter 14's laws.
-/
import Derived.Test.YtmfncheimmcobaaK
import Derived.Test.YtmfncheimmcobaaEp
namespace Go.Proofs.Ytmfncheimmcobaa
set_option maxRecDepth 100000
open Go.RowKit

end Go.Proofs.Ytmfncheimmcobaa

