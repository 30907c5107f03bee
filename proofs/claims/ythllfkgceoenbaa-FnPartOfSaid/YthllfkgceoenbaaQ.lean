/-
  The contract of the program's ImageMirror.
-/
import Derived.Test.YthllfkgceoenbaaP
namespace Go.Proofs.Ythllfkgceoenbaa
open Go.RowKit

end Go.Proofs.Ythllfkgceoenbaa

