/-
  The contracts of errors.Is at this package's error value, of imageError and of SumsConsistent.
-/
import Derived.Test.YtnfkafaolelkbaaCa
import Derived.Test.YtnfkafaolelkbaaPa
import Derived.Test.YtnfkafaolelkbaaK
import Derived.LaidEql
import Derived.Stop.Asserts
namespace Go.Proofs.Ytnfkafaolelkbaa
set_option maxRecDepth 100000
open Go.RowKit Go.Extern.Stop Go.Stop Go.Extern

def cmpFn : Array Value → Sem Value := Extern.ReflectliteType.method fun t => do Extern.Rtype.noPackHeld "Comparable" t; pure (.bool (← typeInfo t).comparable)
end Go.Proofs.Ytnfkafaolelkbaa

