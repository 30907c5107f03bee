/-
  The contracts of SumsUnique in the forms that the laws ask for.
-/
import Derived.Test.YtnfkafaolelkbaaDoorNz
namespace Go.Proofs.YtnfkafaolelkbaaDoor
set_option maxRecDepth 100000
open Go.RowKit

variable {xs ys : List Int}
theorem su_ok {b : Bool} (hb : uniqS xs ys = b) (s s' : Option Addr) (n c m c' : Nat) (w : World) (hR : Row w s n xs) (hR' : Row w s' m ys) (hn : n ≤ 13) (hm : m ≤ 13) :
    Calls Tryd.prog 8 #[.slice s n c, .slice s' m c'] w fun e w' => e = .returned (.bool b) ∧ Below w.heap.size w w' :=
  (su_impl s s' n m c c' xs ys w hR hR' (by omega) (by omega)).mono fun e w' hh => ⟨by rw [hh.1, hb], hh.2⟩
end Go.Proofs.YtnfkafaolelkbaaDoor

