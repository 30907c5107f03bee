/-
  The contracts of ImageHas and SumsSame at valid images, by their cells.
-/
import Derived.Test.YtnfkafaolelkbaaMa
import Derived.Test.YtnfkafaolelkbaaEp
namespace Go.Proofs.Ytnfkafaolelkbaa
set_option maxRecDepth 100000
open Go.RowKit

variable {W n : Nat} {xs ys : List Int} {i j : Nat}
theorem sums_ok (hI : Im W n xs) (hJ : Im W n ys) (hs : SumE xs ys W n) (s t : Option Addr) (cg ch : Nat) (w : World) (hR : Row w s n xs) (hR' : Row w t n ys) :
    Calls Try.prog 38 #[.agg #[.int .i64 W, .slice s n cg], .agg #[.int .i64 W, .slice t n ch]] w fun e w' => e = .returned (.bool true) ∧ Below w.heap.size w w' :=
  (same_impl (W : Int) W s t n n cg ch xs ys w hR hR' (by have := hI.l6; omega) (by have := hI.l6; omega)).mono fun e w' hh => ⟨by rw [hh.1, hI.same hJ hs.1 hs.2], hh.2⟩
end Go.Proofs.Ytnfkafaolelkbaa

