/-
  The contracts of ImageHas and SumsSame at valid images, by their cells.
-/
import Derived.Test.YtkpbfhohcffilaaMa
import Derived.Test.YtkpbfhohcffilaaEp
namespace Go.Proofs.Ytkpbfhohcffilaa
set_option maxRecDepth 100000
open Go.RowKit

variable {W n : Nat} {xs ys : List Int} {i j : Nat}
theorem has_ok (hI : Im W n xs) (hi : i < n) (hj : j < W) {b : Bool} (hb : cellOf xs i j = b) (s : Option Addr) (cg : Nat) (w : World) (hR : Row w s n xs) :
    Calls Try.prog 31 #[.agg #[.int .i64 W, .slice s n cg], .int .i64 i, .int .i64 j] w fun e w' => e = .returned (.bool b) ∧ Below w.heap.size w w' :=
  (has_impl W s n cg xs i j w hR (by have := hI.l6; omega)).mono fun e w' hh => ⟨by rw [hh.1, has_cell hI hi hj, hb], hh.2⟩
theorem sums_ok (hI : Im W n xs) (hJ : Im W n ys) (hs : SumE xs ys W n) (s t : Option Addr) (cg ch : Nat) (w : World) (hR : Row w s n xs) (hR' : Row w t n ys) :
    Calls Try.prog 63 #[.agg #[.int .i64 W, .slice s n cg], .agg #[.int .i64 W, .slice t n ch]] w fun e w' => e = .returned (.bool true) ∧ Below w.heap.size w w' :=
  (same_impl (W : Int) W s t n n cg ch xs ys w hR hR' (by have := hI.l6; omega) (by have := hI.l6; omega)).mono fun e w' hh => ⟨by rw [hh.1, hI.same hJ hs.1 hs.2], hh.2⟩
end Go.Proofs.Ytkpbfhohcffilaa

