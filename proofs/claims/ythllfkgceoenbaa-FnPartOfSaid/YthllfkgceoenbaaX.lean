/-
  The contracts of the laws' drawing functions: a nested image, an image, one that may be wrong.
-/
import Derived.Test.YthllfkgceoenbaaW
namespace Go.Proofs.Ythllfkgceoenbaa
open Go.RowKit

theorem putin_nat : ∀ W, W < 7 → ∀ j, j < W → ∀ n, n < 64 → ((n : Nat) : Int) ≤ pw W - 1 → 0 ≤ putI ((n : Nat) : Int) j true ∧ putI ((n : Nat) : Int) j true ≤ pw W - 1 := by decide +kernel
theorem putin {W j : Nat} {x : Int} (hW : W ≤ 6) (hj : j < W) (h0 : 0 ≤ x) (h1 : x ≤ pw W - 1) : 0 ≤ putI x j true ∧ putI x j true ≤ pw W - 1 := by
  have := pw_63 hW
  obtain ⟨n, rfl⟩ := Int.eq_ofNat_of_zero_le h0
  exact putin_nat W (by omega) j hj n (by omega) h1

theorem OwnI.ge {w : World} {B g len cap : Nat} {xs : List Int} (h : OwnI w B (some ⟨g, 0, none⟩) len cap xs) : B ≤ g := by
  rcases h.cases with ⟨e, _⟩ | ⟨g', e, h1, _⟩
  · cases e
  · simp only [Option.some.injEq, Addr.mk.injEq, and_true] at e; omega

end Go.Proofs.Ythllfkgceoenbaa

