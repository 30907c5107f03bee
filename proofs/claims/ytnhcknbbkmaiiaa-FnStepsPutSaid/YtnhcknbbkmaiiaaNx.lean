/-
  The contracts of ImageSteps in the forms that the laws ask for.
-/
import Derived.Test.YtnhcknbbkmaiiaaNr
namespace Go.Proofs.Ytnhcknbbkmaiiaa
set_option maxRecDepth 100000
open Go.RowKit

variable {W n : Nat} {V : Int} {xs ys : List Int}
theorem stp_io {K : Int} (hK : stO V xs = K) (hn : n ≤ 6) (s : Option Addr) (cg : Nat) (w : World) (hR : Row w s n xs) :
    Calls Try.prog 47 #[.agg #[.int .i64 V, .slice s n cg]] w fun e w' => e = .returned (.int .i64 K) ∧ Below w.heap.size w w' :=
  (steps_impl V s n cg xs w hR (by omega)).mono fun e w' hh => ⟨by rw [hh.1, hK], hh.2⟩
theorem stp_so {K : Int} (hK : stO V xs = K) (hn : n ≤ 6) (s : Option Addr) (cg : Nat) (w : World) (hR : Row w s n xs) :
    Calls Try.prog 48 #[.agg #[.int .i64 V, .slice s n cg]] w fun e w' => e = .returned (.int .i64 K) ∧ Below w.heap.size w w' :=
  (steps_spec V s n cg xs w hR (by omega)).mono fun e w' hh => ⟨by rw [hh.1, hK], hh.2⟩
theorem stp_ok (hI : Im W n xs) (h12 : n * W ≤ 12) {K : Int} (hK : stepI xs W n = K) (s : Option Addr) (cg : Nat) (w : World) (hR : Row w s n xs) :
    Calls Try.prog 47 #[.agg #[.int .i64 W, .slice s n cg]] w fun e w' => e = .returned (.int .i64 K) ∧ Below w.heap.size w w' :=
  stp_io ((sto_yes hI h12).trans hK) hI.l6 s cg w hR
theorem sto_ways (V : Int) {xs : List Int} {n : Nat} (hl : xs.length = n) : stO V xs = -1 ∨ ∃ W : Nat, V = W ∧ Im W n xs ∧ n * W ≤ 12 ∧ stO V xs = stepI xs W n := by
  by_cases h : validB V xs = true ∧ (xs.length : Int) * V ≤ 12
  · right
    have hW := validB_W h.1
    obtain ⟨W, rfl⟩ := Int.eq_ofNat_of_zero_le (by omega : 0 ≤ V)
    have h2 := h.2
    rw [hl, ← Int.natCast_mul] at h2
    exact ⟨W, rfl, Im.of h.1 hl, by omega, sto_yes (Im.of h.1 hl) (by omega)⟩
  · exact .inl (sto_no h)
end Go.Proofs.Ytnhcknbbkmaiiaa

