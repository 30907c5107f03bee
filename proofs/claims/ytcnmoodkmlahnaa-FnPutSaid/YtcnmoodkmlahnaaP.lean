/-
  The contracts of the program's functions that give an image place by place: the other cells, the mirror.
-/
import Derived.Test.YtcnmoodkmlahnaaM
namespace Go.Proofs.Ytcnmoodkmlahnaa
open Go.RowKit

theorem xor_nat : ∀ k, k < 7 → ∀ n, n < 64 → ((n : Nat) : Int) ≤ pw k - 1 → bits BinOp.xor IntKind.i64 n (pw k - 1) = pw k - 1 - n := by decide +kernel
theorem xor_num {x : Int} {k : Nat} (hk : k ≤ 6) (h0 : 0 ≤ x) (h1 : x ≤ pw k - 1) (h2 : x ≤ 63) : bits BinOp.xor IntKind.i64 x (pw k - 1) = pw k - 1 - x := by
  obtain ⟨n, rfl⟩ := Int.eq_ofNat_of_zero_le h0
  exact xor_nat k (by omega) n (by omega) h1

theorem rows_small (f : Nat → Int) (W : Int) (xs : List Int) (len : Nat) (hl : xs.length = len) : (if validB W xs = true then (⟨true, W, rowsL f len⟩ : Out) else .no).xs.length ≤ 1048576 := by
  by_cases hv : validB W xs = true
  · rw [if_pos hv]; have := validB_len hv; simp only [rows_len]; omega
  · rw [if_neg hv]; simp [Out.no]
end Go.Proofs.Ytcnmoodkmlahnaa

