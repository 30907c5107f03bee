/-
  The contracts of the functions that put a cell.
-/
import Derived.Test.YteadibgjieimkaaR
namespace Go.Proofs.Yteadibgjieimkaa
set_option maxRecDepth 100000
open Go.RowKit

def putOut (W : Int) (xs : List Int) (i j : Int) (set : Bool) : Out :=
  if validB W xs = true ∧ cellB W xs.length i j = true then ⟨true, W, xs.set i.toNat (putI (xs.getD i.toNat 0) j.toNat set)⟩ else .no
theorem putOut_small (W : Int) (xs : List Int) (i j : Int) (set : Bool) (hl : xs.length ≤ 1048576) : (putOut W xs i j set).xs.length ≤ 1048576 := by
  unfold putOut
  by_cases h : validB W xs = true ∧ cellB W xs.length i j = true
  · rw [if_pos h]; simpa using hl
  · rw [if_neg h]; simp [Out.no]
theorem orput_nat : ∀ j, j < 6 → ∀ n, n < 64 → bits BinOp.or IntKind.i64 ((n : Nat) : Int) (pw j) = putI n j true ∧ bits BinOp.andNot IntKind.i64 ((n : Nat) : Int) (pw j) = putI n j false := by decide +kernel
theorem orput {x : Int} {j : Nat} (hj : j < 6) (h0 : 0 ≤ x) (h1 : x ≤ 63) : bits BinOp.or IntKind.i64 x (pw j) = putI x j true ∧ bits BinOp.andNot IntKind.i64 x (pw j) = putI x j false := by
  obtain ⟨n, rfl⟩ := Int.eq_ofNat_of_zero_le h0
  exact orput_nat j hj n (by omega)

end Go.Proofs.Yteadibgjieimkaa

