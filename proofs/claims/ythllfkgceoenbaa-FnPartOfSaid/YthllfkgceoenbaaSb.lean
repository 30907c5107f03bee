/-
  The contracts of the program's functions that make sums, and of the model's column sums.
-/
import Derived.Test.YthllfkgceoenbaaSa
import Derived.Shelf.Abstract
namespace Go.Proofs.Ythllfkgceoenbaa
open Go.RowKit

/-- What the sums are while they are made. -/
def partL (F : Nat → Nat → Int) (n m k j : Nat) : List Int := rowsL (fun i => if i < k then sumI (F i) m else if i = k then sumI (F k) j else 0) n
theorem part_len (F : Nat → Nat → Int) (n m k j : Nat) : (partL F n m k j).length = n := rows_len _ _
theorem part_zero (F : Nat → Nat → Int) (n m : Nat) : partL F n m 0 0 = List.replicate n 0 := by
  rw [← rows_zero]; exact rows_ext fun _ _ => by rw [if_neg (by omega)]; split <;> simp_all [sumI]
theorem part_get (F : Nat → Nat → Int) {n m k j : Nat} (hk : k < n) : (partL F n m k j).getD k 0 = sumI (F k) j := by
  rw [show (partL F n m k j).getD k 0 = _ from rows_get _ hk, if_neg (by omega), if_pos rfl]
theorem part_set (F : Nat → Nat → Int) {n m k j : Nat} (hk : k < n) : (partL F n m k j).set k (sumI (F k) (j + 1)) = partL F n m k (j + 1) :=
  rows_set _ _ hk (by simp) fun _ _ hne => by
    show (if _ < k then _ else if _ = k then _ else (0 : Int)) = (if _ < k then _ else if _ = k then _ else (0 : Int))
    rw [if_neg hne, if_neg hne]
theorem part_next (F : Nat → Nat → Int) (n m k : Nat) : partL F n m k m = partL F n m (k + 1) 0 := rows_ext fun i _ => by
  by_cases h : i < k
  · rw [if_pos h, if_pos (by omega)]
  · rw [if_neg h]
    by_cases e : i = k
    · rw [if_pos e, if_pos (by omega), e]
    · rw [if_neg e, if_neg (by omega)]; split <;> rfl
theorem part_full (F : Nat → Nat → Int) (n m j : Nat) : partL F n m n j = rowsL (fun i => sumI (F i) m) n := rows_ext fun _ hi => if_pos hi
theorem sum_bd {f : Nat → Int} (h : ∀ i, 0 ≤ f i ∧ f i ≤ 1) (k : Nat) : 0 ≤ sumI f k ∧ sumI f k ≤ k := by
  induction k with
  | zero => simp [sumI]
  | succ k ih => have := h k; simp only [sumI]; omega

end Go.Proofs.Ythllfkgceoenbaa

