/-
  The contracts of the model's PartBelow, and of PartConj, of the program and of the model.
-/
import Derived.Test.YteadibgjieimkaaPf
namespace Go.Proofs.Yteadibgjieimkaa
set_option maxRecDepth 100000
open Go.RowKit

/-- How many of the first j elements are at least i + 1. -/
def cjI (xs : List Int) (j i : Nat) : Int := sumI (fun t => if (i : Int) + 1 ≤ xs.getD t 0 then 1 else 0) j
theorem cj_bd (xs : List Int) (j i : Nat) : 0 ≤ cjI xs j i ∧ cjI xs j i ≤ j := sum_bd (fun t => by (try dsimp only); split <;> omega) _
theorem cj_all (xs : List Int) (i : Nat) : cjI xs xs.length i = cge xs ((i : Int) + 1) := rfl
/-- The conjugate while it is made: j elements are counted, and k of the next one. -/
def cjL (xs : List Int) (n j k : Nat) : List Int := rowsL (fun i => cjI xs j i + if i < k then 1 else 0) n
theorem cjL_len (xs : List Int) (n j k : Nat) : (cjL xs n j k).length = n := rows_len _ _
theorem cjL_zero (xs : List Int) (n : Nat) : cjL xs n 0 0 = List.replicate n 0 := by
  rw [← rows_zero]; exact rows_ext fun _ _ => by rw [if_neg (by omega)]; rfl
theorem cjL_get (xs : List Int) {n j k : Nat} (hk : k < n) : (cjL xs n j k).getD k 0 = cjI xs j k := by
  rw [show (cjL xs n j k).getD k 0 = _ from rows_get _ hk, if_neg (by omega)]; omega
theorem cjL_set (xs : List Int) {n j k : Nat} (hk : k < n) : (cjL xs n j k).set k (cjI xs j k + 1) = cjL xs n j (k + 1) :=
  rows_set _ _ hk (by rw [if_pos (by omega)]) fun i _ hne => by
    by_cases e : i < k
    · rw [if_pos (by omega), if_pos e]
    · rw [if_neg (by omega), if_neg e]
theorem cjL_next (xs : List Int) {n j k : Nat} (hk : xs.getD j 0 = k) : cjL xs n j k = cjL xs n (j + 1) 0 := rows_ext fun i _ => by
  rw [show cjI xs (j + 1) i = cjI xs j i + if (i : Int) + 1 ≤ xs.getD j 0 then 1 else 0 from rfl, hk]
  by_cases e : i < k
  · rw [if_pos e, if_pos (by omega), if_neg (by omega)]; omega
  · rw [if_neg e, if_neg (by omega), if_neg (by omega)]; omega
theorem cjL_full (xs : List Int) (n : Nat) : cjL xs n xs.length 0 = conjL xs n := rows_ext fun i _ => by
  rw [if_neg (by omega), cj_all]; omega

end Go.Proofs.Yteadibgjieimkaa

