/-
  Row sums and column sums: plain facts, and the contracts of the model's functions that make them.
-/
import Derived.Test.YthllfkgceoenbaaT
import Derived.Test.YthllfkgceoenbaaE
import Derived.Lib.SmallJoins
import Derived.Deep.AppendLies
namespace Go.Proofs.Ythllfkgceoenbaa
open Go.RowKit

theorem rows_snoc (f : Nat → Int) (k : Nat) : rowsL f (k + 1) = rowsL f k ++ [f k] := by simp [rowsL, List.range_succ]
theorem rows_nil (f : Nat → Int) : rowsL f 0 = [] := rfl
/-- The row sums of the first rows. -/
def rsL (xs : List Int) (W n : Nat) : List Int := rowsL (fun i => cntI (xs.getD i 0) W) n
/-- The sum of a column, as far as a row. -/
def csI (xs : List Int) (j n : Nat) : Int := sumI (fun i => bitI (xs.getD i 0) j) n
/-- The column sums. -/
def csL (xs : List Int) (n W : Nat) : List Int := rowsL (fun j => csI xs j n) W
def rsOut (W : Int) (xs : List Int) : List Int := if validB W xs = true then rsL xs W.toNat xs.length else []
def csOut (W : Int) (xs : List Int) : List Int := if validB W xs = true then csL xs xs.length W.toNat else []
theorem rs_len (xs : List Int) (W n : Nat) : (rsL xs W n).length = n := rows_len _ _
theorem cs_len (xs : List Int) (n W : Nat) : (csL xs n W).length = W := rows_len _ _
theorem csI_bd (xs : List Int) (j n : Nat) : 0 ≤ csI xs j n ∧ csI xs j n ≤ n := by
  induction n with
  | zero => simp [csI, sumI]
  | succ n ih => have := bit_01 (xs.getD n 0) j; unfold csI at *; simp only [sumI]; omega
theorem csI_succ (xs : List Int) (j n : Nat) : csI xs j (n + 1) = csI xs j n + bitI (xs.getD n 0) j := rfl
theorem OwnI.cap {w : World} {B : Nat} {a : Option Addr} {len cap : Nat} {xs : List Int} (h : OwnI w B a len cap xs) : len ≤ cap := by
  rcases h.2 with ⟨h1, h2⟩ | ⟨g, c, cur, h1, _, _, h4, _⟩
  · simp at h1; omega
  · simp only [Value.slice.injEq] at h1; omega

/-- What a function that gives a list leaves. -/
def GivesL (w : World) (L : List Int) (e : Ending) (w' : World) : Prop :=
  (∃ a cap, e = .returned (.slice a L.length cap) ∧ OwnI w' w.heap.size a L.length cap L) ∧ Below w.heap.size w w'

end Go.Proofs.Ythllfkgceoenbaa

