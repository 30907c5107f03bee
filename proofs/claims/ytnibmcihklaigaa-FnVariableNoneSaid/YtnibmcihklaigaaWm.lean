/-
  The contract of ImageDistance in the form that the laws ask for; images compared by a law.
-/
import Derived.Test.YtnibmcihklaigaaWa
import Derived.Test.YtnibmcihklaigaaEp
namespace Go.Proofs.Ytnibmcihklaigaa
set_option maxRecDepth 100000
open Go.RowKit

/-- Images compared by a law. -/
theorem sameImg_any (K : Nat) (a a' : Option Addr) (n c c' : Nat) (xs ys : List Int) (w : World) (h : Row w a n xs) (h' : Row w a' n ys) (hm : n ≤ 6) :
    Calls Try.prog 31 #[.agg #[.int .i64 K, .slice a n c], .agg #[.int .i64 K, .slice a' n c']] w fun e w' => e = .returned (.bool (decide (xs = ys))) ∧ Below w.heap.size w w' := by
  go_enter Try.func31, Try.ntmps31
  go_wp2_with fail
  refine (same_laws a a' n n c c' xs ys _ ((h.alloc _).alloc _) ((h'.alloc _).alloc _) (by omega) (by omega)).mono ?_
  rintro e w1 ⟨rfl, hb⟩
  go_wp2
  go_ret
  exact ⟨rfl, (((Below.refl _ _).alloc (Nat.le_refl _) _).alloc (by simp) _).trans (hb.mono (by simp; omega))⟩
end Go.Proofs.Ytnibmcihklaigaa

