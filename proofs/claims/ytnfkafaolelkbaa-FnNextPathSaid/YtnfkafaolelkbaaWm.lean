/-
  The contract of ImageDistance in the form that the laws ask for; images compared by a law.
-/
import Derived.Test.YtnfkafaolelkbaaWa
import Derived.Test.YtnfkafaolelkbaaEp
namespace Go.Proofs.Ytnfkafaolelkbaa
set_option maxRecDepth 100000
open Go.RowKit

theorem far_ok {K n : Nat} {xs ys : List Int} {f : Int} (h : Im K n xs) (h' : Im K n ys) (hf : farL xs ys K n = f) (s t : Option Addr) (cs ct : Nat) (w : World) (hX : Row w s n xs) (hY : Row w t n ys) :
    Calls Try.prog 114 #[.agg #[.int .i64 K, .slice s n cs], .agg #[.int .i64 K, .slice t n ct]] w fun e w' => e = .returned (.int .i64 f) ∧ Below w.heap.size w w' := by
  have hc := far_impl (K : Int) K s t n n cs ct xs ys w hX hY (by have := h.l6; omega) (by have := h.l6; omega)
  rwa [farOut_yes h h', hf] at hc
/-- Images compared by a law. -/
theorem sameImg_any (K : Nat) (a a' : Option Addr) (n c c' : Nat) (xs ys : List Int) (w : World) (h : Row w a n xs) (h' : Row w a' n ys) (hm : n ≤ 6) :
    Calls Try.prog 30 #[.agg #[.int .i64 K, .slice a n c], .agg #[.int .i64 K, .slice a' n c']] w fun e w' => e = .returned (.bool (decide (xs = ys))) ∧ Below w.heap.size w w' := by
  go_enter Try.func30, Try.ntmps30
  go_wp2_with fail
  refine (same_laws a a' n n c c' xs ys _ ((h.alloc _).alloc _) ((h'.alloc _).alloc _) (by omega) (by omega)).mono ?_
  rintro e w1 ⟨rfl, hb⟩
  go_wp2
  go_ret
  exact ⟨rfl, (((Below.refl _ _).alloc (Nat.le_refl _) _).alloc (by simp) _).trans (hb.mono (by simp; omega))⟩
end Go.Proofs.Ytnfkafaolelkbaa

