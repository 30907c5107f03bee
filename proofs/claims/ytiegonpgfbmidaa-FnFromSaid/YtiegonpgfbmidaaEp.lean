/-
  The contracts of the functions that give an image, at valid images; boxes of a law's middle.
-/
import Derived.Test.YtiegonpgfbmidaaEo
import Derived.Test.YtiegonpgfbmidaaN
import Derived.Test.YtiegonpgfbmidaaP
import Derived.Test.YtiegonpgfbmidaaI
import Derived.Test.YtiegonpgfbmidaaU
namespace Go.Proofs.Ytiegonpgfbmidaa
open Go.RowKit

theorem Ctx.a3 {w wr : World} {b0 b1 b2 b3 : BI} {l : List BI} (h : Ctx w wr (b0 :: b1 :: b2 :: b3 :: l)) : b3.At wr := h.pop.a2
theorem Ctx.a4 {w wr : World} {b0 b1 b2 b3 b4 : BI} {l : List BI} (h : Ctx w wr (b0 :: b1 :: b2 :: b3 :: b4 :: l)) : b4.At wr := h.pop.a3
theorem Ctx.a5 {w wr : World} {b0 b1 b2 b3 b4 b5 : BI} {l : List BI} (h : Ctx w wr (b0 :: b1 :: b2 :: b3 :: b4 :: b5 :: l)) : b5.At wr := h.pop.a4
theorem Ctx.a6 {w wr : World} {b0 b1 b2 b3 b4 b5 b6 : BI} {l : List BI} (h : Ctx w wr (b0 :: b1 :: b2 :: b3 :: b4 :: b5 :: b6 :: l)) : b6.At wr := h.pop.a5
def GivesI (w : World) (W n : Nat) (xs : List Int) (e : Ending) (w' : World) : Prop :=
  (∃ a cap, e = .returned (.tuple #[.agg #[.int .i64 W, .slice a n cap], .bool true]) ∧ OwnI w' w.heap.size a n cap xs) ∧ Below w.heap.size w w'
theorem Gives.ok {w w' : World} {W n : Nat} {xs : List Int} {e : Ending} (h : Gives w ⟨true, W, xs⟩ e w') (hl : xs.length = n) : GivesI w W n xs e w' := by
  subst hl; exact h
theorem other_ok {W n : Nat} {xs : List Int} (h : Im W n xs) (s : Option Addr) (cg : Nat) (w : World) (hR : Row w s n xs) :
    Calls Try.prog 19 #[.agg #[.int .i64 W, .slice s n cg]] w (GivesI w W n (othL xs W n)) := by
  have hc := other_impl W s n cg xs w hR (by have := h.l6; omega)
  rw [if_pos h.valid, Int.toNat_natCast] at hc
  exact hc.mono fun e w' hg => hg.ok (rows_len _ _)
theorem turn_ok {W n : Nat} {xs : List Int} (h : Im W n xs) (s : Option Addr) (cg : Nat) (w : World) (hR : Row w s n xs) :
    Calls Try.prog 30 #[.agg #[.int .i64 W, .slice s n cg]] w (GivesI w n W (turnL xs W n)) := by
  have hc := turn_impl W s n cg xs w hR (by have := h.l6; omega)
  rw [if_pos h.valid, Int.toNat_natCast] at hc
  exact hc.mono fun e w' hg => hg.ok (turn_len _ _ _)
def putL (xs : List Int) (i j : Nat) (set : Bool) : List Int := xs.set i (putI (xs.getD i 0) j set)
theorem put_ok {W n : Nat} {xs : List Int} (h : Im W n xs) {i j : Nat} (hi : i < n) (hj : j < W) (set : Bool) (s : Option Addr) (cg : Nat) (w : World) (hR : Row w s n xs) :
    Calls Try.prog 22 #[.agg #[.int .i64 W, .slice s n cg], .int .i64 i, .int .i64 j, .bool set] w (GivesI w W n (putL xs i j set)) := by
  have hc := put_impl W s n cg xs i j set w hR (by have := h.l6; omega)
  rw [putOut, if_pos ⟨h.valid, cellB_iff.2 ⟨by omega, by rw [h.hl]; omega, by omega, by omega⟩⟩, Int.toNat_natCast, Int.toNat_natCast] at hc
  exact hc.mono fun e w' hg => hg.ok (by rw [List.length_set]; exact h.hl)
end Go.Proofs.Ytiegonpgfbmidaa

