/-
  Contracts of chapter 11 in the laws' form, and plain facts that the laws ask.
-/
import Derived.Test.YteejopkimlkhoaaKf
import Derived.Test.YteejopkimlkhoaaHc
import Derived.Test.YteejopkimlkhoaaEp
namespace Go.Proofs.Yteejopkimlkhoaa
set_option maxRecDepth 100000
open Go.RowKit

theorem ok_ok {W : Int} {xs : List Int} {A B C D : Int} {b : Bool} (hb : okB W xs A B C D = b) {n : Nat} (hn : n ≤ 6) (s : Option Addr) (cg : Nat) (w : World) (hR : Row w s n xs) :
    Calls Try.prog 75 #[.agg #[.int .i64 W, .slice s n cg], .agg #[.int .i64 A, .int .i64 B, .int .i64 C, .int .i64 D]] w fun e w' => e = .returned (.bool b) ∧ Below w.heap.size w w' := by
  subst hb; exact swok_impl W s n cg xs A B C D w hR (by omega)
theorem oks_ok {W : Int} {xs : List Int} {A B C D : Int} {b : Bool} (hb : okB W xs A B C D = b) {n : Nat} (hn : n ≤ 6) (s : Option Addr) (cg : Nat) (w : World) (hR : Row w s n xs) :
    Calls Try.prog 89 #[.agg #[.int .i64 W, .slice s n cg], .agg #[.int .i64 A, .int .i64 B, .int .i64 C, .int .i64 D]] w fun e w' => e = .returned (.bool b) ∧ Below w.heap.size w w' := by
  subst hb; exact swok_spec W s n cg xs A B C D w hR (by omega)
theorem do_ok {W n : Nat} {xs L : List Int} (h : Im W n xs) {A B C D : Nat} (hk : okB W xs A B C D = true) (hL : flL xs W n A B C D = L) (s : Option Addr) (cg : Nat) (w : World) (hR : Row w s n xs) :
    Calls Try.prog 34 #[.agg #[.int .i64 W, .slice s n cg], .agg #[.int .i64 A, .int .i64 B, .int .i64 C, .int .i64 D]] w (GivesI w W n L) := by
  have hc := swdo_impl W s n cg xs A B C D w hR (by have := h.l6; omega)
  rw [doOut_yes h hk, hL] at hc
  exact hc.mono fun e w' hg => hg.ok (by rw [← hL]; exact fll_len _ _ _ _ _ _ _)
theorem do_no {W : Int} {xs : List Int} {A B C D : Int} (h : okB W xs A B C D = false) {n : Nat} (hn : n ≤ 6) (s : Option Addr) (cg : Nat) (w : World) (hR : Row w s n xs) :
    Calls Try.prog 34 #[.agg #[.int .i64 W, .slice s n cg], .agg #[.int .i64 A, .int .i64 B, .int .i64 C, .int .i64 D]] w (GivesN w) := by
  have hc := swdo_impl W s n cg xs A B C D w hR (by omega)
  rw [doOut_no h] at hc
  exact hc
theorem okB_valid {W : Int} {xs : List Int} {A B C D : Int} (h : okB W xs A B C D = true) : validB W xs = true := by
  unfold okB at h; rw [Bool.and_eq_true] at h; exact h.1

/- Plain facts. -/
theorem oth_cell {W n : Nat} {xs : List Int} (h : Im W n xs) {i j : Nat} (hi : i < n) (hj : j < W) : cellOf (othL xs W n) i j = !cellOf xs i j := by
  apply bI_inj
  rw [← cell_bit, h.oth_bit hi hj, bI_not, cell_bit]
theorem manyc_turn {W n : Nat} {xs : List Int} (h : Im W n xs) : manyC (cellOf (turnL xs W n)) n W = manyC (cellOf xs) W n := by
  rw [← many_turn (cellOf xs) W n]
  exact many_ext fun i j hi hj => turn_cell h hj hi
theorem manyc_mir {W n : Nat} {xs : List Int} (h : Im W n xs) : manyC (cellOf (mirL xs W n)) W n = manyC (cellOf xs) W n := by
  rw [← many_mirror (cellOf xs) W n]
  exact many_ext fun i j hi hj => mir_cell h hi hj
theorem manyc_oth {W n : Nat} {xs : List Int} (h : Im W n xs) : manyC (cellOf (othL xs W n)) W n = manyC (cellOf xs) W n := by
  rw [← many_other (cellOf xs) W n]
  exact many_ext fun i j hi hj => oth_cell h hi hj
theorem ok_turn {W n : Nat} {xs : List Int} (h : Im W n xs) {A B C D : Nat} (h1 : A < B) (h2 : B < n) (h3 : C < D) (h4 : D < W) (hs : swC (cellOf xs) A B C D = true) : okB n (turnL xs W n) C D A B = true := by
  rw [okB_yes h.turn h3 h4 h1 h2, sw_turned h (by omega) h2 (by omega) h4]; exact hs
theorem ok_oth {W n : Nat} {xs : List Int} (h : Im W n xs) {A B C D : Nat} (h1 : A < B) (h2 : B < n) (h3 : C < D) (h4 : D < W) (hs : swC (cellOf xs) A B C D = true) : okB W (othL xs W n) A B C D = true := by
  rw [okB_yes h.oth h1 h2 h3 h4, ← hs, ← sw_other (c := cellOf xs)]
  exact sw_ext (oth_cell h (by omega) (by omega)) (oth_cell h (by omega) (by omega)) (oth_cell h (by omega) (by omega)) (oth_cell h (by omega) (by omega))
theorem ok_mir {W n : Nat} {xs : List Int} (h : Im W n xs) {A B C D : Nat} (h1 : A < B) (h2 : B < n) (h3 : C < D) (h4 : D < W) (hs : swC (cellOf xs) A B C D = true) : okB W (mirL xs W n) A B ((W : Int) - 1 - D) ((W : Int) - 1 - C) = true := by
  rw [show (W : Int) - 1 - D = ((W - 1 - D : Nat) : Int) by omega, show (W : Int) - 1 - C = ((W - 1 - C : Nat) : Int) by omega]
  rw [okB_yes h.mir h1 h2 (by omega) (by omega), ← hs, ← sw_mirror (c := cellOf xs) (show C < W by omega) h4]
  exact sw_ext (mir_cell h (by omega) (by omega)) (mir_cell h (by omega) (by omega)) (mir_cell h (by omega) (by omega)) (mir_cell h (by omega) (by omega))
theorem ok_done {W n : Nat} {xs : List Int} (h : Im W n xs) {A B C D : Nat} (h1 : A < B) (h2 : B < n) (h3 : C < D) (h4 : D < W) (hs : swC (cellOf xs) A B C D = true) : okB W (flL xs W n A B C D) A B C D = true := by
  rw [okB_yes (fl_im h A B C D) h1 h2 h3 h4, sw_done h (by omega) h2 (by omega) h4]; exact hs
end Go.Proofs.Yteejopkimlkhoaa

