/-
  The contracts of chapter 4 in the form that the laws use.
-/
import Derived.Test.YteadibgjieimkaaCb
import Derived.Test.YteadibgjieimkaaCc
import Derived.Test.YteadibgjieimkaaPk
import Derived.Test.YteadibgjieimkaaEp
import Derived.Test.YteadibgjieimkaaR
namespace Go.Proofs.Yteadibgjieimkaa
set_option maxRecDepth 100000
open Go.RowKit

theorem exc_ok {xs ys : List Int} {E : Int} (hE : excOf xs ys = E) (s s' : Option Addr) (n c m c' : Nat) (w : World) (hR : Row w s n xs) (hR' : Row w s' m ys) (hn : n ≤ 13) (hm : m ≤ 13) :
    Calls Try.prog 31 #[.slice s n c, .slice s' m c'] w fun e w' => e = .returned (.int .i64 E) ∧ Below w.heap.size w w' := by
  subst hE; exact excess_impl s s' n m c c' xs ys w hR hR' (by omega) (by omega)
theorem exc_sok {xs ys : List Int} {E : Int} (hE : excOf xs ys = E) (s s' : Option Addr) (n c m c' : Nat) (w : World) (hR : Row w s n xs) (hR' : Row w s' m ys) (hn : n ≤ 13) (hm : m ≤ 13) :
    Calls Try.prog 32 #[.slice s n c, .slice s' m c'] w fun e w' => e = .returned (.int .i64 E) ∧ Below w.heap.size w w' := by
  subst hE; exact excess_spec s s' n m c c' xs ys w hR hR' (by omega) (by omega)
theorem turnS_ok {xs ys L M : List Int} (hv : sumsB xs ys = true) {n m : Nat} (hL : restL xs m = L) (hM : restL ys n = M) (s s' : Option Addr) (c c' : Nat) (w : World) (hR : Row w s n xs) (hR' : Row w s' m ys) :
    Calls Try.prog 34 #[.slice s n c, .slice s' m c'] w (GivesT w n L m M true) := by
  subst hL; subst hM; exact turnS_yes s s' n m c c' xs ys w hR hR' hv
/-- The image that a function that fails gives. -/
def GivesNo (w : World) (e : Ending) (w' : World) : Prop :=
  (∃ a cap, e = .returned (.tuple #[.agg #[.int .i64 0, .slice a 0 cap], .bool false]) ∧ OwnI w' w.heap.size a 0 cap []) ∧ Below w.heap.size w w'
theorem other_sok {W n : Nat} {xs : List Int} (h : Im W n xs) (s : Option Addr) (cg : Nat) (w : World) (hR : Row w s n xs) :
    Calls Try.prog 38 #[.agg #[.int .i64 W, .slice s n cg]] w (GivesI w W n (othL xs W n)) := by
  have hc := other_spec W s n cg xs w hR (by have := h.l6; omega)
  rw [if_pos h.valid, Int.toNat_natCast] at hc
  exact hc.mono fun e w' hg => hg.ok (rows_len _ _)
theorem other_no {W : Int} {n : Nat} {xs : List Int} (h : validB W xs = false) (hn : n ≤ 6) (s : Option Addr) (cg : Nat) (w : World) (hR : Row w s n xs) :
    Calls Try.prog 37 #[.agg #[.int .i64 W, .slice s n cg]] w (GivesNo w) := by
  have hc := other_impl W s n cg xs w hR (by omega)
  rw [h] at hc
  exact hc
theorem other_sno {W : Int} {n : Nat} {xs : List Int} (h : validB W xs = false) (hn : n ≤ 6) (s : Option Addr) (cg : Nat) (w : World) (hR : Row w s n xs) :
    Calls Try.prog 38 #[.agg #[.int .i64 W, .slice s n cg]] w (GivesNo w) := by
  have hc := other_spec W s n cg xs w hR (by omega)
  rw [h] at hc
  exact hc
theorem fit_ok {W n : Nat} {xs rows cols : List Int} (h : Im W n xs) (hr : rsL xs W n = rows) (hc : csL xs n W = cols) (s s' s'' : Option Addr) (c c' c'' : Nat) (w : World) (hR : Row w s n xs) (hR' : Row w s' n rows) (hR'' : Row w s'' W cols) :
    Calls Try.prog 20 #[.agg #[.int .i64 W, .slice s n c], .slice s' n c', .slice s'' W c''] w fun e w' => e = .returned (.bool true) ∧ Below w.heap.size w w' := by
  have hf := fitB_4 h.valid (decide_eq_true (h.rs.trans hr)) (decide_eq_true (h.cs.trans hc))
  have := fit_impl W s s' s'' n n W c c' c'' xs rows cols w hR hR' hR'' h.ok.1 h.ok.1 h.ok.2
  rw [hf] at this
  exact this
theorem rest_el {xs ys : List Int} {n m : Nat} (h : sumsB xs ys = true) (lx : xs.length = n) (ly : ys.length = m) : elB (restL xs m) = true ∧ elB (restL ys n) = true := by
  subst lx; subst ly; exact sums_el (rest_valid h)
theorem rest_valid' {xs ys : List Int} {n m : Nat} (h : sumsB xs ys = true) (lx : xs.length = n) (ly : ys.length = m) : sumsB (restL xs m) (restL ys n) = true := by
  subst lx; subst ly; exact rest_valid h
theorem rest_len' {xs : List Int} {n : Nat} (lx : xs.length = n) (k : Int) : (restL xs k).length = n := (rest_len xs k).trans lx
end Go.Proofs.Yteadibgjieimkaa

