/-
  Counted sums: SumsCount of both sides in the laws' forms, and plain facts on what it answers.
-/
import Derived.Test.YtnfkafaolelkbaaJw
namespace Go.Proofs.Ytnfkafaolelkbaa
set_option maxRecDepth 100000
open Go.RowKit

theorem sc_ok {xs ys : List Int} {N : Int} {n m : Nat} (h : scO xs ys = N) (s : Option Addr) (c : Nat) (s' : Option Addr) (c' : Nat) (w : World) (hR : Row w s n xs) (hC : Row w s' m ys) (hn : n ≤ 13) (hm : m ≤ 13) :
    Calls Try.prog 21 #[.slice s n c, .slice s' m c'] w fun e w' => e = .returned (.int .i64 N) ∧ Below w.heap.size w w' := by
  rw [← h]; exact sc_impl s n c s' m c' xs ys w hR hC (by omega) (by omega)
theorem sc_sok {xs ys : List Int} {N : Int} {n m : Nat} (h : scO xs ys = N) (s : Option Addr) (c : Nat) (s' : Option Addr) (c' : Nat) (w : World) (hR : Row w s n xs) (hC : Row w s' m ys) (hn : n ≤ 13) (hm : m ≤ 13) (hc : n ≤ c) :
    Calls Try.prog 22 #[.slice s n c, .slice s' m c'] w fun e w' => e = .returned (.int .i64 N) ∧ Below w.heap.size w w' := by
  rw [← h]; exact sc_spec s n c s' m c' xs ys w hR hC (by omega) (by omega) hc
theorem sco_yes {xs ys : List Int} (h : ctdB xs ys = true) : scO xs ys = cntS xs ys := if_pos h
theorem ctdB_of {xs ys : List Int} (h : sumsB xs ys = true) (h2 : xs.length * ys.length ≤ 16) : ctdB xs ys = true := by
  unfold ctdB; rw [h, decide_eq_true h2]; rfl
theorem ctdB_flip {xs ys : List Int} (h : ctdB xs ys = true) : ctdB ys xs = true := by
  have hp := ctdB_parts h
  exact ctdB_of (sumsB_flip hp.1) (by rw [Nat.mul_comm]; exact hp.2)
theorem sco_bd {xs ys : List Int} (h : ctdB xs ys = true) : 0 ≤ cntS xs ys ∧ cntS xs ys ≤ 68719476736 := by
  have hs := (ctdB_parts h).1
  have hp := sumsB_parts hs
  have h0 : ∀ j, j < ys.length → 0 ≤ ys.getD j 0 := fun j hj => (hp.2.2.2 j hj).1
  have e : wayI ys.length xs ys = cntS xs ys := way_num _ xs ys rfl h0
  have := way_bd hp.2.1.2 (rows := xs) rfl h0 hp.1.2
  omega
theorem sco_turn {xs ys : List Int} (h : ctdB xs ys = true) : scO ys xs = cntS xs ys := by
  rw [sco_yes (ctdB_flip h)]; exact cnt_turn (ctdB_parts h).1
end Go.Proofs.Ytnfkafaolelkbaa

