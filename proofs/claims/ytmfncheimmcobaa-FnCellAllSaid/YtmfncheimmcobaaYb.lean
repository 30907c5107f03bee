/-
  CellCount of both sides in the laws' forms.
-/
import Derived.Test.YtmfncheimmcobaaYa
import Derived.Test.YtmfncheimmcobaaJx
namespace Go.Proofs.Ytmfncheimmcobaa
set_option maxRecDepth 100000
open Go.RowKit

theorem cc_ok {xs ys : List Int} {i j N : Int} {n m : Nat} (h : ccO xs ys i j = N) (s : Option Addr) (c : Nat) (s' : Option Addr) (c' : Nat) (w : World) (hR : Row w s n xs) (hC : Row w s' m ys) (hn : n ≤ 13) (hm : m ≤ 13) :
    Calls Try.prog 29 #[.slice s n c, .slice s' m c', .int .i64 i, .int .i64 j] w fun e w' => e = .returned (.int .i64 N) ∧ Below w.heap.size w w' := by
  rw [← h]; exact cc_impl s n c s' m c' xs ys i j w hR hC (by omega) (by omega)
theorem cc_sok {xs ys : List Int} {i j N : Int} {n m : Nat} (h : ccO xs ys i j = N) (s : Option Addr) (c : Nat) (s' : Option Addr) (c' : Nat) (w : World) (hR : Row w s n xs) (hC : Row w s' m ys) (hn : n ≤ 13) (hm : m ≤ 13) (hc : n ≤ c) :
    Calls Try.prog 30 #[.slice s n c, .slice s' m c', .int .i64 i, .int .i64 j] w fun e w' => e = .returned (.int .i64 N) ∧ Below w.heap.size w w' := by
  rw [← h]; exact cc_spec s n c s' m c' xs ys i j w hR hC (by omega) (by omega) hc
theorem cco_yes {xs ys : List Int} {i j : Nat} (h : ctdB xs ys = true) (hi : i < xs.length) (hj : j < ys.length) : ccO xs ys i j = cntC xs ys i j := by
  unfold ccO
  rw [if_pos ⟨h, ⟨by omega, by omega⟩, by omega, by omega⟩, Int.toNat_natCast, Int.toNat_natCast]
theorem cco_no {xs ys : List Int} {i j : Int} (h : ¬ (ctdB xs ys = true ∧ (0 ≤ i ∧ i < xs.length) ∧ (0 ≤ j ∧ j < ys.length))) : ccO xs ys i j = -1 := if_neg h
end Go.Proofs.Ytmfncheimmcobaa

