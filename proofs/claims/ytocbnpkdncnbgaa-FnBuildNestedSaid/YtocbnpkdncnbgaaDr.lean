/-
  The contracts of BuildNested in the form that the laws use.
-/
import Derived.Test.YtocbnpkdncnbgaaDe
import Derived.Test.YtocbnpkdncnbgaaEp
namespace Go.Proofs.Ytocbnpkdncnbgaa
set_option maxRecDepth 100000
open Go.RowKit

theorem bn_ok {xs L : List Int} {W n : Nat} (h : nestB xs W = true) (hL : nestL xs W = L) (lx : xs.length = n) (s : Option Addr) (c : Nat) (w : World) (hR : Row w s n xs) :
    Calls Try.prog 6 #[.slice s n c, .int .i64 W] w (GivesI w W n L) := by
  have hp := nestB_parts h
  have hc := bn_impl s n c xs W w hR (by omega)
  unfold nestOut at hc
  rw [if_pos h, Int.toNat_natCast, hL] at hc
  exact hc.mono fun e w' hg => hg.ok (by rw [← hL, nest_len, lx])
theorem bn_no {xs : List Int} {e : Int} {n : Nat} (h : nestB xs e = false) (hn : n ≤ 13) (s : Option Addr) (c : Nat) (w : World) (hR : Row w s n xs) :
    Calls Try.prog 6 #[.slice s n c, .int .i64 e] w (GivesN w) := by
  have hc := bn_impl s n c xs e w hR (by omega)
  rw [nestOut_no h] at hc
  exact hc
theorem bns_ok {xs L : List Int} {W n : Nat} (h : nestB xs W = true) (hL : nestL xs W = L) (lx : xs.length = n) (s : Option Addr) (c : Nat) (w : World) (hR : Row w s n xs) :
    Calls Try.prog 7 #[.slice s n c, .int .i64 W] w (GivesI w W n L) := by
  have hp := nestB_parts h
  have hc := bn_spec s n c xs W w hR (by omega)
  unfold nestOut at hc
  rw [if_pos h, Int.toNat_natCast, hL] at hc
  exact hc.mono fun e w' hg => hg.ok (by rw [← hL, nest_len, lx])
theorem bns_no {xs : List Int} {e : Int} {n : Nat} (h : nestB xs e = false) (hn : n ≤ 13) (s : Option Addr) (c : Nat) (w : World) (hR : Row w s n xs) :
    Calls Try.prog 7 #[.slice s n c, .int .i64 e] w (GivesN w) := by
  have hc := bn_spec s n c xs e w hR (by omega)
  rw [nestOut_no h] at hc
  exact hc
theorem cge_map (xs : List Int) (c : Int) : cge xs c = lsum (xs.map fun x => if c ≤ x then 1 else 0) := by
  rw [← psum_all, List.length_map]
  exact sum_ext fun i hi => (map_getD (f := fun x => if c ≤ x then 1 else 0) hi).symm
theorem conj_sort {xs : List Int} {n : Nat} (h : elB xs = true) : conjL (sortL xs) n = conjL xs n :=
  rows_ext fun k _ => by rw [cge_map, cge_map]; exact lsum_perm ((sort_perm h).map _)
theorem nestB_W {xs : List Int} {e : Int} (h : nestB xs e = true) : 1 ≤ e ∧ e ≤ 6 := by
  unfold nestB at h
  rw [Bool.and_eq_true, Bool.and_eq_true] at h
  have := inB_iff.1 h.2.1
  omega
end Go.Proofs.Ytocbnpkdncnbgaa

