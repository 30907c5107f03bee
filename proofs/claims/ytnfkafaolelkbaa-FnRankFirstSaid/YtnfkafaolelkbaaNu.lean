/-
  The contracts of ImageUnique in the forms that the laws ask for.
-/
import Derived.Test.YtnfkafaolelkbaaNk
namespace Go.Proofs.Ytnfkafaolelkbaa
set_option maxRecDepth 100000
open Go.RowKit

variable {W n : Nat} {V : Int} {xs ys : List Int}
theorem uni_ok (hI : Im W n xs) {b : Bool} (hb : uniB xs W n = b) (s : Option Addr) (cg : Nat) (w : World) (hR : Row w s n xs) :
    Calls Try.prog 43 #[.agg #[.int .i64 W, .slice s n cg]] w fun e w' => e = .returned (.bool b) ∧ Below w.heap.size w w' :=
  (uni_impl W s n cg xs w hR (by have := hI.l6; omega)).mono fun e w' hh => ⟨by rw [hh.1, unio_im hI, hb], hh.2⟩
theorem uni_io {b : Bool} (hb : uniO V xs = b) (hn : n ≤ 6) (s : Option Addr) (cg : Nat) (w : World) (hR : Row w s n xs) :
    Calls Try.prog 43 #[.agg #[.int .i64 V, .slice s n cg]] w fun e w' => e = .returned (.bool b) ∧ Below w.heap.size w w' :=
  (uni_impl V s n cg xs w hR (by omega)).mono fun e w' hh => ⟨by rw [hh.1, hb], hh.2⟩
theorem unio_yes (h : uniO V xs = true) (hl : xs.length = n) : ∃ W : Nat, V = W ∧ Im W n xs ∧ swL (cellOf xs) W n = [] := by
  unfold uniO uniB at h
  rw [Bool.and_eq_true, decide_eq_true_iff] at h
  have hW := validB_W h.1
  obtain ⟨W, rfl⟩ := Int.eq_ofNat_of_zero_le (by omega : 0 ≤ V)
  rw [Int.toNat_natCast, hl] at h
  exact ⟨W, rfl, Im.of h.1 hl, h.2⟩
theorem unib_iff {b : Bool} : uniB xs W n = b ↔ (swL (cellOf xs) W n = [] ↔ b = true) := by
  unfold uniB
  cases b
  · rw [decide_eq_false_iff_not]; simp
  · rw [decide_eq_true_iff]; simp
end Go.Proofs.Ytnfkafaolelkbaa

