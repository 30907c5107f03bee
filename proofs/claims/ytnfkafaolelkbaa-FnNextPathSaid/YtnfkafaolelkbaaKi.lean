/-
  What the laws of chapter 11 ask besides: a switch keeps the sums and changes four cells; lists of switches compared.
-/
import Derived.Test.YtnfkafaolelkbaaKh
import Derived.Test.YtnfkafaolelkbaaEp
import Derived.Test.YtnfkafaolelkbaaSk
import Derived.Test.YtnfkafaolelkbaaA
import Derived.Test.YtnfkafaolelkbaaK
namespace Go.Proofs.Ytnfkafaolelkbaa
set_option maxRecDepth 100000
open Go.RowKit

theorem rows_eq {f g : Nat → Int} {n : Nat} (h : ∀ i, i < n → f i = g i) : rowsL f n = rowsL g n := by
  unfold rowsL
  exact List.map_congr_left fun i hi => h i (List.mem_range.1 hi)
theorem fl_rsL {W n : Nat} {xs : List Int} (h : Im W n xs) {A B C D : Nat} (hC : C < W) (hD : D < W) (hCD : C ≠ D) (hs : swC (cellOf xs) A B C D = true) : rsL (flL xs W n A B C D) W n = rsL xs W n := by
  unfold rsL
  refine rows_eq fun i hi => ?_
  rw [cnt_sum, cnt_sum]
  have e := fl_rs hs hC hD hCD i
  refine Eq.trans (sum_ext fun j hj => ?_) (e.trans (sum_ext fun j hj => (cell_bit xs i j).symm))
  rw [cell_bit, fl_cell h hi hj]
theorem fl_csL {W n : Nat} {xs : List Int} (h : Im W n xs) {A B C D : Nat} (hA : A < n) (hB : B < n) (hAB : A ≠ B) (hs : swC (cellOf xs) A B C D = true) : csL (flL xs W n A B C D) n W = csL xs n W := by
  unfold csL
  refine rows_eq fun j hj => ?_
  unfold csI
  have e := fl_cs hs hA hB hAB j
  refine Eq.trans (sum_ext fun i hi => ?_) (e.trans (sum_ext fun i hi => (cell_bit xs i j).symm))
  rw [cell_bit, fl_cell h hi hj]
theorem fl_sums {W n : Nat} {xs : List Int} (h : Im W n xs) {A B C D : Nat} (hAB : A < B) (hB : B < n) (hCD : C < D) (hD : D < W) (hs : swC (cellOf xs) A B C D = true) : sameB W xs W (flL xs W n A B C D) = true :=
  h.same (fl_im h A B C D) (fl_rsL h (by omega) hD (by omega) hs).symm (fl_csL h (by omega) hB (by omega) hs).symm

theorem okB_mem {W n : Nat} {xs : List Int} (h : Im W n xs) (A B C D : Nat) : okB W xs A B C D = decide ((A, B, C, D) ∈ swL (cellOf xs) W n) := by
  by_cases hp : A < B ∧ B < n ∧ C < D ∧ D < W
  · rw [okB_yes h hp.1 hp.2.1 hp.2.2.1 hp.2.2.2, Bool.eq_iff_iff, decide_eq_true_iff, swl_mem]
    exact ⟨fun e => ⟨hp.1, hp.2.1, hp.2.2.1, hp.2.2.2, e⟩, fun e => e.2.2.2.2⟩
  · rw [decide_eq_false (fun e => hp (by have := swl_mem.1 e; exact ⟨this.1, this.2.1, this.2.2.1, this.2.2.2.1⟩))]
    refine okB_no2 ?_
    by_cases e : placeB W xs.length A B C D = true
    · exact absurd (placeB_iff.1 e) (by have := h.hl; omega)
    · simpa using e
theorem list_lt {W n : Nat} {xs : List Int} {Z : List SwT} (h : Im W n xs) (hZ : listS W xs = Z) {j k : Nat} (hj : j < k) (hk : k < Z.length) : ltS (Z[j]'(by omega)) Z[k] := by
  subst hZ
  have e := list_im h
  have hp := swl_sorted (cellOf xs) W n
  rw [← e] at hp
  exact List.pairwise_iff_getElem.1 hp j k (by omega) hk hj
theorem mem_take1 {Z : List SwT} {k : Nat} (hk : k < Z.length) (t : SwT) : t ∈ Z.take (k + 1) ↔ t ∈ Z.take k ∨ t = Z[k] := by
  rw [← List.take_append_getElem hk, List.mem_append, List.mem_singleton]
theorem bw_srow {w : World} {a : Option Addr} {n : Nat} {L : List SwT} (h : SRow w a n L) (p : Bw w) : SRow p.v a n L := h.bel p.h

/-- The cells of a row, as far as a column, that differ; those of the rows ahead. -/
def dif1 (xs L : List Int) (i m : Nat) : Int := sumI (fun j => bI (cellOf xs i j != cellOf L i j)) m
def difI (xs L : List Int) (W k : Nat) : Int := sumI (fun i => dif1 xs L i W) k
theorem dif1_succ (xs L : List Int) (i m : Nat) : dif1 xs L i (m + 1) = dif1 xs L i m + bI (cellOf xs i m != cellOf L i m) := rfl
theorem difI_succ (xs L : List Int) (W k : Nat) : difI xs L W (k + 1) = difI xs L W k + dif1 xs L k W := rfl
theorem dif1_bd (xs L : List Int) (i m : Nat) : 0 ≤ dif1 xs L i m ∧ dif1 xs L i m ≤ m := by
  induction m with
  | zero => simp [dif1, sumI]
  | succ m ih => rw [dif1_succ]; have := bI_01 (cellOf xs i m != cellOf L i m); omega
theorem difI_bd (xs L : List Int) {W : Nat} (hW : W ≤ 6) (k : Nat) : 0 ≤ difI xs L W k ∧ difI xs L W k ≤ 6 * k := by
  induction k with
  | zero => simp [difI, sumI]
  | succ k ih => rw [difI_succ]; have := dif1_bd xs L k W; omega
theorem dif_four {W n : Nat} {xs : List Int} (h : Im W n xs) {A B C D : Nat} (hAB : A < B) (hB : B < n) (hCD : C < D) (hD : D < W) : difI xs (flL xs W n A B C D) W n = 4 := by
  rw [← fl_four (c := cellOf xs) (W := W) (n := n) (A := A) (B := B) (C := C) (D := D) (by omega) hB (by omega) (by omega) hD (by omega)]
  exact sum_ext fun i hi => sum_ext fun j hj => by rw [fl_cell h hi hj]
theorem has_cell {W n : Nat} {xs : List Int} (h : Im W n xs) {i j : Nat} (hi : i < n) (hj : j < W) : hasB W xs i j = cellOf xs i j := by
  rw [h.has hi hj]
  unfold cellOf
  rw [Bool.eq_iff_iff]; simp
theorem corner_cell {W n : Nat} {xs : List Int} (h : Im W n xs) {A B C D i j : Nat} (hi : i < n) (hj : j < W) : (hasB W xs i j != hasB W (flL xs W n A B C D) i j) = decide ((i = A ∨ i = B) ∧ (j = C ∨ j = D)) := by
  rw [has_cell h hi hj, has_cell (fl_im h A B C D) hi hj, fl_cell h hi hj]
  by_cases e : (i = A ∨ i = B) ∧ (j = C ∨ j = D)
  · rw [fl_corner e, decide_eq_true e]; cases cellOf xs i j <;> rfl
  · rw [fl_other e, decide_eq_false e]; simp

end Go.Proofs.Ytnfkafaolelkbaa

