/-
  Numbers of switches: rows under a mask of two columns, the rows that a switch leaves, sums of rows, and how many switches there can be.
-/
import Derived.Test.YteejopkimlkhoaaEb
namespace Go.Proofs.Yteejopkimlkhoaa
set_option maxRecDepth 100000
open Go.RowKit

/-- The row in which just two columns are set. -/
def mskI (C D : Nat) : Int := pw C + pw D
theorem msk_num : ∀ D, D < 6 → ∀ C, C < D → bits BinOp.or IntKind.i64 (wrap64 (2 ^ C)) (wrap64 (2 ^ D)) = mskI C D := by decide +kernel
theorem msk_63 : ∀ D, D < 6 → ∀ C, C < D → 0 ≤ mskI C D ∧ mskI C D ≤ 63 := by decide +kernel
theorem and_msk : ∀ D, D < 6 → ∀ C, C < D → ∀ n, n < 64 → bits BinOp.and IntKind.i64 ((n : Nat) : Int) (mskI C D) = bitI n C * pw C + bitI n D * pw D := by decide +kernel
theorem and_63 : ∀ D, D < 6 → ∀ C, C < D → ∀ n, n < 64 → 0 ≤ bits BinOp.and IntKind.i64 ((n : Nat) : Int) (mskI C D) ∧ bits BinOp.and IntKind.i64 ((n : Nat) : Int) (mskI C D) ≤ 63 := by decide +kernel
theorem xor_msk : ∀ D, D < 6 → ∀ C, C < D → ∀ n, n < 64 → ∀ j, j < 6 → bitI (bits BinOp.xor IntKind.i64 ((n : Nat) : Int) (mskI C D)) j = if j = C ∨ j = D then 1 - bitI n j else bitI n j := by decide +kernel
theorem xor_63 : ∀ D, D < 6 → ∀ C, C < D → ∀ n, n < 64 → 0 ≤ bits BinOp.xor IntKind.i64 ((n : Nat) : Int) (mskI C D) ∧ bits BinOp.xor IntKind.i64 ((n : Nat) : Int) (mskI C D) ≤ 63 := by decide +kernel
theorem xor_add : ∀ D, D < 6 → ∀ C, C < D → ∀ n, n < 64 → bits BinOp.xor IntKind.i64 ((n : Nat) : Int) (mskI C D) = n + (1 - 2 * bitI n C) * pw C + (1 - 2 * bitI n D) * pw D := by decide +kernel
def twoI (p q : Bool) (C D : Nat) : Int := bI p * pw C + bI q * pw D
theorem two_cnt (p q : Bool) : ∀ D, D < 6 → ∀ C, C < D → (cntI (twoI p q C D) 6 == 1) = (p != q) := by
  cases p <;> cases q <;> decide +kernel
theorem two_xor (p q r s : Bool) : ∀ D, D < 6 → ∀ C, C < D → (bits BinOp.xor IntKind.i64 (twoI p q C D) (twoI r s C D) == mskI C D) = ((r != p) && (s != q)) := by
  cases p <;> cases q <;> cases r <;> cases s <;> decide +kernel
theorem cell_bit (xs : List Int) (i j : Nat) : bitI (xs.getD i 0) j = bI (cellOf xs i j) := by
  unfold cellOf bI
  have := bit_01 (xs.getD i 0) j
  by_cases e : bitI (xs.getD i 0) j = 1
  · rw [if_pos (decide_eq_true e), e]
  · rw [if_neg (by simpa using e)]; omega
theorem bI_inj {a b : Bool} (h : bI a = bI b) : a = b := by revert h; cases a <;> cases b <;> simp [bI]
theorem bit_cell {xs ys : List Int} {i k j l : Nat} : bitI (xs.getD i 0) j = bitI (ys.getD k 0) l ↔ cellOf xs i j = cellOf ys k l := by
  rw [cell_bit, cell_bit]; exact ⟨bI_inj, fun h => by rw [h]⟩
theorem msk_row {W n : Nat} {xs : List Int} (h : Im W n xs) {i C D : Nat} (hi : i < n) (hC : C < D) (hD : D < W) : bits BinOp.and IntKind.i64 (xs.getD i 0) (mskI C D) = twoI (cellOf xs i C) (cellOf xs i D) C D := by
  obtain ⟨m, e, hm⟩ := h.nat hi
  rw [e, and_msk D (by have := h.w6; omega) C hC m hm, ← e, cell_bit, cell_bit]; rfl
theorem cross_row {W n : Nat} {xs : List Int} (h : Im W n xs) {A B C D : Nat} (hA : A < n) (hB : B < n) (hC : C < D) (hD : D < W) :
    ((cntI (bits BinOp.and IntKind.i64 (xs.getD A 0) (mskI C D)) 6 == 1) && (bits BinOp.xor IntKind.i64 (bits BinOp.and IntKind.i64 (xs.getD A 0) (mskI C D)) (bits BinOp.and IntKind.i64 (xs.getD B 0) (mskI C D)) == mskI C D)) = swC (cellOf xs) A B C D := by
  have hD6 : D < 6 := by have := h.w6; omega
  rw [msk_row h hA hC hD, msk_row h hB hC hD, two_cnt _ _ D hD6 C hC, two_xor _ _ _ _ D hD6 C hC]
  unfold swC
  cases cellOf xs A C <;> cases cellOf xs A D <;> cases cellOf xs B C <;> cases cellOf xs B D <;> rfl
theorem bit_high {x : Int} {W j : Nat} (h0 : 0 ≤ x) (h : x ≤ pw W - 1) (hj : W ≤ j) : bitI x j = 0 := by
  unfold bitI
  rw [Int.ediv_eq_zero_of_lt h0 (by have := pw_le W j hj; omega)]; rfl
/-- The rows that a switch leaves. -/
def flL (xs : List Int) (W n A B C D : Nat) : List Int := cellsL (flC (cellOf xs) A B C D) W n
theorem fll_len (xs : List Int) (W n A B C D : Nat) : (flL xs W n A B C D).length = n := cells_len _ _ _
theorem fl_im {W n : Nat} {xs : List Int} (h : Im W n xs) (A B C D : Nat) : Im W n (flL xs W n A B C D) := cells_im _ h.w1 h.w6 h.l1 h.l6
theorem fl_cell {W n : Nat} {xs : List Int} (h : Im W n xs) {A B C D i j : Nat} (hi : i < n) (hj : j < W) : cellOf (flL xs W n A B C D) i j = flC (cellOf xs) A B C D i j := by
  unfold flL
  show decide (_ = (1 : Int)) = _
  rw [cells_bit h.w6 hi hj]
  cases flC (cellOf xs) A B C D i j <;> rfl
theorem fl_row {W n : Nat} {xs : List Int} (h : Im W n xs) {A B C D i : Nat} (hi : i < n) (hC : C < D) (hD : D < W) (hAB : i = A ∨ i = B) : bits BinOp.xor IntKind.i64 (xs.getD i 0) (mskI C D) = rowN (flC (cellOf xs) A B C D i) W := by
  have hD6 : D < 6 := by have := h.w6; omega
  have hr := h.row i hi
  have hw6 := h.w6
  obtain ⟨m, e, hm⟩ := h.nat hi
  have hN := rowN_bd (flC (cellOf xs) A B C D i) W
  have hp := pw_63 hw6
  have h63 := xor_63 D hD6 C hC m hm
  rw [e]
  refine bits_ext (k := 6) (by omega) ⟨h63.1, h63.2⟩ ⟨hN.1, by show _ ≤ (63 : Int); omega⟩ fun j hj => ?_
  rw [xor_msk D hD6 C hC m hm j hj, rowN_bit _ hw6 (by omega), ← e, cell_bit]
  by_cases hjW : j < W
  · by_cases hcd : j = C ∨ j = D
    · rw [if_pos hcd, fl_corner ⟨hAB, hcd⟩, ← bI_not]
      cases cellOf xs i j <;> simp [bI, hjW]
    · rw [if_neg hcd, fl_other (by omega)]
      cases cellOf xs i j <;> simp [bI, hjW]
  · rw [if_neg (by omega), if_neg (by omega), ← cell_bit]
    exact bit_high hr.1 hr.2 (by omega)
theorem fl_same {W n : Nat} {xs : List Int} (h : Im W n xs) {A B C D i : Nat} (hi : i < n) (hne : i ≠ A ∧ i ≠ B) : (flL xs W n A B C D).getD i 0 = xs.getD i 0 := by
  have e : (cellsL (cellOf xs) W n).getD i 0 = xs.getD i 0 := by rw [cells_of h]
  rw [cells_get hi] at e
  unfold flL
  rw [cells_get hi, ← e]
  congr 1
  funext j
  exact fl_other (by omega)
theorem fl_get {W n : Nat} {xs : List Int} (h : Im W n xs) {A B C D i : Nat} (hi : i < n) (hC : C < D) (hD : D < W) (hAB : i = A ∨ i = B) : (flL xs W n A B C D).getD i 0 = bits BinOp.xor IntKind.i64 (xs.getD i 0) (mskI C D) := by
  rw [fl_row h hi hC hD hAB]; exact cells_get hi
/-- Two rows are changed. -/
theorem fll_set {W n : Nat} {xs : List Int} (h : Im W n xs) {A B C D : Nat} (hA : A < B) (hB : B < n) (hC : C < D) (hD : D < W) :
    (xs.set A (bits BinOp.xor IntKind.i64 (xs.getD A 0) (mskI C D))).set B (bits BinOp.xor IntKind.i64 ((xs.set A (bits BinOp.xor IntKind.i64 (xs.getD A 0) (mskI C D))).getD B 0) (mskI C D)) = flL xs W n A B C D := by
  have hl := h.hl
  have e0 : (xs.set A (bits BinOp.xor IntKind.i64 (xs.getD A 0) (mskI C D))).getD B 0 = xs.getD B 0 := by
    rw [List.getD_eq_getElem?_getD, List.getElem?_set_ne (by omega), ← List.getD_eq_getElem?_getD]
  rw [e0]
  apply List.ext_getElem (by rw [List.length_set, List.length_set, fll_len]; exact hl)
  intro i hi hi2
  rw [List.length_set, List.length_set] at hi
  rw [← getD_elem hi2]
  by_cases e1 : i = B
  · subst e1; rw [List.getElem_set_self, fl_get h (by omega) hC hD (.inr rfl)]
  · rw [List.getElem_set_ne (by omega)]
    by_cases e2 : i = A
    · subst e2; rw [List.getElem_set_self, fl_get h (by omega) hC hD (.inl rfl)]
    · rw [List.getElem_set_ne (by omega), fl_same h (by omega) ⟨e2, e1⟩]; exact (getD_elem (by omega)).symm
/-- A switch of rows that are different keeps the sum of their numbers. -/
theorem fl_sum {W n : Nat} {xs : List Int} (h : Im W n xs) {A B C D : Nat} (hA : A < n) (hB : B < n) (hC : C < D) (hD : D < W) (hs : swC (cellOf xs) A B C D = true) :
    (flL xs W n A B C D).getD A 0 + (flL xs W n A B C D).getD B 0 = xs.getD A 0 + xs.getD B 0 ∧ xs.getD A 0 ≠ xs.getD B 0 := by
  have hD6 : D < 6 := by have := h.w6; omega
  have hb := sw_bits hs
  refine ⟨?_, fun e => ?_⟩
  · rw [fl_get h hA hC hD (.inl rfl), fl_get h hB hC hD (.inr rfl)]
    obtain ⟨a, ea, ha⟩ := h.nat hA
    obtain ⟨b, eb, hb'⟩ := h.nat hB
    rw [ea, eb, xor_add D hD6 C hC a ha, xor_add D hD6 C hC b hb', ← ea, ← eb, cell_bit, cell_bit, cell_bit, cell_bit]
    have e1 : 1 - 2 * bI (cellOf xs B C) = -(1 - 2 * bI (cellOf xs A C)) := by omega
    have e2 : 1 - 2 * bI (cellOf xs B D) = -(1 - 2 * bI (cellOf xs A D)) := by omega
    rw [e1, e2, Int.neg_mul, Int.neg_mul]
    omega
  · have hc := hb.2.2.1
    rw [← cell_bit, ← cell_bit, e] at hc
    have := bit_01 (xs.getD B 0) C
    omega
theorem turn_cell {W n : Nat} {xs : List Int} (h : Im W n xs) {i j : Nat} (hi : i < n) (hj : j < W) : cellOf (turnL xs W n) j i = cellOf xs i j := by
  unfold cellOf; rw [h.turn_bit hi hj]
theorem mir_cell {W n : Nat} {xs : List Int} (h : Im W n xs) {i j : Nat} (hi : i < n) (hj : j < W) : cellOf (mirL xs W n) i j = cellOf xs i (W - 1 - j) := by
  unfold cellOf; rw [h.mir_bit' hi hj]
theorem fl_turn {W n : Nat} {xs : List Int} (h : Im W n xs) (A B C D : Nat) : turnL (flL xs W n A B C D) W n = flL (turnL xs W n) n W C D A B := by
  unfold flL
  rw [cells_turn h.w1 h.w6 h.l1 h.l6]
  refine cells_ext fun j i hj hi => ?_
  show flC (cellOf xs) A B C D i j = flC (cellOf (turnL xs W n)) C D A B j i
  by_cases e : (i = A ∨ i = B) ∧ (j = C ∨ j = D)
  · rw [fl_corner e, fl_corner ⟨e.2, e.1⟩, turn_cell h hi hj]
  · rw [fl_other e, fl_other (fun e' => e ⟨e'.2, e'.1⟩), turn_cell h hi hj]
theorem sw_ext {c d : Nat → Nat → Bool} {A B C D : Nat} (h1 : c A C = d A C) (h2 : c B D = d B D) (h3 : c A D = d A D) (h4 : c B C = d B C) : swC c A B C D = swC d A B C D := by
  unfold swC; rw [h1, h2, h3, h4]
theorem sw_turned {W n : Nat} {xs : List Int} (h : Im W n xs) {A B C D : Nat} (hA : A < n) (hB : B < n) (hC : C < W) (hD : D < W) : swC (cellOf (turnL xs W n)) C D A B = swC (cellOf xs) A B C D := by
  rw [← sw_turn (c := cellOf xs)]
  exact sw_ext (turn_cell h hA hC) (turn_cell h hB hD) (turn_cell h hB hC) (turn_cell h hA hD)
theorem sw_done {W n : Nat} {xs : List Int} (h : Im W n xs) {A B C D : Nat} (hA : A < n) (hB : B < n) (hC : C < W) (hD : D < W) : swC (cellOf (flL xs W n A B C D)) A B C D = swC (cellOf xs) A B C D := by
  rw [← sw_fl (c := cellOf xs)]
  exact sw_ext (fl_cell h hA hC) (fl_cell h hB hD) (fl_cell h hA hD) (fl_cell h hB hC)
theorem fl_twice {W n : Nat} {xs : List Int} (h : Im W n xs) (A B C D : Nat) : flL (flL xs W n A B C D) W n A B C D = xs := by
  have e : flL (flL xs W n A B C D) W n A B C D = cellsL (cellOf xs) W n := by
    refine cells_ext fun i j hi hj => ?_
    have e2 := congrFun (congrFun (fl_fl (c := cellOf xs) (A := A) (B := B) (C := C) (D := D)) i) j
    rw [← e2]
    by_cases e1 : (i = A ∨ i = B) ∧ (j = C ∨ j = D)
    · rw [fl_corner e1, fl_corner e1, fl_cell h hi hj]
    · rw [fl_other e1, fl_other e1, fl_cell h hi hj]
  rw [e]; exact cells_of h
/-- How many switches an image has at most. -/
theorem tri_const (K : Int) : ∀ n, n < 7 → triI (fun _ _ => K) n = ((n * (n - 1) / 2 : Nat) : Int) * K
  | 0, _ => by simp [triI, sumI]
  | 1, _ => by simp [triI, sumI]
  | 2, _ => by simp [triI, sumI]
  | 3, _ => by simp [triI, sumI]; omega
  | 4, _ => by simp [triI, sumI]; omega
  | 5, _ => by simp [triI, sumI]; omega
  | 6, _ => by simp [triI, sumI]; omega
  | n + 7, h => by omega
theorem mul_quarter : ∀ W, W < 7 → ∀ x, x < 7 → ∀ y, y < 7 → x + y ≤ W → x * y ≤ W * W / 4 := by decide +kernel
theorem only_mul (c : Nat → Nat → Bool) (i k : Nat) {W : Nat} (hW : W < 7) : onlyI c i k W * onlyI c k i W ≤ ((W * W / 4 : Nat) : Int) := by
  have h := only_bd c i k W
  obtain ⟨x, hx⟩ := Int.eq_ofNat_of_zero_le h.1
  obtain ⟨y, hy⟩ := Int.eq_ofNat_of_zero_le h.2.1
  rw [hx, hy] at h ⊢
  have := mul_quarter W hW x (by omega) y (by omega) (by omega)
  rw [← Int.natCast_mul]; omega
theorem many_le (c : Nat → Nat → Bool) {W n : Nat} (hW : W < 7) (hn : n < 7) : manyC c W n ≤ ((n * (n - 1) / 2 * (W * W / 4) : Nat) : Int) := by
  have h := tri_le (F := fun i k => triI (fun j l => bI (swC c i k j l)) W) (G := fun _ _ => ((W * W / 4 : Nat) : Int)) (n := n) fun i k _ _ => by
    (try dsimp only)
    rw [pair_many]; exact only_mul c i k hW
  rw [tri_const _ n hn] at h
  rw [Int.natCast_mul]
  exact h
theorem many_four : ∀ n, n < 7 → ∀ W, W < 7 → 4 * (n * (n - 1) / 2 * (W * W / 4)) ≤ n * n * W * W := by decide +kernel
theorem many_nn (c : Nat → Nat → Bool) (W n : Nat) : 0 ≤ manyC c W n := by rw [← swl_len]; omega
theorem many_row (c : Nat → Nat → Bool) (W : Nat) : manyC c W 1 = 0 := by simp [manyC, triI, sumI]
theorem many_col (c : Nat → Nat → Bool) (n : Nat) : manyC c 1 n = 0 := by rw [← many_turn]; exact many_row _ _
/-- Switches by pairs of rows, added up in order. -/
theorem many_pairs (c : Nat → Nat → Bool) (W n : Nat) : sumL (fun p => onlyI c p.1 p.2 W * onlyI c p.2 p.1 W) (pairsL n) = manyC c W n := by
  rw [suml_pairs]
  exact tri_ext fun i k _ _ => (pair_many c i k W).symm
end Go.Proofs.Yteejopkimlkhoaa

