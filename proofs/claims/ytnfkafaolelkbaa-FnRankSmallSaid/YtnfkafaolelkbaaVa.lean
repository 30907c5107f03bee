/-
  Plain facts on distances of images: how many cells are different, what one switch changes, and that images with the same sums have a switch of one of them that leads toward the other one.
  Plain facts on paths of switches: the first switch that helps, the path between two images, its length, and what switches leave that are done one after the other.
-/
import Derived.Test.YtnfkafaolelkbaaEa
import Derived.Test.YtnfkafaolelkbaaKi

namespace Go.Proofs.Ytnfkafaolelkbaa
set_option maxRecDepth 100000
open Go.RowKit

/-- How many cells of two images are different. -/
def farI (c d : Nat → Nat → Bool) (W n : Nat) : Int := sumI (fun i => sumI (fun j => bI (c i j != d i j)) W) n
theorem sum_pos {f : Nat → Int} : ∀ {k : Nat}, 0 < sumI f k → ∃ i, i < k ∧ 0 < f i
  | 0, h => by simp [sumI] at h
  | k + 1, h => by
    by_cases e : 0 < f k
    · exact ⟨k, by omega, e⟩
    · obtain ⟨i, hi, hf⟩ := sum_pos (f := f) (k := k) (by simp only [sumI] at h; omega)
      exact ⟨i, by omega, hf⟩
theorem sum_nn {f : Nat → Int} {k : Nat} (h : ∀ i, i < k → 0 ≤ f i) : 0 ≤ sumI f k := by
  rw [← sum_zero k]; exact sum_le h
theorem sum_at {f : Nat → Int} {k i : Nat} (h : ∀ i, i < k → 0 ≤ f i) (hi : i < k) : f i ≤ sumI f k := by
  induction k with
  | zero => omega
  | succ k ih =>
    simp only [sumI]
    have hk := h k (by omega)
    have h0 := sum_nn (f := f) (k := k) fun j hj => h j (by omega)
    by_cases e : i = k
    · subst e; omega
    · have := ih (fun j hj => h j (by omega)) (by omega); omega
theorem sum_twice (f : Nat → Int) (k : Nat) : sumI (fun i => 2 * f i) k = 2 * sumI f k := by
  induction k with
  | zero => rfl
  | succ k ih => simp only [sumI]; rw [ih]; omega
theorem sum_same (x : Int) (k : Nat) : sumI (fun _ => x) k = k * x := by
  induction k with
  | zero => simp [sumI]
  | succ k ih => simp only [sumI]; rw [ih, show ((k + 1 : Nat) : Int) = k + 1 by omega, Int.add_mul]; omega
theorem far_row (c d : Nat → Nat → Bool) (W i : Nat) : 0 ≤ sumI (fun j => bI (c i j != d i j)) W ∧ sumI (fun j => bI (c i j != d i j)) W ≤ W := sum_bd (fun _ => bI_01 _) W
theorem far_nn (c d : Nat → Nat → Bool) (W n : Nat) : 0 ≤ farI c d W n := sum_nn fun i _ => (far_row c d W i).1
theorem far_le (c d : Nat → Nat → Bool) (W n : Nat) : farI c d W n ≤ n * W := by
  rw [← sum_same]; exact sum_le fun i _ => (far_row c d W i).2
theorem bne_flip (a b : Bool) : (a != b) = (b != a) := by cases a <;> cases b <;> rfl
theorem far_comm (c d : Nat → Nat → Bool) (W n : Nat) : farI c d W n = farI d c W n :=
  sum_ext fun i _ => sum_ext fun j _ => by rw [bne_flip]
theorem far_ext {c d c' d' : Nat → Nat → Bool} {W n : Nat} (h : ∀ i j, i < n → j < W → c i j = c' i j) (h' : ∀ i j, i < n → j < W → d i j = d' i j) : farI c d W n = farI c' d' W n :=
  sum_ext fun i hi => sum_ext fun j hj => by rw [h i j hi hj, h' i j hi hj]
theorem far_cell {c d : Nat → Nat → Bool} {W n i j : Nat} (hi : i < n) (hj : j < W) : bI (c i j != d i j) ≤ farI c d W n :=
  Int.le_trans (sum_at (f := fun j => bI (c i j != d i j)) (fun _ _ => (bI_01 _).1) hj) (sum_at (f := fun i => sumI (fun j => bI (c i j != d i j)) W) (fun i _ => (far_row c d W i).1) hi)
theorem far_none {c d : Nat → Nat → Bool} {W n : Nat} : farI c d W n = 0 ↔ ∀ i j, i < n → j < W → c i j = d i j := by
  constructor
  · intro h i j hi hj
    have := far_cell (c := c) (d := d) hi hj
    rw [h] at this
    revert this
    cases c i j <;> cases d i j <;> simp [bI]
  · intro h
    unfold farI
    rw [sum_ext (g := fun _ => 0) fun i hi => by (try dsimp only); rw [sum_ext (g := fun _ => 0) fun j hj => by (try dsimp only); rw [h i j hi hj]; cases d i j <;> rfl, sum_zero], sum_zero]
theorem far_turn (c d : Nat → Nat → Bool) (W n : Nat) : farI (fun i j => c j i) (fun i j => d j i) n W = farI c d W n :=
  (sum_swap (fun i j => bI (c i j != d i j)) n W).symm
theorem far_others (c d : Nat → Nat → Bool) (W n : Nat) : farI (fun i j => !c i j) (fun i j => !d i j) W n = farI c d W n :=
  sum_ext fun i _ => sum_ext fun j _ => by (try dsimp only); cases c i j <;> cases d i j <;> rfl
theorem far_other (c d : Nat → Nat → Bool) (W n : Nat) : farI c (fun i j => !d i j) W n = n * W - farI c d W n := by
  unfold farI
  rw [← sum_same, ← sum_take]
  refine sum_ext fun i _ => ?_
  have := sum_same 1 W
  rw [Int.mul_one] at this
  rw [← this, ← sum_take]
  exact sum_ext fun j _ => by (try dsimp only); cases c i j <;> cases d i j <;> rfl
/-- One cell is changed. -/
theorem far_one {c e : Nat → Nat → Bool} (d : Nat → Nat → Bool) {W n i j : Nat} (hi : i < n) (hj : j < W) (h : ∀ a b, a < n → b < W → e a b = if a = i ∧ b = j then !c a b else c a b) :
    farI e d W n = farI c d W n + (1 - 2 * bI (c i j != d i j)) := by
  refine sum_one (m := i) hi ?_ fun a ha hne => sum_ext fun b hb => by rw [h a b ha hb, if_neg (by omega)]
  refine sum_one (m := j) hj ?_ fun b hb hne => by (try dsimp only); rw [h i b hi hb, if_neg (by omega)]
  (try dsimp only)
  rw [h i j hi hj, if_pos ⟨rfl, rfl⟩]
  cases c i j <;> cases d i j <;> rfl
theorem far_self (c : Nat → Nat → Bool) (W n : Nat) : farI c c W n = 0 := far_none.2 fun _ _ _ _ => rfl
theorem far_put {c e : Nat → Nat → Bool} (d : Nat → Nat → Bool) {W n i j : Nat} (hi : i < n) (hj : j < W) (h : ∀ a b, a < n → b < W → e a b = if a = i ∧ b = j then !c a b else c a b) :
    (farI e d W n - farI c d W n = 1 ∨ farI e d W n - farI c d W n = -1) ∧ farI c e W n = 1 := by
  have h1 := far_one d hi hj h
  have h2 := far_one c hi hj h
  rw [far_self] at h2
  have h3 := bI_01 (c i j != d i j)
  rw [show bI (c i j != c i j) = 0 by cases c i j <;> rfl] at h2
  rw [far_comm c e]
  exact ⟨by omega, by omega⟩
/-- A way over a third image. -/
theorem far_three (c d e : Nat → Nat → Bool) (W n : Nat) : farI c d W n ≤ farI c e W n + farI e d W n ∧ (farI c d W n + farI c e W n + farI e d W n) % 2 = 0 := by
  constructor
  · unfold farI
    rw [← sum_add]
    refine sum_le fun i _ => ?_
    rw [← sum_add]
    exact sum_le fun j _ => by cases c i j <;> cases d i j <;> cases e i j <;> simp [bI]
  · have : farI c d W n + farI c e W n + farI e d W n = 2 * sumI (fun i => sumI (fun j => bI ((c i j != d i j) || (c i j != e i j))) W) n := by
      unfold farI
      rw [← sum_add, ← sum_add, ← sum_twice]
      refine sum_ext fun i _ => ?_
      rw [← sum_add, ← sum_add, ← sum_twice]
      exact sum_ext fun j _ => by cases c i j <;> cases d i j <;> cases e i j <;> simp [bI]
    omega
/-- How many of the four cells of a switch are different. -/
def cornI (c d : Nat → Nat → Bool) (A B C D : Nat) : Int := bI (c A C != d A C) + bI (c A D != d A D) + (bI (c B C != d B C) + bI (c B D != d B D))
theorem corn_bd (c d : Nat → Nat → Bool) (A B C D : Nat) : 0 ≤ cornI c d A B C D ∧ cornI c d A B C D ≤ 4 := by
  unfold cornI
  have h1 := bI_01 (c A C != d A C); have h2 := bI_01 (c A D != d A D); have h3 := bI_01 (c B C != d B C); have h4 := bI_01 (c B D != d B D)
  omega
theorem not_bne (a b : Bool) : bI ((!a) != b) = bI (a != b) + (1 - 2 * bI (a != b)) := by cases a <;> cases b <;> rfl
theorem far_fl {c d : Nat → Nat → Bool} {A B C D W n : Nat} (hA : A < n) (hB : B < n) (hAB : A ≠ B) (hC : C < W) (hD : D < W) (hCD : C ≠ D) :
    farI (flC c A B C D) d W n = farI c d W n + (4 - 2 * cornI c d A B C D) := by
  have row : ∀ i, i = A ∨ i = B → sumI (fun j => bI (flC c A B C D i j != d i j)) W = sumI (fun j => bI (c i j != d i j)) W + (2 - 2 * (bI (c i C != d i C) + bI (c i D != d i D))) := fun i hi => by
    have := sum_two (f := fun j => bI (flC c A B C D i j != d i j)) (g := fun j => bI (c i j != d i j)) (n := W) (p := C) (q := D) (d := 1 - 2 * bI (c i C != d i C)) (e := 1 - 2 * bI (c i D != d i D)) hC hD hCD
      (by (try dsimp only); rw [fl_corner ⟨hi, .inl rfl⟩, not_bne]) (by (try dsimp only); rw [fl_corner ⟨hi, .inr rfl⟩, not_bne]) (fun j _ h1 h2 => by (try dsimp only); rw [fl_other (by omega)])
    omega
  have := sum_two (f := fun i => sumI (fun j => bI (flC c A B C D i j != d i j)) W) (g := fun i => sumI (fun j => bI (c i j != d i j)) W) (n := n) (p := A) (q := B)
    (d := 2 - 2 * (bI (c A C != d A C) + bI (c A D != d A D))) (e := 2 - 2 * (bI (c B C != d B C) + bI (c B D != d B D))) hA hB hAB (row A (.inl rfl)) (row B (.inr rfl))
    (fun i _ h1 h2 => sum_ext fun j _ => by rw [fl_other (by omega)])
  unfold farI cornI
  omega
/-- The sums of rows and columns are the same. -/
structure SameC (c d : Nat → Nat → Bool) (W n : Nat) : Prop where
  rows : ∀ i, i < n → sumI (fun j => bI (c i j)) W = sumI (fun j => bI (d i j)) W
  cols : ∀ j, j < W → sumI (fun i => bI (c i j)) n = sumI (fun i => bI (d i j)) n
theorem SameC.flip {c d : Nat → Nat → Bool} {W n : Nat} (h : SameC c d W n) : SameC d c W n := ⟨fun i hi => (h.rows i hi).symm, fun j hj => (h.cols j hj).symm⟩
theorem max_ex (f : Nat → Int) : ∀ n, 0 < n → ∃ A, A < n ∧ ∀ k, k < n → f k ≤ f A
  | 0, h => by omega
  | 1, _ => ⟨0, by omega, fun k hk => by rw [show k = 0 by omega]; omega⟩
  | n + 2, _ => by
    obtain ⟨A, hA, h⟩ := max_ex f (n + 1) (by omega)
    by_cases e : f A ≤ f (n + 1)
    · exact ⟨n + 1, by omega, fun k hk => by
        by_cases e2 : k = n + 1
        · rw [e2]; omega
        · have := h k (by omega); omega⟩
    · exact ⟨A, by omega, fun k hk => by
        by_cases e2 : k = n + 1
        · rw [e2]; omega
        · exact h k (by omega)⟩
theorem only_same {f g : Nat → Bool} {k : Nat} (h : sumI (fun j => bI (f j)) k = sumI (fun j => bI (g j)) k) : sumI (fun j => bI (f j && !g j)) k = sumI (fun j => bI (!f j && g j)) k := by
  have e : sumI (fun j => bI (f j && !g j) - bI (!f j && g j)) k = sumI (fun j => bI (f j) - bI (g j)) k := sum_ext fun j _ => by cases f j <;> cases g j <;> rfl
  rw [sum_take, sum_take] at e
  omega
theorem bI_pos {b : Bool} (h : 0 < bI b) : b = true := by revert h; cases b <;> simp [bI]
/-- Images with the same sums that are different have a switch of one of them that leads toward the other one. -/
theorem either_four {c d : Nat → Nat → Bool} {W n : Nat} (h : SameC c d W n) (hd : 0 < farI c d W n) :
    ∃ A B C D, A < n ∧ B < n ∧ C < W ∧ D < W ∧ (c A C = true ∧ d A C = false) ∧ (c A D = false ∧ d A D = true) ∧ (c B C = false ∧ d B C = true) ∧ (c B D = true ∨ d B D = false) := by
  obtain ⟨i, hi, hp⟩ := sum_pos hd
  obtain ⟨j, hj, hp⟩ := sum_pos hp
  obtain ⟨A, hA, hmax⟩ := max_ex (fun i => sumI (fun j => bI (!c i j && d i j)) W) n (by omega)
  have nn : ∀ i, ∀ j, j < W → 0 ≤ bI (!c i j && d i j) := fun i j _ => (bI_01 _).1
  have np : ∀ i, ∀ j, j < W → 0 ≤ bI (c i j && !d i j) := fun i j _ => (bI_01 _).1
  have hN : 0 < sumI (fun j => bI (!c A j && d A j)) W := by
    refine Int.lt_of_lt_of_le ?_ (hmax i hi)
    (try dsimp only)
    cases e : c i j with
    | false =>
      refine Int.lt_of_lt_of_le ?_ (sum_at (nn i) hj)
      rw [e] at hp ⊢
      revert hp
      cases d i j <;> simp [bI]
    | true =>
      rw [← only_same (h.rows i hi)]
      refine Int.lt_of_lt_of_le ?_ (sum_at (np i) hj)
      rw [e] at hp ⊢
      revert hp
      cases d i j <;> simp [bI]
  have hP := hN
  rw [← only_same (h.rows A hA)] at hP
  obtain ⟨C, hC, hp1⟩ := sum_pos hP
  have hp1 := bI_pos hp1
  have hQ : 0 < sumI (fun i => bI (!c i C && d i C)) n := by
    rw [← only_same (h.cols C hC)]
    refine Int.lt_of_lt_of_le ?_ (sum_at (f := fun i => bI (c i C && !d i C)) (fun i _ => (bI_01 _).1) hA)
    (try dsimp only)
    rw [hp1]; simp [bI]
  obtain ⟨B, hB, hp2⟩ := sum_pos hQ
  have hp2 := bI_pos hp2
  have hle := hmax B hB
  simp only [Bool.and_eq_true, Bool.not_eq_true'] at hp1 hp2
  by_cases hall : ∀ D, D < W → (!c A D && d A D) = true → (!c B D && d B D) = true
  · exfalso
    have h1 := sum_one (f := fun j => bI (!c A j && d A j) + (if j = C then 1 else 0)) (g := fun j => bI (!c A j && d A j)) (k := W) (m := C) (d := 1) hC (by simp) (fun j _ hne => by simp [hne])
    have h2 := sum_le (f := fun j => bI (!c A j && d A j) + (if j = C then 1 else 0)) (g := fun j => bI (!c B j && d B j)) (k := W) fun j hj => by
      (try dsimp only)
      by_cases e : j = C
      · subst e
        rw [hp1.1, hp1.2, hp2.1, hp2.2, if_pos rfl]; simp [bI]
      · rw [if_neg e]
        have := hall j hj
        revert this
        cases (!c A j && d A j) <;> cases (!c B j && d B j) <;> simp [bI]
    (try dsimp only at hle)
    omega
  · have : ∃ D, D < W ∧ (!c A D && d A D) = true ∧ ¬ (!c B D && d B D) = true := by
      refine Classical.byContradiction fun hno => hall fun D hD h1 => Classical.byContradiction fun h2 => hno ⟨D, hD, h1, h2⟩
    obtain ⟨D, hD, h1, h2⟩ := this
    simp only [Bool.and_eq_true, Bool.not_eq_true'] at h1
    refine ⟨A, B, C, D, hA, hB, hC, hD, hp1, h1, hp2, ?_⟩
    revert h2
    cases c B D <;> cases d B D <;> simp
theorem either_gain {c d : Nat → Nat → Bool} {W n : Nat} (h : SameC c d W n) (hd : 0 < farI c d W n) :
    ∃ A B C D, A < n ∧ B < n ∧ A ≠ B ∧ C < W ∧ D < W ∧ C ≠ D ∧ 3 ≤ cornI c d A B C D ∧ (swC c A B C D = true ∨ swC d A B C D = true) := by
  obtain ⟨A, B, C, D, hA, hB, hC, hD, ⟨a1, a2⟩, ⟨b1, b2⟩, ⟨c1, c2⟩, hor⟩ := either_four h hd
  refine ⟨A, B, C, D, hA, hB, (fun e => by subst e; rw [a1] at c1; exact absurd c1 (by simp)), hC, hD, (fun e => by subst e; rw [a1] at b1; exact absurd b1 (by simp)), ?_, ?_⟩
  · unfold cornI
    rw [a1, a2, b1, b2, c1, c2]
    have := bI_01 (c B D != d B D)
    simp only [bI] at this ⊢
    simp
    omega
  · unfold swC
    rw [a1, a2, b1, b2, c1, c2]
    revert hor
    cases c B D <;> cases d B D <;> simp
theorem far_even {c d : Nat → Nat → Bool} {W n : Nat} (h : SameC c d W n) : farI c d W n % 2 = 0 := by
  have : farI c d W n = 2 * sumI (fun i => sumI (fun j => bI (c i j && !d i j)) W) n := by
    unfold farI
    rw [← sum_twice]
    refine sum_ext fun i hi => ?_
    have e := only_same (h.rows i hi)
    have e2 : sumI (fun j => bI (c i j != d i j)) W = sumI (fun j => bI (c i j && !d i j)) W + sumI (fun j => bI (!c i j && d i j)) W := by
      rw [← sum_add]
      exact sum_ext fun j _ => by (try dsimp only); cases c i j <;> cases d i j <;> rfl
    omega
  omega
theorem far_not2 {c d : Nat → Nat → Bool} {W n : Nat} (h : SameC c d W n) (hd : 0 < farI c d W n) : 4 ≤ farI c d W n := by
  obtain ⟨A, B, C, D, hA, hB, hAB, hC, hD, hCD, hg, _⟩ := either_gain h hd
  have h1 := far_fl (c := c) (d := d) hA hB hAB hC hD hCD
  have h2 := corn_bd c d A B C D
  have h3 := far_even h
  have hn := far_nn (flC c A B C D) d W n
  have p1 := far_cell (c := flC c A B C D) (d := d) hA hC
  have p2 := far_cell (c := flC c A B C D) (d := d) hA hD
  have p3 := far_cell (c := flC c A B C D) (d := d) hB hC
  have p4 := far_cell (c := flC c A B C D) (d := d) hB hD
  rw [fl_corner (by simp), not_bne] at p1 p2 p3 p4
  have q1 := bI_01 (c A C != d A C); have q2 := bI_01 (c A D != d A D); have q3 := bI_01 (c B C != d B C); have q4 := bI_01 (c B D != d B D)
  unfold cornI at *
  omega
end Go.Proofs.Ytnfkafaolelkbaa

namespace Go.Proofs.Ytnfkafaolelkbaa
set_option maxRecDepth 100000
open Go.RowKit

theorem im_cell_ext {W n : Nat} {xs ys : List Int} (h : Im W n xs) (h' : Im W n ys) (hc : ∀ i j, i < n → j < W → cellOf xs i j = cellOf ys i j) : xs = ys :=
  h.ext h' fun i j hi hj => bit_cell.2 (hc i j hi hj)
/-- The rows that a switch leaves. -/
def flS (xs : List Int) (W n : Nat) (s : SwT) : List Int := flL xs W n s.1 s.2.1 s.2.2.1 s.2.2.2
/-- The distance of two images. -/
def farL (xs ys : List Int) (W n : Nat) : Int := farI (cellOf xs) (cellOf ys) W n
theorem farl_bd {W n : Nat} {xs : List Int} (h : Im W n xs) (ys : List Int) : 0 ≤ farL xs ys W n ∧ farL xs ys W n ≤ 36 := by
  have h1 := far_nn (cellOf xs) (cellOf ys) W n
  have h2 := far_le (cellOf xs) (cellOf ys) W n
  have h3 := h.w6
  have h4 := h.l6
  have h5 : (n : Int) * (W : Int) ≤ 6 * 6 := by rw [← Int.natCast_mul]; have := Nat.mul_le_mul h4 h3; omega
  unfold farL
  omega
theorem farl_comm (xs ys : List Int) (W n : Nat) : farL xs ys W n = farL ys xs W n := far_comm _ _ _ _
theorem farl_none {W n : Nat} {xs ys : List Int} (h : Im W n xs) (h' : Im W n ys) : farL xs ys W n = 0 ↔ xs = ys :=
  ⟨fun e => im_cell_ext h h' (far_none.1 e), fun e => by rw [e]; exact far_self _ _ _⟩
/-- The sums are the same. -/
def SumE (xs ys : List Int) (W n : Nat) : Prop := rsL xs W n = rsL ys W n ∧ csL xs n W = csL ys n W
theorem SumE.symm {xs ys : List Int} {W n : Nat} (h : SumE xs ys W n) : SumE ys xs W n := ⟨h.1.symm, h.2.symm⟩
theorem SumE.trans {xs ys zs : List Int} {W n : Nat} (h : SumE xs ys W n) (h' : SumE ys zs W n) : SumE xs zs W n := ⟨h.1.trans h'.1, h.2.trans h'.2⟩
theorem rs_cells (xs : List Int) (W n i : Nat) (hi : i < n) : (rsL xs W n).getD i 0 = sumI (fun j => bI (cellOf xs i j)) W := by
  rw [rs_get hi, cnt_sum]; exact sum_ext fun j _ => cell_bit xs i j
theorem cs_cells (xs : List Int) (W n j : Nat) (hj : j < W) : (csL xs n W).getD j 0 = sumI (fun i => bI (cellOf xs i j)) n := by
  rw [cs_get hj]; exact sum_ext fun i _ => cell_bit xs i j
theorem SumE.cells {xs ys : List Int} {W n : Nat} (h : SumE xs ys W n) : SameC (cellOf xs) (cellOf ys) W n :=
  ⟨fun i hi => by rw [← rs_cells xs W n i hi, ← rs_cells ys W n i hi, h.1], fun j hj => by rw [← cs_cells xs W n j hj, ← cs_cells ys W n j hj, h.2]⟩
theorem sw_at {W n : Nat} {xs : List Int} {s : SwT} (h : s ∈ swL (cellOf xs) W n) : s.1 < s.2.1 ∧ s.2.1 < n ∧ s.2.2.1 < s.2.2.2 ∧ s.2.2.2 < W ∧ swC (cellOf xs) s.1 s.2.1 s.2.2.1 s.2.2.2 = true :=
  swl_mem.1 (show (s.1, s.2.1, s.2.2.1, s.2.2.2) ∈ swL (cellOf xs) W n from h)
theorem fls_im {W n : Nat} {xs : List Int} (h : Im W n xs) (s : SwT) : Im W n (flS xs W n s) := fl_im h _ _ _ _
theorem fls_sum {W n : Nat} {xs : List Int} (h : Im W n xs) {s : SwT} (hs : s ∈ swL (cellOf xs) W n) : SumE (flS xs W n s) xs W n := by
  have a := sw_at hs
  exact ⟨fl_rsL h (by omega) (by omega) (by omega) a.2.2.2.2, fl_csL h (by omega) (by omega) (by omega) a.2.2.2.2⟩
theorem fl_far {W n : Nat} {xs : List Int} (h : Im W n xs) (ys : List Int) {A B C D : Nat} (hA : A < n) (hB : B < n) (hAB : A ≠ B) (hC : C < W) (hD : D < W) (hCD : C ≠ D) :
    farL (flL xs W n A B C D) ys W n = farL xs ys W n + (4 - 2 * cornI (cellOf xs) (cellOf ys) A B C D) := by
  unfold farL
  rw [far_ext (c' := flC (cellOf xs) A B C D) (d' := cellOf ys) (fun i j hi hj => fl_cell h hi hj) (fun _ _ _ _ => rfl)]
  exact far_fl hA hB hAB hC hD hCD
theorem fls_far {W n : Nat} {xs : List Int} (h : Im W n xs) (ys : List Int) {s : SwT} (hs : s ∈ swL (cellOf xs) W n) :
    farL (flS xs W n s) ys W n = farL xs ys W n + (4 - 2 * cornI (cellOf xs) (cellOf ys) s.1 s.2.1 s.2.2.1 s.2.2.2) := by
  have a := sw_at hs
  exact fl_far h ys (by omega) (by omega) (by omega) (by omega) (by omega) (by omega)
/-- A switch helps. -/
def towP (xs ys : List Int) (W n : Nat) (s : SwT) : Bool := decide (farL (flS xs W n s) ys W n < farL xs ys W n)
/-- The first switch that helps. -/
def towL (xs ys : List Int) (W n : Nat) : Option SwT := (swL (cellOf xs) W n).find? (towP xs ys W n)
theorem tow_mem {W n : Nat} {xs ys : List Int} {s : SwT} (h : towL xs ys W n = some s) : s ∈ swL (cellOf xs) W n ∧ farL (flS xs W n s) ys W n < farL xs ys W n :=
  ⟨List.mem_of_find?_eq_some h, of_decide_eq_true (show towP xs ys W n s = true from List.find?_some h)⟩
theorem tow_gain {W n : Nat} {xs ys : List Int} {s : SwT} (hI : Im W n xs) (h : towL xs ys W n = some s) : farL xs ys W n - farL (flS xs W n s) ys W n = 2 ∨ farL xs ys W n - farL (flS xs W n s) ys W n = 4 := by
  have a := tow_mem h
  have b := fls_far hI ys a.1
  have c := corn_bd (cellOf xs) (cellOf ys) s.1 s.2.1 s.2.2.1 s.2.2.2
  omega
theorem tow_first {W n : Nat} {xs ys : List Int} {s : SwT} (h : towL xs ys W n = some s) : ∃ pre post, swL (cellOf xs) W n = pre ++ s :: post ∧ ∀ t ∈ pre, towP xs ys W n t = false := by
  obtain ⟨_, pre, post, e, hp⟩ := List.find?_eq_some_iff_append.1 h
  exact ⟨pre, post, e, fun t ht => by have := hp t ht; simpa using this⟩
theorem tow_no {W n : Nat} {xs ys : List Int} (h : ∀ t ∈ swL (cellOf xs) W n, towP xs ys W n t = false) : towL xs ys W n = none :=
  List.find?_eq_none.2 fun t ht => by rw [h t ht]; simp
theorem tow_here {W n : Nat} {xs ys : List Int} {pre post : List SwT} {s : SwT} (e : swL (cellOf xs) W n = pre ++ s :: post) (h : ∀ t ∈ pre, towP xs ys W n t = false) (hs : towP xs ys W n s = true) : towL xs ys W n = some s :=
  List.find?_eq_some_iff_append.2 ⟨hs, pre, post, e, fun t ht => by rw [h t ht]; rfl⟩
theorem tow_zero {W n : Nat} {xs ys : List Int} (h : farL xs ys W n = 0) : towL xs ys W n = none :=
  tow_no fun t _ => decide_eq_false (by rw [h]; have := far_nn (cellOf (flS xs W n t)) (cellOf ys) W n; unfold farL; omega)
theorem corn_flip (c d : Nat → Nat → Bool) (A B C D : Nat) : cornI d c A B C D = cornI c d A B C D := by
  unfold cornI; rw [bne_flip (d A C), bne_flip (d A D), bne_flip (d B C), bne_flip (d B D)]
theorem corn_rows (c d : Nat → Nat → Bool) (A B C D : Nat) : cornI c d B A C D = cornI c d A B C D := by unfold cornI; omega
theorem corn_cols (c d : Nat → Nat → Bool) (A B C D : Nat) : cornI c d A B D C = cornI c d A B C D := by unfold cornI; omega
theorem sw_cols {c : Nat → Nat → Bool} {A B C D : Nat} : swC c A B D C = swC c A B C D := by
  unfold swC; cases c A C <;> cases c B D <;> cases c A D <;> cases c B C <;> rfl
theorem tow_any {W n : Nat} {xs ys : List Int} (h : Im W n xs) {A B C D : Nat} (hA : A < n) (hB : B < n) (hAB : A ≠ B) (hC : C < W) (hD : D < W) (hCD : C ≠ D) (hg : 3 ≤ cornI (cellOf xs) (cellOf ys) A B C D) (hs : swC (cellOf xs) A B C D = true) : towL xs ys W n ≠ none := by
  have main : ∀ {A B C D : Nat}, A < B → B < n → C < D → D < W → 3 ≤ cornI (cellOf xs) (cellOf ys) A B C D → swC (cellOf xs) A B C D = true → towL xs ys W n ≠ none := by
    intro A B C D h1 h2 h3 h4 hg hs hn
    have hm := swl_mem.2 ⟨h1, h2, h3, h4, hs⟩
    have hf := fls_far h ys hm
    have := List.find?_eq_none.1 hn _ hm
    refine this (decide_eq_true ?_)
    rw [hf]; (try dsimp only); omega
  rcases Nat.lt_or_gt_of_ne hAB with h1 | h1 <;> rcases Nat.lt_or_gt_of_ne hCD with h2 | h2
  · exact main h1 hB h2 hD hg hs
  · exact main h1 hB h2 hC (by rw [corn_cols]; exact hg) (by rw [sw_cols]; exact hs)
  · exact main h1 hA h2 hD (by rw [corn_rows]; exact hg) (by rw [sw_flip]; exact hs)
  · exact main h1 hA h2 hC (by rw [corn_cols, corn_rows]; exact hg) (by rw [sw_cols, sw_flip]; exact hs)
/-- One of both comes closer. -/
theorem tow_either {W n : Nat} {xs ys : List Int} (h : Im W n xs) (h' : Im W n ys) (hs : SumE xs ys W n) (hd : 0 < farL xs ys W n) : towL xs ys W n ≠ none ∨ towL ys xs W n ≠ none := by
  obtain ⟨A, B, C, D, hA, hB, hAB, hC, hD, hCD, hg, hor⟩ := either_gain hs.cells hd
  rcases hor with e | e
  · exact .inl (tow_any h hA hB hAB hC hD hCD hg e)
  · exact .inr (tow_any h' hA hB hAB hC hD hCD (by rw [corn_flip]; exact hg) e)
/-- The path, with a bound of its length. -/
def pathF (W n : Nat) : Nat → List Int → List Int → List SwT
  | 0, _, _ => []
  | f + 1, xs, ys => match towL xs ys W n with
    | some s => s :: pathF W n f (flS xs W n s) ys
    | none => match towL ys xs W n with
      | some t => pathF W n f xs (flS ys W n t) ++ [t]
      | none => []
def pathL (W n : Nat) (xs ys : List Int) : List SwT := pathF W n (farL xs ys W n).toNat xs ys
theorem path_more {W n : Nat} : ∀ (f g : Nat) {xs ys : List Int}, farL xs ys W n ≤ f → farL xs ys W n ≤ g → pathF W n f xs ys = pathF W n g xs ys
  | f, g, xs, ys, hf, hg => by
    have h0 := far_nn (cellOf xs) (cellOf ys) W n
    by_cases e : farL xs ys W n = 0
    · have e1 := tow_zero e
      have e2 := tow_zero (by rw [farl_comm]; exact e)
      have all : ∀ f, pathF W n f xs ys = [] := fun f => by
        cases f with
        | zero => rfl
        | succ f => unfold pathF; rw [e1, e2]
      rw [all, all]
    · have hp : 0 < farL xs ys W n := by unfold farL at e ⊢; omega
      obtain ⟨f, rfl⟩ : ∃ k, f = k + 1 := ⟨f - 1, by omega⟩
      obtain ⟨g, rfl⟩ : ∃ k, g = k + 1 := ⟨g - 1, by omega⟩
      unfold pathF
      cases h1 : towL xs ys W n with
      | some s =>
        have := (tow_mem h1).2
        (try dsimp only)
        rw [path_more f g (by omega) (by omega)]
      | none =>
        cases h2 : towL ys xs W n with
        | some t =>
          have := (tow_mem h2).2
          have c1 := farl_comm xs ys W n
          have c2 := farl_comm xs (flS ys W n t) W n
          (try dsimp only)
          rw [path_more f g (by omega) (by omega)]
        | none => rfl
theorem path_fwd {W n : Nat} {xs ys : List Int} {s : SwT} (h : towL xs ys W n = some s) : pathL W n xs ys = s :: pathL W n (flS xs W n s) ys := by
  have hm := (tow_mem h).2
  have h0 := far_nn (cellOf (flS xs W n s)) (cellOf ys) W n
  unfold pathL
  obtain ⟨k, hk⟩ : ∃ k, (farL xs ys W n).toNat = k + 1 := ⟨(farL xs ys W n).toNat - 1, by unfold farL at *; omega⟩
  rw [hk, pathF, h]
  (try dsimp only)
  rw [path_more k (farL (flS xs W n s) ys W n).toNat (by omega) (by omega)]
theorem path_bwd {W n : Nat} {xs ys : List Int} {t : SwT} (h1 : towL xs ys W n = none) (h : towL ys xs W n = some t) : pathL W n xs ys = pathL W n xs (flS ys W n t) ++ [t] := by
  have hm := (tow_mem h).2
  have h0 := far_nn (cellOf (flS ys W n t)) (cellOf xs) W n
  have c1 := farl_comm xs ys W n
  have c2 := farl_comm xs (flS ys W n t) W n
  unfold pathL
  obtain ⟨k, hk⟩ : ∃ k, (farL xs ys W n).toNat = k + 1 := ⟨(farL xs ys W n).toNat - 1, by unfold farL at *; omega⟩
  rw [hk, pathF, h1, h]
  (try dsimp only)
  rw [path_more k (farL xs (flS ys W n t) W n).toNat (by omega) (by omega)]
theorem path_nil {W n : Nat} {xs ys : List Int} (h1 : towL xs ys W n = none) (h2 : towL ys xs W n = none) : pathL W n xs ys = [] := by
  unfold pathL
  cases (farL xs ys W n).toNat with
  | zero => rfl
  | succ k => rw [pathF, h1, h2]
theorem path_done {W n : Nat} {xs ys : List Int} (h : farL xs ys W n = 0) : pathL W n xs ys = [] := by
  unfold pathL; rw [h]; rfl
/-- How a path goes on: the three ways of an induction. -/
theorem path_ways {W n : Nat} {P : List Int → List Int → Prop} (hend : ∀ xs ys, Im W n xs → Im W n ys → SumE xs ys W n → farL xs ys W n = 0 → P xs ys)
    (hf : ∀ xs ys s, Im W n xs → Im W n ys → SumE xs ys W n → towL xs ys W n = some s → P (flS xs W n s) ys → P xs ys)
    (hb : ∀ xs ys t, Im W n xs → Im W n ys → SumE xs ys W n → towL xs ys W n = none → towL ys xs W n = some t → P xs (flS ys W n t) → P xs ys) :
    ∀ (f : Nat) (xs ys : List Int), Im W n xs → Im W n ys → SumE xs ys W n → farL xs ys W n ≤ f → P xs ys
  | f, xs, ys, h, h', hs, hle => by
    have h0 := far_nn (cellOf xs) (cellOf ys) W n
    by_cases e : farL xs ys W n = 0
    · exact hend xs ys h h' hs e
    · have hp : 0 < farL xs ys W n := by unfold farL at e ⊢; omega
      obtain ⟨f, rfl⟩ : ∃ k, f = k + 1 := ⟨f - 1, by omega⟩
      cases h1 : towL xs ys W n with
      | some s =>
        have hm := tow_mem h1
        exact hf xs ys s h h' hs h1 (path_ways hend hf hb f _ _ (fls_im h s) h' ((fls_sum h hm.1).trans hs) (by omega))
      | none =>
        cases h2 : towL ys xs W n with
        | some t =>
          have hm := tow_mem h2
          have c1 := farl_comm xs ys W n
          have c2 := farl_comm xs (flS ys W n t) W n
          exact hb xs ys t h h' hs h1 h2 (path_ways hend hf hb f _ _ h (fls_im h' t) (hs.trans (fls_sum h' hm.1).symm) (by omega))
        | none =>
          rcases tow_either h h' hs hp with e | e
          · exact absurd h1 e
          · exact absurd h2 e
theorem path_all {W n : Nat} {P : List Int → List Int → Prop} (hend : ∀ xs ys, Im W n xs → Im W n ys → SumE xs ys W n → farL xs ys W n = 0 → P xs ys)
    (hf : ∀ xs ys s, Im W n xs → Im W n ys → SumE xs ys W n → towL xs ys W n = some s → P (flS xs W n s) ys → P xs ys)
    (hb : ∀ xs ys t, Im W n xs → Im W n ys → SumE xs ys W n → towL xs ys W n = none → towL ys xs W n = some t → P xs (flS ys W n t) → P xs ys)
    {xs ys : List Int} (h : Im W n xs) (h' : Im W n ys) (hs : SumE xs ys W n) : P xs ys :=
  path_ways hend hf hb (farL xs ys W n).toNat xs ys h h' hs (by have := far_nn (cellOf xs) (cellOf ys) W n; unfold farL; omega)
/-- How long a path is. -/
theorem path_len {W n : Nat} {xs ys : List Int} (h : Im W n xs) (h' : Im W n ys) (hs : SumE xs ys W n) :
    (farL xs ys W n = 0 → (pathL W n xs ys).length = 0) ∧ (farL xs ys W n ≠ 0 → ((pathL W n xs ys).length : Int) ≤ farL xs ys W n / 2 - 1) ∧ farL xs ys W n ≤ 4 * ((pathL W n xs ys).length : Int) := by
  refine path_all (P := fun xs ys => (farL xs ys W n = 0 → (pathL W n xs ys).length = 0) ∧ (farL xs ys W n ≠ 0 → ((pathL W n xs ys).length : Int) ≤ farL xs ys W n / 2 - 1) ∧ farL xs ys W n ≤ 4 * ((pathL W n xs ys).length : Int)) ?_ ?_ ?_ h h' hs
  · intro xs ys _ _ _ e
    rw [path_done e, e]; simp
  · intro xs ys s h h' hs e ih
    have hm := tow_mem e
    have hg := tow_gain h e
    have h0 := far_nn (cellOf (flS xs W n s)) (cellOf ys) W n
    have h4 := far_not2 hs.cells (by unfold farL at hm; omega)
    have ev := far_even hs.cells
    rw [path_fwd e, List.length_cons]
    unfold farL at *
    by_cases z : farI (cellOf (flS xs W n s)) (cellOf ys) W n = 0
    · have := ih.1 z; refine ⟨by omega, fun _ => by omega, by omega⟩
    · have := ih.2.1 z; refine ⟨by omega, fun _ => by omega, by omega⟩
  · intro xs ys t h h' hs e1 e ih
    have hm := tow_mem e
    have hg := tow_gain h' e
    have h0 := far_nn (cellOf xs) (cellOf (flS ys W n t)) W n
    have c1 := farl_comm xs ys W n
    have c2 := farl_comm xs (flS ys W n t) W n
    have h4 := far_not2 hs.cells (by unfold farL at *; omega)
    have ev := far_even hs.cells
    rw [path_bwd e1 e, List.length_append, List.length_singleton]
    unfold farL at *
    by_cases z : farI (cellOf xs) (cellOf (flS ys W n t)) W n = 0
    · have := ih.1 z; refine ⟨by omega, fun _ => by omega, by omega⟩
    · have := ih.2.1 z; refine ⟨by omega, fun _ => by omega, by omega⟩
theorem path_18 {W n : Nat} {xs ys : List Int} (h : Im W n xs) (h' : Im W n ys) (hs : SumE xs ys W n) : (pathL W n xs ys).length ≤ 18 := by
  have a := path_len h h' hs
  have b := farl_bd h ys
  by_cases z : farL xs ys W n = 0
  · have := a.1 z; omega
  · have := a.2.1 z; omega

/-- Four numbers of a switch. -/
abbrev SwQ := Int × Int × Int × Int
def castQ (s : SwT) : SwQ := (s.1, s.2.1, s.2.2.1, s.2.2.2)
/-- The image that switches leave, one after the other; none if one of them is no switch. -/
def runL (W : Int) : List Int → List SwQ → Option (List Int)
  | xs, [] => some xs
  | xs, s :: L => if okB W xs s.1 s.2.1 s.2.2.1 s.2.2.2 = true then runL W (flL xs W.toNat xs.length s.1.toNat s.2.1.toNat s.2.2.1.toNat s.2.2.2.toNat) L else none
theorem run_nil (W : Int) (xs : List Int) : runL W xs [] = some xs := rfl
theorem run_append (W : Int) : ∀ (L M : List SwQ) (xs : List Int), runL W xs (L ++ M) = (runL W xs L).bind fun ys => runL W ys M
  | [], M, xs => rfl
  | s :: L, M, xs => by
    rw [List.cons_append, runL, runL]
    by_cases e : okB W xs s.1 s.2.1 s.2.2.1 s.2.2.2 = true
    · rw [if_pos e, if_pos e]; exact run_append W L M _
    · rw [if_neg e, if_neg e]; rfl
theorem run_snoc {W : Int} {xs ys : List Int} {L : List SwQ} (h : runL W xs L = some ys) (s : SwQ) : runL W xs (L ++ [s]) = if okB W ys s.1 s.2.1 s.2.2.1 s.2.2.2 = true then some (flL ys W.toNat ys.length s.1.toNat s.2.1.toNat s.2.2.1.toNat s.2.2.2.toNat) else none := by
  rw [run_append, h]; rfl
theorem run_stop {W : Int} {xs : List Int} {L : List SwQ} (h : runL W xs L = none) (M : List SwQ) : runL W xs (L ++ M) = none := by
  rw [run_append, h]; rfl
theorem run_step {W n : Nat} {xs : List Int} (h : Im W n xs) {s : SwT} (hs : s ∈ swL (cellOf xs) W n) (L : List SwQ) : runL W xs (castQ s :: L) = runL W (flS xs W n s) L := by
  have a := sw_at hs
  have ho : okB W xs (castQ s).1 (castQ s).2.1 (castQ s).2.2.1 (castQ s).2.2.2 = true := (okB_yes h a.1 a.2.1 a.2.2.1 a.2.2.2.1).trans a.2.2.2.2
  rw [runL, if_pos ho, h.hl]; rfl
/-- An induction along a run. -/
theorem run_all {W n : Nat} {P : List Int → List SwQ → List Int → Prop} (h0 : ∀ xs, Im W n xs → P xs [] xs)
    (h1 : ∀ xs (s : SwT) L zs, Im W n xs → s ∈ swL (cellOf xs) W n → Im W n zs → runL W (flS xs W n s) L = some zs → P (flS xs W n s) L zs → P xs (castQ s :: L) zs) :
    ∀ (L : List SwQ) (xs zs : List Int), Im W n xs → runL W xs L = some zs → P xs L zs ∧ Im W n zs
  | [], xs, zs, h, e => by cases e; exact ⟨h0 xs h, h⟩
  | s :: L, xs, zs, h, e => by
    rw [runL] at e
    by_cases ho : okB W xs s.1 s.2.1 s.2.2.1 s.2.2.2 = true
    · rw [if_pos ho, h.hl] at e
      obtain ⟨A, B, C, D⟩ := s
      (try dsimp only at ho e)
      obtain ⟨A, B, C, D, rfl, rfl, rfl, rfl, a1, a2, a3, a4, hs⟩ := okB_im h ho
      have e' : runL W (flS xs W n (A, B, C, D)) L = some zs := e
      have ih := run_all h0 h1 L _ zs (fls_im h (A, B, C, D)) e'
      exact ⟨h1 xs (A, B, C, D) L zs h (swl_mem.2 ⟨a1, a2, a3, a4, hs⟩) ih.2 e' ih.1, ih.2⟩
    · rw [if_neg ho] at e; cases e
theorem run_im {W n : Nat} {xs zs : List Int} {L : List SwQ} (h : Im W n xs) (e : runL W xs L = some zs) : Im W n zs :=
  (run_all (P := fun _ _ _ => True) (fun _ _ => trivial) (fun _ _ _ _ _ _ _ _ _ => trivial) L xs zs h e).2
theorem run_sum {W n : Nat} {xs zs : List Int} {L : List SwQ} (h : Im W n xs) (e : runL W xs L = some zs) : SumE xs zs W n :=
  (run_all (P := fun xs _ zs => SumE xs zs W n) (fun _ _ => ⟨rfl, rfl⟩) (fun _ _ _ _ h hs _ _ ih => (fls_sum h hs).symm.trans ih) L xs zs h e).1
theorem run_far {W n : Nat} {xs zs : List Int} {L : List SwQ} (h : Im W n xs) (e : runL W xs L = some zs) : farL xs zs W n ≤ 4 * (L.length : Int) :=
  (run_all (P := fun xs L zs => farL xs zs W n ≤ 4 * (L.length : Int)) (fun xs h => by rw [(farl_none h h).2 rfl]; simp) (fun xs s L zs h hs _ _ ih => by
    have a := fls_far h zs hs
    have b := corn_bd (cellOf xs) (cellOf zs) s.1 s.2.1 s.2.2.1 s.2.2.2
    rw [List.length_cons]; omega) L xs zs h e).1
theorem sw_back {W n : Nat} {xs : List Int} (h : Im W n xs) {s : SwT} (hs : s ∈ swL (cellOf xs) W n) : s ∈ swL (cellOf (flS xs W n s)) W n := by
  have a := sw_at hs
  have := ok_done h a.1 a.2.1 a.2.2.1 a.2.2.2.1 a.2.2.2.2
  rw [okB_yes (fl_im h _ _ _ _) a.1 a.2.1 a.2.2.1 a.2.2.2.1] at this
  exact swl_mem.2 ⟨a.1, a.2.1, a.2.2.1, a.2.2.2.1, this⟩
theorem run_rev {W n : Nat} {xs zs : List Int} {L : List SwQ} (h : Im W n xs) (e : runL W xs L = some zs) : runL W zs L.reverse = some xs :=
  (run_all (P := fun xs L zs => runL W zs L.reverse = some xs) (fun _ _ => rfl) (fun xs s L zs h hs _ _ ih => by
    rw [List.reverse_cons, run_append, ih]
    show runL W (flS xs W n s) [castQ s] = some xs
    rw [run_step (fls_im h s) (sw_back h hs)]
    show some (flL (flL xs W n _ _ _ _) W n _ _ _ _) = _
    rw [fl_twice h]) L xs zs h e).1
theorem fl_oth {W n : Nat} {xs : List Int} (h : Im W n xs) (A B C D : Nat) : othL (flL xs W n A B C D) W n = flL (othL xs W n) W n A B C D := by
  refine im_cell_ext (fl_im h A B C D).oth (fl_im h.oth A B C D) fun i j hi hj => ?_
  rw [oth_cell (fl_im h A B C D) hi hj, fl_cell h hi hj, fl_cell h.oth hi hj]
  by_cases e : (i = A ∨ i = B) ∧ (j = C ∨ j = D)
  · rw [fl_corner e, fl_corner e, oth_cell h hi hj]
  · rw [fl_other e, fl_other e, oth_cell h hi hj]
theorem run_oth {W n : Nat} {xs zs : List Int} {L : List SwQ} (h : Im W n xs) (e : runL W xs L = some zs) : runL W (othL xs W n) L = some (othL zs W n) :=
  (run_all (P := fun xs L zs => runL W (othL xs W n) L = some (othL zs W n)) (fun _ _ => rfl) (fun xs s L zs h hs _ _ ih => by
    have a := sw_at hs
    have := ok_oth h a.1 a.2.1 a.2.2.1 a.2.2.2.1 a.2.2.2.2
    rw [okB_yes h.oth a.1 a.2.1 a.2.2.1 a.2.2.2.1] at this
    rw [run_step h.oth (swl_mem.2 ⟨a.1, a.2.1, a.2.2.1, a.2.2.2.1, this⟩)]
    rw [← ih]
    congr 1
    exact (fl_oth h _ _ _ _).symm) L xs zs h e).1
/-- Rows and columns of a switch exchanged. -/
def turnQ (s : SwQ) : SwQ := (s.2.2.1, s.2.2.2, s.1, s.2.1)
theorem run_turn {W n : Nat} {xs zs : List Int} {L : List SwQ} (h : Im W n xs) (e : runL W xs L = some zs) : runL n (turnL xs W n) (L.map turnQ) = some (turnL zs W n) :=
  (run_all (P := fun xs L zs => runL n (turnL xs W n) (L.map turnQ) = some (turnL zs W n)) (fun _ _ => rfl) (fun xs s L zs h hs _ _ ih => by
    have a := sw_at hs
    have := ok_turn h a.1 a.2.1 a.2.2.1 a.2.2.2.1 a.2.2.2.2
    rw [okB_yes h.turn a.2.2.1 a.2.2.2.1 a.1 a.2.1] at this
    rw [List.map_cons, show turnQ (castQ s) = castQ (s.2.2.1, s.2.2.2, s.1, s.2.1) from rfl, run_step h.turn (swl_mem.2 ⟨a.2.2.1, a.2.2.2.1, a.1, a.2.1, this⟩)]
    rw [← ih]
    congr 1
    exact (fl_turn h _ _ _ _).symm) L xs zs h e).1
/-- A path joins its images. -/
theorem path_run {W n : Nat} {xs ys : List Int} (h : Im W n xs) (h' : Im W n ys) (hs : SumE xs ys W n) : runL W xs ((pathL W n xs ys).map castQ) = some ys := by
  refine path_all (P := fun xs ys => runL W xs ((pathL W n xs ys).map castQ) = some ys) ?_ ?_ ?_ h h' hs
  · intro xs ys h h' _ e
    rw [path_done e, (farl_none h h').1 e]; rfl
  · intro xs ys s h h' hs e ih
    rw [path_fwd e, List.map_cons, run_step h (tow_mem e).1]; exact ih
  · intro xs ys t h h' hs e1 e ih
    rw [path_bwd e1 e, List.map_append, run_append, ih]
    show runL W (flS ys W n t) [castQ t] = some ys
    rw [run_step (fls_im h' t) (sw_back h' (tow_mem e).1)]
    show some (flL (flL ys W n _ _ _ _) W n _ _ _ _) = _
    rw [fl_twice h']
end Go.Proofs.Ytnfkafaolelkbaa
