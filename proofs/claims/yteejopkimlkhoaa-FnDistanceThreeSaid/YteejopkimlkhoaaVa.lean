/-
  Plain facts on distances of images: how many cells are different, what one switch changes, and that images with the same sums have a switch of one of them that leads toward the other one.
-/
import Derived.Test.YteejopkimlkhoaaEc
namespace Go.Proofs.Yteejopkimlkhoaa
set_option maxRecDepth 100000
open Go.RowKit

/-- How many cells of two images are different. -/
def farI (c d : Nat → Nat → Bool) (W n : Nat) : Int := sumI (fun i => sumI (fun j => bI (c i j != d i j)) W) n
theorem sum_pos {f : Nat → Int} : ∀ {k : Nat}, 0 < sumI f k → ∃ i, i < k ∧ 0 < f i
  | 0, h => by simp [sumI] at h
  | k + 1, h => by
    by_cases e : 0 < f k
    · exact ⟨k, by omega, e⟩
    · obtain ⟨i, hi, hf⟩ := sum_pos (f := f) (k := k) (by simp only [sumI] at h; omega)
      exact ⟨i, by omega, hf⟩
theorem sum_nn {f : Nat → Int} {k : Nat} (h : ∀ i, i < k → 0 ≤ f i) : 0 ≤ sumI f k := by
  rw [← sum_zero k]; exact sum_le h
theorem sum_at {f : Nat → Int} {k i : Nat} (h : ∀ i, i < k → 0 ≤ f i) (hi : i < k) : f i ≤ sumI f k := by
  induction k with
  | zero => omega
  | succ k ih =>
    simp only [sumI]
    have hk := h k (by omega)
    have h0 := sum_nn (f := f) (k := k) fun j hj => h j (by omega)
    by_cases e : i = k
    · subst e; omega
    · have := ih (fun j hj => h j (by omega)) (by omega); omega
theorem sum_twice (f : Nat → Int) (k : Nat) : sumI (fun i => 2 * f i) k = 2 * sumI f k := by
  induction k with
  | zero => rfl
  | succ k ih => simp only [sumI]; rw [ih]; omega
theorem sum_same (x : Int) (k : Nat) : sumI (fun _ => x) k = k * x := by
  induction k with
  | zero => simp [sumI]
  | succ k ih => simp only [sumI]; rw [ih, show ((k + 1 : Nat) : Int) = k + 1 by omega, Int.add_mul]; omega
theorem far_row (c d : Nat → Nat → Bool) (W i : Nat) : 0 ≤ sumI (fun j => bI (c i j != d i j)) W ∧ sumI (fun j => bI (c i j != d i j)) W ≤ W := sum_bd (fun _ => bI_01 _) W
theorem far_nn (c d : Nat → Nat → Bool) (W n : Nat) : 0 ≤ farI c d W n := sum_nn fun i _ => (far_row c d W i).1
theorem far_le (c d : Nat → Nat → Bool) (W n : Nat) : farI c d W n ≤ n * W := by
  rw [← sum_same]; exact sum_le fun i _ => (far_row c d W i).2
theorem bne_flip (a b : Bool) : (a != b) = (b != a) := by cases a <;> cases b <;> rfl
theorem far_comm (c d : Nat → Nat → Bool) (W n : Nat) : farI c d W n = farI d c W n :=
  sum_ext fun i _ => sum_ext fun j _ => by rw [bne_flip]
theorem far_ext {c d c' d' : Nat → Nat → Bool} {W n : Nat} (h : ∀ i j, i < n → j < W → c i j = c' i j) (h' : ∀ i j, i < n → j < W → d i j = d' i j) : farI c d W n = farI c' d' W n :=
  sum_ext fun i hi => sum_ext fun j hj => by rw [h i j hi hj, h' i j hi hj]
theorem far_cell {c d : Nat → Nat → Bool} {W n i j : Nat} (hi : i < n) (hj : j < W) : bI (c i j != d i j) ≤ farI c d W n :=
  Int.le_trans (sum_at (f := fun j => bI (c i j != d i j)) (fun _ _ => (bI_01 _).1) hj) (sum_at (f := fun i => sumI (fun j => bI (c i j != d i j)) W) (fun i _ => (far_row c d W i).1) hi)
theorem far_none {c d : Nat → Nat → Bool} {W n : Nat} : farI c d W n = 0 ↔ ∀ i j, i < n → j < W → c i j = d i j := by
  constructor
  · intro h i j hi hj
    have := far_cell (c := c) (d := d) hi hj
    rw [h] at this
    revert this
    cases c i j <;> cases d i j <;> simp [bI]
  · intro h
    unfold farI
    rw [sum_ext (g := fun _ => 0) fun i hi => by (try dsimp only); rw [sum_ext (g := fun _ => 0) fun j hj => by (try dsimp only); rw [h i j hi hj]; cases d i j <;> rfl, sum_zero], sum_zero]
theorem far_turn (c d : Nat → Nat → Bool) (W n : Nat) : farI (fun i j => c j i) (fun i j => d j i) n W = farI c d W n :=
  (sum_swap (fun i j => bI (c i j != d i j)) n W).symm
theorem far_others (c d : Nat → Nat → Bool) (W n : Nat) : farI (fun i j => !c i j) (fun i j => !d i j) W n = farI c d W n :=
  sum_ext fun i _ => sum_ext fun j _ => by (try dsimp only); cases c i j <;> cases d i j <;> rfl
theorem far_other (c d : Nat → Nat → Bool) (W n : Nat) : farI c (fun i j => !d i j) W n = n * W - farI c d W n := by
  unfold farI
  rw [← sum_same, ← sum_take]
  refine sum_ext fun i _ => ?_
  have := sum_same 1 W
  rw [Int.mul_one] at this
  rw [← this, ← sum_take]
  exact sum_ext fun j _ => by (try dsimp only); cases c i j <;> cases d i j <;> rfl
/-- One cell is changed. -/
theorem far_one {c e : Nat → Nat → Bool} (d : Nat → Nat → Bool) {W n i j : Nat} (hi : i < n) (hj : j < W) (h : ∀ a b, a < n → b < W → e a b = if a = i ∧ b = j then !c a b else c a b) :
    farI e d W n = farI c d W n + (1 - 2 * bI (c i j != d i j)) := by
  refine sum_one (m := i) hi ?_ fun a ha hne => sum_ext fun b hb => by rw [h a b ha hb, if_neg (by omega)]
  refine sum_one (m := j) hj ?_ fun b hb hne => by (try dsimp only); rw [h i b hi hb, if_neg (by omega)]
  (try dsimp only)
  rw [h i j hi hj, if_pos ⟨rfl, rfl⟩]
  cases c i j <;> cases d i j <;> rfl
theorem far_self (c : Nat → Nat → Bool) (W n : Nat) : farI c c W n = 0 := far_none.2 fun _ _ _ _ => rfl
theorem far_put {c e : Nat → Nat → Bool} (d : Nat → Nat → Bool) {W n i j : Nat} (hi : i < n) (hj : j < W) (h : ∀ a b, a < n → b < W → e a b = if a = i ∧ b = j then !c a b else c a b) :
    (farI e d W n - farI c d W n = 1 ∨ farI e d W n - farI c d W n = -1) ∧ farI c e W n = 1 := by
  have h1 := far_one d hi hj h
  have h2 := far_one c hi hj h
  rw [far_self] at h2
  have h3 := bI_01 (c i j != d i j)
  rw [show bI (c i j != c i j) = 0 by cases c i j <;> rfl] at h2
  rw [far_comm c e]
  exact ⟨by omega, by omega⟩
/-- A way over a third image. -/
theorem far_three (c d e : Nat → Nat → Bool) (W n : Nat) : farI c d W n ≤ farI c e W n + farI e d W n ∧ (farI c d W n + farI c e W n + farI e d W n) % 2 = 0 := by
  constructor
  · unfold farI
    rw [← sum_add]
    refine sum_le fun i _ => ?_
    rw [← sum_add]
    exact sum_le fun j _ => by cases c i j <;> cases d i j <;> cases e i j <;> simp [bI]
  · have : farI c d W n + farI c e W n + farI e d W n = 2 * sumI (fun i => sumI (fun j => bI ((c i j != d i j) || (c i j != e i j))) W) n := by
      unfold farI
      rw [← sum_add, ← sum_add, ← sum_twice]
      refine sum_ext fun i _ => ?_
      rw [← sum_add, ← sum_add, ← sum_twice]
      exact sum_ext fun j _ => by cases c i j <;> cases d i j <;> cases e i j <;> simp [bI]
    omega
/-- How many of the four cells of a switch are different. -/
def cornI (c d : Nat → Nat → Bool) (A B C D : Nat) : Int := bI (c A C != d A C) + bI (c A D != d A D) + (bI (c B C != d B C) + bI (c B D != d B D))
theorem corn_bd (c d : Nat → Nat → Bool) (A B C D : Nat) : 0 ≤ cornI c d A B C D ∧ cornI c d A B C D ≤ 4 := by
  unfold cornI
  have h1 := bI_01 (c A C != d A C); have h2 := bI_01 (c A D != d A D); have h3 := bI_01 (c B C != d B C); have h4 := bI_01 (c B D != d B D)
  omega
theorem not_bne (a b : Bool) : bI ((!a) != b) = bI (a != b) + (1 - 2 * bI (a != b)) := by cases a <;> cases b <;> rfl
theorem far_fl {c d : Nat → Nat → Bool} {A B C D W n : Nat} (hA : A < n) (hB : B < n) (hAB : A ≠ B) (hC : C < W) (hD : D < W) (hCD : C ≠ D) :
    farI (flC c A B C D) d W n = farI c d W n + (4 - 2 * cornI c d A B C D) := by
  have row : ∀ i, i = A ∨ i = B → sumI (fun j => bI (flC c A B C D i j != d i j)) W = sumI (fun j => bI (c i j != d i j)) W + (2 - 2 * (bI (c i C != d i C) + bI (c i D != d i D))) := fun i hi => by
    have := sum_two (f := fun j => bI (flC c A B C D i j != d i j)) (g := fun j => bI (c i j != d i j)) (n := W) (p := C) (q := D) (d := 1 - 2 * bI (c i C != d i C)) (e := 1 - 2 * bI (c i D != d i D)) hC hD hCD
      (by (try dsimp only); rw [fl_corner ⟨hi, .inl rfl⟩, not_bne]) (by (try dsimp only); rw [fl_corner ⟨hi, .inr rfl⟩, not_bne]) (fun j _ h1 h2 => by (try dsimp only); rw [fl_other (by omega)])
    omega
  have := sum_two (f := fun i => sumI (fun j => bI (flC c A B C D i j != d i j)) W) (g := fun i => sumI (fun j => bI (c i j != d i j)) W) (n := n) (p := A) (q := B)
    (d := 2 - 2 * (bI (c A C != d A C) + bI (c A D != d A D))) (e := 2 - 2 * (bI (c B C != d B C) + bI (c B D != d B D))) hA hB hAB (row A (.inl rfl)) (row B (.inr rfl))
    (fun i _ h1 h2 => sum_ext fun j _ => by rw [fl_other (by omega)])
  unfold farI cornI
  omega
/-- The sums of rows and columns are the same. -/
structure SameC (c d : Nat → Nat → Bool) (W n : Nat) : Prop where
  rows : ∀ i, i < n → sumI (fun j => bI (c i j)) W = sumI (fun j => bI (d i j)) W
  cols : ∀ j, j < W → sumI (fun i => bI (c i j)) n = sumI (fun i => bI (d i j)) n
theorem SameC.flip {c d : Nat → Nat → Bool} {W n : Nat} (h : SameC c d W n) : SameC d c W n := ⟨fun i hi => (h.rows i hi).symm, fun j hj => (h.cols j hj).symm⟩
theorem max_ex (f : Nat → Int) : ∀ n, 0 < n → ∃ A, A < n ∧ ∀ k, k < n → f k ≤ f A
  | 0, h => by omega
  | 1, _ => ⟨0, by omega, fun k hk => by rw [show k = 0 by omega]; omega⟩
  | n + 2, _ => by
    obtain ⟨A, hA, h⟩ := max_ex f (n + 1) (by omega)
    by_cases e : f A ≤ f (n + 1)
    · exact ⟨n + 1, by omega, fun k hk => by
        by_cases e2 : k = n + 1
        · rw [e2]; omega
        · have := h k (by omega); omega⟩
    · exact ⟨A, by omega, fun k hk => by
        by_cases e2 : k = n + 1
        · rw [e2]; omega
        · exact h k (by omega)⟩
theorem only_same {f g : Nat → Bool} {k : Nat} (h : sumI (fun j => bI (f j)) k = sumI (fun j => bI (g j)) k) : sumI (fun j => bI (f j && !g j)) k = sumI (fun j => bI (!f j && g j)) k := by
  have e : sumI (fun j => bI (f j && !g j) - bI (!f j && g j)) k = sumI (fun j => bI (f j) - bI (g j)) k := sum_ext fun j _ => by cases f j <;> cases g j <;> rfl
  rw [sum_take, sum_take] at e
  omega
theorem bI_pos {b : Bool} (h : 0 < bI b) : b = true := by revert h; cases b <;> simp [bI]
/-- Images with the same sums that are different have a switch of one of them that leads toward the other one. -/
theorem either_four {c d : Nat → Nat → Bool} {W n : Nat} (h : SameC c d W n) (hd : 0 < farI c d W n) :
    ∃ A B C D, A < n ∧ B < n ∧ C < W ∧ D < W ∧ (c A C = true ∧ d A C = false) ∧ (c A D = false ∧ d A D = true) ∧ (c B C = false ∧ d B C = true) ∧ (c B D = true ∨ d B D = false) := by
  obtain ⟨i, hi, hp⟩ := sum_pos hd
  obtain ⟨j, hj, hp⟩ := sum_pos hp
  obtain ⟨A, hA, hmax⟩ := max_ex (fun i => sumI (fun j => bI (!c i j && d i j)) W) n (by omega)
  have nn : ∀ i, ∀ j, j < W → 0 ≤ bI (!c i j && d i j) := fun i j _ => (bI_01 _).1
  have np : ∀ i, ∀ j, j < W → 0 ≤ bI (c i j && !d i j) := fun i j _ => (bI_01 _).1
  have hN : 0 < sumI (fun j => bI (!c A j && d A j)) W := by
    refine Int.lt_of_lt_of_le ?_ (hmax i hi)
    (try dsimp only)
    cases e : c i j with
    | false =>
      refine Int.lt_of_lt_of_le ?_ (sum_at (nn i) hj)
      rw [e] at hp ⊢
      revert hp
      cases d i j <;> simp [bI]
    | true =>
      rw [← only_same (h.rows i hi)]
      refine Int.lt_of_lt_of_le ?_ (sum_at (np i) hj)
      rw [e] at hp ⊢
      revert hp
      cases d i j <;> simp [bI]
  have hP := hN
  rw [← only_same (h.rows A hA)] at hP
  obtain ⟨C, hC, hp1⟩ := sum_pos hP
  have hp1 := bI_pos hp1
  have hQ : 0 < sumI (fun i => bI (!c i C && d i C)) n := by
    rw [← only_same (h.cols C hC)]
    refine Int.lt_of_lt_of_le ?_ (sum_at (f := fun i => bI (c i C && !d i C)) (fun i _ => (bI_01 _).1) hA)
    (try dsimp only)
    rw [hp1]; simp [bI]
  obtain ⟨B, hB, hp2⟩ := sum_pos hQ
  have hp2 := bI_pos hp2
  have hle := hmax B hB
  simp only [Bool.and_eq_true, Bool.not_eq_true'] at hp1 hp2
  by_cases hall : ∀ D, D < W → (!c A D && d A D) = true → (!c B D && d B D) = true
  · exfalso
    have h1 := sum_one (f := fun j => bI (!c A j && d A j) + (if j = C then 1 else 0)) (g := fun j => bI (!c A j && d A j)) (k := W) (m := C) (d := 1) hC (by simp) (fun j _ hne => by simp [hne])
    have h2 := sum_le (f := fun j => bI (!c A j && d A j) + (if j = C then 1 else 0)) (g := fun j => bI (!c B j && d B j)) (k := W) fun j hj => by
      (try dsimp only)
      by_cases e : j = C
      · subst e
        rw [hp1.1, hp1.2, hp2.1, hp2.2, if_pos rfl]; simp [bI]
      · rw [if_neg e]
        have := hall j hj
        revert this
        cases (!c A j && d A j) <;> cases (!c B j && d B j) <;> simp [bI]
    (try dsimp only at hle)
    omega
  · have : ∃ D, D < W ∧ (!c A D && d A D) = true ∧ ¬ (!c B D && d B D) = true := by
      refine Classical.byContradiction fun hno => hall fun D hD h1 => Classical.byContradiction fun h2 => hno ⟨D, hD, h1, h2⟩
    obtain ⟨D, hD, h1, h2⟩ := this
    simp only [Bool.and_eq_true, Bool.not_eq_true'] at h1
    refine ⟨A, B, C, D, hA, hB, hC, hD, hp1, h1, hp2, ?_⟩
    revert h2
    cases c B D <;> cases d B D <;> simp
theorem either_gain {c d : Nat → Nat → Bool} {W n : Nat} (h : SameC c d W n) (hd : 0 < farI c d W n) :
    ∃ A B C D, A < n ∧ B < n ∧ A ≠ B ∧ C < W ∧ D < W ∧ C ≠ D ∧ 3 ≤ cornI c d A B C D ∧ (swC c A B C D = true ∨ swC d A B C D = true) := by
  obtain ⟨A, B, C, D, hA, hB, hC, hD, ⟨a1, a2⟩, ⟨b1, b2⟩, ⟨c1, c2⟩, hor⟩ := either_four h hd
  refine ⟨A, B, C, D, hA, hB, (fun e => by subst e; rw [a1] at c1; exact absurd c1 (by simp)), hC, hD, (fun e => by subst e; rw [a1] at b1; exact absurd b1 (by simp)), ?_, ?_⟩
  · unfold cornI
    rw [a1, a2, b1, b2, c1, c2]
    have := bI_01 (c B D != d B D)
    simp only [bI] at this ⊢
    simp
    omega
  · unfold swC
    rw [a1, a2, b1, b2, c1, c2]
    revert hor
    cases c B D <;> cases d B D <;> simp
theorem far_even {c d : Nat → Nat → Bool} {W n : Nat} (h : SameC c d W n) : farI c d W n % 2 = 0 := by
  have : farI c d W n = 2 * sumI (fun i => sumI (fun j => bI (c i j && !d i j)) W) n := by
    unfold farI
    rw [← sum_twice]
    refine sum_ext fun i hi => ?_
    have e := only_same (h.rows i hi)
    have e2 : sumI (fun j => bI (c i j != d i j)) W = sumI (fun j => bI (c i j && !d i j)) W + sumI (fun j => bI (!c i j && d i j)) W := by
      rw [← sum_add]
      exact sum_ext fun j _ => by (try dsimp only); cases c i j <;> cases d i j <;> rfl
    omega
  omega
theorem far_not2 {c d : Nat → Nat → Bool} {W n : Nat} (h : SameC c d W n) (hd : 0 < farI c d W n) : 4 ≤ farI c d W n := by
  obtain ⟨A, B, C, D, hA, hB, hAB, hC, hD, hCD, hg, _⟩ := either_gain h hd
  have h1 := far_fl (c := c) (d := d) hA hB hAB hC hD hCD
  have h2 := corn_bd c d A B C D
  have h3 := far_even h
  have hn := far_nn (flC c A B C D) d W n
  have p1 := far_cell (c := flC c A B C D) (d := d) hA hC
  have p2 := far_cell (c := flC c A B C D) (d := d) hA hD
  have p3 := far_cell (c := flC c A B C D) (d := d) hB hC
  have p4 := far_cell (c := flC c A B C D) (d := d) hB hD
  rw [fl_corner (by simp), not_bne] at p1 p2 p3 p4
  have q1 := bI_01 (c A C != d A C); have q2 := bI_01 (c A D != d A D); have q3 := bI_01 (c B C != d B C); have q4 := bI_01 (c B D != d B D)
  unfold cornI at *
  omega
end Go.Proofs.Yteejopkimlkhoaa

