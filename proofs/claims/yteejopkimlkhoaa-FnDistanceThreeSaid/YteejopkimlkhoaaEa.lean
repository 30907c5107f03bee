/-
  Plain facts on switches of cells: what doing one leaves, how they turn, how many there are.
-/
import Derived.Test.YteejopkimlkhoaaDa
namespace Go.Proofs.Yteejopkimlkhoaa
set_option maxRecDepth 100000
open Go.RowKit

/-- The cells of rows of bits. -/
def cellOf (xs : List Int) (i j : Nat) : Bool := decide (bitI (xs.getD i 0) j = 1)
theorem cells_of {W n : Nat} {xs : List Int} (h : Im W n xs) : cellsL (cellOf xs) W n = xs :=
  (cells_im _ h.w1 h.w6 h.l1 h.l6).ext h fun i j hi hj => by
    rw [cells_bit h.w6 hi hj]
    unfold cellOf
    have := bit_01 (xs.getD i 0) j
    by_cases e : bitI (xs.getD i 0) j = 1
    · rw [if_pos (decide_eq_true e), e]
    · rw [if_neg (by simpa using e)]; omega
/-- The rows A and B have a switch in the columns C and D. -/
def swC (c : Nat → Nat → Bool) (A B C D : Nat) : Bool := (c A C == c B D) && ((c A D == !c A C) && (c B C == !c A C))
/-- It is done. -/
def flC (c : Nat → Nat → Bool) (A B C D : Nat) (i j : Nat) : Bool := if (i = A ∨ i = B) ∧ (j = C ∨ j = D) then !c i j else c i j
variable {c d : Nat → Nat → Bool} {A B C D : Nat}
theorem fl_corner {i j : Nat} (h : (i = A ∨ i = B) ∧ (j = C ∨ j = D)) : flC c A B C D i j = !c i j := if_pos h
theorem fl_other {i j : Nat} (h : ¬ ((i = A ∨ i = B) ∧ (j = C ∨ j = D))) : flC c A B C D i j = c i j := if_neg h
theorem fl_fl : flC (flC c A B C D) A B C D = c := by
  funext i j
  by_cases h : (i = A ∨ i = B) ∧ (j = C ∨ j = D)
  · rw [fl_corner h, fl_corner h, Bool.not_not]
  · rw [fl_other h, fl_other h]
theorem sw_fl : swC (flC c A B C D) A B C D = swC c A B C D := by
  unfold swC
  (try dsimp only)
  rw [fl_corner ⟨.inl rfl, .inl rfl⟩, fl_corner ⟨.inr rfl, .inr rfl⟩, fl_corner ⟨.inl rfl, .inr rfl⟩, fl_corner ⟨.inr rfl, .inl rfl⟩]
  cases c A C <;> cases c B D <;> cases c A D <;> cases c B C <;> rfl
theorem sw_turn : swC (fun i j => c j i) C D A B = swC c A B C D := by
  unfold swC
  (try dsimp only)
  cases c A C <;> cases c B D <;> cases c A D <;> cases c B C <;> rfl
theorem sw_other : swC (fun i j => !c i j) A B C D = swC c A B C D := by
  unfold swC
  (try dsimp only)
  cases c A C <;> cases c B D <;> cases c A D <;> cases c B C <;> rfl
theorem sw_mirror {W : Nat} (hC : C < W) (hD : D < W) : swC (fun i j => c i (W - 1 - j)) A B (W - 1 - D) (W - 1 - C) = swC c A B C D := by
  unfold swC
  (try dsimp only)
  rw [show W - 1 - (W - 1 - D) = D by omega, show W - 1 - (W - 1 - C) = C by omega]
  cases c A C <;> cases c B D <;> cases c A D <;> cases c B C <;> rfl
theorem sw_flip : swC c B A C D = swC c A B C D := by
  unfold swC
  (try dsimp only)
  cases c A C <;> cases c B D <;> cases c A D <;> cases c B C <;> rfl
/-- Switches of other rows have any order. -/
theorem sw_apart {A' B' C' D' : Nat} (h1 : A' ≠ A) (h2 : A' ≠ B) (h3 : B' ≠ A) (h4 : B' ≠ B) : swC (flC c A B C D) A' B' C' D' = swC c A' B' C' D' := by
  unfold swC
  (try dsimp only)
  rw [fl_other (by omega), fl_other (by omega), fl_other (by omega), fl_other (by omega)]
theorem fl_comm {A' B' C' D' : Nat} (h1 : A' ≠ A) (h2 : A' ≠ B) (h3 : B' ≠ A) (h4 : B' ≠ B) : flC (flC c A B C D) A' B' C' D' = flC (flC c A' B' C' D') A B C D := by
  funext i j
  by_cases e1 : (i = A ∨ i = B) ∧ (j = C ∨ j = D)
  · have e2 : ¬ ((i = A' ∨ i = B') ∧ (j = C' ∨ j = D')) := by omega
    rw [fl_other e2, fl_corner e1, fl_corner e1, fl_other e2]
  · by_cases e2 : (i = A' ∨ i = B') ∧ (j = C' ∨ j = D')
    · rw [fl_corner e2, fl_other e1, fl_other e1, fl_corner e2]
    · rw [fl_other e2, fl_other e1, fl_other e1, fl_other e2]
def bI (b : Bool) : Int := if b = true then 1 else 0
theorem bI_not (b : Bool) : bI (!b) = 1 - bI b := by cases b <;> rfl
theorem bI_01 (b : Bool) : 0 ≤ bI b ∧ bI b ≤ 1 := by cases b <;> simp [bI]
theorem sw_bits {c : Nat → Nat → Bool} {A B C D : Nat} (h : swC c A B C D = true) : bI (c A C) + bI (c A D) = 1 ∧ bI (c B C) + bI (c B D) = 1 ∧ bI (c A C) + bI (c B C) = 1 ∧ bI (c A D) + bI (c B D) = 1 := by
  unfold swC at h
  revert h
  cases c A C <;> cases c B D <;> cases c A D <;> cases c B C <;> simp [bI]
theorem sum_two {f g : Nat → Int} {n p q : Nat} {d e : Int} (hp : p < n) (hq : q < n) (hne : p ≠ q) (h1 : f p = g p + d) (h2 : f q = g q + e) (h : ∀ i, i < n → i ≠ p → i ≠ q → f i = g i) : sumI f n = sumI g n + d + e := by
  have a1 := sum_one (f := fun i => if i = q then g i else f i) (g := g) (k := n) (m := p) (d := d) hp (by (try dsimp only); rw [if_neg hne]; exact h1) (fun i hi hn => by
    (try dsimp only)
    by_cases e1 : i = q
    · rw [if_pos e1]
    · rw [if_neg e1]; exact h i hi hn e1)
  have a2 := sum_one (f := f) (g := fun i => if i = q then g i else f i) (k := n) (m := q) (d := e) hq (by (try dsimp only); rw [if_pos rfl]; exact h2) (fun i hi hn => by (try dsimp only); rw [if_neg hn])
  omega
/-- A switch keeps the sums of rows .. -/
theorem fl_rs {c : Nat → Nat → Bool} {A B C D W : Nat} (h : swC c A B C D = true) (hC : C < W) (hD : D < W) (hCD : C ≠ D) (i : Nat) : sumI (fun j => bI (flC c A B C D i j)) W = sumI (fun j => bI (c i j)) W := by
  have hb := sw_bits h
  by_cases hi : i = A ∨ i = B
  · have := sum_two (f := fun j => bI (flC c A B C D i j)) (g := fun j => bI (c i j)) (n := W) (p := C) (q := D) (d := 1 - 2 * bI (c i C)) (e := 1 - 2 * bI (c i D)) hC hD hCD
      (by (try dsimp only); rw [fl_corner ⟨hi, .inl rfl⟩, bI_not]; omega) (by (try dsimp only); rw [fl_corner ⟨hi, .inr rfl⟩, bI_not]; omega) (fun j _ h1 h2 => by (try dsimp only); rw [fl_other (by omega)])
    rcases hi with rfl | rfl <;> omega
  · exact sum_ext fun j _ => by rw [fl_other (by omega)]
/-- .. and of columns. -/
theorem fl_cs {c : Nat → Nat → Bool} {A B C D n : Nat} (h : swC c A B C D = true) (hA : A < n) (hB : B < n) (hAB : A ≠ B) (j : Nat) : sumI (fun i => bI (flC c A B C D i j)) n = sumI (fun i => bI (c i j)) n := by
  have hb := sw_bits h
  by_cases hj : j = C ∨ j = D
  · have := sum_two (f := fun i => bI (flC c A B C D i j)) (g := fun i => bI (c i j)) (n := n) (p := A) (q := B) (d := 1 - 2 * bI (c A j)) (e := 1 - 2 * bI (c B j)) hA hB hAB
      (by (try dsimp only); rw [fl_corner ⟨.inl rfl, hj⟩, bI_not]; omega) (by (try dsimp only); rw [fl_corner ⟨.inr rfl, hj⟩, bI_not]; omega) (fun i _ h1 h2 => by (try dsimp only); rw [fl_other (by omega)])
    rcases hj with rfl | rfl <;> omega
  · exact sum_ext fun i _ => by rw [fl_other (by omega)]
/-- Four cells are different. -/
theorem fl_four {c : Nat → Nat → Bool} {A B C D W n : Nat} (hA : A < n) (hB : B < n) (hAB : A ≠ B) (hC : C < W) (hD : D < W) (hCD : C ≠ D) : sumI (fun i => sumI (fun j => bI (c i j != flC c A B C D i j)) W) n = 4 := by
  have row : ∀ i, sumI (fun j => bI (c i j != flC c A B C D i j)) W = if i = A ∨ i = B then 2 else 0 := fun i => by
    by_cases hi : i = A ∨ i = B
    · rw [if_pos hi]
      have := sum_two (f := fun j => bI (c i j != flC c A B C D i j)) (g := fun _ => 0) (n := W) (p := C) (q := D) (d := 1) (e := 1) hC hD hCD
        (by (try dsimp only); rw [fl_corner ⟨hi, .inl rfl⟩]; cases c i C <;> rfl) (by (try dsimp only); rw [fl_corner ⟨hi, .inr rfl⟩]; cases c i D <;> rfl) (fun j _ h1 h2 => by (try dsimp only); rw [fl_other (by omega)]; cases c i j <;> rfl)
      rw [sum_zero] at this; exact this
    · rw [if_neg hi, ← sum_zero W]
      exact sum_ext fun j _ => by rw [fl_other (by omega)]; cases c i j <;> rfl
  have := sum_two (f := fun i => sumI (fun j => bI (c i j != flC c A B C D i j)) W) (g := fun _ => 0) (n := n) (p := A) (q := B) (d := 2) (e := 2) hA hB hAB
    (by (try dsimp only); rw [row, if_pos (.inl rfl)]; rfl) (by (try dsimp only); rw [row, if_pos (.inr rfl)]; rfl) (fun i _ h1 h2 => by (try dsimp only); rw [row, if_neg (by omega)])
  rw [sum_zero] at this; exact this

/-- The sum over pairs. -/
def triI (F : Nat → Nat → Int) (n : Nat) : Int := sumI (fun k => sumI (fun i => F i k) k) n
theorem tri_succ (F : Nat → Nat → Int) (n : Nat) : triI F (n + 1) = triI F n + sumI (fun i => F i n) n := rfl
theorem tri_ext {F G : Nat → Nat → Int} {n : Nat} (h : ∀ i k, i < k → k < n → F i k = G i k) : triI F n = triI G n := sum_ext fun k hk => sum_ext fun i hi => h i k hi hk
theorem tri_zero (n : Nat) : triI (fun _ _ => 0) n = 0 := by
  unfold triI
  rw [sum_ext (g := fun _ => 0) (fun k _ => sum_zero k), sum_zero]
theorem tri_add (F G : Nat → Nat → Int) (n : Nat) : triI (fun i k => F i k + G i k) n = triI F n + triI G n := by
  unfold triI
  rw [← sum_add]
  exact sum_ext fun k _ => sum_add _ _ _
theorem tri_sum (F : Nat → Nat → Nat → Int) (n m : Nat) : triI (fun i k => sumI (fun q => F q i k) m) n = sumI (fun q => triI (F q) n) m := by
  induction m with
  | zero => exact tri_zero n
  | succ m ih => simp only [sumI]; rw [tri_add, ih]
theorem tri_swap (G : Nat → Nat → Nat → Nat → Int) (n m : Nat) : triI (fun i k => triI (fun j l => G i k j l) m) n = triI (fun j l => triI (fun i k => G i k j l) n) m := by
  induction n with
  | zero => exact (tri_zero m).symm
  | succ n ih =>
    rw [tri_succ, ih, show (fun j l => triI (fun i k => G i k j l) (n + 1)) = fun j l => triI (fun i k => G i k j l) n + sumI (fun i => G i n j l) n from rfl, tri_add, tri_sum]
theorem tri_le {F G : Nat → Nat → Int} {n : Nat} (h : ∀ i k, i < k → k < n → F i k ≤ G i k) : triI F n ≤ triI G n := sum_le fun k hk => sum_le fun i hi => h i k hi hk
/-- How many switches there are. -/
def manyC (c : Nat → Nat → Bool) (W n : Nat) : Int := triI (fun i k => triI (fun j l => bI (swC c i k j l)) W) n
theorem many_ext {c d : Nat → Nat → Bool} {W n : Nat} (h : ∀ i j, i < n → j < W → c i j = d i j) : manyC c W n = manyC d W n :=
  tri_ext fun i k hik hk => tri_ext fun j l hjl hl => by unfold swC; rw [h i j (by omega) (by omega), h k l hk hl, h i l (by omega) hl, h k j hk (by omega)]
theorem many_turn (c : Nat → Nat → Bool) (W n : Nat) : manyC (fun i j => c j i) n W = manyC c W n := by
  unfold manyC
  rw [tri_swap]
  exact tri_ext fun i k _ _ => tri_ext fun j l _ _ => by rw [sw_turn]
theorem many_other (c : Nat → Nat → Bool) (W n : Nat) : manyC (fun i j => !c i j) W n = manyC c W n :=
  tri_ext fun i k _ _ => tri_ext fun j l _ _ => by rw [sw_other]
/-- Columns where only the first row, or only the second one, is set. -/
def onlyI (c : Nat → Nat → Bool) (i k : Nat) (W : Nat) : Int := sumI (fun j => bI (c i j && !c k j)) W
theorem pair_many (c : Nat → Nat → Bool) (i k W : Nat) : triI (fun j l => bI (swC c i k j l)) W = onlyI c i k W * onlyI c k i W := by
  induction W with
  | zero => rfl
  | succ W ih =>
    rw [tri_succ, ih]
    have e : sumI (fun j => bI (swC c i k j W)) W = onlyI c i k W * bI (c k W && !c i W) + onlyI c k i W * bI (c i W && !c k W) := by
      unfold onlyI
      cases h1 : c i W <;> cases h2 : c k W
      · rw [sum_ext (g := fun _ => 0) (fun j _ => by unfold swC; rw [h1, h2]; cases c i j <;> cases c k j <;> rfl), sum_zero]; simp [bI]
      · rw [sum_ext (g := fun j => bI (c i j && !c k j)) (fun j _ => by unfold swC; rw [h1, h2]; cases c i j <;> cases c k j <;> rfl)]; simp [bI]
      · rw [sum_ext (g := fun j => bI (c k j && !c i j)) (fun j _ => by unfold swC; rw [h1, h2]; cases c i j <;> cases c k j <;> rfl)]; simp [bI]
      · rw [sum_ext (g := fun _ => 0) (fun j _ => by unfold swC; rw [h1, h2]; cases c i j <;> cases c k j <;> rfl), sum_zero]; simp [bI]
    rw [e]
    have e2 : bI (c i W && !c k W) * bI (c k W && !c i W) = 0 := by cases c i W <;> cases c k W <;> rfl
    have s1 : onlyI c i k (W + 1) = onlyI c i k W + bI (c i W && !c k W) := rfl
    have s2 : onlyI c k i (W + 1) = onlyI c k i W + bI (c k W && !c i W) := rfl
    rw [s1, s2, Int.add_mul, Int.mul_add, Int.mul_add, e2, Int.mul_comm (bI (c i W && !c k W)) (onlyI c k i W)]
    omega
theorem sum_back (f : Nat → Int) (W : Nat) : sumI (fun j => f (W - 1 - j)) W = sumI f W := by
  induction W with
  | zero => rfl
  | succ W ih =>
    rw [sum_shift]
    have e : sumI (fun j => f (W + 1 - 1 - (j + 1))) W = sumI (fun j => f (W - 1 - j)) W := sum_ext fun j _ => by rw [show W + 1 - 1 - (j + 1) = W - 1 - j by omega]
    rw [e, ih]
    show f (W + 1 - 1 - 0) + sumI f W = sumI f W + f W
    rw [show W + 1 - 1 - 0 = W by omega]; omega
theorem many_mirror (c : Nat → Nat → Bool) (W n : Nat) : manyC (fun i j => c i (W - 1 - j)) W n = manyC c W n :=
  tri_ext fun i k _ _ => by
    rw [pair_many, pair_many]
    have e1 : onlyI (fun i j => c i (W - 1 - j)) i k W = onlyI c i k W := sum_back (fun j => bI (c i j && !c k j)) W
    have e2 : onlyI (fun i j => c i (W - 1 - j)) k i W = onlyI c k i W := sum_back (fun j => bI (c k j && !c i j)) W
    rw [e1, e2]
theorem only_bd (c : Nat → Nat → Bool) (i k W : Nat) : 0 ≤ onlyI c i k W ∧ 0 ≤ onlyI c k i W ∧ onlyI c i k W + onlyI c k i W ≤ W := by
  have h1 := sum_bd (f := fun j => bI (c i j && !c k j)) (fun j => bI_01 _) W
  have h2 := sum_bd (f := fun j => bI (c k j && !c i j)) (fun j => bI_01 _) W
  have h3 := sum_bd (f := fun j => bI (c i j && !c k j) + bI (c k j && !c i j)) (fun j => by cases c i j <;> cases c k j <;> simp [bI]) W
  rw [sum_add] at h3
  unfold onlyI
  omega
/-- Nested rows have no switch. -/
theorem many_nested {c : Nat → Nat → Bool} {W n : Nat} (h : ∀ i k, i < n → k < n → (∀ j, j < W → c i j = true → c k j = true) ∨ ∀ j, j < W → c k j = true → c i j = true) : manyC c W n = 0 := by
  rw [← tri_zero n]
  refine tri_ext fun i k hik hk => ?_
  rw [pair_many]
  rcases h i k (by omega) hk with h1 | h1
  · rw [show onlyI c i k W = 0 from by
      unfold onlyI
      rw [sum_ext (g := fun _ => 0) (fun j hj => by
        cases e : c i j with
        | false => rfl
        | true => rw [h1 j hj e]; rfl), sum_zero], Int.zero_mul]
  · rw [show onlyI c k i W = 0 from by
      unfold onlyI
      rw [sum_ext (g := fun _ => 0) (fun j hj => by
        cases e : c k j with
        | false => rfl
        | true => rw [h1 j hj e]; rfl), sum_zero], Int.mul_zero]
end Go.Proofs.Yteejopkimlkhoaa

