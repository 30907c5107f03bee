/-
  Plain facts on switches of cells: what doing one leaves, how they turn, how many there are.
  Plain facts on lists of switches: pairs of numbers in their order, the switches of pairs of rows, how many they are and which order they have.
  Numbers of switches: rows under a mask of two columns, the rows that a switch leaves, sums of rows, and how many switches there can be.
-/
import Derived.Test.YtemmfnlnhekclaaDa

namespace Go.Proofs.Ytemmfnlnhekclaa
set_option maxRecDepth 100000
open Go.RowKit

/-- The cells of rows of bits. -/
def cellOf (xs : List Int) (i j : Nat) : Bool := decide (bitI (xs.getD i 0) j = 1)
theorem cells_of {W n : Nat} {xs : List Int} (h : Im W n xs) : cellsL (cellOf xs) W n = xs :=
  (cells_im _ h.w1 h.w6 h.l1 h.l6).ext h fun i j hi hj => by
    rw [cells_bit h.w6 hi hj]
    unfold cellOf
    have := bit_01 (xs.getD i 0) j
    by_cases e : bitI (xs.getD i 0) j = 1
    · rw [if_pos (decide_eq_true e), e]
    · rw [if_neg (by simpa using e)]; omega
/-- The rows A and B have a switch in the columns C and D. -/
def swC (c : Nat → Nat → Bool) (A B C D : Nat) : Bool := (c A C == c B D) && ((c A D == !c A C) && (c B C == !c A C))
/-- It is done. -/
def flC (c : Nat → Nat → Bool) (A B C D : Nat) (i j : Nat) : Bool := if (i = A ∨ i = B) ∧ (j = C ∨ j = D) then !c i j else c i j
variable {c d : Nat → Nat → Bool} {A B C D : Nat}
theorem fl_corner {i j : Nat} (h : (i = A ∨ i = B) ∧ (j = C ∨ j = D)) : flC c A B C D i j = !c i j := if_pos h
theorem fl_other {i j : Nat} (h : ¬ ((i = A ∨ i = B) ∧ (j = C ∨ j = D))) : flC c A B C D i j = c i j := if_neg h
theorem fl_fl : flC (flC c A B C D) A B C D = c := by
  funext i j
  by_cases h : (i = A ∨ i = B) ∧ (j = C ∨ j = D)
  · rw [fl_corner h, fl_corner h, Bool.not_not]
  · rw [fl_other h, fl_other h]
theorem sw_fl : swC (flC c A B C D) A B C D = swC c A B C D := by
  unfold swC
  (try dsimp only)
  rw [fl_corner ⟨.inl rfl, .inl rfl⟩, fl_corner ⟨.inr rfl, .inr rfl⟩, fl_corner ⟨.inl rfl, .inr rfl⟩, fl_corner ⟨.inr rfl, .inl rfl⟩]
  cases c A C <;> cases c B D <;> cases c A D <;> cases c B C <;> rfl
theorem sw_turn : swC (fun i j => c j i) C D A B = swC c A B C D := by
  unfold swC
  (try dsimp only)
  cases c A C <;> cases c B D <;> cases c A D <;> cases c B C <;> rfl
theorem sw_other : swC (fun i j => !c i j) A B C D = swC c A B C D := by
  unfold swC
  (try dsimp only)
  cases c A C <;> cases c B D <;> cases c A D <;> cases c B C <;> rfl
theorem sw_mirror {W : Nat} (hC : C < W) (hD : D < W) : swC (fun i j => c i (W - 1 - j)) A B (W - 1 - D) (W - 1 - C) = swC c A B C D := by
  unfold swC
  (try dsimp only)
  rw [show W - 1 - (W - 1 - D) = D by omega, show W - 1 - (W - 1 - C) = C by omega]
  cases c A C <;> cases c B D <;> cases c A D <;> cases c B C <;> rfl
theorem sw_flip : swC c B A C D = swC c A B C D := by
  unfold swC
  (try dsimp only)
  cases c A C <;> cases c B D <;> cases c A D <;> cases c B C <;> rfl
/-- Switches of other rows have any order. -/
theorem sw_apart {A' B' C' D' : Nat} (h1 : A' ≠ A) (h2 : A' ≠ B) (h3 : B' ≠ A) (h4 : B' ≠ B) : swC (flC c A B C D) A' B' C' D' = swC c A' B' C' D' := by
  unfold swC
  (try dsimp only)
  rw [fl_other (by omega), fl_other (by omega), fl_other (by omega), fl_other (by omega)]
theorem fl_comm {A' B' C' D' : Nat} (h1 : A' ≠ A) (h2 : A' ≠ B) (h3 : B' ≠ A) (h4 : B' ≠ B) : flC (flC c A B C D) A' B' C' D' = flC (flC c A' B' C' D') A B C D := by
  funext i j
  by_cases e1 : (i = A ∨ i = B) ∧ (j = C ∨ j = D)
  · have e2 : ¬ ((i = A' ∨ i = B') ∧ (j = C' ∨ j = D')) := by omega
    rw [fl_other e2, fl_corner e1, fl_corner e1, fl_other e2]
  · by_cases e2 : (i = A' ∨ i = B') ∧ (j = C' ∨ j = D')
    · rw [fl_corner e2, fl_other e1, fl_other e1, fl_corner e2]
    · rw [fl_other e2, fl_other e1, fl_other e1, fl_other e2]
def bI (b : Bool) : Int := if b = true then 1 else 0
theorem bI_not (b : Bool) : bI (!b) = 1 - bI b := by cases b <;> rfl
theorem bI_01 (b : Bool) : 0 ≤ bI b ∧ bI b ≤ 1 := by cases b <;> simp [bI]
theorem sw_bits {c : Nat → Nat → Bool} {A B C D : Nat} (h : swC c A B C D = true) : bI (c A C) + bI (c A D) = 1 ∧ bI (c B C) + bI (c B D) = 1 ∧ bI (c A C) + bI (c B C) = 1 ∧ bI (c A D) + bI (c B D) = 1 := by
  unfold swC at h
  revert h
  cases c A C <;> cases c B D <;> cases c A D <;> cases c B C <;> simp [bI]
theorem sum_two {f g : Nat → Int} {n p q : Nat} {d e : Int} (hp : p < n) (hq : q < n) (hne : p ≠ q) (h1 : f p = g p + d) (h2 : f q = g q + e) (h : ∀ i, i < n → i ≠ p → i ≠ q → f i = g i) : sumI f n = sumI g n + d + e := by
  have a1 := sum_one (f := fun i => if i = q then g i else f i) (g := g) (k := n) (m := p) (d := d) hp (by (try dsimp only); rw [if_neg hne]; exact h1) (fun i hi hn => by
    (try dsimp only)
    by_cases e1 : i = q
    · rw [if_pos e1]
    · rw [if_neg e1]; exact h i hi hn e1)
  have a2 := sum_one (f := f) (g := fun i => if i = q then g i else f i) (k := n) (m := q) (d := e) hq (by (try dsimp only); rw [if_pos rfl]; exact h2) (fun i hi hn => by (try dsimp only); rw [if_neg hn])
  omega
/-- A switch keeps the sums of rows .. -/
theorem fl_rs {c : Nat → Nat → Bool} {A B C D W : Nat} (h : swC c A B C D = true) (hC : C < W) (hD : D < W) (hCD : C ≠ D) (i : Nat) : sumI (fun j => bI (flC c A B C D i j)) W = sumI (fun j => bI (c i j)) W := by
  have hb := sw_bits h
  by_cases hi : i = A ∨ i = B
  · have := sum_two (f := fun j => bI (flC c A B C D i j)) (g := fun j => bI (c i j)) (n := W) (p := C) (q := D) (d := 1 - 2 * bI (c i C)) (e := 1 - 2 * bI (c i D)) hC hD hCD
      (by (try dsimp only); rw [fl_corner ⟨hi, .inl rfl⟩, bI_not]; omega) (by (try dsimp only); rw [fl_corner ⟨hi, .inr rfl⟩, bI_not]; omega) (fun j _ h1 h2 => by (try dsimp only); rw [fl_other (by omega)])
    rcases hi with rfl | rfl <;> omega
  · exact sum_ext fun j _ => by rw [fl_other (by omega)]
/-- .. and of columns. -/
theorem fl_cs {c : Nat → Nat → Bool} {A B C D n : Nat} (h : swC c A B C D = true) (hA : A < n) (hB : B < n) (hAB : A ≠ B) (j : Nat) : sumI (fun i => bI (flC c A B C D i j)) n = sumI (fun i => bI (c i j)) n := by
  have hb := sw_bits h
  by_cases hj : j = C ∨ j = D
  · have := sum_two (f := fun i => bI (flC c A B C D i j)) (g := fun i => bI (c i j)) (n := n) (p := A) (q := B) (d := 1 - 2 * bI (c A j)) (e := 1 - 2 * bI (c B j)) hA hB hAB
      (by (try dsimp only); rw [fl_corner ⟨.inl rfl, hj⟩, bI_not]; omega) (by (try dsimp only); rw [fl_corner ⟨.inr rfl, hj⟩, bI_not]; omega) (fun i _ h1 h2 => by (try dsimp only); rw [fl_other (by omega)])
    rcases hj with rfl | rfl <;> omega
  · exact sum_ext fun i _ => by rw [fl_other (by omega)]
/-- Four cells are different. -/
theorem fl_four {c : Nat → Nat → Bool} {A B C D W n : Nat} (hA : A < n) (hB : B < n) (hAB : A ≠ B) (hC : C < W) (hD : D < W) (hCD : C ≠ D) : sumI (fun i => sumI (fun j => bI (c i j != flC c A B C D i j)) W) n = 4 := by
  have row : ∀ i, sumI (fun j => bI (c i j != flC c A B C D i j)) W = if i = A ∨ i = B then 2 else 0 := fun i => by
    by_cases hi : i = A ∨ i = B
    · rw [if_pos hi]
      have := sum_two (f := fun j => bI (c i j != flC c A B C D i j)) (g := fun _ => 0) (n := W) (p := C) (q := D) (d := 1) (e := 1) hC hD hCD
        (by (try dsimp only); rw [fl_corner ⟨hi, .inl rfl⟩]; cases c i C <;> rfl) (by (try dsimp only); rw [fl_corner ⟨hi, .inr rfl⟩]; cases c i D <;> rfl) (fun j _ h1 h2 => by (try dsimp only); rw [fl_other (by omega)]; cases c i j <;> rfl)
      rw [sum_zero] at this; exact this
    · rw [if_neg hi, ← sum_zero W]
      exact sum_ext fun j _ => by rw [fl_other (by omega)]; cases c i j <;> rfl
  have := sum_two (f := fun i => sumI (fun j => bI (c i j != flC c A B C D i j)) W) (g := fun _ => 0) (n := n) (p := A) (q := B) (d := 2) (e := 2) hA hB hAB
    (by (try dsimp only); rw [row, if_pos (.inl rfl)]; rfl) (by (try dsimp only); rw [row, if_pos (.inr rfl)]; rfl) (fun i _ h1 h2 => by (try dsimp only); rw [row, if_neg (by omega)])
  rw [sum_zero] at this; exact this

/-- The sum over pairs. -/
def triI (F : Nat → Nat → Int) (n : Nat) : Int := sumI (fun k => sumI (fun i => F i k) k) n
theorem tri_succ (F : Nat → Nat → Int) (n : Nat) : triI F (n + 1) = triI F n + sumI (fun i => F i n) n := rfl
theorem tri_ext {F G : Nat → Nat → Int} {n : Nat} (h : ∀ i k, i < k → k < n → F i k = G i k) : triI F n = triI G n := sum_ext fun k hk => sum_ext fun i hi => h i k hi hk
theorem tri_zero (n : Nat) : triI (fun _ _ => 0) n = 0 := by
  unfold triI
  rw [sum_ext (g := fun _ => 0) (fun k _ => sum_zero k), sum_zero]
theorem tri_add (F G : Nat → Nat → Int) (n : Nat) : triI (fun i k => F i k + G i k) n = triI F n + triI G n := by
  unfold triI
  rw [← sum_add]
  exact sum_ext fun k _ => sum_add _ _ _
theorem tri_sum (F : Nat → Nat → Nat → Int) (n m : Nat) : triI (fun i k => sumI (fun q => F q i k) m) n = sumI (fun q => triI (F q) n) m := by
  induction m with
  | zero => exact tri_zero n
  | succ m ih => simp only [sumI]; rw [tri_add, ih]
theorem tri_swap (G : Nat → Nat → Nat → Nat → Int) (n m : Nat) : triI (fun i k => triI (fun j l => G i k j l) m) n = triI (fun j l => triI (fun i k => G i k j l) n) m := by
  induction n with
  | zero => exact (tri_zero m).symm
  | succ n ih =>
    rw [tri_succ, ih, show (fun j l => triI (fun i k => G i k j l) (n + 1)) = fun j l => triI (fun i k => G i k j l) n + sumI (fun i => G i n j l) n from rfl, tri_add, tri_sum]
theorem tri_le {F G : Nat → Nat → Int} {n : Nat} (h : ∀ i k, i < k → k < n → F i k ≤ G i k) : triI F n ≤ triI G n := sum_le fun k hk => sum_le fun i hi => h i k hi hk
/-- How many switches there are. -/
def manyC (c : Nat → Nat → Bool) (W n : Nat) : Int := triI (fun i k => triI (fun j l => bI (swC c i k j l)) W) n
theorem many_ext {c d : Nat → Nat → Bool} {W n : Nat} (h : ∀ i j, i < n → j < W → c i j = d i j) : manyC c W n = manyC d W n :=
  tri_ext fun i k hik hk => tri_ext fun j l hjl hl => by unfold swC; rw [h i j (by omega) (by omega), h k l hk hl, h i l (by omega) hl, h k j hk (by omega)]
theorem many_turn (c : Nat → Nat → Bool) (W n : Nat) : manyC (fun i j => c j i) n W = manyC c W n := by
  unfold manyC
  rw [tri_swap]
  exact tri_ext fun i k _ _ => tri_ext fun j l _ _ => by rw [sw_turn]
theorem many_other (c : Nat → Nat → Bool) (W n : Nat) : manyC (fun i j => !c i j) W n = manyC c W n :=
  tri_ext fun i k _ _ => tri_ext fun j l _ _ => by rw [sw_other]
/-- Columns where only the first row, or only the second one, is set. -/
def onlyI (c : Nat → Nat → Bool) (i k : Nat) (W : Nat) : Int := sumI (fun j => bI (c i j && !c k j)) W
theorem pair_many (c : Nat → Nat → Bool) (i k W : Nat) : triI (fun j l => bI (swC c i k j l)) W = onlyI c i k W * onlyI c k i W := by
  induction W with
  | zero => rfl
  | succ W ih =>
    rw [tri_succ, ih]
    have e : sumI (fun j => bI (swC c i k j W)) W = onlyI c i k W * bI (c k W && !c i W) + onlyI c k i W * bI (c i W && !c k W) := by
      unfold onlyI
      cases h1 : c i W <;> cases h2 : c k W
      · rw [sum_ext (g := fun _ => 0) (fun j _ => by unfold swC; rw [h1, h2]; cases c i j <;> cases c k j <;> rfl), sum_zero]; simp [bI]
      · rw [sum_ext (g := fun j => bI (c i j && !c k j)) (fun j _ => by unfold swC; rw [h1, h2]; cases c i j <;> cases c k j <;> rfl)]; simp [bI]
      · rw [sum_ext (g := fun j => bI (c k j && !c i j)) (fun j _ => by unfold swC; rw [h1, h2]; cases c i j <;> cases c k j <;> rfl)]; simp [bI]
      · rw [sum_ext (g := fun _ => 0) (fun j _ => by unfold swC; rw [h1, h2]; cases c i j <;> cases c k j <;> rfl), sum_zero]; simp [bI]
    rw [e]
    have e2 : bI (c i W && !c k W) * bI (c k W && !c i W) = 0 := by cases c i W <;> cases c k W <;> rfl
    have s1 : onlyI c i k (W + 1) = onlyI c i k W + bI (c i W && !c k W) := rfl
    have s2 : onlyI c k i (W + 1) = onlyI c k i W + bI (c k W && !c i W) := rfl
    rw [s1, s2, Int.add_mul, Int.mul_add, Int.mul_add, e2, Int.mul_comm (bI (c i W && !c k W)) (onlyI c k i W)]
    omega
theorem sum_back (f : Nat → Int) (W : Nat) : sumI (fun j => f (W - 1 - j)) W = sumI f W := by
  induction W with
  | zero => rfl
  | succ W ih =>
    rw [sum_shift]
    have e : sumI (fun j => f (W + 1 - 1 - (j + 1))) W = sumI (fun j => f (W - 1 - j)) W := sum_ext fun j _ => by rw [show W + 1 - 1 - (j + 1) = W - 1 - j by omega]
    rw [e, ih]
    show f (W + 1 - 1 - 0) + sumI f W = sumI f W + f W
    rw [show W + 1 - 1 - 0 = W by omega]; omega
theorem many_mirror (c : Nat → Nat → Bool) (W n : Nat) : manyC (fun i j => c i (W - 1 - j)) W n = manyC c W n :=
  tri_ext fun i k _ _ => by
    rw [pair_many, pair_many]
    have e1 : onlyI (fun i j => c i (W - 1 - j)) i k W = onlyI c i k W := sum_back (fun j => bI (c i j && !c k j)) W
    have e2 : onlyI (fun i j => c i (W - 1 - j)) k i W = onlyI c k i W := sum_back (fun j => bI (c k j && !c i j)) W
    rw [e1, e2]
theorem only_bd (c : Nat → Nat → Bool) (i k W : Nat) : 0 ≤ onlyI c i k W ∧ 0 ≤ onlyI c k i W ∧ onlyI c i k W + onlyI c k i W ≤ W := by
  have h1 := sum_bd (f := fun j => bI (c i j && !c k j)) (fun j => bI_01 _) W
  have h2 := sum_bd (f := fun j => bI (c k j && !c i j)) (fun j => bI_01 _) W
  have h3 := sum_bd (f := fun j => bI (c i j && !c k j) + bI (c k j && !c i j)) (fun j => by cases c i j <;> cases c k j <;> simp [bI]) W
  rw [sum_add] at h3
  unfold onlyI
  omega
/-- Nested rows have no switch. -/
theorem many_nested {c : Nat → Nat → Bool} {W n : Nat} (h : ∀ i k, i < n → k < n → (∀ j, j < W → c i j = true → c k j = true) ∨ ∀ j, j < W → c k j = true → c i j = true) : manyC c W n = 0 := by
  rw [← tri_zero n]
  refine tri_ext fun i k hik hk => ?_
  rw [pair_many]
  rcases h i k (by omega) hk with h1 | h1
  · rw [show onlyI c i k W = 0 from by
      unfold onlyI
      rw [sum_ext (g := fun _ => 0) (fun j hj => by
        cases e : c i j with
        | false => rfl
        | true => rw [h1 j hj e]; rfl), sum_zero], Int.zero_mul]
  · rw [show onlyI c k i W = 0 from by
      unfold onlyI
      rw [sum_ext (g := fun _ => 0) (fun j hj => by
        cases e : c k j with
        | false => rfl
        | true => rw [h1 j hj e]; rfl), sum_zero], Int.mul_zero]
end Go.Proofs.Ytemmfnlnhekclaa

namespace Go.Proofs.Ytemmfnlnhekclaa
set_option maxRecDepth 100000

/-- The pairs that begin with i, up to (i, k). -/
def segL (i k : Nat) : List (Nat × Nat) := (List.range' (i + 1) (k - (i + 1))).map fun j => (i, j)
theorem seg_nil (i : Nat) : segL i (i + 1) = [] := by simp [segL]
theorem seg_short {i k : Nat} (h : k ≤ i + 1) : segL i k = [] := by unfold segL; rw [show k - (i + 1) = 0 by omega]; rfl
theorem seg_snoc {i k : Nat} (h : i < k) : segL i (k + 1) = segL i k ++ [(i, k)] := by
  unfold segL
  rw [show k + 1 - (i + 1) = (k - (i + 1)) + 1 by omega, List.range'_concat, List.map_append, show i + 1 + 1 * (k - (i + 1)) = k by omega]; rfl
/-- All pairs of numbers below n that begin ahead of i. -/
def uptoL (n i : Nat) : List (Nat × Nat) := (List.range i).flatMap fun p => segL p n
theorem upto_zero (n : Nat) : uptoL n 0 = [] := rfl
theorem upto_snoc (n i : Nat) : uptoL n (i + 1) = uptoL n i ++ segL i n := by
  unfold uptoL; rw [List.range_succ, List.flatMap_append]; simp
/-- All pairs of numbers below n, in order. -/
def pairsL (n : Nat) : List (Nat × Nat) := uptoL n n
theorem upto_pre {n i k : Nat} (h : i ≤ k) : uptoL n i <+: uptoL n k := by
  induction k with
  | zero => rw [show i = 0 by omega]; exact List.prefix_refl _
  | succ k ih =>
    by_cases e : i = k + 1
    · rw [e]; exact List.prefix_refl _
    · rw [upto_snoc]; exact (ih (by omega)).trans (List.prefix_append _ _)
theorem seg_pre {i k m : Nat} (h : k ≤ m) : segL i k <+: segL i m := by
  induction m with
  | zero => rw [show k = 0 by omega]; exact List.prefix_refl _
  | succ m ih =>
    by_cases e : k = m + 1
    · rw [e]; exact List.prefix_refl _
    · by_cases hi : i < m
      · rw [seg_snoc hi]; exact (ih (by omega)).trans (List.prefix_append _ _)
      · rw [seg_short (k := k) (by omega)]; exact List.nil_prefix
theorem pairs_at {n i k : Nat} (h1 : i < k) (h2 : k < n) : ∃ post, pairsL n = (uptoL n i ++ segL i k) ++ (i, k) :: post := by
  have a : uptoL n i ++ segL i (k + 1) <+: uptoL n i ++ segL i n := (List.prefix_append_right_inj _).2 (seg_pre (by omega))
  rw [← upto_snoc] at a
  obtain ⟨post, hp⟩ := a.trans (upto_pre (show i + 1 ≤ n by omega))
  refine ⟨post, ?_⟩
  unfold pairsL
  rw [← hp, seg_snoc h1]; simp
theorem pairs_mem {n i k : Nat} : (i, k) ∈ pairsL n ↔ i < k ∧ k < n := by
  constructor
  · intro h
    unfold pairsL uptoL segL at h
    simp only [List.mem_flatMap, List.mem_range, List.mem_map, List.mem_range'_1, Prod.mk.injEq] at h
    obtain ⟨p, hp, q, hq, rfl, rfl⟩ := h
    omega
  · rintro ⟨h1, h2⟩
    obtain ⟨post, e⟩ := pairs_at h1 h2
    rw [e]; simp
/-- The sum over a list. -/
def sumL {α : Type} (F : α → Int) : List α → Int
  | [] => 0
  | x :: xs => F x + sumL F xs
theorem suml_append {α : Type} (F : α → Int) (xs ys : List α) : sumL F (xs ++ ys) = sumL F xs + sumL F ys := by
  induction xs with
  | nil => simp [sumL]
  | cons x xs ih => simp only [List.cons_append, sumL]; rw [ih]; omega
theorem suml_ext {α : Type} {F G : α → Int} {xs : List α} (h : ∀ x ∈ xs, F x = G x) : sumL F xs = sumL G xs := by
  induction xs with
  | nil => rfl
  | cons x xs ih => simp only [sumL]; rw [h x (by simp), ih fun y hy => h y (by simp [hy])]
theorem suml_seg (F : Nat × Nat → Int) (i : Nat) {n : Nat} (h : i < n) : sumL F (segL i (n + 1)) = sumL F (segL i n) + F (i, n) := by
  rw [seg_snoc h, suml_append]; simp [sumL]
theorem suml_upto (F : Nat × Nat → Int) (n i : Nat) : sumL F (uptoL n i) = sumI (fun p => sumL F (segL p n)) i := by
  induction i with
  | zero => rfl
  | succ i ih => rw [upto_snoc, suml_append, ih]; rfl
theorem suml_pairs (F : Nat × Nat → Int) (n : Nat) : sumL F (pairsL n) = triI (fun i k => F (i, k)) n := by
  unfold pairsL
  rw [suml_upto]
  induction n with
  | zero => rfl
  | succ n ih =>
    show sumI (fun p => sumL F (segL p (n + 1))) n + sumL F (segL n (n + 1)) = triI (fun i k => F (i, k)) n + sumI (fun i => F (i, n)) n
    rw [seg_nil, sum_ext (fun i hi => suml_seg F i hi), sum_add, ih]
    simp [sumL]
theorem len_flat {α β : Type} (f : α → List β) (xs : List α) : ((xs.flatMap f).length : Int) = sumL (fun x => ((f x).length : Int)) xs := by
  induction xs with
  | nil => rfl
  | cons x xs ih => simp only [List.flatMap_cons, List.length_append, sumL]; rw [← ih]; omega
theorem len_filter {α : Type} (p : α → Bool) (xs : List α) : ((xs.filter p).length : Int) = sumL (fun x => bI (p x)) xs := by
  induction xs with
  | nil => rfl
  | cons x xs ih =>
    simp only [List.filter_cons, sumL]; rw [← ih]
    cases p x
    · simp [bI]
    · simp [bI]; omega
/-- A place of a switch. -/
abbrev SwT := Nat × Nat × Nat × Nat
/-- The switches of two rows, among these columns. -/
def rowSw (c : Nat → Nat → Bool) (p : Nat × Nat) (qs : List (Nat × Nat)) : List SwT := (qs.filter fun q => swC c p.1 p.2 q.1 q.2).map fun q => (p.1, p.2, q.1, q.2)
theorem rsw_snoc (c : Nat → Nat → Bool) (p q : Nat × Nat) (qs : List (Nat × Nat)) : rowSw c p (qs ++ [q]) = rowSw c p qs ++ if swC c p.1 p.2 q.1 q.2 = true then [(p.1, p.2, q.1, q.2)] else [] := by
  unfold rowSw
  rw [List.filter_append, List.map_append]
  cases h : swC c p.1 p.2 q.1 q.2 <;> simp [h]
theorem rsw_cons (c : Nat → Nat → Bool) (p q : Nat × Nat) (qs : List (Nat × Nat)) : rowSw c p (q :: qs) = (if swC c p.1 p.2 q.1 q.2 = true then [(p.1, p.2, q.1, q.2)] else []) ++ rowSw c p qs := by
  unfold rowSw
  cases h : swC c p.1 p.2 q.1 q.2 <;> simp [h]
theorem rsw_append (c : Nat → Nat → Bool) (p : Nat × Nat) (qs rs : List (Nat × Nat)) : rowSw c p (qs ++ rs) = rowSw c p qs ++ rowSw c p rs := by
  unfold rowSw; rw [List.filter_append, List.map_append]
/-- The switches of pairs of rows. -/
def allSw (c : Nat → Nat → Bool) (W : Nat) (ps : List (Nat × Nat)) : List SwT := ps.flatMap fun p => rowSw c p (pairsL W)
theorem asw_snoc (c : Nat → Nat → Bool) (W : Nat) (p : Nat × Nat) (ps : List (Nat × Nat)) : allSw c W (ps ++ [p]) = allSw c W ps ++ rowSw c p (pairsL W) := by
  unfold allSw; rw [List.flatMap_append]; simp
theorem asw_append (c : Nat → Nat → Bool) (W : Nat) (ps qs : List (Nat × Nat)) : allSw c W (ps ++ qs) = allSw c W ps ++ allSw c W qs := by
  unfold allSw; rw [List.flatMap_append]
theorem asw_cons (c : Nat → Nat → Bool) (W : Nat) (p : Nat × Nat) (ps : List (Nat × Nat)) : allSw c W (p :: ps) = rowSw c p (pairsL W) ++ allSw c W ps := by
  unfold allSw; rw [List.flatMap_cons]
/-- All switches, in order. -/
def swL (c : Nat → Nat → Bool) (W n : Nat) : List SwT := allSw c W (pairsL n)
theorem swl_at {c : Nat → Nat → Bool} {W n : Nat} {p q : Nat × Nat} {ps ps' qs qs' : List (Nat × Nat)} (hp : pairsL n = ps ++ p :: ps') (hq : pairsL W = qs ++ q :: qs') (h : swC c p.1 p.2 q.1 q.2 = true) :
    swL c W n = (allSw c W ps ++ rowSw c p qs) ++ (p.1, p.2, q.1, q.2) :: (rowSw c p qs' ++ allSw c W ps') := by
  unfold swL
  rw [hp, asw_append, asw_cons, hq, rsw_append, rsw_cons, if_pos h]
  simp
theorem swl_mem {c : Nat → Nat → Bool} {W n A B C D : Nat} : (A, B, C, D) ∈ swL c W n ↔ A < B ∧ B < n ∧ C < D ∧ D < W ∧ swC c A B C D = true := by
  unfold swL allSw rowSw
  simp only [List.mem_flatMap, List.mem_map, List.mem_filter, Prod.exists]
  constructor
  · rintro ⟨a, b, h1, c', d, ⟨h2, h3⟩, h4⟩
    simp only [Prod.mk.injEq] at h4
    obtain ⟨rfl, rfl, rfl, rfl⟩ := h4
    have := pairs_mem.1 h1
    have := pairs_mem.1 h2
    exact ⟨by omega, by omega, by omega, by omega, h3⟩
  · rintro ⟨h1, h2, h3, h4, h5⟩
    exact ⟨A, B, pairs_mem.2 ⟨h1, h2⟩, C, D, ⟨pairs_mem.2 ⟨h3, h4⟩, h5⟩, rfl⟩
theorem swl_len (c : Nat → Nat → Bool) (W n : Nat) : ((swL c W n).length : Int) = manyC c W n := by
  unfold swL allSw manyC
  rw [len_flat, suml_pairs]
  unfold triI
  refine sum_ext fun k _ => sum_ext fun i _ => ?_
  show ((rowSw c (i, k) (pairsL W)).length : Int) = _
  unfold rowSw
  rw [List.length_map, len_filter, suml_pairs]; rfl
/-- The order of switches. -/
def ltS (x y : SwT) : Prop := x.1 < y.1 ∨ x.1 = y.1 ∧ (x.2.1 < y.2.1 ∨ x.2.1 = y.2.1 ∧ (x.2.2.1 < y.2.2.1 ∨ x.2.2.1 = y.2.2.1 ∧ x.2.2.2 < y.2.2.2))
def ltP (x y : Nat × Nat) : Prop := x.1 < y.1 ∨ x.1 = y.1 ∧ x.2 < y.2
theorem seg_sorted (i k : Nat) : (segL i k).Pairwise ltP := by
  unfold segL
  rw [List.pairwise_map]
  exact List.Pairwise.imp (fun h => Or.inr ⟨rfl, h⟩) (List.pairwise_lt_range' (s := i + 1) (n := k - (i + 1)) (step := 1) (by omega))
theorem upto_fst {n i : Nat} {x : Nat × Nat} (h : x ∈ uptoL n i) : x.1 < i := by
  unfold uptoL segL at h
  simp only [List.mem_flatMap, List.mem_range, List.mem_map] at h
  obtain ⟨p, hp, q, _, rfl⟩ := h
  exact hp
theorem seg_fst {i k : Nat} {x : Nat × Nat} (h : x ∈ segL i k) : x.1 = i := by
  unfold segL at h
  simp only [List.mem_map] at h
  obtain ⟨q, _, rfl⟩ := h; rfl
theorem upto_sorted (n i : Nat) : (uptoL n i).Pairwise ltP := by
  induction i with
  | zero => exact List.Pairwise.nil
  | succ i ih =>
    rw [upto_snoc, List.pairwise_append]
    exact ⟨ih, seg_sorted i n, fun a ha b hb => Or.inl (by rw [seg_fst hb]; exact upto_fst ha)⟩
theorem rsw_sorted (c : Nat → Nat → Bool) (p : Nat × Nat) {qs : List (Nat × Nat)} (h : qs.Pairwise ltP) : (rowSw c p qs).Pairwise ltS := by
  unfold rowSw
  rw [List.pairwise_map]
  exact (h.filter _).imp fun h => Or.inr ⟨rfl, Or.inr ⟨rfl, h⟩⟩
theorem asw_sorted (c : Nat → Nat → Bool) (W : Nat) {ps : List (Nat × Nat)} (h : ps.Pairwise ltP) : (allSw c W ps).Pairwise ltS := by
  induction ps with
  | nil => exact List.Pairwise.nil
  | cons p ps ih =>
    rw [List.pairwise_cons] at h
    rw [asw_cons, List.pairwise_append]
    refine ⟨rsw_sorted c p (upto_sorted W W), ih h.2, fun a ha b hb => ?_⟩
    unfold rowSw at ha
    unfold allSw rowSw at hb
    simp only [List.mem_map, List.mem_flatMap] at ha hb
    obtain ⟨_, _, rfl⟩ := ha
    obtain ⟨q, hq, _, _, rfl⟩ := hb
    rcases h.1 q hq with h | ⟨h, h'⟩
    · exact Or.inl h
    · exact Or.inr ⟨h, Or.inl h'⟩
theorem swl_sorted (c : Nat → Nat → Bool) (W n : Nat) : (swL c W n).Pairwise ltS := asw_sorted c W (upto_sorted n n)
theorem upto_len (n i : Nat) (h : i ≤ n) : (uptoL n i).length ≤ i * n := by
  induction i with
  | zero => simp [uptoL]
  | succ i ih =>
    have := ih (by omega)
    rw [upto_snoc, List.length_append, Nat.succ_mul]
    have : (segL i n).length ≤ n := by unfold segL; simp
    omega
theorem rsw_len (c : Nat → Nat → Bool) (p : Nat × Nat) (qs : List (Nat × Nat)) : (rowSw c p qs).length ≤ qs.length := by
  unfold rowSw; rw [List.length_map]; exact List.length_filter_le _ _
end Go.Proofs.Ytemmfnlnhekclaa

namespace Go.Proofs.Ytemmfnlnhekclaa
set_option maxRecDepth 100000
open Go.RowKit

/-- The row in which just two columns are set. -/
def mskI (C D : Nat) : Int := pw C + pw D
theorem msk_num : ∀ D, D < 6 → ∀ C, C < D → bits BinOp.or IntKind.i64 (wrap64 (2 ^ C)) (wrap64 (2 ^ D)) = mskI C D := by decide +kernel
theorem msk_63 : ∀ D, D < 6 → ∀ C, C < D → 0 ≤ mskI C D ∧ mskI C D ≤ 63 := by decide +kernel
theorem and_msk : ∀ D, D < 6 → ∀ C, C < D → ∀ n, n < 64 → bits BinOp.and IntKind.i64 ((n : Nat) : Int) (mskI C D) = bitI n C * pw C + bitI n D * pw D := by decide +kernel
theorem and_63 : ∀ D, D < 6 → ∀ C, C < D → ∀ n, n < 64 → 0 ≤ bits BinOp.and IntKind.i64 ((n : Nat) : Int) (mskI C D) ∧ bits BinOp.and IntKind.i64 ((n : Nat) : Int) (mskI C D) ≤ 63 := by decide +kernel
theorem xor_msk : ∀ D, D < 6 → ∀ C, C < D → ∀ n, n < 64 → ∀ j, j < 6 → bitI (bits BinOp.xor IntKind.i64 ((n : Nat) : Int) (mskI C D)) j = if j = C ∨ j = D then 1 - bitI n j else bitI n j := by decide +kernel
theorem xor_63 : ∀ D, D < 6 → ∀ C, C < D → ∀ n, n < 64 → 0 ≤ bits BinOp.xor IntKind.i64 ((n : Nat) : Int) (mskI C D) ∧ bits BinOp.xor IntKind.i64 ((n : Nat) : Int) (mskI C D) ≤ 63 := by decide +kernel
theorem xor_add : ∀ D, D < 6 → ∀ C, C < D → ∀ n, n < 64 → bits BinOp.xor IntKind.i64 ((n : Nat) : Int) (mskI C D) = n + (1 - 2 * bitI n C) * pw C + (1 - 2 * bitI n D) * pw D := by decide +kernel
def twoI (p q : Bool) (C D : Nat) : Int := bI p * pw C + bI q * pw D
theorem two_cnt (p q : Bool) : ∀ D, D < 6 → ∀ C, C < D → (cntI (twoI p q C D) 6 == 1) = (p != q) := by
  cases p <;> cases q <;> decide +kernel
theorem two_xor (p q r s : Bool) : ∀ D, D < 6 → ∀ C, C < D → (bits BinOp.xor IntKind.i64 (twoI p q C D) (twoI r s C D) == mskI C D) = ((r != p) && (s != q)) := by
  cases p <;> cases q <;> cases r <;> cases s <;> decide +kernel
theorem cell_bit (xs : List Int) (i j : Nat) : bitI (xs.getD i 0) j = bI (cellOf xs i j) := by
  unfold cellOf bI
  have := bit_01 (xs.getD i 0) j
  by_cases e : bitI (xs.getD i 0) j = 1
  · rw [if_pos (decide_eq_true e), e]
  · rw [if_neg (by simpa using e)]; omega
theorem bI_inj {a b : Bool} (h : bI a = bI b) : a = b := by revert h; cases a <;> cases b <;> simp [bI]
theorem bit_cell {xs ys : List Int} {i k j l : Nat} : bitI (xs.getD i 0) j = bitI (ys.getD k 0) l ↔ cellOf xs i j = cellOf ys k l := by
  rw [cell_bit, cell_bit]; exact ⟨bI_inj, fun h => by rw [h]⟩
theorem msk_row {W n : Nat} {xs : List Int} (h : Im W n xs) {i C D : Nat} (hi : i < n) (hC : C < D) (hD : D < W) : bits BinOp.and IntKind.i64 (xs.getD i 0) (mskI C D) = twoI (cellOf xs i C) (cellOf xs i D) C D := by
  obtain ⟨m, e, hm⟩ := h.nat hi
  rw [e, and_msk D (by have := h.w6; omega) C hC m hm, ← e, cell_bit, cell_bit]; rfl
theorem cross_row {W n : Nat} {xs : List Int} (h : Im W n xs) {A B C D : Nat} (hA : A < n) (hB : B < n) (hC : C < D) (hD : D < W) :
    ((cntI (bits BinOp.and IntKind.i64 (xs.getD A 0) (mskI C D)) 6 == 1) && (bits BinOp.xor IntKind.i64 (bits BinOp.and IntKind.i64 (xs.getD A 0) (mskI C D)) (bits BinOp.and IntKind.i64 (xs.getD B 0) (mskI C D)) == mskI C D)) = swC (cellOf xs) A B C D := by
  have hD6 : D < 6 := by have := h.w6; omega
  rw [msk_row h hA hC hD, msk_row h hB hC hD, two_cnt _ _ D hD6 C hC, two_xor _ _ _ _ D hD6 C hC]
  unfold swC
  cases cellOf xs A C <;> cases cellOf xs A D <;> cases cellOf xs B C <;> cases cellOf xs B D <;> rfl
theorem bit_high {x : Int} {W j : Nat} (h0 : 0 ≤ x) (h : x ≤ pw W - 1) (hj : W ≤ j) : bitI x j = 0 := by
  unfold bitI
  rw [Int.ediv_eq_zero_of_lt h0 (by have := pw_le W j hj; omega)]; rfl
/-- The rows that a switch leaves. -/
def flL (xs : List Int) (W n A B C D : Nat) : List Int := cellsL (flC (cellOf xs) A B C D) W n
theorem fll_len (xs : List Int) (W n A B C D : Nat) : (flL xs W n A B C D).length = n := cells_len _ _ _
theorem fl_im {W n : Nat} {xs : List Int} (h : Im W n xs) (A B C D : Nat) : Im W n (flL xs W n A B C D) := cells_im _ h.w1 h.w6 h.l1 h.l6
theorem fl_cell {W n : Nat} {xs : List Int} (h : Im W n xs) {A B C D i j : Nat} (hi : i < n) (hj : j < W) : cellOf (flL xs W n A B C D) i j = flC (cellOf xs) A B C D i j := by
  unfold flL
  show decide (_ = (1 : Int)) = _
  rw [cells_bit h.w6 hi hj]
  cases flC (cellOf xs) A B C D i j <;> rfl
theorem fl_row {W n : Nat} {xs : List Int} (h : Im W n xs) {A B C D i : Nat} (hi : i < n) (hC : C < D) (hD : D < W) (hAB : i = A ∨ i = B) : bits BinOp.xor IntKind.i64 (xs.getD i 0) (mskI C D) = rowN (flC (cellOf xs) A B C D i) W := by
  have hD6 : D < 6 := by have := h.w6; omega
  have hr := h.row i hi
  have hw6 := h.w6
  obtain ⟨m, e, hm⟩ := h.nat hi
  have hN := rowN_bd (flC (cellOf xs) A B C D i) W
  have hp := pw_63 hw6
  have h63 := xor_63 D hD6 C hC m hm
  rw [e]
  refine bits_ext (k := 6) (by omega) ⟨h63.1, h63.2⟩ ⟨hN.1, by show _ ≤ (63 : Int); omega⟩ fun j hj => ?_
  rw [xor_msk D hD6 C hC m hm j hj, rowN_bit _ hw6 (by omega), ← e, cell_bit]
  by_cases hjW : j < W
  · by_cases hcd : j = C ∨ j = D
    · rw [if_pos hcd, fl_corner ⟨hAB, hcd⟩, ← bI_not]
      cases cellOf xs i j <;> simp [bI, hjW]
    · rw [if_neg hcd, fl_other (by omega)]
      cases cellOf xs i j <;> simp [bI, hjW]
  · rw [if_neg (by omega), if_neg (by omega), ← cell_bit]
    exact bit_high hr.1 hr.2 (by omega)
theorem fl_same {W n : Nat} {xs : List Int} (h : Im W n xs) {A B C D i : Nat} (hi : i < n) (hne : i ≠ A ∧ i ≠ B) : (flL xs W n A B C D).getD i 0 = xs.getD i 0 := by
  have e : (cellsL (cellOf xs) W n).getD i 0 = xs.getD i 0 := by rw [cells_of h]
  rw [cells_get hi] at e
  unfold flL
  rw [cells_get hi, ← e]
  congr 1
  funext j
  exact fl_other (by omega)
theorem fl_get {W n : Nat} {xs : List Int} (h : Im W n xs) {A B C D i : Nat} (hi : i < n) (hC : C < D) (hD : D < W) (hAB : i = A ∨ i = B) : (flL xs W n A B C D).getD i 0 = bits BinOp.xor IntKind.i64 (xs.getD i 0) (mskI C D) := by
  rw [fl_row h hi hC hD hAB]; exact cells_get hi
/-- Two rows are changed. -/
theorem fll_set {W n : Nat} {xs : List Int} (h : Im W n xs) {A B C D : Nat} (hA : A < B) (hB : B < n) (hC : C < D) (hD : D < W) :
    (xs.set A (bits BinOp.xor IntKind.i64 (xs.getD A 0) (mskI C D))).set B (bits BinOp.xor IntKind.i64 ((xs.set A (bits BinOp.xor IntKind.i64 (xs.getD A 0) (mskI C D))).getD B 0) (mskI C D)) = flL xs W n A B C D := by
  have hl := h.hl
  have e0 : (xs.set A (bits BinOp.xor IntKind.i64 (xs.getD A 0) (mskI C D))).getD B 0 = xs.getD B 0 := by
    rw [List.getD_eq_getElem?_getD, List.getElem?_set_ne (by omega), ← List.getD_eq_getElem?_getD]
  rw [e0]
  apply List.ext_getElem (by rw [List.length_set, List.length_set, fll_len]; exact hl)
  intro i hi hi2
  rw [List.length_set, List.length_set] at hi
  rw [← getD_elem hi2]
  by_cases e1 : i = B
  · subst e1; rw [List.getElem_set_self, fl_get h (by omega) hC hD (.inr rfl)]
  · rw [List.getElem_set_ne (by omega)]
    by_cases e2 : i = A
    · subst e2; rw [List.getElem_set_self, fl_get h (by omega) hC hD (.inl rfl)]
    · rw [List.getElem_set_ne (by omega), fl_same h (by omega) ⟨e2, e1⟩]; exact (getD_elem (by omega)).symm
/-- A switch of rows that are different keeps the sum of their numbers. -/
theorem fl_sum {W n : Nat} {xs : List Int} (h : Im W n xs) {A B C D : Nat} (hA : A < n) (hB : B < n) (hC : C < D) (hD : D < W) (hs : swC (cellOf xs) A B C D = true) :
    (flL xs W n A B C D).getD A 0 + (flL xs W n A B C D).getD B 0 = xs.getD A 0 + xs.getD B 0 ∧ xs.getD A 0 ≠ xs.getD B 0 := by
  have hD6 : D < 6 := by have := h.w6; omega
  have hb := sw_bits hs
  refine ⟨?_, fun e => ?_⟩
  · rw [fl_get h hA hC hD (.inl rfl), fl_get h hB hC hD (.inr rfl)]
    obtain ⟨a, ea, ha⟩ := h.nat hA
    obtain ⟨b, eb, hb'⟩ := h.nat hB
    rw [ea, eb, xor_add D hD6 C hC a ha, xor_add D hD6 C hC b hb', ← ea, ← eb, cell_bit, cell_bit, cell_bit, cell_bit]
    have e1 : 1 - 2 * bI (cellOf xs B C) = -(1 - 2 * bI (cellOf xs A C)) := by omega
    have e2 : 1 - 2 * bI (cellOf xs B D) = -(1 - 2 * bI (cellOf xs A D)) := by omega
    rw [e1, e2, Int.neg_mul, Int.neg_mul]
    omega
  · have hc := hb.2.2.1
    rw [← cell_bit, ← cell_bit, e] at hc
    have := bit_01 (xs.getD B 0) C
    omega
theorem turn_cell {W n : Nat} {xs : List Int} (h : Im W n xs) {i j : Nat} (hi : i < n) (hj : j < W) : cellOf (turnL xs W n) j i = cellOf xs i j := by
  unfold cellOf; rw [h.turn_bit hi hj]
theorem mir_cell {W n : Nat} {xs : List Int} (h : Im W n xs) {i j : Nat} (hi : i < n) (hj : j < W) : cellOf (mirL xs W n) i j = cellOf xs i (W - 1 - j) := by
  unfold cellOf; rw [h.mir_bit' hi hj]
theorem fl_turn {W n : Nat} {xs : List Int} (h : Im W n xs) (A B C D : Nat) : turnL (flL xs W n A B C D) W n = flL (turnL xs W n) n W C D A B := by
  unfold flL
  rw [cells_turn h.w1 h.w6 h.l1 h.l6]
  refine cells_ext fun j i hj hi => ?_
  show flC (cellOf xs) A B C D i j = flC (cellOf (turnL xs W n)) C D A B j i
  by_cases e : (i = A ∨ i = B) ∧ (j = C ∨ j = D)
  · rw [fl_corner e, fl_corner ⟨e.2, e.1⟩, turn_cell h hi hj]
  · rw [fl_other e, fl_other (fun e' => e ⟨e'.2, e'.1⟩), turn_cell h hi hj]
theorem sw_ext {c d : Nat → Nat → Bool} {A B C D : Nat} (h1 : c A C = d A C) (h2 : c B D = d B D) (h3 : c A D = d A D) (h4 : c B C = d B C) : swC c A B C D = swC d A B C D := by
  unfold swC; rw [h1, h2, h3, h4]
theorem sw_turned {W n : Nat} {xs : List Int} (h : Im W n xs) {A B C D : Nat} (hA : A < n) (hB : B < n) (hC : C < W) (hD : D < W) : swC (cellOf (turnL xs W n)) C D A B = swC (cellOf xs) A B C D := by
  rw [← sw_turn (c := cellOf xs)]
  exact sw_ext (turn_cell h hA hC) (turn_cell h hB hD) (turn_cell h hB hC) (turn_cell h hA hD)
theorem sw_done {W n : Nat} {xs : List Int} (h : Im W n xs) {A B C D : Nat} (hA : A < n) (hB : B < n) (hC : C < W) (hD : D < W) : swC (cellOf (flL xs W n A B C D)) A B C D = swC (cellOf xs) A B C D := by
  rw [← sw_fl (c := cellOf xs)]
  exact sw_ext (fl_cell h hA hC) (fl_cell h hB hD) (fl_cell h hA hD) (fl_cell h hB hC)
theorem fl_twice {W n : Nat} {xs : List Int} (h : Im W n xs) (A B C D : Nat) : flL (flL xs W n A B C D) W n A B C D = xs := by
  have e : flL (flL xs W n A B C D) W n A B C D = cellsL (cellOf xs) W n := by
    refine cells_ext fun i j hi hj => ?_
    have e2 := congrFun (congrFun (fl_fl (c := cellOf xs) (A := A) (B := B) (C := C) (D := D)) i) j
    rw [← e2]
    by_cases e1 : (i = A ∨ i = B) ∧ (j = C ∨ j = D)
    · rw [fl_corner e1, fl_corner e1, fl_cell h hi hj]
    · rw [fl_other e1, fl_other e1, fl_cell h hi hj]
  rw [e]; exact cells_of h
/-- How many switches an image has at most. -/
theorem tri_const (K : Int) : ∀ n, n < 7 → triI (fun _ _ => K) n = ((n * (n - 1) / 2 : Nat) : Int) * K
  | 0, _ => by simp [triI, sumI]
  | 1, _ => by simp [triI, sumI]
  | 2, _ => by simp [triI, sumI]
  | 3, _ => by simp [triI, sumI]; omega
  | 4, _ => by simp [triI, sumI]; omega
  | 5, _ => by simp [triI, sumI]; omega
  | 6, _ => by simp [triI, sumI]; omega
  | n + 7, h => by omega
theorem mul_quarter : ∀ W, W < 7 → ∀ x, x < 7 → ∀ y, y < 7 → x + y ≤ W → x * y ≤ W * W / 4 := by decide +kernel
theorem only_mul (c : Nat → Nat → Bool) (i k : Nat) {W : Nat} (hW : W < 7) : onlyI c i k W * onlyI c k i W ≤ ((W * W / 4 : Nat) : Int) := by
  have h := only_bd c i k W
  obtain ⟨x, hx⟩ := Int.eq_ofNat_of_zero_le h.1
  obtain ⟨y, hy⟩ := Int.eq_ofNat_of_zero_le h.2.1
  rw [hx, hy] at h ⊢
  have := mul_quarter W hW x (by omega) y (by omega) (by omega)
  rw [← Int.natCast_mul]; omega
theorem many_le (c : Nat → Nat → Bool) {W n : Nat} (hW : W < 7) (hn : n < 7) : manyC c W n ≤ ((n * (n - 1) / 2 * (W * W / 4) : Nat) : Int) := by
  have h := tri_le (F := fun i k => triI (fun j l => bI (swC c i k j l)) W) (G := fun _ _ => ((W * W / 4 : Nat) : Int)) (n := n) fun i k _ _ => by
    (try dsimp only)
    rw [pair_many]; exact only_mul c i k hW
  rw [tri_const _ n hn] at h
  rw [Int.natCast_mul]
  exact h
theorem many_four : ∀ n, n < 7 → ∀ W, W < 7 → 4 * (n * (n - 1) / 2 * (W * W / 4)) ≤ n * n * W * W := by decide +kernel
theorem many_nn (c : Nat → Nat → Bool) (W n : Nat) : 0 ≤ manyC c W n := by rw [← swl_len]; omega
theorem many_row (c : Nat → Nat → Bool) (W : Nat) : manyC c W 1 = 0 := by simp [manyC, triI, sumI]
theorem many_col (c : Nat → Nat → Bool) (n : Nat) : manyC c 1 n = 0 := by rw [← many_turn]; exact many_row _ _
/-- Switches by pairs of rows, added up in order. -/
theorem many_pairs (c : Nat → Nat → Bool) (W n : Nat) : sumL (fun p => onlyI c p.1 p.2 W * onlyI c p.2 p.1 W) (pairsL n) = manyC c W n := by
  rw [suml_pairs]
  exact tri_ext fun i k _ _ => (pair_many c i k W).symm
end Go.Proofs.Ytemmfnlnhekclaa
