/-
  Plain facts: a switch is seen on the lines that are not level or upright.
-/
import Derived.Test.YtemmfnlnhekclaaZa
import Derived.Test.YtemmfnlnhekclaaEa
namespace Go.Proofs.Ytemmfnlnhekclaa
set_option maxRecDepth 100000

/-- A switch is seen on the lines of one direction, if one of its corners is alone on its line. -/
theorem dv_ne {u v : Nat → Nat → Int} {d W n i j : Nat} (hi : i < n) (hj : j < W) (hne : u i j ≠ v i j) (h : ∀ a b, a < n → b < W → ¬ (a = i ∧ b = j) → posN d W a b = posN d W i j → u a b = v a b) :
    dlI u d W n (posN d W i j) ≠ dlI v d W n (posN d W i j) := by
  intro he
  have e : dlI u d W n (posN d W i j) = dlI v d W n (posN d W i j) + (u i j - v i j) := by
    rw [dv_rows, dv_rows]
    refine sum_one hi ?_ fun a ha hna => sum_ext fun b hb => ?_
    · refine sum_one hj (by simp only [if_true]; omega) fun b hb hnb => ?_
      by_cases p : posN d W i b = posN d W i j
      · simp only [p, if_true]; exact h i b hi hb (fun x => hnb x.2) p
      · simp only [p, if_false]
    · by_cases p : posN d W a b = posN d W i j
      · simp only [p, if_true]; exact h a b ha hb (fun x => hna x.1) p
      · simp only [p, if_false]
  omega
theorem fl_bv {W n : Nat} {xs : List Int} (h : Im W n xs) {A B C D i j : Nat} (hi : i < n) (hj : j < W) : bvI (flL xs W n A B C D) i j = bI (flC (cellOf xs) A B C D i j) := by
  unfold bvI; rw [cell_bit, fl_cell h hi hj]
theorem ds_switch {W n : Nat} {xs : List Int} (h : Im W n xs) {A B C D : Nat} (hA : A < B) (hB : B < n) (hC : C < D) (hD : D < W) :
    dsL 2 (flL xs W n A B C D) W n ≠ dsL 2 xs W n ∧ dsL 3 (flL xs W n A B C D) W n ≠ dsL 3 xs W n := by
  have corner : ∀ i j, i < n → j < W → ((i = A ∨ i = B) ∧ (j = C ∨ j = D)) → bvI (flL xs W n A B C D) i j ≠ bvI xs i j := fun i j hi hj hc => by
    rw [fl_bv h hi hj, fl_corner hc, bI_not]; unfold bvI; rw [cell_bit]
    cases cellOf xs i j <;> decide
  have other : ∀ i j, i < n → j < W → ¬ ((i = A ∨ i = B) ∧ (j = C ∨ j = D)) → bvI (flL xs W n A B C D) i j = bvI xs i j := fun i j hi hj hc => by
    rw [fl_bv h hi hj, fl_other hc]; unfold bvI; rw [cell_bit]
  constructor
  · intro he
    refine dv_ne (d := 2) (i := A) (j := D) (by omega) hD (corner A D (by omega) hD ⟨.inl rfl, .inr rfl⟩) (fun a b ha hb hne hp => other a b ha hb fun hc => ?_) ?_
    · have p1 := (pos_num (d := 2) (by omega) ha hb).1
      have p2 := (pos_num (d := 2) (W := W) (by omega) (show A < n by omega) hD).1
      rw [hp] at p1; simp only [lnI, dX, dY] at p1 p2; omega
    · have hk := (pos_num (d := 2) (W := W) (by omega) (show A < n by omega) hD).2.2.1
      rw [← ds_get hk, ← ds_get hk, he]
  · intro he
    refine dv_ne (d := 3) (i := A) (j := C) (by omega) (show C < W by omega) (corner A C (by omega) (by omega) ⟨.inl rfl, .inl rfl⟩) (fun a b ha hb hne hp => other a b ha hb fun hc => ?_) ?_
    · have p1 := (pos_num (d := 3) (by omega) ha hb).1
      have p2 := (pos_num (d := 3) (W := W) (by omega) (show A < n by omega) (show C < W by omega)).1
      rw [hp] at p1; simp only [lnI, dX, dY] at p1 p2; omega
    · have hk := (pos_num (d := 3) (W := W) (by omega) (show A < n by omega) (show C < W by omega)).2.2.1
      rw [← ds_get hk, ← ds_get hk, he]
end Go.Proofs.Ytemmfnlnhekclaa

