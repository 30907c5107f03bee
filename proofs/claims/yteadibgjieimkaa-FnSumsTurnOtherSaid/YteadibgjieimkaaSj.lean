/-
  Plain facts on the sums of an image with one cell changed.
-/
import Derived.Test.YteadibgjieimkaaSe
import Derived.Test.YteadibgjieimkaaEq
namespace Go.Proofs.Yteadibgjieimkaa
set_option maxRecDepth 100000
open Go.RowKit

def flipD (b : Bool) : Int := if b = true then -1 else 1
theorem flipD_bd (b : Bool) : -1 ≤ flipD b ∧ flipD b ≤ 1 := by cases b <;> simp [flipD]
theorem sum_one {f g : Nat → Int} {k m : Nat} {d : Int} (hm : m < k) (hf : f m = g m + d) (h : ∀ i, i < k → i ≠ m → f i = g i) : sumI f k = sumI g k + d := by
  induction k with
  | zero => omega
  | succ k ih =>
    simp only [sumI]
    by_cases e : m = k
    · subst e
      rw [sum_ext (f := f) (g := g) fun i hi => h i (by omega) (by omega), hf]; omega
    · rw [ih (by omega) fun i hi => h i (by omega), h k (by omega) (by omega)]; omega
theorem Im.flip_bit {W n : Nat} {xs : List Int} (h : Im W n xs) {i j k l : Nat} (hi : i < n) (hj : j < W) (hk : k < n) (hl : l < W) :
    bitI ((putL xs i j (!hasB W xs i j)).getD k 0) l = if k = i ∧ l = j then bitI (xs.getD k 0) l + flipD (hasB W xs i j) else bitI (xs.getD k 0) l := by
  rw [h.put_bit hi hj hk hl]
  by_cases e : k = i ∧ l = j
  · rw [if_pos e, if_pos e, e.1, e.2, h.has hi hj]
    have := bit_01 (xs.getD i 0) j
    rcases (show bitI (xs.getD i 0) j = 0 ∨ bitI (xs.getD i 0) j = 1 by omega) with e | e <;> rw [e] <;> rfl
  · rw [if_neg e, if_neg e]
theorem getD_set {xs : List Int} {n i k : Nat} {v : Int} (hl : xs.length = n) (hk : k < n) : (xs.set i v).getD k 0 = if k = i then v else xs.getD k 0 := by
  by_cases e : k = i
  · subst e; rw [if_pos rfl, getD_elem (by rw [List.length_set]; omega), List.getElem_set_self]
  · rw [if_neg e, getD_elem (by rw [List.length_set]; omega), List.getElem_set_ne (by omega), getD_elem (by omega)]
theorem Im.flip_rs {W n : Nat} {xs : List Int} (h : Im W n xs) {i j : Nat} (hi : i < n) (hj : j < W) :
    rsL (putL xs i j (!hasB W xs i j)) W n = (rsL xs W n).set i ((rsL xs W n).getD i 0 + flipD (hasB W xs i j)) := by
  refine lists_ext (n := n) (rs_len _ _ _) (by rw [List.length_set, rs_len]) fun k hk => ?_
  rw [getD_set (rs_len _ _ _) hk, rs_get hk, rs_get hk, rs_get hi, cnt_sum, cnt_sum, cnt_sum]
  by_cases e : k = i
  · subst e
    rw [if_pos rfl]
    refine sum_one hj ?_ fun l hl hne => ?_
    · rw [h.flip_bit hi hj hk hj, if_pos ⟨rfl, rfl⟩]
    · rw [h.flip_bit hi hj hk hl, if_neg (by omega)]
  · rw [if_neg e]
    exact sum_ext fun l hl => by rw [h.flip_bit hi hj hk hl, if_neg (by omega)]
theorem Im.flip_cs {W n : Nat} {xs : List Int} (h : Im W n xs) {i j : Nat} (hi : i < n) (hj : j < W) :
    csL (putL xs i j (!hasB W xs i j)) n W = (csL xs n W).set j ((csL xs n W).getD j 0 + flipD (hasB W xs i j)) := by
  refine lists_ext (n := W) (cs_len _ _ _) (by rw [List.length_set, cs_len]) fun l hl => ?_
  rw [getD_set (cs_len _ _ _) hl, cs_get hl, cs_get hl, cs_get hj]
  unfold csI
  by_cases e : l = j
  · subst e
    rw [if_pos rfl]
    refine sum_one hi ?_ fun k hk hne => ?_
    · rw [h.flip_bit hi hj hi hj, if_pos ⟨rfl, rfl⟩]
    · rw [h.flip_bit hi hj hk hj, if_neg (by omega)]
  · rw [if_neg e]
    exact sum_ext fun k hk => by rw [h.flip_bit hi hj hk hl, if_neg (by omega)]
/-- One cell changed: the sums differ. -/
theorem Im.flip_ne {W n : Nat} {xs : List Int} (h : Im W n xs) {i j : Nat} (hi : i < n) (hj : j < W) : rsL (putL xs i j (!hasB W xs i j)) W n ≠ rsL xs W n := by
  rw [h.flip_rs hi hj]
  intro e
  have e : ((rsL xs W n).set i ((rsL xs W n).getD i 0 + flipD (hasB W xs i j))).getD i 0 = (rsL xs W n).getD i 0 := congrArg (fun L : List Int => L.getD i 0) e
  rw [getD_set (rs_len _ _ _) hi, if_pos rfl] at e
  cases hb : hasB W xs i j <;> rw [hb] at e <;> simp only [flipD] at e <;> simp at e <;> omega
end Go.Proofs.Yteadibgjieimkaa

