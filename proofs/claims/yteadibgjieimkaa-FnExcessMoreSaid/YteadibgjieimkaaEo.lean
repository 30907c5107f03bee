/-
  Plain facts on the image of the other cells, and on images with a cell put.
-/
import Derived.Test.YteadibgjieimkaaE
import Derived.Test.YteadibgjieimkaaT
namespace Go.Proofs.Yteadibgjieimkaa
set_option maxRecDepth 100000
open Go.RowKit

theorem othb_nat : ∀ k, k < 7 → ∀ n, n < 64 → ((n : Nat) : Int) ≤ pw k - 1 → 0 ≤ pw k - 1 - ((n : Nat) : Int) ∧ cntI (pw k - 1 - ((n : Nat) : Int)) k = k - cntI ((n : Nat) : Int) k ∧ ∀ j, j < k → bitI (pw k - 1 - ((n : Nat) : Int)) j = 1 - bitI ((n : Nat) : Int) j := by decide +kernel
def othL (xs : List Int) (W n : Nat) : List Int := rowsL (fun i => pw W - 1 - (xs.getD i 0)) n
theorem oth_get {xs : List Int} {W n i : Nat} (hi : i < n) : (othL xs W n).getD i 0 = pw W - 1 - xs.getD i 0 := rows_get (fun i => pw W - 1 - (xs.getD i 0)) hi
theorem Im.oth {W n : Nat} {xs : List Int} (h : Im W n xs) : Im W n (othL xs W n) :=
  ⟨h.w1, h.w6, h.l1, h.l6, rows_len _ _, fun i hi => by
    rw [oth_get hi]
    have := h.row i hi
    omega⟩
theorem Im.oth_bit {W n : Nat} {xs : List Int} (h : Im W n xs) {i j : Nat} (hi : i < n) (hj : j < W) : bitI ((othL xs W n).getD i 0) j = 1 - bitI (xs.getD i 0) j := by
  obtain ⟨m, hm, hm64⟩ := h.nat hi
  have := (h.row i hi).2
  rw [oth_get hi, hm]
  exact (othb_nat W (by have := h.w6; omega) m hm64 (by rw [← hm]; exact this)).2.2 j hj
theorem Im.oth_many {W n : Nat} {xs : List Int} (h : Im W n xs) : ∀ k, k ≤ n → manyI W (othL xs W n) k = (k : Int) * W - manyI W xs k := by
  intro k
  induction k with
  | zero => intro _; simp [manyI]
  | succ k ih =>
    intro hk
    obtain ⟨m, hm, hm64⟩ := h.nat (show k < n by omega)
    have hb := (h.row k (by omega)).2
    have hc := (othb_nat W (by have := h.w6; omega) m hm64 (by rw [← hm]; exact hb)).2.1
    simp only [manyI]
    rw [ih (by omega), oth_get (by omega), hm, hc, Int.natCast_add, Int.natCast_one, Int.add_mul, Int.one_mul]
    generalize (k : Int) * W = q
    omega
theorem Im.oth_oth {W n : Nat} {xs : List Int} (h : Im W n xs) : othL (othL xs W n) W n = xs :=
  h.oth.oth.ext h fun i j hi hj => by rw [h.oth.oth_bit hi hj, h.oth_bit hi hj]; omega
theorem Im.oth_turn {W n : Nat} {xs : List Int} (h : Im W n xs) : turnL (othL xs W n) W n = othL (turnL xs W n) n W :=
  h.oth.turn.ext h.turn.oth fun j i hj hi => by rw [h.oth.turn_bit hi hj, h.oth_bit hi hj, h.turn.oth_bit hj hi, h.turn_bit hi hj]
theorem Im.oth_has {W n : Nat} {xs : List Int} (h : Im W n xs) {i j : Nat} (hi : i < n) (hj : j < W) : hasB W (othL xs W n) i j = !hasB W xs i j := by
  rw [h.oth.has hi hj, h.has hi hj, h.oth_bit hi hj]
  have := bit_01 (xs.getD i 0) j
  rcases (show bitI (xs.getD i 0) j = 0 ∨ bitI (xs.getD i 0) j = 1 by omega) with e | e <;> rw [e] <;> rfl
end Go.Proofs.Yteadibgjieimkaa

