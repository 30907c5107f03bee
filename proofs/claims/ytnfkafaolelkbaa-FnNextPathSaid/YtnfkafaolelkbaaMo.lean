/-
  Plain facts: the images of a size by their numbers.
-/
import Derived.Test.YtnfkafaolelkbaaEa
namespace Go.Proofs.Ytnfkafaolelkbaa
set_option maxRecDepth 100000

theorem pw_add (a b : Nat) : pw (a + b) = pw a * pw b := by
  induction b with
  | zero => simp [pw]
  | succ b ih => rw [show a + (b + 1) = (a + b) + 1 from rfl, pw_succ, ih, pw_succ, Int.mul_assoc]
/-- A row of the image whose number is x. -/
def digI (W : Nat) (x : Int) (i : Nat) : Int := x / pw (i * W) % pw W
def digL (W n : Nat) (x : Int) : List Int := rowsL (digI W x) n
theorem dig_bd (W : Nat) (x : Int) (i : Nat) : 0 ≤ digI W x i ∧ digI W x i ≤ pw W - 1 := by
  have hp := pw_pos W
  have h1 := Int.emod_nonneg (x / pw (i * W)) (show pw W ≠ 0 by omega)
  have h2 := Int.emod_lt_of_pos (x / pw (i * W)) (show 0 < pw W by omega)
  unfold digI; omega
theorem dig_im {W n : Nat} (h1 : 1 ≤ W) (h2 : W ≤ 6) (h3 : 1 ≤ n) (h4 : n ≤ 6) (x : Int) : Im W n (digL W n x) := by
  refine Im.of (validB_yes (inB_yes (by omega) (by omega)) (inB_yes (by unfold digL; rw [rows_len]; omega) (by unfold digL; rw [rows_len]; omega)) fun i hi => ?_) (rows_len _ _)
  unfold digL at hi ⊢
  rw [rows_len] at hi
  rw [rows_get (digI W x) hi, Int.toNat_natCast]
  exact inB_yes (dig_bd W x i).1 (dig_bd W x i).2
def numI (ys : List Int) (W : Nat) : Nat → Int
  | 0 => 0
  | k + 1 => numI ys W k + ys.getD k 0 * pw (k * W)
theorem num_bd {ys : List Int} {W n : Nat} (h : ∀ i, i < n → 0 ≤ ys.getD i 0 ∧ ys.getD i 0 ≤ pw W - 1) : ∀ k, k ≤ n → 0 ≤ numI ys W k ∧ numI ys W k ≤ pw (k * W) - 1
  | 0, _ => by simp [numI, pw]
  | k + 1, hk => by
    have ih := num_bd h k (by omega)
    have hy := h k (by omega)
    have hp := pw_pos (k * W)
    have hq := pw_pos W
    have e : pw ((k + 1) * W) = pw W * pw (k * W) := by rw [Nat.add_mul, Nat.one_mul, Nat.add_comm, pw_add]
    have m1 : ys.getD k 0 * pw (k * W) ≤ (pw W - 1) * pw (k * W) := Int.mul_le_mul_of_nonneg_right hy.2 (by omega)
    rw [Int.sub_mul, Int.one_mul] at m1
    have m0 : 0 ≤ ys.getD k 0 * pw (k * W) := Int.mul_nonneg hy.1 (by omega)
    simp only [numI]
    rw [e]
    omega
theorem num_dig {ys : List Int} {W n : Nat} (h : ∀ i, i < n → 0 ≤ ys.getD i 0 ∧ ys.getD i 0 ≤ pw W - 1) : ∀ k, k ≤ n → ∀ i, i < k → digI W (numI ys W k) i = ys.getD i 0
  | 0, _, i, hi => by omega
  | k + 1, hk, i, hi => by
    have hb := num_bd h k (by omega)
    have hp := pw_pos (k * W)
    have hpi := pw_pos (i * W)
    have hq := pw_pos W
    unfold digI
    simp only [numI]
    by_cases e : i = k
    · subst e
      rw [Int.add_mul_ediv_right _ _ (by omega), Int.ediv_eq_zero_of_lt hb.1 (by omega), Int.zero_add]
      have hy := h i (by omega)
      exact Int.emod_eq_of_lt hy.1 (by omega)
    · have ih := num_dig h k (by omega) i (by omega)
      unfold digI at ih
      have ek : k * W = (W + (k - i - 1) * W) + i * W := by
        have : k = (1 + (k - i - 1)) + i := by omega
        rw [this, Nat.add_mul, Nat.add_mul, Nat.one_mul]
        congr 3; omega
      have e2 : ys.getD k 0 * pw (k * W) = (pw W * (ys.getD k 0 * pw ((k - i - 1) * W))) * pw (i * W) := by
        rw [ek, pw_add, pw_add, ← Int.mul_assoc, ← Int.mul_assoc, ← Int.mul_assoc, Int.mul_comm (pw W) (ys.getD k 0)]
      rw [e2, Int.add_mul_ediv_right _ _ (by omega), Int.add_mul_emod_self_left, ih]
theorem dig_num {W n : Nat} {ys : List Int} (h : Im W n ys) : 0 ≤ numI ys W n ∧ numI ys W n < pw (n * W) ∧ digL W n (numI ys W n) = ys := by
  have hr : ∀ i, i < n → 0 ≤ ys.getD i 0 ∧ ys.getD i 0 ≤ pw W - 1 := fun i hi => h.row i hi
  have hb := num_bd hr n (Nat.le_refl _)
  refine ⟨hb.1, by omega, ?_⟩
  apply List.ext_getElem (by unfold digL; rw [rows_len, h.hl])
  intro i h1 h2
  rw [← getD_elem h1, ← getD_elem h2]
  unfold digL
  rw [rows_get (digI W _) (by rw [h.hl] at h2; exact h2)]
  exact num_dig hr n (Nat.le_refl _) i (by rw [h.hl] at h2; exact h2)
/-- The rows of an image that is made from its number. -/
def digK (W : Nat) (x : Int) (k i : Nat) : Int := if i < k then digI W x i else 0
theorem digk_none (W n : Nat) (x : Int) : rowsL (digK W x 0) n = List.replicate n 0 := by
  unfold rowsL
  apply List.ext_getElem (by simp)
  intro k h1 h2; simp [digK]
theorem digk_all (W n : Nat) (x : Int) : rowsL (digK W x n) n = digL W n x := rows_ext fun i hi => by unfold digK; rw [if_pos hi]
theorem digk_set {W n k : Nat} (x : Int) (hk : k < n) : (rowsL (digK W x k) n).set k (digI W x k) = rowsL (digK W x (k + 1)) n :=
  rows_set _ _ hk (by unfold digK; rw [if_pos (by omega)]) fun i _ hne => by
    unfold digK
    by_cases e : i < k
    · rw [if_pos e, if_pos (by omega)]
    · rw [if_neg e, if_neg (by omega)]
end Go.Proofs.Ytnfkafaolelkbaa

