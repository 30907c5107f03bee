/-
  The contracts of the functions that count the set cells of an image.
-/
import Derived.Test.YteadibgjieimkaaC
namespace Go.Proofs.Yteadibgjieimkaa
set_option maxRecDepth 100000
open Go.RowKit

/-- How many of a row's first bits are set. -/
def cntI (x : Int) : Nat → Int
  | 0 => 0
  | j + 1 => cntI x j + bitI x j
theorem cnt_bd (x : Int) (j : Nat) : 0 ≤ cntI x j ∧ cntI x j ≤ j := by
  induction j with
  | zero => simp [cntI]
  | succ j ih => have := bit_01 x j; simp only [cntI]; omega

def ones1 (x : Int) : Int := IntKind.u64.wrap (bits BinOp.and IntKind.u64 (x / 2) 6148914691236517205 + bits BinOp.and IntKind.u64 x 6148914691236517205)
def ones2 (x : Int) : Int := IntKind.u64.wrap (bits BinOp.and IntKind.u64 (x / 4) 3689348814741910323 + bits BinOp.and IntKind.u64 x 3689348814741910323)
def ones3 (x : Int) : Int := bits BinOp.and IntKind.u64 (IntKind.u64.wrap (x / 16 + x)) 1085102592571150095
def ones4 (x : Int) : Int := IntKind.u64.wrap (x + x / 256)
def ones5 (x : Int) : Int := IntKind.u64.wrap (x + x / 65536)
def ones6 (x : Int) : Int := IntKind.u64.wrap (x + x / 4294967296)
def ones (x : Int) : Int := bits BinOp.and IntKind.i64 (wrap64 (ones6 (ones5 (ones4 (ones3 (ones2 (ones1 x))))))) 127
theorem ones_nat : ∀ n, n < 64 → ones ((n : Nat) : Int) = cntI n 6 := by decide +kernel
theorem ones_num (x : Int) (h0 : 0 ≤ x) (h1 : x ≤ 63) : ones x = cntI x 6 := by
  obtain ⟨n, rfl⟩ := Int.eq_ofNat_of_zero_le h0
  exact ones_nat n (by omega)
theorem cnt_nat : ∀ k, k < 7 → ∀ n, n < 64 → ((n : Nat) : Int) ≤ pw k - 1 → cntI ((n : Nat) : Int) 6 = cntI ((n : Nat) : Int) k := by decide +kernel
theorem cnt_num (x : Int) (k : Nat) (h0 : 0 ≤ x) (h1 : x ≤ pw k - 1) (h2 : x ≤ 63) (hk : k ≤ 6) : cntI x 6 = cntI x k := by
  obtain ⟨n, rfl⟩ := Int.eq_ofNat_of_zero_le h0
  exact cnt_nat k (by omega) n (by omega) h1

/-- How many of the first rows' cells are set. -/
def manyI (W : Nat) (xs : List Int) : Nat → Int
  | 0 => 0
  | k + 1 => manyI W xs k + cntI (xs.getD k 0) W
def manyOf (W : Int) (xs : List Int) : Int := if validB W xs = true then manyI W.toNat xs xs.length else -1
theorem many_bd (W : Nat) (xs : List Int) (k : Nat) : 0 ≤ manyI W xs k ∧ manyI W xs k ≤ k * W := by
  induction k with
  | zero => simp [manyI]
  | succ k ih =>
    have := cnt_bd (xs.getD k 0) W
    simp only [manyI]; rw [show ((k + 1 : Nat) : Int) * W = k * W + W by rw [Int.natCast_succ, Int.add_mul, Int.one_mul]]; omega
theorem many_36 {W k : Nat} (xs : List Int) (hW : W ≤ 6) (hk : k ≤ 6) : 0 ≤ manyI W xs k ∧ manyI W xs k ≤ 36 := by
  have := many_bd W xs k
  have h : (k : Int) * W ≤ 36 := by
    have : k * W ≤ 6 * 6 := Nat.mul_le_mul hk hW
    have e : ((k * W : Nat) : Int) = (k : Int) * W := by simp
    omega
  omega

end Go.Proofs.Yteadibgjieimkaa

