/-
  The contracts of the functions that mirror an image.
-/
import Derived.Test.YteadibgjieimkaaJ
namespace Go.Proofs.Yteadibgjieimkaa
set_option maxRecDepth 100000
open Go.RowKit

def rb1 (x : Int) : Int := bits BinOp.or IntKind.u64 (bits BinOp.and IntKind.u64 (x / 256) 71777214294589695) (IntKind.u64.wrap (bits BinOp.and IntKind.u64 x 71777214294589695 * 256))
def rb2 (x : Int) : Int := bits BinOp.or IntKind.u64 (bits BinOp.and IntKind.u64 (x / 65536) 281470681808895) (IntKind.u64.wrap (bits BinOp.and IntKind.u64 x 281470681808895 * 65536))
def rb3 (x : Int) : Int := bits BinOp.or IntKind.u64 (x / 4294967296) (IntKind.u64.wrap (x * 4294967296))
def rv1 (x : Int) : Int := bits BinOp.or IntKind.u64 (bits BinOp.and IntKind.u64 (x / 2) 6148914691236517205) (IntKind.u64.wrap (bits BinOp.and IntKind.u64 x 6148914691236517205 * 2))
def rv2 (x : Int) : Int := bits BinOp.or IntKind.u64 (bits BinOp.and IntKind.u64 (x / 4) 3689348814741910323) (IntKind.u64.wrap (bits BinOp.and IntKind.u64 x 3689348814741910323 * 4))
def rv3 (x : Int) : Int := bits BinOp.or IntKind.u64 (bits BinOp.and IntKind.u64 (x / 16) 1085102592571150095) (IntKind.u64.wrap (bits BinOp.and IntKind.u64 x 1085102592571150095 * 16))
def rv (x : Int) : Int := rb3 (rb2 (rb1 (rv3 (rv2 (rv1 x)))))
theorem rv3_nat : ∀ n, n < 64 → 0 ≤ rv3 (rv2 (rv1 ((n : Nat) : Int))) ∧ rv3 (rv2 (rv1 ((n : Nat) : Int))) ≤ 18446744073709551615 := by decide +kernel
theorem rv3_bd {x : Int} (h0 : 0 ≤ x) (h1 : x ≤ 63) : 0 ≤ rv3 (rv2 (rv1 x)) ∧ rv3 (rv2 (rv1 x)) ≤ 18446744073709551615 := by
  obtain ⟨n, rfl⟩ := Int.eq_ofNat_of_zero_le h0
  exact rv3_nat n (by omega)
theorem rv_nat : ∀ n, n < 64 → 0 ≤ rv ((n : Nat) : Int) ∧ rv ((n : Nat) : Int) ≤ 18446744073709551615 := by decide +kernel
theorem rv_bd {x : Int} (h0 : 0 ≤ x) (h1 : x ≤ 63) : 0 ≤ rv x ∧ rv x ≤ 18446744073709551615 := by
  obtain ⟨n, rfl⟩ := Int.eq_ofNat_of_zero_le h0
  exact rv_nat n (by omega)

/-- The first bits of a row in the opposite order. -/
def mirI (W : Nat) (x : Int) : Nat → Int
  | 0 => 0
  | j + 1 => mirI W x j + bitI x j * pw (W - 1 - j)
theorem mir_nat : ∀ k, k < 7 → 1 ≤ k → ∀ n, n < 64 → ((n : Nat) : Int) ≤ pw k - 1 → rv ((n : Nat) : Int) / 2 ^ (64 - k) = mirI k ((n : Nat) : Int) k := by decide +kernel
theorem mir_num {x : Int} {k : Nat} (hk : 1 ≤ k ∧ k ≤ 6) (h0 : 0 ≤ x) (h1 : x ≤ pw k - 1) (h2 : x ≤ 63) : rv x / 2 ^ (64 - k) = mirI k x k := by
  obtain ⟨n, rfl⟩ := Int.eq_ofNat_of_zero_le h0
  exact mir_nat k (by omega) hk.1 n (by omega) h1
theorem mirput_nat : ∀ k, k < 7 → ∀ j, j < k → ∀ n, n < 64 → putI (mirI k ((n : Nat) : Int) j) (k - 1 - j) (bitI ((n : Nat) : Int) j == 1) = mirI k ((n : Nat) : Int) (j + 1) ∧ 0 ≤ mirI k ((n : Nat) : Int) j ∧ mirI k ((n : Nat) : Int) j ≤ 63 := by decide +kernel
theorem mirput {x : Int} {k j : Nat} (hk : k ≤ 6) (hj : j < k) (h0 : 0 ≤ x) (h2 : x ≤ 63) : putI (mirI k x j) (k - 1 - j) (bitI x j == 1) = mirI k x (j + 1) ∧ 0 ≤ mirI k x j ∧ mirI k x j ≤ 63 := by
  obtain ⟨n, rfl⟩ := Int.eq_ofNat_of_zero_le h0
  exact mirput_nat k (by omega) j hj n (by omega)
theorem mir_full : ∀ k, k < 7 → ∀ n, n < 64 → 0 ≤ mirI k ((n : Nat) : Int) k ∧ mirI k ((n : Nat) : Int) k ≤ 63 := by decide +kernel

/-- A list told place by place. -/
def rowsL (f : Nat → Int) (n : Nat) : List Int := (List.range n).map f
theorem rows_len (f : Nat → Int) (n : Nat) : (rowsL f n).length = n := by simp [rowsL]
theorem rows_get (f : Nat → Int) {n i : Nat} (hi : i < n) : (rowsL f n).getD i 0 = f i := by
  rw [getD_elem (by rw [rows_len]; exact hi)]; simp [rowsL]
theorem rows_ext {f g : Nat → Int} {n : Nat} (h : ∀ i, i < n → f i = g i) : rowsL f n = rowsL g n := by
  unfold rowsL; exact List.map_congr_left fun i hi => h i (List.mem_range.1 hi)
theorem rows_set (f g : Nat → Int) {n i : Nat} {v : Int} (hi : i < n) (h1 : g i = v) (h2 : ∀ k, k < n → k ≠ i → g k = f k) : (rowsL f n).set i v = rowsL g n := by
  apply List.ext_getElem?
  intro k
  by_cases e : k = i
  · subst e; rw [List.getElem?_set_self (by rw [rows_len]; exact hi)]; simp [rowsL, hi, h1]
  · rw [List.getElem?_set_ne (by omega)]
    by_cases hk : k < n
    · simp only [rowsL, List.getElem?_map, List.getElem?_range hk, Option.map_some, h2 k hk e]
    · rw [List.getElem?_eq_none (by rw [rows_len]; omega), List.getElem?_eq_none (by rw [rows_len]; omega)]
theorem rows_step (F G : Nat → Int) {n k : Nat} {v : Int} (hk : k < n) (hv : F k = v) : (rowsL (fun i => if i < k then F i else G i) n).set k v = rowsL (fun i => if i < k + 1 then F i else G i) n := by
  refine rows_set _ _ hk ?_ ?_
  · show (if k < k + 1 then F k else G k) = v
    rw [if_pos (by omega)]; exact hv
  · intro i _ hne
    show (if i < k + 1 then F i else G i) = (if i < k then F i else G i)
    by_cases h : i < k
    · rw [if_pos h, if_pos (by omega)]
    · rw [if_neg h, if_neg (by omega)]
theorem rows_zero (n : Nat) : rowsL (fun _ => 0) n = List.replicate n 0 := by
  unfold rowsL
  apply List.ext_getElem?
  intro k
  by_cases hk : k < n
  · simp [hk]
  · rw [List.getElem?_eq_none (by simp; omega), List.getElem?_eq_none (by simp; omega)]
theorem rows_self (xs : List Int) : rowsL (fun i => xs.getD i 0) xs.length = xs := by
  apply List.ext_getElem?
  intro k
  by_cases hk : k < xs.length
  · simp [rowsL, hk]
  · rw [List.getElem?_eq_none (by simp [rowsL]; omega), List.getElem?_eq_none (by omega)]
end Go.Proofs.Yteadibgjieimkaa

