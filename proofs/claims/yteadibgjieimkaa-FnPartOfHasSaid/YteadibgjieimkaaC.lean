/-
  The contracts of the functions that read cells: bits of a row, cells that are there, cells that are set.
-/
import Derived.Test.YteadibgjieimkaaB
namespace Go.Proofs.Yteadibgjieimkaa
set_option maxRecDepth 100000
open Go.RowKit

theorem pw_pow (k : Nat) : pw k = 2 ^ k := by
  induction k with
  | zero => rfl
  | succ k ih => rw [pw_succ, ih, Int.pow_succ]
theorem and_nat : ∀ n, n < 64 → bits BinOp.and IntKind.i64 ((n : Nat) : Int) 1 = (n : Int) % 2 := by decide +kernel
theorem and_one {y : Int} (h0 : 0 ≤ y) (h1 : y ≤ 63) : bits BinOp.and IntKind.i64 y 1 = y % 2 := by
  obtain ⟨n, rfl⟩ := Int.eq_ofNat_of_zero_le h0
  exact and_nat n (by omega)
/-- A bit of a row. -/
def bitI (x : Int) (j : Nat) : Int := x / pw j % 2
theorem bit_num (x : Int) (j : Nat) (h0 : 0 ≤ x) (h1 : x ≤ 9223372036854775807) : (wrap64 (x.tdiv (pw j))).tmod 2 = bitI x j := by
  have hp := pw_pos j
  have e : x.tdiv (pw j) = x / pw j := Int.tdiv_eq_ediv_of_nonneg h0
  have hd : 0 ≤ x / pw j := Int.ediv_nonneg h0 (by omega)
  have hd2 : x / pw j ≤ x := Int.ediv_le_self _ h0
  rw [e, IntWalk.wrap64_in _ ⟨by omega, by omega⟩, Int.tmod_eq_emod_of_nonneg hd]
  rfl
theorem shr_bit {x : Int} {j : Nat} (h0 : 0 ≤ x) (h1 : x ≤ 63) : bits BinOp.and IntKind.i64 (x / 2 ^ j) 1 = bitI x j := by
  have hp := pw_pos j
  rw [← pw_pow]
  have hd : 0 ≤ x / pw j := Int.ediv_nonneg h0 (by omega)
  have hd2 : x / pw j ≤ x := Int.ediv_le_self _ h0
  rw [and_one hd (by omega)]; rfl
theorem bit_01 (x : Int) (j : Nat) : 0 ≤ bitI x j ∧ bitI x j ≤ 1 := by unfold bitI; omega

theorem bit_any (x : Int) (j : Nat) (w : World) (h0 : 0 ≤ x) (h1 : x ≤ 9223372036854775807) (hj : j ≤ 30) :
    Calls Try.prog 75 #[.int .i64 x, .int .i64 j] w fun e w' => e = .returned (.int .i64 (bitI x j)) ∧ w = w' := by
  have hp := pw_pos j
  have hp2 : pw j ≤ 1073741824 := by rw [← pw_30]; exact pw_le j 30 hj
  have H := Lib.hid (bit_num x j h0 h1)
  clear h0 h1
  go_enter Try.func75, Try.ntmps75
  go_wp2_with (first | (go_at_call 71; refine (power_any _ _ hj).mono ?_; rintro e w' ⟨rfl, rfl⟩))
  go_ret
  exact ⟨by rw [← H.out]; rfl, rfl⟩

def cellB (W : Int) (len : Nat) (i j : Int) : Bool := decide (0 ≤ i ∧ i < len ∧ 0 ≤ j ∧ j < W)
theorem cellB_iff {W : Int} {len : Nat} {i j : Int} : cellB W len i j = true ↔ 0 ≤ i ∧ i < len ∧ 0 ≤ j ∧ j < W := decide_eq_true_iff

theorem validB_W {W : Int} {xs : List Int} (h : validB W xs = true) : 1 ≤ W ∧ W ≤ 6 := by
  simp only [validB, Bool.and_eq_true] at h; exact inB_iff.1 h.1.1
theorem validB_len {W : Int} {xs : List Int} (h : validB W xs = true) : 1 ≤ xs.length ∧ xs.length ≤ 6 := by
  simp only [validB, Bool.and_eq_true] at h; have := inB_iff.1 h.1.2; omega
theorem pw_64 {W : Int} (h : 1 ≤ W ∧ W ≤ 6) : pw W.toNat ≤ 64 := by
  have := pw_le W.toNat 6 (by omega); have e : pw 6 = 64 := by decide
  omega
theorem validB_row {W : Int} {xs : List Int} (h : validB W xs = true) {i : Nat} (hi : i < xs.length) : 0 ≤ xs.getD i 0 ∧ xs.getD i 0 ≤ pw W.toNat - 1 ∧ xs.getD i 0 ≤ 63 := by
  have hw := pw_64 (validB_W h)
  simp only [validB, Bool.and_eq_true, List.all_eq_true] at h
  have := inB_iff.1 (h.2 _ (List.getElem_mem hi))
  rw [getD_elem hi]; omega

def hasB (W : Int) (xs : List Int) (i j : Int) : Bool := validB W xs && (cellB W xs.length i j && bitI (xs.getD i.toNat 0) j.toNat == 1)
theorem hasB_no1 {W : Int} {xs : List Int} {i j : Int} (h : validB W xs = false) : hasB W xs i j = false := by simp [hasB, h]
theorem hasB_no2 {W : Int} {xs : List Int} {i j : Int} (h : cellB W xs.length i j = false) : hasB W xs i j = false := by simp [hasB, h]
theorem hasB_yes {W : Int} {xs : List Int} {i j : Int} (h : validB W xs = true) (h2 : cellB W xs.length i j = true) : hasB W xs i j = (bitI (xs.getD i.toNat 0) j.toNat == 1) := by simp [hasB, h, h2]

end Go.Proofs.Yteadibgjieimkaa

