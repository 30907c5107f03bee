/-
  The contract of the model's ImageTurn.
-/
import Derived.Test.YthllfkgceoenbaaI
namespace Go.Proofs.Ythllfkgceoenbaa
open Go.RowKit

theorem put_nat : ∀ i, i < 6 → ∀ c, c < 64 → ((c : Nat) : Int) ≤ pw i - 1 → putI c i false = c ∧ putI c i true = c + pw i := by decide +kernel
theorem put_bit {c b : Int} {i : Nat} (hi : i < 6) (hc : 0 ≤ c ∧ c ≤ pw i - 1) (hb : 0 ≤ b ∧ b ≤ 1) : putI c i (b == 1) = c + b * pw i := by
  have hp : pw i ≤ 64 := by have := pw_le i 6 (by omega); have e : pw 6 = 64 := by decide
                            omega
  obtain ⟨n, rfl⟩ := Int.eq_ofNat_of_zero_le hc.1
  have := put_nat i hi n (by omega) hc.2
  rcases (show b = 0 ∨ b = 1 by omega) with e | e <;> rw [e]
  · rw [Int.zero_mul, Int.add_zero]; exact this.1
  · rw [Int.one_mul]; exact this.2

theorem grown_trans {a b c : World} {row : Option Nat} (h : a.grownBy b row) (k : b.grownBy c row) : a.grownBy c row :=
  ⟨k.os.trans h.os, k.tape.trans h.tape, k.output.trans h.output, Nat.le_trans h.size k.size, fun i hi hn => (k.block i (Nat.lt_of_lt_of_le hi h.size) hn).trans (h.block i hi hn)⟩
theorem turn_small (W : Int) (xs : List Int) (len : Nat) : (if validB W xs = true then (⟨true, len, turnL xs W.toNat len⟩ : Out) else .no).xs.length ≤ 1048576 := by
  by_cases hv : validB W xs = true
  · rw [if_pos hv]; have := validB_W hv; simp only [turn_len]; omega
  · rw [if_neg hv]; simp [Out.no]
end Go.Proofs.Ythllfkgceoenbaa

