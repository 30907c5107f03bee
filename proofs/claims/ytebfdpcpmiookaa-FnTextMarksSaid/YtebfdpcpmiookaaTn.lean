/-
  Plain facts on the numbers of marks in texts of images.
-/
import Derived.Test.YtebfdpcpmiookaaTm
namespace Go.Proofs.Ytebfdpcpmiookaa
open Go.RowKit

def cntB (l : List UInt8) (c : UInt8) : Nat → Int
  | 0 => 0
  | i + 1 => cntB l c i + if l.getD i 0 = c then 1 else 0
theorem cntB_bd (l : List UInt8) (c : UInt8) (i : Nat) : 0 ≤ cntB l c i ∧ cntB l c i ≤ i := by
  induction i with
  | zero => simp [cntB]
  | succ i ih => simp only [cntB]; split <;> omega
theorem cntB_yes {l : List UInt8} {c : UInt8} {i : Nat} (h : l.getD i 0 = c) : cntB l c (i + 1) = cntB l c i + 1 := by simp only [cntB]; rw [if_pos h]
theorem cntB_no {l : List UInt8} {c : UInt8} {i : Nat} (h : l.getD i 0 ≠ c) : cntB l c (i + 1) = cntB l c i := by simp only [cntB]; rw [if_neg h, Int.add_zero]
theorem Txt.countIn {s : List UInt8} {W n : Nat} {xs : List Int} (h : Txt s W n xs) {k : Nat} (hk : k < n) : ∀ j, j ≤ W →
    cntB s 35 (k * (W + 1) + j) = cntB s 35 (k * (W + 1)) + cntI (xs.getD k 0) j ∧ cntB s 46 (k * (W + 1) + j) = cntB s 46 (k * (W + 1)) + (j - cntI (xs.getD k 0) j) := by
  intro j
  induction j with
  | zero => intro _; simp [cntI]
  | succ j ih =>
    intro hj
    have ih := ih (by omega)
    have hm := getD_some (h.mark hk (show j < W by omega))
    have hb := bit_01 (xs.getD k 0) j
    rw [← Nat.add_assoc]
    rcases mark_cases (bitI (xs.getD k 0) j) with ⟨e, hmk⟩ | ⟨e, hmk⟩
    · rw [hmk] at hm
      rw [cntB_yes hm, cntB_no (by rw [hm]; decide), ih.1, ih.2]
      simp only [cntI]; omega
    · rw [hmk] at hm
      rw [cntB_no (by rw [hm]; decide), cntB_yes hm, ih.1, ih.2]
      simp only [cntI]; omega
theorem Txt.count {s : List UInt8} {W n : Nat} {xs : List Int} (h : Txt s W n xs) : ∀ k, k ≤ n → cntB s 35 (k * (W + 1)) = manyI W xs k ∧ cntB s 46 (k * (W + 1)) = (k : Int) * W - manyI W xs k := by
  intro k
  induction k with
  | zero => intro _; simp [cntB, manyI]
  | succ k ih =>
    intro hk
    have ih := ih (by omega)
    have hi := h.countIn (show k < n by omega) W (Nat.le_refl _)
    have hm := getD_some (h.nl (show k < n by omega))
    rw [Nat.add_mul, Nat.one_mul, ← Nat.add_assoc, cntB_no (by rw [hm]; decide), cntB_no (by rw [hm]; decide), hi.1, hi.2, ih.1, ih.2]
    simp only [manyI]
    rw [Int.natCast_add, Int.natCast_one, Int.add_mul, Int.one_mul]
    generalize (k : Int) * W = q
    exact ⟨trivial, by omega⟩
theorem text_txt {W n : Nat} {xs : List Int} (h : Im W n xs) : Txt (textOf W xs) W n xs :=
  ⟨h, by unfold textOf; rw [if_pos h.valid, h.hl, Int.toNat_natCast]⟩
theorem Txt.ne {s : List UInt8} {W n : Nat} {xs : List Int} (h : Txt s W n xs) : s ≠ [] := by
  intro e
  have h1 := h.len
  have h2 := Nat.mul_pos (show 0 < n by have := h.1.l1; omega) (show 0 < W + 1 by omega)
  rw [← h1, e] at h2; exact absurd h2 (Nat.lt_irrefl 0)
theorem area_wrap {n W t : Nat} (h : t = n * (W + 1)) (hb : t ≤ 42) : wrap64 ((n : Int) * ((W : Int) + 1)) = t := by
  have e : (n : Int) * ((W : Int) + 1) = (t : Int) := by rw [h]; simp
  rw [e]; unfold wrap64; omega
end Go.Proofs.Ytebfdpcpmiookaa

