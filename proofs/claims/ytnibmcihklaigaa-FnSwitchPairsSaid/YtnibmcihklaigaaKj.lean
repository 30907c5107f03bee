/-
  What FnSwitchPairs asks: the products of pairs of rows, added up.
-/
import Derived.Test.YtnibmcihklaigaaKi
namespace Go.Proofs.Ytnibmcihklaigaa
set_option maxRecDepth 100000
open Go.RowKit

def prF (xs : List Int) (W : Nat) (p : Nat × Nat) : Int := onlyI (cellOf xs) p.1 p.2 W * onlyI (cellOf xs) p.2 p.1 W
theorem quarter_9 : ∀ W, W < 7 → W * W / 4 ≤ 9 := by decide +kernel
theorem prF_bd (xs : List Int) {W : Nat} (hW : W ≤ 6) (p : Nat × Nat) : 0 ≤ prF xs W p ∧ prF xs W p ≤ 9 := by
  have h1 := only_mul (cellOf xs) p.1 p.2 (W := W) (by omega)
  have h2 := only_bd (cellOf xs) p.1 p.2 W
  have h3 := quarter_9 W (by omega)
  exact ⟨Int.mul_nonneg h2.1 h2.2.1, by unfold prF; omega⟩
theorem sumL_bd {α : Type} {F : α → Int} {b : Int} (h : ∀ x, 0 ≤ F x ∧ F x ≤ b) (L : List α) : 0 ≤ sumL F L ∧ sumL F L ≤ b * (L.length : Int) := by
  induction L with
  | nil => simp [sumL]
  | cons x L ih =>
    have := h x
    have e : b * ((x :: L).length : Int) = b * (L.length : Int) + b := by rw [List.length_cons, Int.natCast_add, Int.mul_add]; simp
    rw [e]
    simp only [sumL]
    omega
theorem seg_len (i k : Nat) : (segL i k).length = k - (i + 1) := by simp [segL]
theorem upto_bd (xs : List Int) {W n i : Nat} (hW : W ≤ 6) (hn : n ≤ 6) (hi : i ≤ n) : 0 ≤ sumL (prF xs W) (uptoL n i) ∧ sumL (prF xs W) (uptoL n i) ≤ 324 := by
  have h1 := sumL_bd (prF_bd xs hW) (uptoL n i)
  have h2 := upto_len n i hi
  have h3 : i * n ≤ 6 * 6 := Nat.mul_le_mul (by omega) hn
  omega
theorem seg_bd (xs : List Int) {W i k : Nat} (hW : W ≤ 6) (hk : k ≤ 6) : 0 ≤ sumL (prF xs W) (segL i k) ∧ sumL (prF xs W) (segL i k) ≤ 54 := by
  have h1 := sumL_bd (prF_bd xs hW) (segL i k)
  have h2 := seg_len i k
  omega
theorem only_succ (c : Nat → Nat → Bool) (i k m : Nat) : onlyI c i k (m + 1) = onlyI c i k m + bI (c i m && !c k m) := rfl
theorem bw_eq {P : Program} {f : FuncId} {args : Array Value} {w : World} {p : Bw w} {v : Value} (h : Calls P f args p.v fun e w' => e = .returned v ∧ p.v = w') : Calls P f args p.v fun e w'' => e = .returned v ∧ ∃ q : Bw w, w'' = q.v :=
  h.mono fun _ _ ⟨he, hb⟩ => ⟨he, ⟨p, hb.symm⟩⟩
end Go.Proofs.Ytnibmcihklaigaa

