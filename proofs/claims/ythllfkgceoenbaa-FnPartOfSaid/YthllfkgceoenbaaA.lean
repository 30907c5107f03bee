/-
  The contracts of the small functions that work on numbers and rows of bits.
-/
import Derived.Test.YthllfkgceoenbaaProg
import Derived.WalkKit
import Derived.LoopTactic
import Derived.Below
import Derived.WalkSpells
import Derived.WalkSmall
import Derived.Lib.Hide
import Derived.Deep.QuietTactic
import Derived.BigQuiet
namespace Go.Proofs.Ythllfkgceoenbaa
open Go.RowKit

/-- 2 to the power of a number. -/
def pw : Nat → Int
  | 0 => 1
  | k + 1 => pw k * 2
theorem pw_succ (k : Nat) : pw (k + 1) = pw k * 2 := rfl
theorem pw_pos (k : Nat) : 1 ≤ pw k := by
  induction k with
  | zero => simp [pw]
  | succ k ih => rw [pw_succ]; omega
theorem pw_le (k m : Nat) (h : k ≤ m) : pw k ≤ pw m := by
  induction m with
  | zero => have : k = 0 := by omega
            subst this; exact Int.le_refl _
  | succ m ih =>
    by_cases e : k = m + 1
    · subst e; exact Int.le_refl _
    · have := ih (by omega); have := pw_pos m; rw [pw_succ]; omega
theorem pw_30 : pw 30 = 1073741824 := by decide

theorem in_yes (n lo hi : Int) (w : World) (h1 : lo ≤ n) (h2 : n ≤ hi) :
    Calls Try.prog 52 #[.int .i64 n, .int .i64 lo, .int .i64 hi] w fun e w' => e = .returned (.bool true) ∧ w = w' := by
  go_enter Try.func52, Try.ntmps52
  go_wp2
  go_ret
  exact ⟨rfl, rfl⟩
theorem in_no (n lo hi : Int) (w : World) (h : n < lo ∨ hi < n) :
    Calls Try.prog 52 #[.int .i64 n, .int .i64 lo, .int .i64 hi] w fun e w' => e = .returned (.bool false) ∧ w = w' := by
  by_cases h1 : lo ≤ n
  · have h2 : hi < n := by omega
    clear h
    go_enter Try.func52, Try.ntmps52
    go_wp2
    go_ret
    exact ⟨by simp; omega, rfl⟩
  · clear h
    go_enter Try.func52, Try.ntmps52
    go_wp2
    go_ret
    exact ⟨rfl, rfl⟩
def inB (n lo hi : Int) : Bool := decide (lo ≤ n ∧ n ≤ hi)
theorem inB_yes {n lo hi : Int} (h1 : lo ≤ n) (h2 : n ≤ hi) : inB n lo hi = true := decide_eq_true ⟨h1, h2⟩
theorem inB_no {n lo hi : Int} (h : n < lo ∨ hi < n) : inB n lo hi = false := decide_eq_false (by omega)
theorem inB_iff {n lo hi : Int} : inB n lo hi = true ↔ lo ≤ n ∧ n ≤ hi := decide_eq_true_iff
theorem in_any (n lo hi : Int) (w : World) :
    Calls Try.prog 52 #[.int .i64 n, .int .i64 lo, .int .i64 hi] w fun e w' => e = .returned (.bool (inB n lo hi)) ∧ w = w' := by
  by_cases h : lo ≤ n ∧ n ≤ hi
  · rw [inB_yes h.1 h.2]; exact in_yes n lo hi w h.1 h.2
  · rw [inB_no (by omega)]; exact in_no n lo hi w (by omega)

theorem full_num : ∀ k < 31, wrap64 (wrap64 (2 ^ k) - 1) = pw k - 1 := by decide +kernel
theorem block_lt {w : World} {a : Addr} {v : Value} (h : w.cell? a = some v) : a.block < w.heap.size := by
  unfold World.cell? at h
  split at h
  · rename_i hb; exact (Array.getElem?_eq_some_iff.1 hb).1
  · cases h
theorem qd {P : Program} {f : FuncId} {args : Array Value} {w : World} {n : Nat} {v : Value}
    (h : Calls P f args (w.drewN n) fun e w' => e = .returned v ∧ w.drewN n = w') : Calls P f args (w.drewN n) fun e w'' => e = .returned v ∧ ∃ m, w'' = w.drewN m :=
  h.mono fun _ _ ⟨he, hm⟩ => ⟨he, n, hm.symm⟩
theorem kept {B : Nat} {W wr : World} {a : Addr} {v : Value} (h : Below B W wr) (hb : a.block < B) (hc : W.cell? a = some v) : wr.cell? a = some v := by
  rw [h.cell hb]; exact hc
theorem old {B : Nat} {w wr : World} {o : Obj} {a : Addr} {v : Value} (h : Below B (w.alloc o) wr) (hB : w.heap.size ≤ B) (hc : w.cell? a = some v) : wr.cell? a = some v :=
  kept h (Nat.lt_of_lt_of_le (block_lt hc) hB) ((World.cell?_alloc_lt _ _ _ (block_lt hc)).trans hc)
/-- A slice of integers whose elements are 'xs'. -/
def Row (w : World) (a : Option Addr) (len : Nat) (xs : List Int) : Prop :=
  xs.length = len ∧ (len = 0 ∨ ∃ b off, a = some ⟨b, off, none⟩ ∧ ∀ i, i < len → w.cell? ⟨b, off + i, none⟩ = some (.int .i64 (xs.getD i 0)))

def validB (W : Int) (xs : List Int) : Bool :=
  inB W 1 6 && inB xs.length 1 6 && xs.all fun x => inB x 0 (pw W.toNat - 1)

theorem getD_elem {xs : List Int} {i : Nat} (hi : i < xs.length) : xs.getD i 0 = xs[i] := by simp [hi]
theorem validB_no1 {W : Int} {xs : List Int} (h : inB W 1 6 = false) : validB W xs = false := by simp [validB, h]
theorem validB_no2 {W : Int} {xs : List Int} (h : inB xs.length 1 6 = false) : validB W xs = false := by simp [validB, h]
theorem validB_no3 {W : Int} {xs : List Int} (i : Nat) (hi : i < xs.length) (h : inB (xs.getD i 0) 0 (pw W.toNat - 1) = false) : validB W xs = false := by
  have : (xs.all fun x => inB x 0 (pw W.toNat - 1)) = false := by
    rw [List.all_eq_false]; exact ⟨xs.getD i 0, by rw [getD_elem hi]; exact List.getElem_mem hi, by rw [h]; simp⟩
  simp [validB, this]
theorem validB_yes {W : Int} {xs : List Int} (h1 : inB W 1 6 = true) (h2 : inB xs.length 1 6 = true) (h : ∀ i, i < xs.length → inB (xs.getD i 0) 0 (pw W.toNat - 1) = true) : validB W xs = true := by
  have : (xs.all fun x => inB x 0 (pw W.toNat - 1)) = true := by
    rw [List.all_eq_true]; intro x hx
    obtain ⟨i, hi, rfl⟩ := List.getElem_of_mem hx
    have := h i hi
    rwa [getD_elem hi] at this
  simp [validB, h1, h2, this]

end Go.Proofs.Ythllfkgceoenbaa

