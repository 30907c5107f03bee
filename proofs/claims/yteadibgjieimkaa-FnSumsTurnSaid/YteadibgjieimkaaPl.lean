/-
  Plain facts on partitions that the laws ask: moving up, the steepest and the flattest partition, counts of what is not 0.
-/
import Derived.Test.YteadibgjieimkaaPt
namespace Go.Proofs.Yteadibgjieimkaa
set_option maxRecDepth 100000
open Go.RowKit

theorem set_getD {xs : List Int} {k : Nat} {v : Int} (hk : k < xs.length) (i : Nat) : (xs.set k v).getD i 0 = if i = k then v else xs.getD i 0 := by
  by_cases e : i = k
  · subst e; rw [if_pos rfl, getD_elem (by rw [List.length_set]; exact hk), List.getElem_set_self]
  · rw [if_neg e, List.getD, List.getD, List.getElem?_set_ne (by omega)]
/-- 1 is moved from the last element greater than 0 to the first. -/
def moveL (b : List Int) (k : Nat) : List Int := (b.set k (b.getD k 0 - 1)).set 0 (b.getD 0 0 + 1)
theorem move_get {b : List Int} {k : Nat} (hkl : k < b.length) (i : Nat) : (moveL b k).getD i 0 = if i = 0 then b.getD 0 0 + 1 else if i = k then b.getD k 0 - 1 else b.getD i 0 := by
  unfold moveL
  rw [set_getD (by rw [List.length_set]; omega), set_getD hkl]
theorem move_psum {b : List Int} {k : Nat} (hk : 1 ≤ k) (hkl : k < b.length) (m : Nat) : psum (moveL b k) m = psum b m + if 1 ≤ m ∧ m ≤ k then 1 else 0 := by
  induction m with
  | zero => rw [if_neg (by omega)]; rfl
  | succ m ih =>
    rw [psum_succ, psum_succ, ih, move_get hkl]
    by_cases e0 : m = 0
    · subst e0; rw [if_neg (by omega), if_pos rfl, if_pos (by omega)]; omega
    · rw [if_neg e0]
      by_cases ek : m = k
      · subst ek; rw [if_pos (by omega), if_pos rfl, if_neg (by omega)]; omega
      · rw [if_neg ek]
        by_cases h : m ≤ k
        · rw [if_pos (by omega), if_pos (by omega)]; omega
        · rw [if_neg (by omega), if_neg (by omega)]; omega
theorem Par.move {b : List Int} (h : Par b) {k : Nat} (hk : 1 ≤ k) (hkl : k < b.length) (h0 : b.getD 0 0 < 6) (hp : 0 < b.getD k 0) (hz : ∀ i, k < i → b.getD i 0 = 0) : Par (moveL b k) := by
  have hl : (moveL b k).length = b.length := by unfold moveL; rw [List.length_set, List.length_set]
  refine ⟨by rw [hl]; exact h.l, fun i _ => ?_, fun i _ => ?_⟩
  · rw [move_get hkl]
    have h1 := h.bd' 0
    have h2 := h.bd' k
    have h3 := h.bd' i
    split
    · omega
    · split <;> omega
  · rw [move_get hkl, move_get hkl, if_neg (by omega)]
    have h1 := h.de' i
    have h2 := h.bd' (i + 1)
    by_cases e0 : i = 0
    · subst e0
      rw [if_pos rfl]
      by_cases e : 0 + 1 = k
      · rw [if_pos e]; subst e; omega
      · rw [if_neg e]; omega
    · rw [if_neg e0]
      by_cases e1 : i = k
      · subst e1
        rw [if_neg (by omega), if_pos rfl, hz (i + 1) (by omega)]; omega
      · rw [if_neg e1]
        by_cases e : i + 1 = k
        · rw [if_pos e]; subst e; omega
        · rw [if_neg e]; omega
theorem Bel.move {b : List Int} (h : Par b) {k : Nat} (hk : 1 ≤ k) (hkl : k < b.length) (h0 : b.getD 0 0 < 6) (hp : 0 < b.getD k 0) (hz : ∀ i, k < i → b.getD i 0 = 0) : Bel b (moveL b k) :=
  ⟨h, h.move hk hkl h0 hp hz, fun m => by rw [move_psum hk hkl]; split <;> omega, by
    have := h.l
    rw [move_psum hk hkl, if_neg (by omega)]; omega⟩

theorem psum_cons (n : Int) (k : Nat) : psum [n] (k + 1) = n := by
  rw [psum_past (show [n].length ≤ k + 1 by simp)]; simp [psum, sumI]
theorem Par.one {n : Int} (h0 : 0 ≤ n) (h6 : n ≤ 6) : Par [n] :=
  ⟨by simp, fun i hi => by
    have : i = 0 := by simpa using hi
    subst this; exact ⟨h0, h6⟩, fun i hi => absurd hi (by simp)⟩
theorem Bel.steep {a : List Int} (h : Par a) {n : Int} (hn : psum a a.length = n) (h6 : n ≤ 6) : Bel a [n] := by
  have hs : psum a 6 = n := by rw [psum_past h.l]; exact hn
  have h1 := h.psum_bd 6
  refine ⟨h, .one (by omega) h6, fun k => ?_, by rw [psum_cons]; exact hs⟩
  cases k with
  | zero => exact Int.le_refl _
  | succ k =>
    rw [psum_cons]
    by_cases e : 6 ≤ k + 1
    · rw [h.psum_six e]; omega
    · have := h.psum_mono (show k + 1 ≤ 6 by omega); omega
def flatL (n : Nat) : List Int := List.replicate n 1
theorem flat_len (n : Nat) : (flatL n).length = n := List.length_replicate
theorem flat_get {n i : Nat} (h : i < n) : (flatL n).getD i 0 = 1 := by
  rw [getD_elem (by rw [flat_len]; exact h)]; exact List.getElem_replicate ..
theorem flat_snoc (n : Nat) : flatL (n + 1) = flatL n ++ [1] := List.replicate_succ'
theorem Par.flat {n : Nat} (h : n ≤ 6) : Par (flatL n) :=
  ⟨by rw [flat_len]; exact h, fun i hi => by rw [flat_len] at hi; rw [flat_get hi]; omega, fun i hi => by rw [flat_len] at hi; rw [flat_get hi, flat_get (by omega)]; omega⟩
theorem flat_psum (n k : Nat) : psum (flatL n) k = min (k : Int) n := by
  induction k with
  | zero => rw [psum_zero]; omega
  | succ k ih =>
    rw [psum_succ, ih]
    by_cases e : k < n
    · rw [flat_get e]; omega
    · rw [getD_out (by rw [flat_len]; omega)]; omega
theorem Bel.flat {a : List Int} (h : Par a) {n : Nat} (hn : psum a a.length = n) (h6 : n ≤ 6) : Bel (flatL n) a := by
  have hs : psum a 6 = n := by rw [psum_past h.l]; exact hn
  refine ⟨.flat h6, h, fun k => ?_, by rw [flat_psum]; omega⟩
  rw [flat_psum]
  induction k with
  | zero => rw [psum_zero]; omega
  | succ k ih =>
    rw [psum_succ]
    have h1 := h.bd' k
    by_cases e : a.getD k 0 = 0
    · have hz : ∀ i, k ≤ i → a.getD i 0 = 0 := fun i hi => by have := h.mono hi; have := h.bd' i; omega
      have hk : psum a k = n := by
        by_cases e2 : k ≤ 6
        · rw [← hs]; exact (sum_past hz e2).symm
        · rw [h.psum_six (by omega)]; exact hs
      omega
    · omega

/-- How many of the first elements are not 0. -/
def mins (xs : List Int) (k : Nat) : Int := sumI (fun i => min 1 (xs.getD i 0)) k
theorem mins_succ (xs : List Int) (k : Nat) : mins xs (k + 1) = mins xs k + min 1 (xs.getD k 0) := rfl
theorem Par.mins_bd {xs : List Int} (h : Par xs) (k : Nat) : 0 ≤ mins xs k ∧ mins xs k ≤ k := sum_bd (fun i => by have := h.bd' i; (try dsimp only); omega) _
theorem Par.first {xs : List Int} (h : Par xs) : cge xs 1 = mins xs xs.length := sum_ext fun i _ => by have := h.bd' i; split <;> omega
theorem Par.last {xs : List Int} (h : Par xs) {n : Nat} (hn : xs.getD 0 0 ≤ n) : mins (conjL xs n) n = xs.getD 0 0 := by
  have h0 := (h.bd' 0).1
  unfold mins
  by_cases e : xs.length = 0
  · rw [getD_out (by omega)]
    rw [sum_ext (g := fun _ => 0) (fun k hk => by
      rw [conj_get hk]
      have := cge_bd xs ((k : Int) + 1)
      omega), sum_zero]
  · rw [sum_ext (g := fun k => if (k : Int) + 1 ≤ xs.getD 0 0 then 1 else 0) (fun k hk => by
      rw [conj_get hk]
      have h1 := h.cge_iff (c := (k : Int) + 1) (show 0 < xs.length by omega)
      have h2 := cge_bd xs ((k : Int) + 1)
      by_cases e2 : (k : Int) + 1 ≤ xs.getD 0 0
      · rw [if_pos e2]; have := h1.2 e2; omega
      · rw [if_neg e2]; have : ¬ ((0 : Nat) : Int) + 1 ≤ cge xs ((k : Int) + 1) := fun x => e2 (h1.1 x)
        omega), min_sum _ h0]
    omega
end Go.Proofs.Yteadibgjieimkaa

