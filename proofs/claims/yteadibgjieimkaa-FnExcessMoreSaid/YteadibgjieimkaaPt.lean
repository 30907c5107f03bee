/-
  Plain facts on sorted lists: the list in descending order, its counts and its sum.
-/
import Derived.Test.YteadibgjieimkaaPa
namespace Go.Proofs.Yteadibgjieimkaa
set_option maxRecDepth 100000
open Go.RowKit

/-- The numbers of a list from 6 down, each as often as it is there. -/
def srt (xs : List Int) : Nat → List Int
  | 0 => []
  | k + 1 => srt xs k ++ List.replicate (xs.count (6 - (k : Int))) (6 - (k : Int))
def sortL (xs : List Int) : List Int := srt xs 7
theorem srt_congr {xs ys : List Int} (h : ∀ x, xs.count x = ys.count x) (k : Nat) : srt xs k = srt ys k := by
  induction k with
  | zero => rfl
  | succ k ih => simp only [srt]; rw [ih, h]
theorem srt_mem {xs : List Int} {k : Nat} {y : Int} (h : y ∈ srt xs k) : 6 - (k : Int) < y ∧ y ≤ 6 ∧ y ∈ xs := by
  induction k with
  | zero => cases h
  | succ k ih =>
    simp only [srt, List.mem_append, List.mem_replicate] at h
    rcases h with h | ⟨h1, h2⟩
    · have := ih h; exact ⟨by omega, this.2⟩
    · subst h2; exact ⟨by omega, by omega, List.count_pos_iff.1 (by omega)⟩
theorem srt_pair (xs : List Int) (k : Nat) : (srt xs k).Pairwise (fun a b => b ≤ a) := by
  induction k with
  | zero => exact .nil
  | succ k ih =>
    simp only [srt]
    rw [List.pairwise_append]
    refine ⟨ih, List.pairwise_replicate.2 (.inr (Int.le_refl _)), fun a ha b hb => ?_⟩
    have := srt_mem ha
    have := (List.mem_replicate.1 hb).2
    omega
theorem srt_count (xs : List Int) (k : Nat) (y : Int) : (srt xs k).count y = if 6 - (k : Int) < y ∧ y ≤ 6 then xs.count y else 0 := by
  induction k with
  | zero => rw [if_neg (by omega)]; rfl
  | succ k ih =>
    simp only [srt]
    rw [List.count_append, ih, List.count_replicate]
    by_cases e : 6 - (k : Int) = y
    · subst e
      rw [if_neg (by omega), if_pos (by simp), if_pos (by omega), Nat.zero_add]
    · rw [if_neg (show ¬ ((6 - (k : Int) == y) = true) by simpa using e), Nat.add_zero]
      by_cases h : 6 - (k : Int) < y ∧ y ≤ 6
      · rw [if_pos h, if_pos (by omega)]
      · rw [if_neg h, if_neg (by omega)]
theorem allIn_mem {xs : List Int} {lo hi : Int} (h : allIn xs lo hi = true) {x : Int} (hx : x ∈ xs) : lo ≤ x ∧ x ≤ hi := by
  rw [allIn, List.all_eq_true] at h; exact inB_iff.1 (h x hx)
theorem mem_allIn {xs : List Int} {lo hi : Int} (h : ∀ x ∈ xs, lo ≤ x ∧ x ≤ hi) : allIn xs lo hi = true := by
  rw [allIn, List.all_eq_true]; exact fun x hx => inB_iff.2 (h x hx)
theorem el_all {xs : List Int} (h : elB xs = true) : allIn xs 0 6 = true := by
  rw [← el_in (el_parts h).1]; exact h
theorem el_perm {xs ys : List Int} (h : xs.Perm ys) : elB xs = elB ys := by
  rw [Bool.eq_iff_iff]
  have key : ∀ {xs ys : List Int}, xs.Perm ys → elB xs = true → elB ys = true := by
    intro xs ys h e
    rw [el_in (by rw [← h.length_eq]; exact (el_parts e).1)]
    exact mem_allIn fun x hx => allIn_mem (el_all e) (h.mem_iff.2 hx)
  exact ⟨key h, key h.symm⟩
theorem sort_perm {xs : List Int} (h : elB xs = true) : (sortL xs).Perm xs := by
  refine List.perm_iff_count.2 fun y => ?_
  rw [sortL, srt_count]
  by_cases e : 6 - ((7 : Nat) : Int) < y ∧ y ≤ 6
  · rw [if_pos e]
  · rw [if_neg e]
    refine (List.count_eq_zero.2 fun hy => e ?_).symm
    have := allIn_mem (el_all h) hy
    omega
theorem sort_len {xs : List Int} (h : elB xs = true) : (sortL xs).length = xs.length := (sort_perm h).length_eq
theorem sort_unique {xs ys : List Int} (h : elB xs = true) (hp : ys.Perm xs) (hs : ys.Pairwise (fun a b => b ≤ a)) : ys = sortL xs :=
  List.Perm.eq_of_pairwise (le := fun a b => b ≤ a) (fun a b _ _ h1 h2 => by omega) hs (srt_pair xs 7) (hp.trans (sort_perm h).symm)
theorem pair_desc {xs : List Int} (h : xs.Pairwise (fun a b => b ≤ a)) : ∀ i, i + 1 < xs.length → xs.getD (i + 1) 0 ≤ xs.getD i 0 := by
  intro i hi
  rw [getD_elem hi, getD_elem (by omega)]
  exact List.pairwise_iff_getElem.1 h i (i + 1) (by omega) hi (by omega)
theorem sort_par {xs : List Int} (h : elB xs = true) : Par (sortL xs) := by
  have h2 : elB (sortL xs) = true := by rw [el_perm (sort_perm h)]; exact h
  exact ⟨(el_parts h2).1, (el_parts h2).2, pair_desc (srt_pair xs 7)⟩
theorem sort_congr {xs ys : List Int} (h : xs.Perm ys) : sortL xs = sortL ys := srt_congr (fun x => h.count_eq x) 7

theorem sum_shift (f : Nat → Int) (n : Nat) : sumI f (n + 1) = f 0 + sumI (fun i => f (i + 1)) n := by
  induction n with
  | zero => simp only [sumI]; omega
  | succ n ih => rw [show sumI f (n + 1 + 1) = sumI f (n + 1) + f (n + 1) from rfl, ih]; simp only [sumI]; omega
def lsum : List Int → Int
  | [] => 0
  | x :: r => x + lsum r
theorem psum_all (xs : List Int) : psum xs xs.length = lsum xs := by
  induction xs with
  | nil => rfl
  | cons x r ih =>
    unfold psum at *
    rw [List.length_cons, sum_shift]
    simp only [List.getD_cons_zero, List.getD_cons_succ, lsum]
    rw [ih]
theorem lsum_perm {xs ys : List Int} (h : xs.Perm ys) : lsum xs = lsum ys := by
  induction h with
  | nil => rfl
  | cons x _ ih => simp only [lsum]; rw [ih]
  | swap x y l => simp only [lsum]; omega
  | trans _ _ h1 h2 => exact h1.trans h2
theorem psum_perm {xs ys : List Int} (h : xs.Perm ys) : psum xs xs.length = psum ys ys.length := by rw [psum_all, psum_all, lsum_perm h]
/-- How often a number is among the first elements. -/
def ceq (xs : List Int) (x : Int) (k : Nat) : Int := sumI (fun i => if xs.getD i 0 = x then 1 else 0) k
theorem ceq_succ (xs : List Int) (x : Int) (k : Nat) : ceq xs x (k + 1) = ceq xs x k + if xs.getD k 0 = x then 1 else 0 := rfl
theorem ceq_bd (xs : List Int) (x : Int) (k : Nat) : 0 ≤ ceq xs x k ∧ ceq xs x k ≤ k := sum_bd (fun i => by (try dsimp only); split <;> omega) _
theorem ceq_all (xs : List Int) (x : Int) : ceq xs x xs.length = xs.count x := by
  induction xs with
  | nil => rfl
  | cons y r ih =>
    unfold ceq at *
    rw [List.length_cons, sum_shift]
    simp only [List.getD_cons_zero, List.getD_cons_succ]
    rw [ih, List.count_cons]
    by_cases e : y = x
    · subst e; simp; omega
    · rw [if_neg e, if_neg (show ¬ ((y == x) = true) by simpa using e)]; simp
theorem ceq_sort {xs : List Int} (h : elB xs = true) (x : Int) : ceq (sortL xs) x xs.length = ceq xs x xs.length := by
  rw [ceq_all, ← sort_len h, ceq_all, (sort_perm h).count_eq]
theorem count_take {xs : List Int} (x : Int) {k : Nat} (hk : k < xs.length) : (xs.take (k + 1)).count x = (xs.take k).count x + if xs.getD k 0 = x then 1 else 0 := by
  rw [List.take_succ_eq_append_getElem hk, List.count_append, getD_elem hk]
  by_cases e : xs[k] = x
  · rw [if_pos e, e]; simp
  · rw [if_neg e, List.count_singleton, if_neg (by simpa using e)]
theorem rot_perm (xs : List Int) (k : Nat) : (xs.drop k ++ xs.take k).Perm xs := by
  refine List.perm_append_comm.trans ?_
  rw [List.take_append_drop]

/-- What PartOf gives. -/
def partOfL (xs : List Int) : List Int := if elB xs = true then sortL xs else []
theorem partOf_yes {xs : List Int} (h : elB xs = true) : partOfL xs = sortL xs := if_pos h
theorem partOf_no {xs : List Int} (h : elB xs = false) : partOfL xs = [] := by rw [partOfL, h]; rfl
theorem partOf_len (xs : List Int) : (partOfL xs).length ≤ 6 := by
  by_cases h : elB xs = true
  · rw [partOf_yes h]; exact (sort_par h).l
  · rw [partOf_no (by simpa using h)]; simp

/-- What a function that gives a list and a flag leaves. -/
def GivesB (w : World) (L : List Int) (ok : Bool) (e : Ending) (w' : World) : Prop :=
  (∃ a cap, e = .returned (.tuple #[.slice a L.length cap, .bool ok]) ∧ OwnI w' w.heap.size a L.length cap L) ∧ Below w.heap.size w w'
end Go.Proofs.Yteadibgjieimkaa

