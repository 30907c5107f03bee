/-
  Plain facts on partitions: valid ones, sums, conjugates, the order.
  Plain facts on sorted lists: the list in descending order, its counts and its sum.
  Plain facts on partitions that the laws ask: moving up, the steepest and the flattest partition, counts of what is not 0.
  The contracts of the library's functions that the program sorts with: cmp.Compare, slices.IsSortedFunc, slices.SortFunc at short lists; PartValid of the program and of the model.
  The contract of slices.SortFunc at short lists: the list in descending order.
  The contracts of PartValid and PartOf, of the program and of the model.
  The contracts of PartOf, of the program and of the model.
  The contracts of PartSum and PartBelow, of the program and of the model.
  The contracts of the model's PartBelow, and of PartConj, of the program and of the model.
  The contracts of PartConj, of the program and of the model.
  The contracts of the laws' drawing functions that draw lists and partitions.
  The contracts of the laws' drawing functions that draw partitions.
  The contracts of chapter 3 in the form that the laws use.
  A step of a region that draws its order: append onto what the call owns, of any number of elements; and what FnPartOf asks.
-/
import Derived.Test.YtemmfnlnhekclaaEp
import Derived.RegionTactic
import Derived.ChangeAlike
import Derived.Test.YtemmfnlnhekclaaK
import Derived.Lib.Small
import Derived.Lib.Walk
import Derived.Maps.AppendAt
import Derived.Deep.RegionLaw

namespace Go.Proofs.Ytemmfnlnhekclaa
set_option maxRecDepth 100000
open Go.RowKit

theorem getD_out {xs : List Int} {i : Nat} (h : xs.length ≤ i) : xs.getD i 0 = 0 := by
  rw [List.getD, List.getElem?_eq_none h]; rfl
/-- A list that does not ascend. -/
def descB (xs : List Int) : Bool := decide (∀ i, i < xs.length - 1 → xs.getD (i + 1) 0 ≤ xs.getD i 0)
theorem desc_iff {xs : List Int} : descB xs = true ↔ ∀ i, i + 1 < xs.length → xs.getD (i + 1) 0 ≤ xs.getD i 0 := by
  unfold descB; rw [decide_eq_true_iff]
  exact ⟨fun h i hi => h i (by omega), fun h i hi => h i (by omega)⟩
theorem desc_no {xs : List Int} {i : Nat} (h : i + 1 < xs.length) (h2 : xs.getD i 0 < xs.getD (i + 1) 0) : descB xs = false := by
  rw [Bool.eq_false_iff]; intro e; have := desc_iff.1 e i h; omega
/-- At most six numbers from 0 to 6. -/
def elB (xs : List Int) : Bool := decide (xs.length ≤ 6) && allIn xs 0 6
def partB (xs : List Int) : Bool := elB xs && descB xs
theorem el_len {xs : List Int} (h : 6 < xs.length) : elB xs = false := by
  rw [elB, decide_eq_false (by omega)]; rfl
theorem el_in {xs : List Int} (h : xs.length ≤ 6) : elB xs = allIn xs 0 6 := by
  rw [elB, decide_eq_true h]; rfl
theorem el_parts {xs : List Int} (h : elB xs = true) : xs.length ≤ 6 ∧ ∀ i, i < xs.length → 0 ≤ xs.getD i 0 ∧ xs.getD i 0 ≤ 6 := by
  simp only [elB, Bool.and_eq_true, decide_eq_true_eq] at h
  exact ⟨h.1, allIn_iff.1 h.2⟩
theorem part_el {xs : List Int} (h : elB xs = false) : partB xs = false := by rw [partB, h]; rfl
theorem part_desc {xs : List Int} (h : descB xs = false) : partB xs = false := by rw [partB, h, Bool.and_false]
theorem part_yes {xs : List Int} (h : elB xs = true) (h2 : descB xs = true) : partB xs = true := by rw [partB, h, h2]; rfl
theorem part_of {xs : List Int} (h : descB xs = true) : partB xs = elB xs := by rw [partB, h, Bool.and_true]

structure Par (xs : List Int) : Prop where
  l : xs.length ≤ 6
  bd : ∀ i, i < xs.length → 0 ≤ xs.getD i 0 ∧ xs.getD i 0 ≤ 6
  de : ∀ i, i + 1 < xs.length → xs.getD (i + 1) 0 ≤ xs.getD i 0
theorem Par.of {xs : List Int} (h : partB xs = true) : Par xs := by
  simp only [partB, elB, Bool.and_eq_true, decide_eq_true_eq] at h
  exact ⟨h.1.1, allIn_iff.1 h.1.2, desc_iff.1 h.2⟩
theorem Par.el {xs : List Int} (h : Par xs) : elB xs = true := by
  simp only [elB, Bool.and_eq_true, decide_eq_true_eq]; exact ⟨h.l, allIn_iff.2 h.bd⟩
theorem Par.desc {xs : List Int} (h : Par xs) : descB xs = true := desc_iff.2 h.de
theorem Par.valid {xs : List Int} (h : Par xs) : partB xs = true := part_yes h.el h.desc
theorem Par.bd' {xs : List Int} (h : Par xs) (i : Nat) : 0 ≤ xs.getD i 0 ∧ xs.getD i 0 ≤ 6 := by
  by_cases hi : i < xs.length
  · exact h.bd i hi
  · rw [getD_out (by omega)]; omega
theorem Par.de' {xs : List Int} (h : Par xs) (i : Nat) : xs.getD (i + 1) 0 ≤ xs.getD i 0 := by
  by_cases hi : i + 1 < xs.length
  · exact h.de i hi
  · rw [getD_out (show xs.length ≤ i + 1 by omega)]; exact (h.bd' i).1
theorem anti_mono {f : Nat → Int} (hd : ∀ i, f (i + 1) ≤ f i) {i j : Nat} (hij : i ≤ j) : f j ≤ f i := by
  induction j with
  | zero => have : i = 0 := by omega
            subst this; exact Int.le_refl _
  | succ j ih =>
    by_cases e : i = j + 1
    · subst e; exact Int.le_refl _
    · have := ih (by omega); have := hd j; omega
theorem Par.mono {xs : List Int} (h : Par xs) {i j : Nat} (hij : i ≤ j) : xs.getD j 0 ≤ xs.getD i 0 := anti_mono (f := fun i => xs.getD i 0) h.de' hij

/-- The sum of the first elements. -/
def psum (xs : List Int) (k : Nat) : Int := sumI (fun i => xs.getD i 0) k
theorem psum_succ (xs : List Int) (k : Nat) : psum xs (k + 1) = psum xs k + xs.getD k 0 := rfl
theorem psum_zero (xs : List Int) : psum xs 0 = 0 := rfl
theorem sum_past {f : Nat → Int} {n k : Nat} (h : ∀ i, n ≤ i → f i = 0) (hk : n ≤ k) : sumI f k = sumI f n := by
  induction k with
  | zero => have : n = 0 := by omega
            subst this; rfl
  | succ k ih =>
    by_cases e : n = k + 1
    · subst e; rfl
    · simp only [sumI]; rw [ih (by omega), h k (by omega)]; omega
theorem psum_past {xs : List Int} {k : Nat} (h : xs.length ≤ k) : psum xs k = psum xs xs.length := sum_past (fun _ hi => getD_out hi) h
theorem psum_min (xs : List Int) (k : Nat) : psum xs k = psum xs (min k xs.length) := by
  by_cases h : xs.length ≤ k
  · rw [Nat.min_eq_right h, psum_past h]
  · rw [Nat.min_eq_left (by omega)]
theorem sum_mono {f : Nat → Int} (h : ∀ i, 0 ≤ f i) {k n : Nat} (hk : k ≤ n) : sumI f k ≤ sumI f n := by
  induction n with
  | zero => have : k = 0 := by omega
            subst this; exact Int.le_refl _
  | succ n ih =>
    by_cases e : k = n + 1
    · subst e; exact Int.le_refl _
    · have := ih (by omega); have := h n; simp only [sumI]; omega
theorem sum_le {f g : Nat → Int} {k : Nat} (h : ∀ i, i < k → f i ≤ g i) : sumI f k ≤ sumI g k := by
  induction k with
  | zero => exact Int.le_refl _
  | succ k ih => have := ih fun i hi => h i (by omega); have := h k (by omega); simp only [sumI]; omega
theorem Par.psum_bd {xs : List Int} (h : Par xs) (k : Nat) : 0 ≤ psum xs k ∧ psum xs k ≤ 6 * k := sum_small fun i _ => h.bd' i
theorem Par.psum_mono {xs : List Int} (h : Par xs) {k m : Nat} (hk : k ≤ m) : psum xs k ≤ psum xs m := sum_mono (fun i => (h.bd' i).1) hk
theorem Par.psum_six {xs : List Int} (h : Par xs) {k : Nat} (hk : 6 ≤ k) : psum xs k = psum xs 6 := by
  have := h.l; rw [psum_past (show xs.length ≤ k by omega), psum_past h.l]
theorem Par.psum_36 {xs : List Int} (h : Par xs) (k : Nat) : 0 ≤ psum xs k ∧ psum xs k ≤ 36 := by
  have h1 := h.psum_bd k
  have h2 := h.psum_bd 6
  by_cases e : 6 ≤ k
  · have := h.psum_six e; omega
  · omega

theorem anti_iff {f : Nat → Int} (h01 : ∀ i, f i = 0 ∨ f i = 1) (hd : ∀ i, f (i + 1) ≤ f i) {n i : Nat} (hi : i < n) : (i : Int) + 1 ≤ sumI f n ↔ f i = 1 := by
  constructor
  · intro hs
    rcases h01 i with e | e
    · exfalso
      have h1 := sum_past (f := f) (n := i) (k := n) (fun j hj => by have := anti_mono hd hj; have := h01 j; omega) (by omega)
      have h2 : sumI f i ≤ i := (sum_bd (fun j => by have := h01 j; omega) i).2
      omega
    · exact e
  · intro e
    have h1 : ∀ k : Nat, k ≤ i + 1 → sumI f k = k := by
      intro k
      induction k with
      | zero => intro _; rfl
      | succ k ih =>
        intro hk
        have h2 := ih (by omega)
        have h3 := anti_mono hd (show k ≤ i by omega)
        have h4 := h01 k
        simp only [sumI]; omega
    have h2 := h1 (i + 1) (Nat.le_refl _)
    have h3 := sum_mono (f := f) (fun j => by have := h01 j; omega) (show i + 1 ≤ n by omega)
    omega

/-- How many elements are at least c. -/
def cge (xs : List Int) (c : Int) : Int := sumI (fun i => if c ≤ xs.getD i 0 then 1 else 0) xs.length
/-- The conjugate. -/
def conjL (xs : List Int) (n : Nat) : List Int := rowsL (fun k => cge xs ((k : Int) + 1)) n
theorem conj_len (xs : List Int) (n : Nat) : (conjL xs n).length = n := rows_len _ _
theorem conj_get {xs : List Int} {n k : Nat} (hk : k < n) : (conjL xs n).getD k 0 = cge xs ((k : Int) + 1) := rows_get (fun k => cge xs ((k : Int) + 1)) hk
theorem cge_bd (xs : List Int) (c : Int) : 0 ≤ cge xs c ∧ cge xs c ≤ xs.length := sum_bd (fun i => by (try dsimp only); split <;> omega) _
theorem cge_anti {xs : List Int} {c d : Int} (h : c ≤ d) : cge xs d ≤ cge xs c := sum_le fun i _ => by (try dsimp only); split <;> split <;> omega
theorem Par.cge_iff {xs : List Int} (h : Par xs) {c : Int} {i : Nat} (hi : i < xs.length) : (i : Int) + 1 ≤ cge xs c ↔ c ≤ xs.getD i 0 := by
  unfold cge
  rw [anti_iff (fun i => by (try dsimp only); split <;> simp) (fun i => by have := h.de' i; (try dsimp only); split <;> split <;> omega) hi]
  split <;> simp_all
theorem Par.conj {xs : List Int} (h : Par xs) {n : Nat} (hn : n ≤ 6) : Par (conjL xs n) := by
  have hl := h.l
  refine ⟨by rw [conj_len]; exact hn, fun i hi => ?_, fun i hi => ?_⟩
  · rw [conj_len] at hi; rw [conj_get hi]; have := cge_bd xs ((i : Int) + 1); omega
  · rw [conj_len] at hi; rw [conj_get hi, conj_get (by omega)]; exact cge_anti (by omega)
theorem min_sum (x : Int) (h : 0 ≤ x) (K : Nat) : sumI (fun k => if (k : Int) + 1 ≤ x then 1 else 0) K = min x K := by
  induction K with
  | zero => simp only [sumI]; omega
  | succ K ih => simp only [sumI]; rw [ih]; split <;> omega
theorem conj_psum {xs : List Int} (h0 : ∀ i, 0 ≤ xs.getD i 0) {n K : Nat} (hK : K ≤ n) : psum (conjL xs n) K = sumI (fun i => min (xs.getD i 0) K) xs.length := by
  unfold psum
  rw [sum_ext (g := fun k => cge xs ((k : Int) + 1)) (fun k hk => conj_get (by omega))]
  unfold cge
  rw [sum_swap (fun k i => if ((k : Nat) : Int) + 1 ≤ xs.getD i 0 then (1 : Int) else 0) K xs.length]
  exact sum_ext fun i _ => min_sum _ (h0 i) K
theorem Par.conj_six {xs : List Int} (h : Par xs) {n K : Nat} (hK : K ≤ n) : psum (conjL xs n) K = sumI (fun i => min (xs.getD i 0) K) 6 := by
  rw [conj_psum (fun i => (h.bd' i).1) hK]
  exact (sum_past (fun i hi => by (try dsimp only); rw [getD_out hi]; omega) h.l).symm
/-- A conjugate has the same sum. -/
theorem Par.conj_total {xs : List Int} (h : Par xs) {n : Nat} (hb : ∀ i, i < xs.length → xs.getD i 0 ≤ n) : psum (conjL xs n) n = psum xs xs.length := by
  rw [conj_psum (fun i => (h.bd' i).1) (Nat.le_refl _)]
  exact sum_ext fun i hi => by have := hb i hi; omega
/-- Conjugating twice changes nothing. -/
theorem Par.conj_conj {xs : List Int} (h : Par xs) {n : Nat} (hb : ∀ i, i < xs.length → xs.getD i 0 ≤ n) : conjL (conjL xs n) xs.length = xs := by
  refine lists_ext (conj_len _ _) rfl fun i hi => ?_
  rw [conj_get hi]
  have h1 := (h.bd i hi).1
  have h2 := hb i hi
  unfold cge
  rw [conj_len, sum_ext (g := fun k => if (k : Int) + 1 ≤ xs.getD i 0 then 1 else 0) (fun k hk => by
    rw [conj_get hk]
    have := h.cge_iff (c := (k : Int) + 1) hi
    by_cases e : (k : Int) + 1 ≤ xs.getD i 0
    · rw [if_pos e, if_pos (this.2 e)]
    · rw [if_neg e, if_neg (fun x => e (this.1 x))]), min_sum _ h1]
  omega

def leB (a b : List Int) : Bool := (List.range 7).all fun k => decide (psum a k ≤ psum b k)
theorem leB_iff {a b : List Int} : leB a b = true ↔ ∀ k, k < 7 → psum a k ≤ psum b k := by simp [leB]
/-- The first sums are equal. -/
def eqB (a b : List Int) (m : Nat) : Bool := (List.range m).all fun k => decide (psum a k = psum b k)
theorem eqB_iff {a b : List Int} {m : Nat} : eqB a b m = true ↔ ∀ k, k < m → psum a k = psum b k := by simp [eqB]
theorem eqB_succ (a b : List Int) (m : Nat) : eqB a b (m + 1) = (eqB a b m && decide (psum a m = psum b m)) := by
  unfold eqB; rw [List.range_succ, List.all_append]; simp
/-- The order. -/
def belowB (a b : List Int) : Bool := partB a && (partB b && (leB a b && decide (psum a 6 = psum b 6)))
theorem below_a {a b : List Int} (h : partB a = false) : belowB a b = false := by rw [belowB, h]; rfl
theorem below_b {a b : List Int} (h : partB b = false) : belowB a b = false := by rw [belowB, h, Bool.false_and, Bool.and_false]
theorem below_k {a b : List Int} {k : Nat} (hk : k < 7) (h : psum b k < psum a k) : belowB a b = false := by
  have : leB a b = false := by rw [Bool.eq_false_iff]; intro e; have := leB_iff.1 e k hk; omega
  rw [belowB, this, Bool.false_and, Bool.and_false, Bool.and_false]
theorem below_s {a b : List Int} (h : psum a 6 ≠ psum b 6) : belowB a b = false := by
  rw [belowB, decide_eq_false h, Bool.and_false, Bool.and_false, Bool.and_false]
theorem below_yes {a b : List Int} (ha : partB a = true) (hb : partB b = true) (h : ∀ k, k < 6 → psum a k ≤ psum b k) (h6 : psum a 6 = psum b 6) : belowB a b = true := by
  rw [belowB, ha, hb, leB_iff.2 (fun k hk => by
    by_cases e : k = 6
    · subst e; omega
    · exact h k (by omega)), decide_eq_true h6]; rfl
structure Bel (a b : List Int) : Prop where
  pa : Par a
  pb : Par b
  le : ∀ k, psum a k ≤ psum b k
  s : psum a 6 = psum b 6
theorem Bel.of {a b : List Int} (h : belowB a b = true) : Bel a b := by
  simp only [belowB, Bool.and_eq_true, decide_eq_true_eq] at h
  obtain ⟨h1, h2, h3, h4⟩ := h
  have h3 := leB_iff.1 h3
  refine ⟨.of h1, .of h2, fun k => ?_, h4⟩
  by_cases e : 6 ≤ k
  · rw [(Par.of h1).psum_six e, (Par.of h2).psum_six e]; omega
  · exact h3 k (by omega)
theorem Bel.yes {a b : List Int} (h : Bel a b) : belowB a b = true := below_yes h.pa.valid h.pb.valid (fun k _ => h.le k) h.s
theorem Bel.refl {a : List Int} (h : Par a) : Bel a a := ⟨h, h, fun _ => Int.le_refl _, rfl⟩
theorem Bel.trans {a b c : List Int} (h : Bel a b) (h' : Bel b c) : Bel a c := ⟨h.pa, h'.pb, fun k => by have := h.le k; have := h'.le k; omega, h.s.trans h'.s⟩
theorem Bel.total {a b : List Int} (h : Bel a b) : psum a a.length = psum b b.length := by
  rw [← psum_past h.pa.l, ← psum_past h.pb.l]; exact h.s
/-- Both ways only if all sums are equal. -/
theorem Bel.back {a b : List Int} (h : Bel a b) : belowB b a = eqB a b 7 := by
  rw [Bool.eq_iff_iff, eqB_iff]
  constructor
  · intro e k _
    have h1 := h.le k
    have h2 := (Bel.of e).le k
    omega
  · intro e
    exact below_yes h.pb.valid h.pa.valid (fun k hk => by have := e k (by omega); omega) h.s.symm

theorem cut_le (xs : List Int) (c : Int) (t n : Nat) (ht : t ≤ n) : sumI (fun i => min (xs.getD i 0) c) n ≤ (t : Int) * c + (psum xs n - psum xs t) := by
  induction n with
  | zero => have : t = 0 := by omega
            subst this; simp [sumI]
  | succ n ih =>
    by_cases e : t = n + 1
    · subst e
      have h1 : ∀ m : Nat, sumI (fun i => min (xs.getD i 0) c) m ≤ (m : Int) * c := by
        intro m
        induction m with
        | zero => simp [sumI]
        | succ m ih => rw [show ((m + 1 : Nat) : Int) * c = (m : Int) * c + c by rw [Int.natCast_add, Int.add_mul]; simp]; simp only [sumI]; omega
      have := h1 (n + 1)
      omega
    · have := ih (by omega)
      rw [psum_succ]; simp only [sumI]; omega
theorem cut_eq (xs : List Int) (c : Int) (t n : Nat) (ht : t ≤ n) (h1 : ∀ i, i < t → c ≤ xs.getD i 0) (h2 : ∀ i, t ≤ i → xs.getD i 0 ≤ c) : sumI (fun i => min (xs.getD i 0) c) n = (t : Int) * c + (psum xs n - psum xs t) := by
  induction n with
  | zero => have : t = 0 := by omega
            subst this; simp [sumI]
  | succ n ih =>
    by_cases e : t = n + 1
    · subst e
      have h3 : ∀ m : Nat, m ≤ n + 1 → sumI (fun i => min (xs.getD i 0) c) m = (m : Int) * c := by
        intro m
        induction m with
        | zero => intro _; simp [sumI]
        | succ m ih => intro hm; have := ih (by omega); have := h1 m (by omega); rw [show ((m + 1 : Nat) : Int) * c = (m : Int) * c + c by rw [Int.natCast_add, Int.add_mul]; simp]; simp only [sumI]; omega
      have := h3 (n + 1) (Nat.le_refl _)
      omega
    · have := ih (by omega)
      have := h2 n (by omega)
      rw [psum_succ]; simp only [sumI]; omega
/-- Conjugating turns the order round. -/
theorem Bel.conj {a b : List Int} (h : Bel a b) : Bel (conjL b 6) (conjL a 6) := by
  have ha := h.pa
  have hl := ha.l
  have key : ∀ K, K ≤ 6 → psum (conjL b 6) K ≤ psum (conjL a 6) K := by
    intro K hK
    rw [h.pb.conj_six hK, h.pa.conj_six hK]
    obtain ⟨t, ht⟩ : ∃ t : Nat, cge a (K : Int) = t := ⟨(cge a (K : Int)).toNat, by have := cge_bd a (K : Int); omega⟩
    have htl : t ≤ a.length := by have := cge_bd a (K : Int); omega
    rw [cut_eq a (K : Int) t 6 (by omega) (fun i hi => (ha.cge_iff (by omega)).1 (by omega)) (fun i hi => by
      by_cases e : i < a.length
      · have := ha.cge_iff (c := (K : Int)) e; omega
      · rw [getD_out (by omega)]; omega)]
    have h1 := cut_le b (K : Int) t 6 (by omega)
    have h2 := h.le t
    have h3 := h.s
    omega
  refine .of (below_yes (h.pb.conj (Nat.le_refl _)).valid (ha.conj (Nat.le_refl _)).valid (fun k hk => key k (by omega)) ?_)
  have h1 := h.pb.conj_total (n := 6) (fun i hi => (h.pb.bd i hi).2)
  have h2 := ha.conj_total (n := 6) (fun i hi => (ha.bd i hi).2)
  rw [h1, h2]
  exact h.total.symm
end Go.Proofs.Ytemmfnlnhekclaa

namespace Go.Proofs.Ytemmfnlnhekclaa
set_option maxRecDepth 100000
open Go.RowKit

/-- The numbers of a list from 6 down, each as often as it is there. -/
def srt (xs : List Int) : Nat → List Int
  | 0 => []
  | k + 1 => srt xs k ++ List.replicate (xs.count (6 - (k : Int))) (6 - (k : Int))
def sortL (xs : List Int) : List Int := srt xs 7
theorem srt_congr {xs ys : List Int} (h : ∀ x, xs.count x = ys.count x) (k : Nat) : srt xs k = srt ys k := by
  induction k with
  | zero => rfl
  | succ k ih => simp only [srt]; rw [ih, h]
theorem srt_mem {xs : List Int} {k : Nat} {y : Int} (h : y ∈ srt xs k) : 6 - (k : Int) < y ∧ y ≤ 6 ∧ y ∈ xs := by
  induction k with
  | zero => cases h
  | succ k ih =>
    simp only [srt, List.mem_append, List.mem_replicate] at h
    rcases h with h | ⟨h1, h2⟩
    · have := ih h; exact ⟨by omega, this.2⟩
    · subst h2; exact ⟨by omega, by omega, List.count_pos_iff.1 (by omega)⟩
theorem srt_pair (xs : List Int) (k : Nat) : (srt xs k).Pairwise (fun a b => b ≤ a) := by
  induction k with
  | zero => exact .nil
  | succ k ih =>
    simp only [srt]
    rw [List.pairwise_append]
    refine ⟨ih, List.pairwise_replicate.2 (.inr (Int.le_refl _)), fun a ha b hb => ?_⟩
    have := srt_mem ha
    have := (List.mem_replicate.1 hb).2
    omega
theorem srt_count (xs : List Int) (k : Nat) (y : Int) : (srt xs k).count y = if 6 - (k : Int) < y ∧ y ≤ 6 then xs.count y else 0 := by
  induction k with
  | zero => rw [if_neg (by omega)]; rfl
  | succ k ih =>
    simp only [srt]
    rw [List.count_append, ih, List.count_replicate]
    by_cases e : 6 - (k : Int) = y
    · subst e
      rw [if_neg (by omega), if_pos (by simp), if_pos (by omega), Nat.zero_add]
    · rw [if_neg (show ¬ ((6 - (k : Int) == y) = true) by simpa using e), Nat.add_zero]
      by_cases h : 6 - (k : Int) < y ∧ y ≤ 6
      · rw [if_pos h, if_pos (by omega)]
      · rw [if_neg h, if_neg (by omega)]
theorem allIn_mem {xs : List Int} {lo hi : Int} (h : allIn xs lo hi = true) {x : Int} (hx : x ∈ xs) : lo ≤ x ∧ x ≤ hi := by
  rw [allIn, List.all_eq_true] at h; exact inB_iff.1 (h x hx)
theorem mem_allIn {xs : List Int} {lo hi : Int} (h : ∀ x ∈ xs, lo ≤ x ∧ x ≤ hi) : allIn xs lo hi = true := by
  rw [allIn, List.all_eq_true]; exact fun x hx => inB_iff.2 (h x hx)
theorem el_all {xs : List Int} (h : elB xs = true) : allIn xs 0 6 = true := by
  rw [← el_in (el_parts h).1]; exact h
theorem el_perm {xs ys : List Int} (h : xs.Perm ys) : elB xs = elB ys := by
  rw [Bool.eq_iff_iff]
  have key : ∀ {xs ys : List Int}, xs.Perm ys → elB xs = true → elB ys = true := by
    intro xs ys h e
    rw [el_in (by rw [← h.length_eq]; exact (el_parts e).1)]
    exact mem_allIn fun x hx => allIn_mem (el_all e) (h.mem_iff.2 hx)
  exact ⟨key h, key h.symm⟩
theorem sort_perm {xs : List Int} (h : elB xs = true) : (sortL xs).Perm xs := by
  refine List.perm_iff_count.2 fun y => ?_
  rw [sortL, srt_count]
  by_cases e : 6 - ((7 : Nat) : Int) < y ∧ y ≤ 6
  · rw [if_pos e]
  · rw [if_neg e]
    refine (List.count_eq_zero.2 fun hy => e ?_).symm
    have := allIn_mem (el_all h) hy
    omega
theorem sort_len {xs : List Int} (h : elB xs = true) : (sortL xs).length = xs.length := (sort_perm h).length_eq
theorem sort_unique {xs ys : List Int} (h : elB xs = true) (hp : ys.Perm xs) (hs : ys.Pairwise (fun a b => b ≤ a)) : ys = sortL xs :=
  List.Perm.eq_of_pairwise (le := fun a b => b ≤ a) (fun a b _ _ h1 h2 => by omega) hs (srt_pair xs 7) (hp.trans (sort_perm h).symm)
theorem pair_desc {xs : List Int} (h : xs.Pairwise (fun a b => b ≤ a)) : ∀ i, i + 1 < xs.length → xs.getD (i + 1) 0 ≤ xs.getD i 0 := by
  intro i hi
  rw [getD_elem hi, getD_elem (by omega)]
  exact List.pairwise_iff_getElem.1 h i (i + 1) (by omega) hi (by omega)
theorem sort_par {xs : List Int} (h : elB xs = true) : Par (sortL xs) := by
  have h2 : elB (sortL xs) = true := by rw [el_perm (sort_perm h)]; exact h
  exact ⟨(el_parts h2).1, (el_parts h2).2, pair_desc (srt_pair xs 7)⟩
theorem sort_congr {xs ys : List Int} (h : xs.Perm ys) : sortL xs = sortL ys := srt_congr (fun x => h.count_eq x) 7

theorem sum_shift (f : Nat → Int) (n : Nat) : sumI f (n + 1) = f 0 + sumI (fun i => f (i + 1)) n := by
  induction n with
  | zero => simp only [sumI]; omega
  | succ n ih => rw [show sumI f (n + 1 + 1) = sumI f (n + 1) + f (n + 1) from rfl, ih]; simp only [sumI]; omega
def lsum : List Int → Int
  | [] => 0
  | x :: r => x + lsum r
theorem psum_all (xs : List Int) : psum xs xs.length = lsum xs := by
  induction xs with
  | nil => rfl
  | cons x r ih =>
    unfold psum at *
    rw [List.length_cons, sum_shift]
    simp only [List.getD_cons_zero, List.getD_cons_succ, lsum]
    rw [ih]
theorem lsum_perm {xs ys : List Int} (h : xs.Perm ys) : lsum xs = lsum ys := by
  induction h with
  | nil => rfl
  | cons x _ ih => simp only [lsum]; rw [ih]
  | swap x y l => simp only [lsum]; omega
  | trans _ _ h1 h2 => exact h1.trans h2
theorem psum_perm {xs ys : List Int} (h : xs.Perm ys) : psum xs xs.length = psum ys ys.length := by rw [psum_all, psum_all, lsum_perm h]
/-- How often a number is among the first elements. -/
def ceq (xs : List Int) (x : Int) (k : Nat) : Int := sumI (fun i => if xs.getD i 0 = x then 1 else 0) k
theorem ceq_succ (xs : List Int) (x : Int) (k : Nat) : ceq xs x (k + 1) = ceq xs x k + if xs.getD k 0 = x then 1 else 0 := rfl
theorem ceq_bd (xs : List Int) (x : Int) (k : Nat) : 0 ≤ ceq xs x k ∧ ceq xs x k ≤ k := sum_bd (fun i => by (try dsimp only); split <;> omega) _
theorem ceq_all (xs : List Int) (x : Int) : ceq xs x xs.length = xs.count x := by
  induction xs with
  | nil => rfl
  | cons y r ih =>
    unfold ceq at *
    rw [List.length_cons, sum_shift]
    simp only [List.getD_cons_zero, List.getD_cons_succ]
    rw [ih, List.count_cons]
    by_cases e : y = x
    · subst e; simp; omega
    · rw [if_neg e, if_neg (show ¬ ((y == x) = true) by simpa using e)]; simp
theorem ceq_sort {xs : List Int} (h : elB xs = true) (x : Int) : ceq (sortL xs) x xs.length = ceq xs x xs.length := by
  rw [ceq_all, ← sort_len h, ceq_all, (sort_perm h).count_eq]
theorem count_take {xs : List Int} (x : Int) {k : Nat} (hk : k < xs.length) : (xs.take (k + 1)).count x = (xs.take k).count x + if xs.getD k 0 = x then 1 else 0 := by
  rw [List.take_succ_eq_append_getElem hk, List.count_append, getD_elem hk]
  by_cases e : xs[k] = x
  · rw [if_pos e, e]; simp
  · rw [if_neg e, List.count_singleton, if_neg (by simpa using e)]
theorem rot_perm (xs : List Int) (k : Nat) : (xs.drop k ++ xs.take k).Perm xs := by
  refine List.perm_append_comm.trans ?_
  rw [List.take_append_drop]

/-- What PartOf gives. -/
def partOfL (xs : List Int) : List Int := if elB xs = true then sortL xs else []
theorem partOf_yes {xs : List Int} (h : elB xs = true) : partOfL xs = sortL xs := if_pos h
theorem partOf_no {xs : List Int} (h : elB xs = false) : partOfL xs = [] := by rw [partOfL, h]; rfl
theorem partOf_len (xs : List Int) : (partOfL xs).length ≤ 6 := by
  by_cases h : elB xs = true
  · rw [partOf_yes h]; exact (sort_par h).l
  · rw [partOf_no (by simpa using h)]; simp

/-- What a function that gives a list and a flag leaves. -/
def GivesB (w : World) (L : List Int) (ok : Bool) (e : Ending) (w' : World) : Prop :=
  (∃ a cap, e = .returned (.tuple #[.slice a L.length cap, .bool ok]) ∧ OwnI w' w.heap.size a L.length cap L) ∧ Below w.heap.size w w'
end Go.Proofs.Ytemmfnlnhekclaa

namespace Go.Proofs.Ytemmfnlnhekclaa
set_option maxRecDepth 100000
open Go.RowKit

theorem set_getD {xs : List Int} {k : Nat} {v : Int} (hk : k < xs.length) (i : Nat) : (xs.set k v).getD i 0 = if i = k then v else xs.getD i 0 := by
  by_cases e : i = k
  · subst e; rw [if_pos rfl, getD_elem (by rw [List.length_set]; exact hk), List.getElem_set_self]
  · rw [if_neg e, List.getD, List.getD, List.getElem?_set_ne (by omega)]
/-- 1 is moved from the last element greater than 0 to the first. -/
def moveL (b : List Int) (k : Nat) : List Int := (b.set k (b.getD k 0 - 1)).set 0 (b.getD 0 0 + 1)
theorem move_get {b : List Int} {k : Nat} (hkl : k < b.length) (i : Nat) : (moveL b k).getD i 0 = if i = 0 then b.getD 0 0 + 1 else if i = k then b.getD k 0 - 1 else b.getD i 0 := by
  unfold moveL
  rw [set_getD (by rw [List.length_set]; omega), set_getD hkl]
theorem move_psum {b : List Int} {k : Nat} (hk : 1 ≤ k) (hkl : k < b.length) (m : Nat) : psum (moveL b k) m = psum b m + if 1 ≤ m ∧ m ≤ k then 1 else 0 := by
  induction m with
  | zero => rw [if_neg (by omega)]; rfl
  | succ m ih =>
    rw [psum_succ, psum_succ, ih, move_get hkl]
    by_cases e0 : m = 0
    · subst e0; rw [if_neg (by omega), if_pos rfl, if_pos (by omega)]; omega
    · rw [if_neg e0]
      by_cases ek : m = k
      · subst ek; rw [if_pos (by omega), if_pos rfl, if_neg (by omega)]; omega
      · rw [if_neg ek]
        by_cases h : m ≤ k
        · rw [if_pos (by omega), if_pos (by omega)]; omega
        · rw [if_neg (by omega), if_neg (by omega)]; omega
theorem Par.move {b : List Int} (h : Par b) {k : Nat} (hk : 1 ≤ k) (hkl : k < b.length) (h0 : b.getD 0 0 < 6) (hp : 0 < b.getD k 0) (hz : ∀ i, k < i → b.getD i 0 = 0) : Par (moveL b k) := by
  have hl : (moveL b k).length = b.length := by unfold moveL; rw [List.length_set, List.length_set]
  refine ⟨by rw [hl]; exact h.l, fun i _ => ?_, fun i _ => ?_⟩
  · rw [move_get hkl]
    have h1 := h.bd' 0
    have h2 := h.bd' k
    have h3 := h.bd' i
    split
    · omega
    · split <;> omega
  · rw [move_get hkl, move_get hkl, if_neg (by omega)]
    have h1 := h.de' i
    have h2 := h.bd' (i + 1)
    by_cases e0 : i = 0
    · subst e0
      rw [if_pos rfl]
      by_cases e : 0 + 1 = k
      · rw [if_pos e]; subst e; omega
      · rw [if_neg e]; omega
    · rw [if_neg e0]
      by_cases e1 : i = k
      · subst e1
        rw [if_neg (by omega), if_pos rfl, hz (i + 1) (by omega)]; omega
      · rw [if_neg e1]
        by_cases e : i + 1 = k
        · rw [if_pos e]; subst e; omega
        · rw [if_neg e]; omega
theorem Bel.move {b : List Int} (h : Par b) {k : Nat} (hk : 1 ≤ k) (hkl : k < b.length) (h0 : b.getD 0 0 < 6) (hp : 0 < b.getD k 0) (hz : ∀ i, k < i → b.getD i 0 = 0) : Bel b (moveL b k) :=
  ⟨h, h.move hk hkl h0 hp hz, fun m => by rw [move_psum hk hkl]; split <;> omega, by
    have := h.l
    rw [move_psum hk hkl, if_neg (by omega)]; omega⟩

theorem psum_cons (n : Int) (k : Nat) : psum [n] (k + 1) = n := by
  rw [psum_past (show [n].length ≤ k + 1 by simp)]; simp [psum, sumI]
theorem Par.one {n : Int} (h0 : 0 ≤ n) (h6 : n ≤ 6) : Par [n] :=
  ⟨by simp, fun i hi => by
    have : i = 0 := by simpa using hi
    subst this; exact ⟨h0, h6⟩, fun i hi => absurd hi (by simp)⟩
theorem Bel.steep {a : List Int} (h : Par a) {n : Int} (hn : psum a a.length = n) (h6 : n ≤ 6) : Bel a [n] := by
  have hs : psum a 6 = n := by rw [psum_past h.l]; exact hn
  have h1 := h.psum_bd 6
  refine ⟨h, .one (by omega) h6, fun k => ?_, by rw [psum_cons]; exact hs⟩
  cases k with
  | zero => exact Int.le_refl _
  | succ k =>
    rw [psum_cons]
    by_cases e : 6 ≤ k + 1
    · rw [h.psum_six e]; omega
    · have := h.psum_mono (show k + 1 ≤ 6 by omega); omega
def flatL (n : Nat) : List Int := List.replicate n 1
theorem flat_len (n : Nat) : (flatL n).length = n := List.length_replicate
theorem flat_get {n i : Nat} (h : i < n) : (flatL n).getD i 0 = 1 := by
  rw [getD_elem (by rw [flat_len]; exact h)]; exact List.getElem_replicate ..
theorem flat_snoc (n : Nat) : flatL (n + 1) = flatL n ++ [1] := List.replicate_succ'
theorem Par.flat {n : Nat} (h : n ≤ 6) : Par (flatL n) :=
  ⟨by rw [flat_len]; exact h, fun i hi => by rw [flat_len] at hi; rw [flat_get hi]; omega, fun i hi => by rw [flat_len] at hi; rw [flat_get hi, flat_get (by omega)]; omega⟩
theorem flat_psum (n k : Nat) : psum (flatL n) k = min (k : Int) n := by
  induction k with
  | zero => rw [psum_zero]; omega
  | succ k ih =>
    rw [psum_succ, ih]
    by_cases e : k < n
    · rw [flat_get e]; omega
    · rw [getD_out (by rw [flat_len]; omega)]; omega
theorem Bel.flat {a : List Int} (h : Par a) {n : Nat} (hn : psum a a.length = n) (h6 : n ≤ 6) : Bel (flatL n) a := by
  have hs : psum a 6 = n := by rw [psum_past h.l]; exact hn
  refine ⟨.flat h6, h, fun k => ?_, by rw [flat_psum]; omega⟩
  rw [flat_psum]
  induction k with
  | zero => rw [psum_zero]; omega
  | succ k ih =>
    rw [psum_succ]
    have h1 := h.bd' k
    by_cases e : a.getD k 0 = 0
    · have hz : ∀ i, k ≤ i → a.getD i 0 = 0 := fun i hi => by have := h.mono hi; have := h.bd' i; omega
      have hk : psum a k = n := by
        by_cases e2 : k ≤ 6
        · rw [← hs]; exact (sum_past hz e2).symm
        · rw [h.psum_six (by omega)]; exact hs
      omega
    · omega

/-- How many of the first elements are not 0. -/
def mins (xs : List Int) (k : Nat) : Int := sumI (fun i => min 1 (xs.getD i 0)) k
theorem mins_succ (xs : List Int) (k : Nat) : mins xs (k + 1) = mins xs k + min 1 (xs.getD k 0) := rfl
theorem Par.mins_bd {xs : List Int} (h : Par xs) (k : Nat) : 0 ≤ mins xs k ∧ mins xs k ≤ k := sum_bd (fun i => by have := h.bd' i; (try dsimp only); omega) _
theorem Par.first {xs : List Int} (h : Par xs) : cge xs 1 = mins xs xs.length := sum_ext fun i _ => by have := h.bd' i; split <;> omega
theorem Par.last {xs : List Int} (h : Par xs) {n : Nat} (hn : xs.getD 0 0 ≤ n) : mins (conjL xs n) n = xs.getD 0 0 := by
  have h0 := (h.bd' 0).1
  unfold mins
  by_cases e : xs.length = 0
  · rw [getD_out (by omega)]
    rw [sum_ext (g := fun _ => 0) (fun k hk => by
      rw [conj_get hk]
      have := cge_bd xs ((k : Int) + 1)
      omega), sum_zero]
  · rw [sum_ext (g := fun k => if (k : Int) + 1 ≤ xs.getD 0 0 then 1 else 0) (fun k hk => by
      rw [conj_get hk]
      have h1 := h.cge_iff (c := (k : Int) + 1) (show 0 < xs.length by omega)
      have h2 := cge_bd xs ((k : Int) + 1)
      by_cases e2 : (k : Int) + 1 ≤ xs.getD 0 0
      · rw [if_pos e2]; have := h1.2 e2; omega
      · rw [if_neg e2]; have : ¬ ((0 : Nat) : Int) + 1 ≤ cge xs ((k : Int) + 1) := fun x => e2 (h1.1 x)
        omega), min_sum _ h0]
    omega
end Go.Proofs.Ytemmfnlnhekclaa

namespace Go.Proofs.Ytemmfnlnhekclaa
set_option maxRecDepth 100000
open Go.RowKit

def cmpI (x y : Int) : Int := if x < y then -1 else if y < x then 1 else 0
theorem cmpI_neg {x y : Int} : (cmpI x y < 0) ↔ x < y := by
  unfold cmpI; split
  · simp_all
  · split <;> omega
theorem cmpI_yes {x y : Int} (h : x < y) : decide (cmpI x y < 0) = true := decide_eq_true (cmpI_neg.2 h)
theorem cmpI_no {x y : Int} (h : ¬ x < y) : decide (cmpI x y < 0) = false := decide_eq_false (fun e => h (cmpI_neg.1 e))

end Go.Proofs.Ytemmfnlnhekclaa

namespace Go.Proofs.Ytemmfnlnhekclaa
set_option maxRecDepth 100000
open Go.RowKit

/-- The first numbers do not ascend. -/
def Srt (ys : List Int) (i : Nat) : Prop := ∀ p q, p < q → q < i → ys.getD q 0 ≤ ys.getD p 0
/-- .. but for the one at j, which may be too far behind. -/
def Ins (ys : List Int) (i j : Nat) : Prop := ∀ p q, p < q → q ≤ i → q ≠ j → ys.getD q 0 ≤ ys.getD p 0
theorem ins_start {ys : List Int} {i : Nat} (h : Srt ys i) : Ins ys i i := fun p q hp hq hn => h p q hp (by omega)
theorem ins_zero {ys : List Int} {i : Nat} (h : Ins ys i 0) : Srt ys (i + 1) := fun p q hp hq => h p q hp (by omega) (by omega)
theorem ins_stop {ys : List Int} {i j : Nat} (h : Ins ys i (j + 1)) (hs : ys.getD (j + 1) 0 ≤ ys.getD j 0) : Srt ys (i + 1) := fun p q hp hq => by
  by_cases e : q = j + 1
  · subst e
    by_cases e2 : p = j
    · subst e2; exact hs
    · have := h p j (by omega) (by omega) (by omega); omega
  · exact h p q hp (by omega) e
def swapL (ys : List Int) (j : Nat) : List Int := (ys.set (j + 1) (ys.getD j 0)).set j (ys.getD (j + 1) 0)
theorem set_at {xs : List Int} {k : Nat} {v : Int} (hk : k < xs.length) (i : Nat) : (xs.set k v).getD i 0 = if i = k then v else xs.getD i 0 := by
  by_cases e : i = k
  · subst e; rw [if_pos rfl, getD_elem (by rw [List.length_set]; exact hk), List.getElem_set_self]
  · rw [if_neg e, List.getD, List.getD, List.getElem?_set_ne (by omega)]
theorem swap_get {ys : List Int} {j : Nat} (hj : j + 1 < ys.length) (i : Nat) : (swapL ys j).getD i 0 = if i = j then ys.getD (j + 1) 0 else if i = j + 1 then ys.getD j 0 else ys.getD i 0 := by
  unfold swapL; rw [set_at (by rw [List.length_set]; omega), set_at hj]
theorem swap_perm {ys : List Int} {j : Nat} (hj : j + 1 < ys.length) : (swapL ys j).Perm ys := by
  unfold swapL
  rw [getD_elem hj, getD_elem (show j < ys.length by omega)]
  exact List.set_set_perm (i := j + 1) (j := j) hj (by omega)
theorem swap_comm {ys : List Int} (j : Nat) : (ys.set j (ys.getD (j + 1) 0)).set (j + 1) (ys.getD j 0) = swapL ys j := List.set_comm _ _ (by omega)
theorem swap_ins {ys : List Int} {i j : Nat} (hj : j + 1 < ys.length) (hji : j + 1 ≤ i) (h : Ins ys i (j + 1)) (hs : ys.getD j 0 < ys.getD (j + 1) 0) : Ins (swapL ys j) i j := fun p q hp hq hn => by
  rw [swap_get hj, swap_get hj, if_neg hn]
  by_cases e1 : q = j + 1
  · subst e1
    rw [if_pos rfl]
    by_cases e2 : p = j
    · rw [if_pos e2]; omega
    · rw [if_neg e2, if_neg (by omega)]
      exact h p j (by omega) (by omega) (by omega)
  · rw [if_neg e1]
    by_cases e2 : p = j
    · rw [if_pos e2]; exact h (j + 1) q (by omega) hq e1
    · rw [if_neg e2]
      by_cases e3 : p = j + 1
      · rw [if_pos e3]; exact h j q (by omega) hq e1
      · rw [if_neg e3]; exact h p q hp hq e1
theorem srt_pairwise {ys : List Int} (h : Srt ys ys.length) : ys.Pairwise (fun a b => b ≤ a) := by
  rw [List.pairwise_iff_getElem]
  intro i j hi hj hij
  have := h i j hij hj
  rwa [getD_elem hi, getD_elem hj] at this

/-- What sorting leaves. -/
def Sorts (w : World) (B g n cap : Nat) (xs : List Int) (e : Ending) (w' : World) : Prop :=
  e = .returned (.tuple #[]) ∧ ∃ ys, ys.Perm xs ∧ ys.Pairwise (fun a b => b ≤ a) ∧ OwnI w' B (some ⟨g, 0, none⟩) n cap ys ∧ w.grownBy w' (some g)
theorem grown_drewN {w w' : World} {r : Option Nat} (h : w.grownBy w' r) (n : Nat) : w.grownBy (w'.drewN n) r := ⟨h.os, h.tape, h.output, h.size, h.block⟩

theorem own_swap {w : World} {B g n cap m : Nat} {zs : List Int} {x y : Int} (h : OwnI w B (some ⟨g, 0, none⟩) n cap zs) (hx : zs.getD (m + 1) 0 = x) (hy : zs.getD m 0 = y) : Hid (OwnI ((w.drew.setCell ⟨g, m + 1, none⟩ (.int .i64 y)).setCell ⟨g, m, none⟩ (.int .i64 x)) B (some ⟨g, 0, none⟩) n cap (swapL zs m)) := by
  subst hx hy
  exact ((h.bel ((Below.refl _ _).drew)).set (m + 1) _).set m _
theorem own_swap_grown {w w2 : World} {g m : Nat} {x y : Int} (h : w.grownBy w2 (some g)) : Hid (w.grownBy ((w2.drew.setCell ⟨g, m + 1, none⟩ (.int .i64 y)).setCell ⟨g, m, none⟩ (.int .i64 x)) (some g)) :=
  grown_set (grown_set (grown_drewN h 1))

end Go.Proofs.Ytemmfnlnhekclaa

namespace Go.Proofs.Ytemmfnlnhekclaa
set_option maxRecDepth 100000
open Go.RowKit

end Go.Proofs.Ytemmfnlnhekclaa

namespace Go.Proofs.Ytemmfnlnhekclaa
set_option maxRecDepth 100000
open Go.RowKit

theorem int_eq {a b : Int} (h : a = b) : Value.int .i64 a = .int .i64 b := by rw [h]
/-- A row that the call owns takes one number more: what stays. -/
theorem app_bel {wo w3 : World} {B m c : Nat} {s : Option Addr} {L : List Int} {o : Obj} {v : Value} (hO : OwnI wo B s m c L) (hgr : (wo.alloc o).grownBy w3 (Value.slice s m c).ownBlock) (hv : v = .slice s m c) (hB : B ≤ wo.heap.size) : Below B wo w3 := by
  refine ((Below.refl _ _).alloc hB o).grown hgr (by simp; omega) fun g hg => ?_
  rcases hO.cases with ⟨rfl, _, _⟩ | ⟨g', rfl, h2, _⟩
  · cases hg
  · simp [Value.ownBlock] at hg; omega

theorem one_new (w : World) (v : Int) : ∀ j u, [Value.int .i64 v][j]? = some u → (w.alloc (.cells #[.int .i64 v] 3)).cell? ((⟨w.heap.size, 0, none⟩ : Addr).add j) = some u := by
  intro j u hj
  cases j with
  | zero => simp at hj; subst hj; simp [Addr.add]
  | succ j => simp at hj
theorem one_cell (v : Int) : ∀ u, u ∈ [Value.int .i64 v] → u.oneCell' = true := by
  intro u hu; simp at hu; subst hu; rfl

/-- slices.Clone at no element. -/
theorem clone_zero (a : Option Addr) (cap : Nat) (w : World) :
    Calls Try.prog 88 #[.slice a 0 cap] w fun e w' => (∃ a cap', e = .returned (.slice a 0 cap') ∧ OwnI w' w.heap.size a 0 cap' []) ∧ Below w.heap.size w w' := by
  obtain ⟨i0, hi, hz0, hz1, hz2⟩ := info_parts infoInt
  have hnil := fun wx => Lib.run_eql_slice_nil (P := Try.prog) wx 33 3 a 0 cap 0 0 Try.underlying33
  cases a with
  | none =>
    go_enter Try.func88, Try.ntmps88
    go_wp2
    go_ret
    exact ⟨⟨none, 0, rfl, own_nil _ _⟩, Below.refl _ _⟩
  | some p =>
    go_enter Try.func88, Try.ntmps88
    go_wp2_with (at_builtin; refine wpList_append_own _ rfl _ _ 33 rfl w.heap.size 3 i0 (.int .i64 0) 1 8 Try.underlying33 hi hz0 hz1 hz2 rfl (by decide) _ 0 [] rfl (World.ownsRow_lit w #[] 0 (Nat.le_refl _) (by decide) rfl) p 0 cap [] rfl ?c1 ?c2 ?c3 ?c4 ?c5 ?c6 ?_)
    case c1 => simp
    case c2 => exact fun j u hj => by simp at hj
    case c3 => exact fun u hu => by simp at hu
    case c4 => unfold maxLen; omega
    case c5 => omega
    case c6 => simp
    intro v' w1 hown hgr hnil'
    obtain ⟨a, c, rfl, ho⟩ := own_of (xs := []) (n := 0) (by simpa using hown)
    have bb : Below w.heap.size w w1 := ((Below.refl _ _).alloc (Nat.le_refl _) _).grown hgr (by simp) (fun k hk => by simp [Value.ownBlock] at hk; omega)
    have ho := Lib.hid ho
    clear hown hgr hnil'
    go_wp2
    go_ret
    exact ⟨⟨a, c, rfl, ho.out⟩, bb⟩
end Go.Proofs.Ytemmfnlnhekclaa

namespace Go.Proofs.Ytemmfnlnhekclaa
set_option maxRecDepth 100000
open Go.RowKit

/-- What PartSum gives. -/
def psumOf (xs : List Int) (k : Int) : Int := if partB xs = true ∧ 0 ≤ k then psum xs k.toNat else -1
theorem psumOf_yes {xs : List Int} {k : Int} (h : Par xs) (hk : 0 ≤ k) : psumOf xs k = psum xs k.toNat := if_pos ⟨h.valid, hk⟩
theorem psumOf_inv {xs : List Int} {k : Int} (h : partB xs = false) : psumOf xs k = -1 := if_neg (by rw [h]; simp)
theorem psumOf_neg {xs : List Int} {k : Int} (h : k < 0) : psumOf xs k = -1 := if_neg (by omega)

end Go.Proofs.Ytemmfnlnhekclaa

namespace Go.Proofs.Ytemmfnlnhekclaa
set_option maxRecDepth 100000
open Go.RowKit

/-- How many of the first j elements are at least i + 1. -/
def cjI (xs : List Int) (j i : Nat) : Int := sumI (fun t => if (i : Int) + 1 ≤ xs.getD t 0 then 1 else 0) j
theorem cj_bd (xs : List Int) (j i : Nat) : 0 ≤ cjI xs j i ∧ cjI xs j i ≤ j := sum_bd (fun t => by (try dsimp only); split <;> omega) _
theorem cj_all (xs : List Int) (i : Nat) : cjI xs xs.length i = cge xs ((i : Int) + 1) := rfl
/-- The conjugate while it is made: j elements are counted, and k of the next one. -/
def cjL (xs : List Int) (n j k : Nat) : List Int := rowsL (fun i => cjI xs j i + if i < k then 1 else 0) n
theorem cjL_len (xs : List Int) (n j k : Nat) : (cjL xs n j k).length = n := rows_len _ _
theorem cjL_zero (xs : List Int) (n : Nat) : cjL xs n 0 0 = List.replicate n 0 := by
  rw [← rows_zero]; exact rows_ext fun _ _ => by rw [if_neg (by omega)]; rfl
theorem cjL_get (xs : List Int) {n j k : Nat} (hk : k < n) : (cjL xs n j k).getD k 0 = cjI xs j k := by
  rw [show (cjL xs n j k).getD k 0 = _ from rows_get _ hk, if_neg (by omega)]; omega
theorem cjL_set (xs : List Int) {n j k : Nat} (hk : k < n) : (cjL xs n j k).set k (cjI xs j k + 1) = cjL xs n j (k + 1) :=
  rows_set _ _ hk (by rw [if_pos (by omega)]) fun i _ hne => by
    by_cases e : i < k
    · rw [if_pos (by omega), if_pos e]
    · rw [if_neg (by omega), if_neg e]
theorem cjL_next (xs : List Int) {n j k : Nat} (hk : xs.getD j 0 = k) : cjL xs n j k = cjL xs n (j + 1) 0 := rows_ext fun i _ => by
  rw [show cjI xs (j + 1) i = cjI xs j i + if (i : Int) + 1 ≤ xs.getD j 0 then 1 else 0 from rfl, hk]
  by_cases e : i < k
  · rw [if_pos e, if_pos (by omega), if_neg (by omega)]; omega
  · rw [if_neg e, if_neg (by omega), if_neg (by omega)]; omega
theorem cjL_full (xs : List Int) (n : Nat) : cjL xs n xs.length 0 = conjL xs n := rows_ext fun i _ => by
  rw [if_neg (by omega), cj_all]; omega

end Go.Proofs.Ytemmfnlnhekclaa

namespace Go.Proofs.Ytemmfnlnhekclaa
set_option maxRecDepth 100000
open Go.RowKit

/-- Whether PartConj succeeds, and what it gives. -/
def conjB (xs : List Int) (n : Int) : Bool := partB xs && (inB n 0 6 && allIn xs 0 n)
def conjOf (xs : List Int) (n : Int) : List Int := if conjB xs n = true then conjL xs n.toNat else []
theorem conjB_1 {xs : List Int} {n : Int} (h : partB xs = false) : conjB xs n = false := by rw [conjB, h]; rfl
theorem conjB_2 {xs : List Int} {n : Int} (h : inB n 0 6 = false) : conjB xs n = false := by rw [conjB, h, Bool.false_and, Bool.and_false]
theorem conjB_3 {xs : List Int} {n : Int} (h : allIn xs 0 n = false) : conjB xs n = false := by rw [conjB, h, Bool.and_false, Bool.and_false]
theorem conjB_yes {xs : List Int} {n : Int} (h1 : partB xs = true) (h2 : inB n 0 6 = true) (h3 : allIn xs 0 n = true) : conjB xs n = true := by rw [conjB, h1, h2, h3]; rfl
theorem conjB_parts {xs : List Int} {n : Int} (h : conjB xs n = true) : Par xs ∧ (0 ≤ n ∧ n ≤ 6) ∧ ∀ i, i < xs.length → xs.getD i 0 ≤ n := by
  simp only [conjB, Bool.and_eq_true] at h
  exact ⟨.of h.1, inB_iff.1 h.2.1, fun i hi => (allIn_iff.1 h.2.2 i hi).2⟩
theorem conjOf_yes {xs : List Int} {n : Int} (h : conjB xs n = true) : conjOf xs n = conjL xs n.toNat := if_pos h
theorem conjOf_no {xs : List Int} {n : Int} (h : conjB xs n = false) : conjOf xs n = [] := by rw [conjOf, h]; rfl
theorem conjOf_len (xs : List Int) (n : Int) : (conjOf xs n).length ≤ 6 := by
  by_cases h : conjB xs n = true
  · rw [conjOf_yes h, conj_len]; have := (conjB_parts h).2.1; omega
  · rw [conjOf_no (by simpa using h)]; simp

theorem givesK_B {w w' : World} {n : Nat} {L : List Int} {a : Option Addr} {c : Nat} (hl : L.length = n) (h : OwnI w' w.heap.size a n c L) (hb : Below w.heap.size w w') (ok : Bool) : GivesB w L ok (.returned (.tuple #[.slice a n c, .bool ok])) w' := by
  subst hl; exact ⟨⟨a, c, rfl, h⟩, hb⟩

end Go.Proofs.Ytemmfnlnhekclaa

namespace Go.Proofs.Ytemmfnlnhekclaa
set_option maxRecDepth 100000
open Go.RowKit

/-- A list of the call's own, and the reader, in the middle of a drawing function. -/
structure LR (w wr : World) (r : Nat) (a : Option Addr) (len cap : Nat) (zs : List Int) (p : Nat) (s : Option Addr) (n c : Nat) (xs : List Int) : Prop where
  o : OwnI wr w.heap.size s n c xs
  rd : Rd wr r a len cap zs p
  gr : w.grownBy wr (some r)
  hr : r < w.heap.size
  far : ∀ b off, a = some ⟨b, off, none⟩ → 0 < len → b < w.heap.size
theorem Rd.cut {w wr : World} {r B : Nat} {a : Option Addr} {len cap : Nat} {zs : List Int} {p : Nat} (h : Rd w r a len cap zs p) (hb : Below B w wr) (hr : r < B) (hf : ∀ b off, a = some ⟨b, off, none⟩ → 0 < len → b < B) : Rd wr r a len cap zs p :=
  ⟨(hb.cell (p := ⟨r, 0, none⟩) hr).trans h.c0, (hb.cell (p := ⟨r, 1, none⟩) hr).trans h.c1, fun o => (hb.frozen (p := ⟨r, o, none⟩) hr).trans (h.fz o), h.small, by
    rcases h.bys with h2 | ⟨b, off, e, hc⟩
    · exact .inl h2
    · by_cases h0 : len = 0
      · exact .inl h0
      · exact .inr ⟨b, off, e, fun i hi => ⟨(hb.cell (p := ⟨b, off + i, none⟩) (hf b off e (by omega))).trans (hc i hi).1, (hc i hi).2⟩⟩, h.far⟩
theorem LR.pick {w wr w1 : World} {r : Nat} {a : Option Addr} {len cap : Nat} {zs : List Int} {p p' : Nat} {s : Option Addr} {n c : Nat} {xs : List Int} (h : LR w wr r a len cap zs p s n c xs) (hr : Rd w1 r a len cap zs p') (hg : wr.grownBy w1 (some r)) : LR w w1 r a len cap zs p' s n c xs :=
  ⟨h.o.other hg h.hr, hr, grown_trans h.gr hg, h.hr, h.far⟩
theorem LR.put {w wr w1 : World} {r : Nat} {a : Option Addr} {len cap : Nat} {zs : List Int} {p : Nat} {s s' : Option Addr} {n c n' c' : Nat} {xs xs' : List Int} (h : LR w wr r a len cap zs p s n c xs) (hb : Below w.heap.size wr w1) (ho : OwnI w1 w.heap.size s' n' c' xs') : LR w w1 r a len cap zs p s' n' c' xs' :=
  ⟨ho, h.rd.cut hb h.hr h.far, grown_then h.gr hb, h.hr, h.far⟩
theorem LR.bel {w wr w1 : World} {r : Nat} {a : Option Addr} {len cap : Nat} {zs : List Int} {p : Nat} {s : Option Addr} {n c : Nat} {xs : List Int} (h : LR w wr r a len cap zs p s n c xs) (hb : Below wr.heap.size wr w1) : LR w w1 r a len cap zs p s n c xs :=
  h.put (hb.mono h.gr.size) (h.o.bel hb)
/-- A list of the call's own takes more numbers: what stays. -/
theorem app_belW {w wr w3 : World} {r : Nat} {a : Option Addr} {len cap : Nat} {zs : List Int} {p : Nat} {s : Option Addr} {n c : Nat} {xs : List Int} {o : Obj} (h : LR w wr r a len cap zs p s n c xs) (hgr : (wr.alloc o).grownBy w3 (Value.slice s n c).ownBlock) : Below w.heap.size wr w3 :=
  app_bel h.o hgr rfl h.gr.size
theorem ones_new (w : World) : ∀ j u, [Value.int .i64 1, .int .i64 1, .int .i64 1, .int .i64 1, .int .i64 1, .int .i64 1, .int .i64 1][j]? = some u → (w.alloc (.cells #[.int .i64 1, .int .i64 1, .int .i64 1, .int .i64 1, .int .i64 1, .int .i64 1, .int .i64 1] 3)).cell? ((⟨w.heap.size, 0, none⟩ : Addr).add j) = some u := by
  intro j u hj
  have hj7 : j < 7 := by have := (List.getElem?_eq_some_iff.1 hj).1; simpa using this
  have hc : j = 0 ∨ j = 1 ∨ j = 2 ∨ j = 3 ∨ j = 4 ∨ j = 5 ∨ j = 6 := by omega
  rcases hc with rfl | rfl | rfl | rfl | rfl | rfl | rfl <;> (simp at hj; subst hj; simp [Addr.add])
theorem ones_cell : ∀ u, u ∈ [Value.int .i64 1, .int .i64 1, .int .i64 1, .int .i64 1, .int .i64 1, .int .i64 1, .int .i64 1] → u.oneCell' = true := by
  intro u hu; simp at hu; subst hu; rfl

theorem own_some {w : World} {B n c : Nat} {s : Option Addr} {xs : List Int} (h : OwnI w B s n c xs) (hn : 0 < n) : s ≠ none := by
  rcases h.cases with ⟨_, h0, _⟩ | ⟨g, rfl, _⟩
  · omega
  · simp
/-- What l91List leaves: a slice that is not nil. -/
def DrawsN (w : World) (r : Nat) (a : Option Addr) (len cap : Nat) (zs : List Int) (p m : Nat) (e : Ending) (w' : World) : Prop :=
  ∃ s n c xs p', e = .returned (.slice s n c) ∧ LR w w' r a len cap zs p' s n c xs ∧ p' ≤ p + m ∧ n ≤ 13 ∧ s ≠ none
/-- What l91Part leaves. -/
def DrawsL (w : World) (r : Nat) (a : Option Addr) (len cap : Nat) (zs : List Int) (p m : Nat) (e : Ending) (w' : World) : Prop :=
  ∃ s n c xs p', e = .returned (.slice s n c) ∧ LR w w' r a len cap zs p' s n c xs ∧ p' ≤ p + m ∧ n ≤ 13

end Go.Proofs.Ytemmfnlnhekclaa

namespace Go.Proofs.Ytemmfnlnhekclaa
set_option maxRecDepth 100000
open Go.RowKit

/-- What the drawing functions leave: a list, and a number. -/
def DrawnL (w : World) (e : Ending) (w' : World) : Prop :=
  ∃ (s : Option Addr) (n c : Nat) (xs : List Int), e = .returned (.slice s n c) ∧ OwnI w' w.heap.size s n c xs ∧ n ≤ 13 ∧ s ≠ none ∧ Below w.heap.size w w'
def DrawnLI (w : World) (e : Ending) (w' : World) : Prop :=
  ∃ (s : Option Addr) (n c : Nat) (xs : List Int) (k : Int), e = .returned (.tuple #[.slice s n c, .int .i64 k]) ∧ OwnI w' w.heap.size s n c xs ∧ n ≤ 13 ∧ (-2 ≤ k ∧ k ≤ 9) ∧ Below w.heap.size w w'
def DrawnLL (w : World) (e : Ending) (w' : World) : Prop :=
  ∃ (s : Option Addr) (n c : Nat) (xs : List Int) (s' : Option Addr) (n' c' : Nat) (ys : List Int), e = .returned (.tuple #[.slice s n c, .slice s' n' c']) ∧ Row w' s n xs ∧ Row w' s' n' ys ∧ (n ≤ 13 ∧ n' ≤ 13) ∧ (n ≤ c ∧ n' ≤ c') ∧ Below w.heap.size w w'
theorem Opens.lt {w w1 : World} {a1 : Option Addr} {l1 c1 : Nat} {zs : List Int} (hr : Rd w1 w.heap.size a1 l1 c1 zs 0) : w.heap.size < w1.heap.size ∧ ∀ b off, a1 = some ⟨b, off, none⟩ → 0 < l1 → b < w1.heap.size := by
  refine ⟨block_lt hr.c0, fun b off e hl => ?_⟩
  rcases hr.bys with h0 | ⟨b', off', e', hc⟩
  · omega
  · rw [e] at e'
    simp only [Option.some.injEq, Addr.mk.injEq, and_true] at e'
    obtain ⟨rfl, rfl⟩ := e'
    exact block_lt (hc 0 hl).1

theorem own_news {w : World} {B g n c : Nat} {xs : List Int} (h : OwnI w B (some ⟨g, 0, none⟩) n c xs) : ∀ j u, (xs.map (Value.int .i64))[j]? = some u → w.cell? ((⟨g, 0, none⟩ : Addr).add j) = some u :=
  news_of h.len (fun i hi => by rw [Nat.zero_add]; exact own_cell h hi)

end Go.Proofs.Ytemmfnlnhekclaa

namespace Go.Proofs.Ytemmfnlnhekclaa
set_option maxRecDepth 100000
open Go.RowKit

/-- What a function that gives a list of so many numbers and a flag leaves. -/
def GivesBK (w : World) (k : Nat) (L : List Int) (ok : Bool) (e : Ending) (w' : World) : Prop :=
  (∃ a cap, e = .returned (.tuple #[.slice a k cap, .bool ok]) ∧ OwnI w' w.heap.size a k cap L) ∧ Below w.heap.size w w'
theorem GivesB.k {w w' : World} {L M : List Int} {ok ok' : Bool} {e : Ending} {k : Nat} (h : GivesB w L ok e w') (hM : L = M) (hl : M.length = k) (ho : ok = ok') : GivesBK w k M ok' e w' := by subst hM; subst hl; subst ho; exact h
theorem Row.six {xs : List Int} {w : World} {s : Option Addr} {n : Nat} (hR : Row w s n xs) (hP : Par xs) : n ≤ 6 := by have := hP.l; have := hR.1; omega
theorem sum_el {xs : List Int} (hE : elB xs = true) {T : Int} (hT : psum xs xs.length = T) (s : Option Addr) (n c : Nat) (w : World) (hR : Row w s n xs) :
    Calls Try.prog 30 #[.slice s n c] w fun e w' => e = .returned (.int .i64 T) ∧ Below w.heap.size w w' := by
  have h1 := el_parts hE
  have h2 := hR.1
  subst h2
  exact sumOf_bel s _ c xs w hR h1.1 h1.2 T hT
theorem sum_ok {xs : List Int} (hP : Par xs) {T : Int} (hT : psum xs xs.length = T) (s : Option Addr) (n c : Nat) (w : World) (hR : Row w s n xs) :
    Calls Try.prog 30 #[.slice s n c] w fun e w' => e = .returned (.int .i64 T) ∧ Below w.heap.size w w' := sum_el hP.el hT s n c w hR
end Go.Proofs.Ytemmfnlnhekclaa

namespace Go.Proofs.Ytemmfnlnhekclaa
set_option maxRecDepth 100000
open Go.RowKit

theorem step_append_any {P : Program} {w : World} {ops : Array Oper} {o : Oper} {a : Act} {K : Act → World → Prop} {Q : Exit → Act → World → Prop} {E : Prop} (hgd : o.guard = none) (s x : Operand) (t : TypeId)
    (ho : o.op = .call { callee := .builtin .append, args := #[s, x], argTypes := #[t, t] })
    (base : Nat) (e : TypeId) (i : TypeInfo) (z : Value) (size bytes : Nat) (ht : P.underlying t = some (.slice e)) (hi : P.info? e = some i) (hz : i.zero = some z)
    (hsize : i.size = size) (hby : i.bytes = bytes) (hzs : z.cells.size = size) (hsz : 0 < size)
    (v : Value) (n : Nat) (xs : List Value) (hs : a.eval s = v) (hown : w.ownsRow base e size v n xs)
    (ad : Addr) (m c : Nat) (news : List Value) (hx : a.eval x = .slice (some ad) m c) (hl : news.length = m * size) (hnews : ∀ j u, news[j]? = some u → w.cell? (ad.add j) = some u) (h1 : ∀ u ∈ news, u.oneCell' = true)
    (h63 : n + m ≤ maxLen) (hbytes : (n + m) * bytes ≤ 140737488355328) (hbase : base ≤ w.heap.size)
    (h : ∀ v' w', w'.ownsRow base e size v' (n + m) (xs ++ news) → w.grownBy w' v.ownBlock → K (a.put o.dst v') w') :
    if Region.wanted o (yielded ops a.tmps) = true then Oper.wp P o a w K Q else E := by
  have hw : Region.wanted o (yielded ops a.tmps) = true := by simp [Region.wanted, hgd]
  rw [if_pos hw]
  obtain ⟨v', w', hr, h2, h3, _, _⟩ := run_append_own_at (P := P) w base t o.type e i z size bytes ht hi hz hsize hby hzs hsz v n xs hown ad m c news hl hnews h1 h63 hbytes hbase
  unfold Oper.wp execOp
  simp only [ho, resolve, invoke, builtin, Sem.run_bind, Sem.run_pure, Result.andThen_ok, List.map_toArray, List.map_cons, List.map_nil, hs, hx, hr]
  exact h v' w' h2 h3

/-- The cells of a part of a list. -/
theorem part_news {w : World} {g n k m : Nat} {xs : List Int} (h : ∀ i, i < n → w.cell? ⟨g, i, none⟩ = some (.int .i64 (xs.getD i 0))) (hl : xs.length = n) (hk : k + m ≤ n) :
    ∀ j u, (((xs.drop k).take m).map (Value.int .i64))[j]? = some u → w.cell? ((⟨g, k, none⟩ : Addr).add j) = some u := by
  intro j u hj
  have hjm : j < m := by have := (List.getElem?_eq_some_iff.1 hj).1; simp at this; omega
  have hc := h (k + j) (by omega)
  have e : (((xs.drop k).take m).map (Value.int .i64))[j]? = some (.int .i64 (xs.getD (k + j) 0)) := by
    rw [List.getElem?_map, List.getElem?_take_of_lt hjm, List.getElem?_drop, List.getElem?_eq_getElem (by omega), getD_elem (by omega)]; rfl
  rw [e] at hj
  cases hj
  by_cases e0 : j = 0
  · subst e0; simpa [Addr.add] using hc
  · simpa [Addr.add, e0] using hc
theorem drop_news {w : World} {g n k : Nat} {xs : List Int} (h : ∀ i, i < n → w.cell? ⟨g, i, none⟩ = some (.int .i64 (xs.getD i 0))) (hl : xs.length = n) (hk : k ≤ n) :
    ∀ j u, ((xs.drop k).map (Value.int .i64))[j]? = some u → w.cell? ((⟨g, k, none⟩ : Addr).add j) = some u := by
  have := part_news (k := k) (m := n - k) h hl (by omega)
  rwa [List.take_of_length_le (by rw [List.length_drop]; omega)] at this
theorem take_news {w : World} {g n k : Nat} {xs : List Int} (h : ∀ i, i < n → w.cell? ⟨g, i, none⟩ = some (.int .i64 (xs.getD i 0))) (hl : xs.length = n) (hk : k ≤ n) :
    ∀ j u, ((xs.take k).map (Value.int .i64))[j]? = some u → w.cell? ((⟨g, 0, none⟩ : Addr).add j) = some u := by
  have := part_news (k := 0) (m := k) h hl (by omega)
  rwa [List.drop_zero] at this
theorem no_news {w : World} {a : Addr} {xs : List Int} (i : Nat) (hk : xs.length ≤ i) : ∀ j u, ((xs.drop i).map (Value.int .i64))[j]? = some u → w.cell? (a.add j) = some u := by
  rw [List.drop_of_length_le hk]; intro j u hj; simp at hj
/-- What the first append leaves. -/
theorem app_first {w w1 : World} {v' : Value} {m : Nat} {L : List Int} (ho : w1.ownsRow w.heap.size 3 1 v' (0 + m) ([] ++ L.map (Value.int .i64))) (hg : ((w.alloc (.cells #[] 3)).drew).grownBy w1 (Value.slice (some ⟨w.heap.size, 0, none⟩) 0 0).ownBlock) :
    ∃ a c, v' = .slice a m c ∧ OwnI w1 w.heap.size a m c L ∧ Below w.heap.size w w1 := by
  rw [Nat.zero_add, List.nil_append] at ho
  obtain ⟨a, c, e, h⟩ := own_of ho
  refine ⟨a, c, e, h, (((Below.refl _ _).alloc (Nat.le_refl _) _).drew).grown hg (by simp) fun k hk => ?_⟩
  simp [Value.ownBlock] at hk; omega
theorem app_second {w w1 w2 : World} {v' : Value} {a : Option Addr} {c n m k : Nat} {L M : List Int} (h1 : OwnI w1 w.heap.size a m c L) (hb : Below w.heap.size w w1) (hk : m + k = n)
    (ho : w2.ownsRow w.heap.size 3 1 v' (m + k) (L.map (Value.int .i64) ++ M.map (Value.int .i64))) (hg : w1.grownBy w2 (Value.slice a m c).ownBlock) :
    ∃ a c, v' = .slice a n c ∧ OwnI w2 w.heap.size a n c (L ++ M) ∧ Below w.heap.size w w2 := by
  rw [hk, ← List.map_append] at ho
  obtain ⟨a', c', e, h⟩ := own_of ho
  refine ⟨a', c', e, h, hb.grown hg hb.size fun g hg => ?_⟩
  rcases h1.cases with ⟨rfl, _, _⟩ | ⟨g', rfl, h2, _⟩
  · cases hg
  · simp [Value.ownBlock] at hg; omega
theorem own_drew_lit (w : World) : ((w.alloc (.cells #[] 3)).drew).ownsRow w.heap.size 3 1 (.slice (some ⟨w.heap.size, 0, none⟩) 0 0) 0 [] :=
  (show OwnI _ _ _ _ _ [] from own_empty w w.heap.size w.heap.size rfl (Nat.le_refl _)).bel ((Below.refl _ _).drew)
theorem rot_el {xs : List Int} (h : elB xs = true) (k : Nat) : elB (xs.drop k ++ xs.take k) = true := by rw [el_perm (rot_perm xs k)]; exact h
theorem rot_sort (xs : List Int) (k : Nat) : sortL (xs.drop k ++ xs.take k) = sortL xs := sort_congr (rot_perm xs k)
theorem rot_len {xs : List Int} {n k : Nat} (hl : xs.length = n) : (xs.drop k ++ xs.take k).length = n := by
  rw [(rot_perm xs k).length_eq]; exact hl
theorem sort_total {xs : List Int} (h : elB xs = true) : psum (sortL xs) (sortL xs).length = psum xs xs.length := psum_perm (sort_perm h)
end Go.Proofs.Ytemmfnlnhekclaa
