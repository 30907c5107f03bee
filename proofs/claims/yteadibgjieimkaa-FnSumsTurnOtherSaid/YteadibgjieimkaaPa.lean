/-
  Plain facts on partitions: valid ones, sums, conjugates, the order.
-/
import Derived.Test.YteadibgjieimkaaSe
namespace Go.Proofs.Yteadibgjieimkaa
set_option maxRecDepth 100000
open Go.RowKit

theorem getD_out {xs : List Int} {i : Nat} (h : xs.length ≤ i) : xs.getD i 0 = 0 := by
  rw [List.getD, List.getElem?_eq_none h]; rfl
/-- A list that does not ascend. -/
def descB (xs : List Int) : Bool := decide (∀ i, i < xs.length - 1 → xs.getD (i + 1) 0 ≤ xs.getD i 0)
theorem desc_iff {xs : List Int} : descB xs = true ↔ ∀ i, i + 1 < xs.length → xs.getD (i + 1) 0 ≤ xs.getD i 0 := by
  unfold descB; rw [decide_eq_true_iff]
  exact ⟨fun h i hi => h i (by omega), fun h i hi => h i (by omega)⟩
theorem desc_no {xs : List Int} {i : Nat} (h : i + 1 < xs.length) (h2 : xs.getD i 0 < xs.getD (i + 1) 0) : descB xs = false := by
  rw [Bool.eq_false_iff]; intro e; have := desc_iff.1 e i h; omega
/-- At most six numbers from 0 to 6. -/
def elB (xs : List Int) : Bool := decide (xs.length ≤ 6) && allIn xs 0 6
def partB (xs : List Int) : Bool := elB xs && descB xs
theorem el_len {xs : List Int} (h : 6 < xs.length) : elB xs = false := by
  rw [elB, decide_eq_false (by omega)]; rfl
theorem el_in {xs : List Int} (h : xs.length ≤ 6) : elB xs = allIn xs 0 6 := by
  rw [elB, decide_eq_true h]; rfl
theorem el_parts {xs : List Int} (h : elB xs = true) : xs.length ≤ 6 ∧ ∀ i, i < xs.length → 0 ≤ xs.getD i 0 ∧ xs.getD i 0 ≤ 6 := by
  simp only [elB, Bool.and_eq_true, decide_eq_true_eq] at h
  exact ⟨h.1, allIn_iff.1 h.2⟩
theorem part_el {xs : List Int} (h : elB xs = false) : partB xs = false := by rw [partB, h]; rfl
theorem part_desc {xs : List Int} (h : descB xs = false) : partB xs = false := by rw [partB, h, Bool.and_false]
theorem part_yes {xs : List Int} (h : elB xs = true) (h2 : descB xs = true) : partB xs = true := by rw [partB, h, h2]; rfl
theorem part_of {xs : List Int} (h : descB xs = true) : partB xs = elB xs := by rw [partB, h, Bool.and_true]

structure Par (xs : List Int) : Prop where
  l : xs.length ≤ 6
  bd : ∀ i, i < xs.length → 0 ≤ xs.getD i 0 ∧ xs.getD i 0 ≤ 6
  de : ∀ i, i + 1 < xs.length → xs.getD (i + 1) 0 ≤ xs.getD i 0
theorem Par.of {xs : List Int} (h : partB xs = true) : Par xs := by
  simp only [partB, elB, Bool.and_eq_true, decide_eq_true_eq] at h
  exact ⟨h.1.1, allIn_iff.1 h.1.2, desc_iff.1 h.2⟩
theorem Par.el {xs : List Int} (h : Par xs) : elB xs = true := by
  simp only [elB, Bool.and_eq_true, decide_eq_true_eq]; exact ⟨h.l, allIn_iff.2 h.bd⟩
theorem Par.desc {xs : List Int} (h : Par xs) : descB xs = true := desc_iff.2 h.de
theorem Par.valid {xs : List Int} (h : Par xs) : partB xs = true := part_yes h.el h.desc
theorem Par.bd' {xs : List Int} (h : Par xs) (i : Nat) : 0 ≤ xs.getD i 0 ∧ xs.getD i 0 ≤ 6 := by
  by_cases hi : i < xs.length
  · exact h.bd i hi
  · rw [getD_out (by omega)]; omega
theorem Par.de' {xs : List Int} (h : Par xs) (i : Nat) : xs.getD (i + 1) 0 ≤ xs.getD i 0 := by
  by_cases hi : i + 1 < xs.length
  · exact h.de i hi
  · rw [getD_out (show xs.length ≤ i + 1 by omega)]; exact (h.bd' i).1
theorem anti_mono {f : Nat → Int} (hd : ∀ i, f (i + 1) ≤ f i) {i j : Nat} (hij : i ≤ j) : f j ≤ f i := by
  induction j with
  | zero => have : i = 0 := by omega
            subst this; exact Int.le_refl _
  | succ j ih =>
    by_cases e : i = j + 1
    · subst e; exact Int.le_refl _
    · have := ih (by omega); have := hd j; omega
theorem Par.mono {xs : List Int} (h : Par xs) {i j : Nat} (hij : i ≤ j) : xs.getD j 0 ≤ xs.getD i 0 := anti_mono (f := fun i => xs.getD i 0) h.de' hij

/-- The sum of the first elements. -/
def psum (xs : List Int) (k : Nat) : Int := sumI (fun i => xs.getD i 0) k
theorem psum_succ (xs : List Int) (k : Nat) : psum xs (k + 1) = psum xs k + xs.getD k 0 := rfl
theorem psum_zero (xs : List Int) : psum xs 0 = 0 := rfl
theorem sum_past {f : Nat → Int} {n k : Nat} (h : ∀ i, n ≤ i → f i = 0) (hk : n ≤ k) : sumI f k = sumI f n := by
  induction k with
  | zero => have : n = 0 := by omega
            subst this; rfl
  | succ k ih =>
    by_cases e : n = k + 1
    · subst e; rfl
    · simp only [sumI]; rw [ih (by omega), h k (by omega)]; omega
theorem psum_past {xs : List Int} {k : Nat} (h : xs.length ≤ k) : psum xs k = psum xs xs.length := sum_past (fun _ hi => getD_out hi) h
theorem psum_min (xs : List Int) (k : Nat) : psum xs k = psum xs (min k xs.length) := by
  by_cases h : xs.length ≤ k
  · rw [Nat.min_eq_right h, psum_past h]
  · rw [Nat.min_eq_left (by omega)]
theorem sum_mono {f : Nat → Int} (h : ∀ i, 0 ≤ f i) {k n : Nat} (hk : k ≤ n) : sumI f k ≤ sumI f n := by
  induction n with
  | zero => have : k = 0 := by omega
            subst this; exact Int.le_refl _
  | succ n ih =>
    by_cases e : k = n + 1
    · subst e; exact Int.le_refl _
    · have := ih (by omega); have := h n; simp only [sumI]; omega
theorem sum_le {f g : Nat → Int} {k : Nat} (h : ∀ i, i < k → f i ≤ g i) : sumI f k ≤ sumI g k := by
  induction k with
  | zero => exact Int.le_refl _
  | succ k ih => have := ih fun i hi => h i (by omega); have := h k (by omega); simp only [sumI]; omega
theorem Par.psum_bd {xs : List Int} (h : Par xs) (k : Nat) : 0 ≤ psum xs k ∧ psum xs k ≤ 6 * k := sum_small fun i _ => h.bd' i
theorem Par.psum_mono {xs : List Int} (h : Par xs) {k m : Nat} (hk : k ≤ m) : psum xs k ≤ psum xs m := sum_mono (fun i => (h.bd' i).1) hk
theorem Par.psum_six {xs : List Int} (h : Par xs) {k : Nat} (hk : 6 ≤ k) : psum xs k = psum xs 6 := by
  have := h.l; rw [psum_past (show xs.length ≤ k by omega), psum_past h.l]
theorem Par.psum_36 {xs : List Int} (h : Par xs) (k : Nat) : 0 ≤ psum xs k ∧ psum xs k ≤ 36 := by
  have h1 := h.psum_bd k
  have h2 := h.psum_bd 6
  by_cases e : 6 ≤ k
  · have := h.psum_six e; omega
  · omega

theorem anti_iff {f : Nat → Int} (h01 : ∀ i, f i = 0 ∨ f i = 1) (hd : ∀ i, f (i + 1) ≤ f i) {n i : Nat} (hi : i < n) : (i : Int) + 1 ≤ sumI f n ↔ f i = 1 := by
  constructor
  · intro hs
    rcases h01 i with e | e
    · exfalso
      have h1 := sum_past (f := f) (n := i) (k := n) (fun j hj => by have := anti_mono hd hj; have := h01 j; omega) (by omega)
      have h2 : sumI f i ≤ i := (sum_bd (fun j => by have := h01 j; omega) i).2
      omega
    · exact e
  · intro e
    have h1 : ∀ k : Nat, k ≤ i + 1 → sumI f k = k := by
      intro k
      induction k with
      | zero => intro _; rfl
      | succ k ih =>
        intro hk
        have h2 := ih (by omega)
        have h3 := anti_mono hd (show k ≤ i by omega)
        have h4 := h01 k
        simp only [sumI]; omega
    have h2 := h1 (i + 1) (Nat.le_refl _)
    have h3 := sum_mono (f := f) (fun j => by have := h01 j; omega) (show i + 1 ≤ n by omega)
    omega

/-- How many elements are at least c. -/
def cge (xs : List Int) (c : Int) : Int := sumI (fun i => if c ≤ xs.getD i 0 then 1 else 0) xs.length
/-- The conjugate. -/
def conjL (xs : List Int) (n : Nat) : List Int := rowsL (fun k => cge xs ((k : Int) + 1)) n
theorem conj_len (xs : List Int) (n : Nat) : (conjL xs n).length = n := rows_len _ _
theorem conj_get {xs : List Int} {n k : Nat} (hk : k < n) : (conjL xs n).getD k 0 = cge xs ((k : Int) + 1) := rows_get (fun k => cge xs ((k : Int) + 1)) hk
theorem cge_bd (xs : List Int) (c : Int) : 0 ≤ cge xs c ∧ cge xs c ≤ xs.length := sum_bd (fun i => by (try dsimp only); split <;> omega) _
theorem cge_anti {xs : List Int} {c d : Int} (h : c ≤ d) : cge xs d ≤ cge xs c := sum_le fun i _ => by (try dsimp only); split <;> split <;> omega
theorem Par.cge_iff {xs : List Int} (h : Par xs) {c : Int} {i : Nat} (hi : i < xs.length) : (i : Int) + 1 ≤ cge xs c ↔ c ≤ xs.getD i 0 := by
  unfold cge
  rw [anti_iff (fun i => by (try dsimp only); split <;> simp) (fun i => by have := h.de' i; (try dsimp only); split <;> split <;> omega) hi]
  split <;> simp_all
theorem Par.conj {xs : List Int} (h : Par xs) {n : Nat} (hn : n ≤ 6) : Par (conjL xs n) := by
  have hl := h.l
  refine ⟨by rw [conj_len]; exact hn, fun i hi => ?_, fun i hi => ?_⟩
  · rw [conj_len] at hi; rw [conj_get hi]; have := cge_bd xs ((i : Int) + 1); omega
  · rw [conj_len] at hi; rw [conj_get hi, conj_get (by omega)]; exact cge_anti (by omega)
theorem min_sum (x : Int) (h : 0 ≤ x) (K : Nat) : sumI (fun k => if (k : Int) + 1 ≤ x then 1 else 0) K = min x K := by
  induction K with
  | zero => simp only [sumI]; omega
  | succ K ih => simp only [sumI]; rw [ih]; split <;> omega
theorem conj_psum {xs : List Int} (h0 : ∀ i, 0 ≤ xs.getD i 0) {n K : Nat} (hK : K ≤ n) : psum (conjL xs n) K = sumI (fun i => min (xs.getD i 0) K) xs.length := by
  unfold psum
  rw [sum_ext (g := fun k => cge xs ((k : Int) + 1)) (fun k hk => conj_get (by omega))]
  unfold cge
  rw [sum_swap (fun k i => if ((k : Nat) : Int) + 1 ≤ xs.getD i 0 then (1 : Int) else 0) K xs.length]
  exact sum_ext fun i _ => min_sum _ (h0 i) K
theorem Par.conj_six {xs : List Int} (h : Par xs) {n K : Nat} (hK : K ≤ n) : psum (conjL xs n) K = sumI (fun i => min (xs.getD i 0) K) 6 := by
  rw [conj_psum (fun i => (h.bd' i).1) hK]
  exact (sum_past (fun i hi => by (try dsimp only); rw [getD_out hi]; omega) h.l).symm
/-- A conjugate has the same sum. -/
theorem Par.conj_total {xs : List Int} (h : Par xs) {n : Nat} (hb : ∀ i, i < xs.length → xs.getD i 0 ≤ n) : psum (conjL xs n) n = psum xs xs.length := by
  rw [conj_psum (fun i => (h.bd' i).1) (Nat.le_refl _)]
  exact sum_ext fun i hi => by have := hb i hi; omega
/-- Conjugating twice changes nothing. -/
theorem Par.conj_conj {xs : List Int} (h : Par xs) {n : Nat} (hb : ∀ i, i < xs.length → xs.getD i 0 ≤ n) : conjL (conjL xs n) xs.length = xs := by
  refine lists_ext (conj_len _ _) rfl fun i hi => ?_
  rw [conj_get hi]
  have h1 := (h.bd i hi).1
  have h2 := hb i hi
  unfold cge
  rw [conj_len, sum_ext (g := fun k => if (k : Int) + 1 ≤ xs.getD i 0 then 1 else 0) (fun k hk => by
    rw [conj_get hk]
    have := h.cge_iff (c := (k : Int) + 1) hi
    by_cases e : (k : Int) + 1 ≤ xs.getD i 0
    · rw [if_pos e, if_pos (this.2 e)]
    · rw [if_neg e, if_neg (fun x => e (this.1 x))]), min_sum _ h1]
  omega

def leB (a b : List Int) : Bool := (List.range 7).all fun k => decide (psum a k ≤ psum b k)
theorem leB_iff {a b : List Int} : leB a b = true ↔ ∀ k, k < 7 → psum a k ≤ psum b k := by simp [leB]
/-- The first sums are equal. -/
def eqB (a b : List Int) (m : Nat) : Bool := (List.range m).all fun k => decide (psum a k = psum b k)
theorem eqB_iff {a b : List Int} {m : Nat} : eqB a b m = true ↔ ∀ k, k < m → psum a k = psum b k := by simp [eqB]
theorem eqB_succ (a b : List Int) (m : Nat) : eqB a b (m + 1) = (eqB a b m && decide (psum a m = psum b m)) := by
  unfold eqB; rw [List.range_succ, List.all_append]; simp
/-- The order. -/
def belowB (a b : List Int) : Bool := partB a && (partB b && (leB a b && decide (psum a 6 = psum b 6)))
theorem below_a {a b : List Int} (h : partB a = false) : belowB a b = false := by rw [belowB, h]; rfl
theorem below_b {a b : List Int} (h : partB b = false) : belowB a b = false := by rw [belowB, h, Bool.false_and, Bool.and_false]
theorem below_k {a b : List Int} {k : Nat} (hk : k < 7) (h : psum b k < psum a k) : belowB a b = false := by
  have : leB a b = false := by rw [Bool.eq_false_iff]; intro e; have := leB_iff.1 e k hk; omega
  rw [belowB, this, Bool.false_and, Bool.and_false, Bool.and_false]
theorem below_s {a b : List Int} (h : psum a 6 ≠ psum b 6) : belowB a b = false := by
  rw [belowB, decide_eq_false h, Bool.and_false, Bool.and_false, Bool.and_false]
theorem below_yes {a b : List Int} (ha : partB a = true) (hb : partB b = true) (h : ∀ k, k < 6 → psum a k ≤ psum b k) (h6 : psum a 6 = psum b 6) : belowB a b = true := by
  rw [belowB, ha, hb, leB_iff.2 (fun k hk => by
    by_cases e : k = 6
    · subst e; omega
    · exact h k (by omega)), decide_eq_true h6]; rfl
structure Bel (a b : List Int) : Prop where
  pa : Par a
  pb : Par b
  le : ∀ k, psum a k ≤ psum b k
  s : psum a 6 = psum b 6
theorem Bel.of {a b : List Int} (h : belowB a b = true) : Bel a b := by
  simp only [belowB, Bool.and_eq_true, decide_eq_true_eq] at h
  obtain ⟨h1, h2, h3, h4⟩ := h
  have h3 := leB_iff.1 h3
  refine ⟨.of h1, .of h2, fun k => ?_, h4⟩
  by_cases e : 6 ≤ k
  · rw [(Par.of h1).psum_six e, (Par.of h2).psum_six e]; omega
  · exact h3 k (by omega)
theorem Bel.yes {a b : List Int} (h : Bel a b) : belowB a b = true := below_yes h.pa.valid h.pb.valid (fun k _ => h.le k) h.s
theorem Bel.refl {a : List Int} (h : Par a) : Bel a a := ⟨h, h, fun _ => Int.le_refl _, rfl⟩
theorem Bel.trans {a b c : List Int} (h : Bel a b) (h' : Bel b c) : Bel a c := ⟨h.pa, h'.pb, fun k => by have := h.le k; have := h'.le k; omega, h.s.trans h'.s⟩
theorem Bel.total {a b : List Int} (h : Bel a b) : psum a a.length = psum b b.length := by
  rw [← psum_past h.pa.l, ← psum_past h.pb.l]; exact h.s
/-- Both ways only if all sums are equal. -/
theorem Bel.back {a b : List Int} (h : Bel a b) : belowB b a = eqB a b 7 := by
  rw [Bool.eq_iff_iff, eqB_iff]
  constructor
  · intro e k _
    have h1 := h.le k
    have h2 := (Bel.of e).le k
    omega
  · intro e
    exact below_yes h.pb.valid h.pa.valid (fun k hk => by have := e k (by omega); omega) h.s.symm

theorem cut_le (xs : List Int) (c : Int) (t n : Nat) (ht : t ≤ n) : sumI (fun i => min (xs.getD i 0) c) n ≤ (t : Int) * c + (psum xs n - psum xs t) := by
  induction n with
  | zero => have : t = 0 := by omega
            subst this; simp [sumI]
  | succ n ih =>
    by_cases e : t = n + 1
    · subst e
      have h1 : ∀ m : Nat, sumI (fun i => min (xs.getD i 0) c) m ≤ (m : Int) * c := by
        intro m
        induction m with
        | zero => simp [sumI]
        | succ m ih => rw [show ((m + 1 : Nat) : Int) * c = (m : Int) * c + c by rw [Int.natCast_add, Int.add_mul]; simp]; simp only [sumI]; omega
      have := h1 (n + 1)
      omega
    · have := ih (by omega)
      rw [psum_succ]; simp only [sumI]; omega
theorem cut_eq (xs : List Int) (c : Int) (t n : Nat) (ht : t ≤ n) (h1 : ∀ i, i < t → c ≤ xs.getD i 0) (h2 : ∀ i, t ≤ i → xs.getD i 0 ≤ c) : sumI (fun i => min (xs.getD i 0) c) n = (t : Int) * c + (psum xs n - psum xs t) := by
  induction n with
  | zero => have : t = 0 := by omega
            subst this; simp [sumI]
  | succ n ih =>
    by_cases e : t = n + 1
    · subst e
      have h3 : ∀ m : Nat, m ≤ n + 1 → sumI (fun i => min (xs.getD i 0) c) m = (m : Int) * c := by
        intro m
        induction m with
        | zero => intro _; simp [sumI]
        | succ m ih => intro hm; have := ih (by omega); have := h1 m (by omega); rw [show ((m + 1 : Nat) : Int) * c = (m : Int) * c + c by rw [Int.natCast_add, Int.add_mul]; simp]; simp only [sumI]; omega
      have := h3 (n + 1) (Nat.le_refl _)
      omega
    · have := ih (by omega)
      have := h2 n (by omega)
      rw [psum_succ]; simp only [sumI]; omega
/-- Conjugating turns the order round. -/
theorem Bel.conj {a b : List Int} (h : Bel a b) : Bel (conjL b 6) (conjL a 6) := by
  have ha := h.pa
  have hl := ha.l
  have key : ∀ K, K ≤ 6 → psum (conjL b 6) K ≤ psum (conjL a 6) K := by
    intro K hK
    rw [h.pb.conj_six hK, h.pa.conj_six hK]
    obtain ⟨t, ht⟩ : ∃ t : Nat, cge a (K : Int) = t := ⟨(cge a (K : Int)).toNat, by have := cge_bd a (K : Int); omega⟩
    have htl : t ≤ a.length := by have := cge_bd a (K : Int); omega
    rw [cut_eq a (K : Int) t 6 (by omega) (fun i hi => (ha.cge_iff (by omega)).1 (by omega)) (fun i hi => by
      by_cases e : i < a.length
      · have := ha.cge_iff (c := (K : Int)) e; omega
      · rw [getD_out (by omega)]; omega)]
    have h1 := cut_le b (K : Int) t 6 (by omega)
    have h2 := h.le t
    have h3 := h.s
    omega
  refine .of (below_yes (h.pb.conj (Nat.le_refl _)).valid (ha.conj (Nat.le_refl _)).valid (fun k hk => key k (by omega)) ?_)
  have h1 := h.pb.conj_total (n := 6) (fun i hi => (h.pb.bd i hi).2)
  have h2 := ha.conj_total (n := 6) (fun i hi => (ha.bd i hi).2)
  rw [h1, h2]
  exact h.total.symm
end Go.Proofs.Yteadibgjieimkaa

