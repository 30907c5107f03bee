/-
  Plain facts on building: greedy choice, what is left to come, the cells of an image, consistent sums come to nothing.
  Plain facts on a heap of lines: pairs of an index and of what is to come.
  A heap of lines in memory: a box with a slice of pairs; what changes off two blocks: nothing.
-/
import Derived.Test.YtemmfnlnhekclaaCa

namespace Go.Proofs.Ytemmfnlnhekclaa
set_option maxRecDepth 100000
open Go.RowKit

/-- The line k comes ahead of the line i. -/
def bet (f : Nat → Int) (k i : Nat) : Prop := f i < f k ∨ (f k = f i ∧ k < i)
instance (f : Nat → Int) (k i : Nat) : Decidable (bet f k i) := by unfold bet; exact inferInstance
theorem bet_irr {f : Nat → Int} {k : Nat} : ¬ bet f k k := by unfold bet; omega
theorem bet_trans {f : Nat → Int} {a b c : Nat} (h : bet f a b) (h' : bet f b c) : bet f a c := by unfold bet at *; omega
theorem bet_total {f : Nat → Int} {a b : Nat} (h : a ≠ b) : bet f a b ∨ bet f b a := by unfold bet; omega
/-- How many lines come ahead of the line i. -/
def aheadI (f : Nat → Int) (n i : Nat) : Int := sumI (fun k => if bet f k i then 1 else 0) n
theorem ahead_bd (f : Nat → Int) (n i : Nat) : 0 ≤ aheadI f n i ∧ aheadI f n i ≤ n := sum_bd (fun k => by (try dsimp only); split <;> omega) _
theorem ahead_lt {f : Nat → Int} {n k i : Nat} (hk : k < n) (h : bet f k i) : aheadI f n k < aheadI f n i := by
  have h1 : sumI (fun m => if bet f m k ∨ m = k then (1 : Int) else 0) n = aheadI f n k + 1 :=
    sum_one hk (by simp [bet_irr]) fun m _ hne => by simp [hne]
  have h2 : sumI (fun m => if bet f m k ∨ m = k then (1 : Int) else 0) n ≤ aheadI f n i := sum_le fun m _ => by
    (try dsimp only)
    by_cases e : bet f m k ∨ m = k
    · have : bet f m i := by
        rcases e with e | rfl
        · exact bet_trans e h
        · exact h
      rw [if_pos e, if_pos this]; exact Int.le_refl _
    · rw [if_neg e]; split <;> omega
  omega
theorem ahead_inj {f : Nat → Int} {n k i : Nat} (hk : k < n) (hi : i < n) (h : aheadI f n k = aheadI f n i) : k = i := by
  by_cases e : k = i
  · exact e
  rcases bet_total (f := f) e with b | b
  · have := ahead_lt hk b; omega
  · have := ahead_lt hi b; omega
theorem bet_of_ahead {f : Nat → Int} {n k i : Nat} (hi : i < n) (h : aheadI f n k < aheadI f n i) : bet f k i := by
  rcases bet_total (f := f) (a := k) (b := i) (by rintro rfl; omega) with b | b
  · exact b
  · have := ahead_lt hi b; omega

/-- The lines that are chosen: those with fewer than c lines ahead. -/
def chB (f : Nat → Int) (n : Nat) (c : Int) (i : Nat) : Bool := decide (aheadI f n i < c)
def chI (f : Nat → Int) (n : Nat) (c : Int) (i : Nat) : Int := if chB f n c i = true then 1 else 0
theorem chB_iff {f : Nat → Int} {n i : Nat} {c : Int} : chB f n c i = true ↔ aheadI f n i < c := decide_eq_true_iff
theorem chI_01 (f : Nat → Int) (n : Nat) (c : Int) (i : Nat) : 0 ≤ chI f n c i ∧ chI f n c i ≤ 1 := by unfold chI; split <;> omega
theorem ch_bet {f : Nat → Int} {n i k : Nat} {c : Int} (hk : k < n) (h : chB f n c i = true) (h2 : ¬ chB f n c k = true) : bet f i k := by
  rw [chB_iff] at h h2
  exact bet_of_ahead hk (by omega)

/-- The line i is the best one of those not used. -/
def Best (f : Nat → Int) (n : Nat) (u : Nat → Bool) (i : Nat) : Prop := i < n ∧ u i = false ∧ ∀ k, k < n → u k = false → k = i ∨ bet f i k
theorem best_ex {f : Nat → Int} {n : Nat} {u : Nat → Bool} {k0 : Nat} (h : k0 < n) (h0 : u k0 = false) : ∃ i, Best f n u i := by
  induction n generalizing k0 with
  | zero => omega
  | succ n ih =>
    by_cases hex : ∃ k, k < n ∧ u k = false
    · obtain ⟨k, hk, hu⟩ := hex
      obtain ⟨i, hi, hui, hb⟩ := ih hk hu
      by_cases hn : u n = false ∧ bet f n i
      · refine ⟨n, by omega, hn.1, fun m hm hum => ?_⟩
        by_cases e : m = n
        · left; exact e
        · right
          rcases hb m (by omega) hum with rfl | b
          · exact hn.2
          · exact bet_trans hn.2 b
      · refine ⟨i, by omega, hui, fun m hm hum => ?_⟩
        by_cases e : m = n
        · subst e
          right
          rcases bet_total (f := f) (a := m) (b := i) (by omega) with b | b
          · exact absurd ⟨hum, b⟩ hn
          · exact b
        · exact hb m (by omega) hum
    · have : k0 = n := by
        by_cases e : k0 < n
        · exact absurd ⟨k0, e, h0⟩ hex
        · omega
      subst this
      refine ⟨k0, by omega, h0, fun m hm hum => ?_⟩
      left
      by_cases e : m < k0
      · exact absurd ⟨m, e, hum⟩ hex
      · omega
theorem Best.eq {f : Nat → Int} {n : Nat} {u : Nat → Bool} {i k : Nat} (h : Best f n u i) (h' : Best f n u k) : i = k := by
  rcases h.2.2 k h'.1 h'.2.1 with e | b
  · exact e.symm
  · rcases h'.2.2 i h.1 h.2.1 with e | b'
    · exact e
    · exact absurd (bet_trans b b') bet_irr

/-- m lines are used: those with fewer than m ahead. -/
structure Used (f : Nat → Int) (n : Nat) (u : Nat → Bool) (m : Nat) : Prop where
  iff : ∀ k, k < n → (u k = true ↔ aheadI f n k < m)
  cnt : sumI (fun k => if u k = true then 1 else 0) n = m
theorem Used.best {f : Nat → Int} {n m i : Nat} {u : Nat → Bool} (h : Used f n u m) (hb : Best f n u i) : aheadI f n i = m := by
  obtain ⟨hi, hui, hb⟩ := hb
  rw [← h.cnt]
  refine sum_ext fun k hk => ?_
  by_cases e : u k = true
  · have h1 := (h.iff k hk).1 e
    have h2 : ¬ aheadI f n i < m := fun hh => by rw [(h.iff i hi).2 hh] at hui; cases hui
    have h3 : bet f k i := bet_of_ahead (f := f) (n := n) hi (by omega)
    rw [if_pos e, if_pos h3]
  · rw [if_neg e, if_neg]
    intro b
    rcases hb k hk (by simpa using e) with rfl | b2
    · exact bet_irr b
    · exact bet_irr (bet_trans b b2)
theorem Used.next {f : Nat → Int} {n m i : Nat} {u v : Nat → Bool} (h : Used f n u m) (hb : Best f n u i) (hv : ∀ k, k < n → v k = (u k || decide (k = i))) : Used f n v (m + 1) := by
  have ha := h.best hb
  obtain ⟨hi, hui, _⟩ := hb
  refine ⟨fun k hk => ?_, ?_⟩
  · rw [hv k hk, Bool.or_eq_true, decide_eq_true_iff, h.iff k hk]
    constructor
    · rintro (e | rfl) <;> omega
    · intro e
      by_cases e2 : aheadI f n k < m
      · left; exact e2
      · right; exact ahead_inj (f := f) (n := n) hk hi (by omega)
  · have h1 := h.cnt
    have h2 : sumI (fun k => if v k = true then (1 : Int) else 0) n = sumI (fun k => if u k = true then (1 : Int) else 0) n + 1 :=
      sum_one hi (by simp [hv i hi, hui]) fun k hk hne => by simp [hv k hk, hne]
    omega
theorem Used.zero {f : Nat → Int} {n : Nat} {u : Nat → Bool} (h : ∀ k, k < n → u k = false) : Used f n u 0 := by
  refine ⟨fun k hk => ?_, ?_⟩
  · have := ahead_bd f n k
    rw [h k hk]; simp; omega
  · rw [sum_ext (g := fun _ => 0) (fun k hk => by simp [h k hk]), sum_zero]; rfl
theorem Used.left {f : Nat → Int} {n m : Nat} {u : Nat → Bool} (h : Used f n u m) (hm : m < n) : ∃ k, k < n ∧ u k = false := by
  by_cases e : ∃ k, k < n ∧ u k = false
  · exact e
  exfalso
  have h1 := h.cnt
  rw [sum_ext (g := fun _ => 1) (fun k hk => by
    have : u k = true := by
      cases hu : u k with
      | true => rfl
      | false => exact absurd ⟨k, hk, hu⟩ e
    rw [if_pos this]), sum_const] at h1
  omega
theorem Used.ch {f : Nat → Int} {n m k : Nat} {u : Nat → Bool} (h : Used f n u m) (hk : k < n) : u k = chB f n m k := by
  refine Bool.eq_iff_iff.2 ?_
  rw [h.iff k hk, chB_iff]
theorem ch_used {f : Nat → Int} {n m : Nat} (h : m ≤ n) : Used f n (chB f n m) m := by
  have : ∃ u, Used f n u m := by
    induction m with
    | zero => exact ⟨fun _ => false, Used.zero fun _ _ => rfl⟩
    | succ m ih =>
      obtain ⟨u, hu⟩ := ih (by omega)
      obtain ⟨k, hk, h0⟩ := hu.left (by omega)
      obtain ⟨i, hi⟩ := best_ex (f := f) hk h0
      exact ⟨fun k => u k || decide (k = i), hu.next hi fun _ _ => rfl⟩
  obtain ⟨u, hu⟩ := this
  refine ⟨fun k _ => chB_iff, ?_⟩
  refine Eq.trans (sum_ext fun k hk => ?_) hu.cnt
  rw [hu.ch hk]
theorem ch_cnt {f : Nat → Int} {n : Nat} {c : Int} (h0 : 0 ≤ c) (h : c ≤ n) : sumI (chI f n c) n = c := by
  obtain ⟨m, rfl⟩ := Int.eq_ofNat_of_zero_le h0
  exact (ch_used (f := f) (by omega)).cnt

theorem sum_take (f g : Nat → Int) (k : Nat) : sumI (fun i => f i - g i) k = sumI f k - sumI g k := by
  have := sum_add (fun i => f i - g i) g k
  rw [sum_ext (g := f) (fun i _ => by omega)] at this
  omega
/-- What is left to come in the lines across. -/
def leftI (f : Nat → Int) (n : Nat) (ys : List Int) : Nat → Nat → Int
  | 0 => f
  | j + 1 => fun i => leftI f n ys j i - chI (leftI f n ys j) n (ys.getD j 0) i
/-- The cell of the line j and the line i across is set. -/
def bcB (f : Nat → Int) (n : Nat) (ys : List Int) (i j : Nat) : Bool := chB (leftI f n ys j) n (ys.getD j 0) i

/-- Enough is left in the lines across. -/
def GR (f : Nat → Int) (n : Nat) (ys : List Int) : Prop := (∀ i, i < n → 0 ≤ f i) ∧ sumI f n = lsum ys ∧ ∀ S : List Int, S.Sublist ys → lsum S ≤ sumI (fun i => min (f i) S.length) n
theorem gr_min {f : Nat → Int} {n : Nat} {c : Int} (h0 : 0 ≤ c) (h : c ≤ n) (s : Int) :
    ((∀ i, i < n → chB f n c i = true → s < f i) ∧ sumI (fun i => min (f i - chI f n c i) s) n = sumI (fun i => min (f i) s) n) ∨
    ((∃ i, i < n ∧ chB f n c i = true ∧ f i ≤ s) ∧ sumI (fun i => min (f i - chI f n c i) s) n + c = sumI (fun i => min (f i) (s + 1)) n) := by
  by_cases e : ∃ i, i < n ∧ chB f n c i = true ∧ f i ≤ s
  · right
    refine ⟨e, ?_⟩
    obtain ⟨i0, hi0, hc0, hf0⟩ := e
    have h1 := ch_cnt (f := f) h0 h
    have h2 := sum_add (fun i => min (f i - chI f n c i) s) (chI f n c) n
    rw [h1] at h2
    rw [← h2]
    refine sum_ext fun i hi => ?_
    by_cases hc : chB f n c i = true
    · have : chI f n c i = 1 := if_pos hc
      rw [this]; omega
    · have h3 : chI f n c i = 0 := if_neg hc
      have h4 := ch_bet hi hc0 hc
      unfold bet at h4
      rw [h3]; omega
  · left
    have e' : ∀ i, i < n → chB f n c i = true → s < f i := fun i hi hc => by
      by_cases h3 : s < f i
      · exact h3
      · exact absurd ⟨i, hi, hc, by omega⟩ e
    refine ⟨e', sum_ext fun i hi => ?_⟩
    by_cases hc : chB f n c i = true
    · have h1 : chI f n c i = 1 := if_pos hc
      have := e' i hi hc
      rw [h1]; omega
    · have h1 : chI f n c i = 0 := if_neg hc
      rw [h1]; omega
theorem GR.step {f : Nat → Int} {n : Nat} {c : Int} {ys : List Int} (h : GR f n (c :: ys)) (h0 : 0 ≤ c) (hc : c ≤ n) : GR (fun i => f i - chI f n c i) n ys := by
  obtain ⟨hn, ht, hs⟩ := h
  refine ⟨fun i hi => ?_, ?_, fun S hS => ?_⟩
  · show 0 ≤ f i - chI f n c i
    have h1 := chI_01 f n c i
    have h2 := hn i hi
    by_cases e : f i - chI f n c i < 0
    · exfalso
      have hci : chB f n c i = true := by
        by_cases hh : chB f n c i = true
        · exact hh
        · have : chI f n c i = 0 := if_neg hh
          omega
      have h3 : lsum [c] ≤ _ := hs [c] (by simp)
      rcases gr_min (f := f) h0 hc 0 with ⟨a, _⟩ | ⟨_, a⟩
      · have := a i hi hci; omega
      · have h4 : sumI (fun k => if k = i then (-1 : Int) else 0) n = sumI (fun _ => 0) n + -1 := sum_one hi (by simp) fun k _ hne => by simp [hne]
        rw [sum_zero] at h4
        have h5 : sumI (fun i => min (f i - chI f n c i) 0) n ≤ sumI (fun k => if k = i then (-1 : Int) else 0) n := sum_le fun k _ => by
          (try dsimp only)
          by_cases ek : k = i
          · subst ek; rw [if_pos rfl]; omega
          · rw [if_neg ek]; omega
        simp only [lsum, List.length_singleton, Int.natCast_one] at h3
        rw [show (0 : Int) + 1 = 1 from rfl] at a
        omega
    · omega
  · rw [sum_take, ht, ch_cnt h0 hc]
    simp only [lsum]; omega
  · show lsum S ≤ sumI (fun i => min (f i - chI f n c i) S.length) n
    rcases gr_min (f := f) h0 hc (S.length : Int) with ⟨_, a⟩ | ⟨_, a⟩
    · rw [a]; exact hs S (hS.cons c)
    · have h1 := hs (c :: S) (hS.cons_cons c)
      simp only [lsum, List.length_cons, Int.natCast_add, Int.natCast_one] at h1
      omega
theorem GR.at {f : Nat → Int} {n : Nat} {ys : List Int} (h : GR f n ys) (hb : ∀ j, j < ys.length → 0 ≤ ys.getD j 0 ∧ ys.getD j 0 ≤ n) : ∀ j, j ≤ ys.length → GR (leftI f n ys j) n (ys.drop j) := by
  intro j
  induction j with
  | zero => intro _; exact h
  | succ j ih =>
    intro hj
    have h1 := ih (by omega)
    have h2 := hb j (by omega)
    rw [List.drop_eq_getElem_cons (by omega), ← getD_elem] at h1
    exact h1.step h2.1 h2.2
theorem sum_none {f : Nat → Int} {n : Nat} (h : ∀ i, i < n → 0 ≤ f i) (hs : sumI f n = 0) : ∀ i, i < n → f i = 0 := by
  induction n with
  | zero => intro i hi; omega
  | succ n ih =>
    simp only [sumI] at hs
    have h1 : 0 ≤ sumI f n := by
      have := sum_le (f := fun _ => 0) (g := f) (k := n) fun i hi => h i (by omega)
      rw [sum_zero] at this; exact this
    have h2 := h n (by omega)
    intro i hi
    by_cases e : i = n
    · subst e; omega
    · exact ih (fun k hk => h k (by omega)) (by omega) i (by omega)
theorem GR.done {f : Nat → Int} {n : Nat} {ys : List Int} (h : GR f n ys) (hb : ∀ j, j < ys.length → 0 ≤ ys.getD j 0 ∧ ys.getD j 0 ≤ n) : ∀ i, i < n → leftI f n ys ys.length i = 0 := by
  have h1 := h.at hb ys.length (Nat.le_refl _)
  rw [List.drop_length] at h1
  exact sum_none h1.1 h1.2.1
theorem left_sum (f : Nat → Int) (n : Nat) (ys : List Int) (i j : Nat) : leftI f n ys j i = f i - sumI (fun k => if bcB f n ys i k = true then 1 else 0) j := by
  induction j with
  | zero => simp [leftI, sumI]
  | succ j ih =>
    simp only [sumI]
    show leftI f n ys j i - (if bcB f n ys i j = true then 1 else 0) = _
    rw [ih]; omega

theorem sub_lsum {S ys : List Int} (h : S.Sublist ys) (c : Int) : lsum S - lsum (S.map fun x => min x c) ≤ lsum ys - lsum (ys.map fun x => min x c) := by
  induction h with
  | slnil => exact Int.le_refl _
  | cons a _ ih => simp only [List.map_cons, lsum]; omega
  | cons_cons a _ ih => simp only [List.map_cons, lsum]; omega
theorem cut_lsum (S : List Int) (c : Int) : lsum (S.map fun x => min x c) ≤ (S.length : Int) * c := by
  induction S with
  | nil => simp [lsum]
  | cons a S ih => simp only [List.map_cons, lsum, List.length_cons, Int.natCast_add, Int.natCast_one, Int.add_mul, Int.one_mul]; omega
/-- Consistent sums leave enough. -/
theorem con_gr {xs ys : List Int} (h : conB xs ys = true) : GR (fun i => xs.getD i 0) xs.length ys := by
  have hv := conB_valid h
  have hp := sumsB_parts hv
  have hy := (sums_el hv).2
  have h1 := (conB_iff (sumsB_flip hv)).1 (conB_flip h)
  have h2 := (exI_le.1 (Int.le_of_eq h1.2)).2
  refine ⟨fun i hi => (hp.2.2.1 i hi).1, ?_, fun S hS => ?_⟩
  · rw [← psum_all]; exact h1.1.symm
  · have hl := hS.length_le
    have h3 := top_eq hy hl
    have h4 := sub_lsum hS ((sortL ys).getD S.length 0)
    have h5 := cut_lsum S ((sortL ys).getD S.length 0)
    rw [psum_all, room_map] at h3
    show lsum S ≤ room xs S.length
    by_cases e : S.length = 0
    · have : S = [] := List.eq_nil_of_length_eq_zero e
      subst this
      have := room_zero (xs := xs) fun i hi => (hp.2.2.1 i hi).1
      rw [show (([] : List Int).length : Int) = 0 from rfl, this]; exact Int.le_refl _
    · have := h2 S.length (by omega) hl
      omega

/-- A row out of its cells. -/
def rowN (b : Nat → Bool) : Nat → Int
  | 0 => 0
  | k + 1 => rowN b k + if b k = true then pw k else 0
theorem rowN_bd (b : Nat → Bool) (k : Nat) : 0 ≤ rowN b k ∧ rowN b k ≤ pw k - 1 := by
  induction k with
  | zero => simp [rowN, pw]
  | succ k ih => have := pw_pos k; simp only [rowN, pw_succ]; split <;> omega
theorem rowN_bit (b : Nat → Bool) {k i : Nat} (hk : k ≤ 6) (hi : i ≤ 6) : bitI (rowN b k) i = if i < k ∧ b i = true then 1 else 0 := by
  induction k with
  | zero => simp [rowN, bitI]
  | succ k ih =>
    have ih := ih (by omega)
    have hc := rowN_bd b k
    have hp := pw_63 (show k ≤ 6 by omega)
    simp only [rowN]
    generalize rowN b k = c at *
    obtain ⟨c, rfl⟩ := Int.eq_ofNat_of_zero_le hc.1
    have hn := badd_nat k (by omega) c (by omega) hc.2 i (by omega)
    by_cases e : b k = true
    · rw [if_pos e, hn.2, ih]
      by_cases h2 : i = k
      · subst h2; rw [if_pos rfl, if_pos ⟨by omega, e⟩]
      · rw [if_neg h2]
        by_cases h1 : i < k ∧ b i = true
        · rw [if_pos h1, if_pos ⟨by omega, h1.2⟩]
        · rw [if_neg h1, if_neg (fun hh => h1 ⟨by omega, hh.2⟩)]
    · rw [if_neg e, Int.add_zero, ih]
      by_cases h1 : i < k ∧ b i = true
      · rw [if_pos h1, if_pos ⟨by omega, h1.2⟩]
      · rw [if_neg h1, if_neg]
        rintro ⟨h2, h3⟩
        by_cases h4 : i = k
        · subst h4; exact e h3
        · exact h1 ⟨by omega, h3⟩
/-- The rows of an image with the cells told. -/
def cellsL (c : Nat → Nat → Bool) (w n : Nat) : List Int := rowsL (fun i => rowN (c i) w) n
theorem cells_len (c : Nat → Nat → Bool) (w n : Nat) : (cellsL c w n).length = n := rows_len _ _
theorem cells_get {c : Nat → Nat → Bool} {w n i : Nat} (hi : i < n) : (cellsL c w n).getD i 0 = rowN (c i) w := rows_get (fun i => rowN (c i) w) hi
theorem cells_im (c : Nat → Nat → Bool) {w n : Nat} (h1 : 1 ≤ w) (h2 : w ≤ 6) (h3 : 1 ≤ n) (h4 : n ≤ 6) : Im w n (cellsL c w n) :=
  ⟨h1, h2, h3, h4, rows_len _ _, fun i hi => by rw [cells_get hi]; exact rowN_bd _ _⟩
theorem cells_bit {c : Nat → Nat → Bool} {w n i j : Nat} (h2 : w ≤ 6) (hi : i < n) (hj : j < w) : bitI ((cellsL c w n).getD i 0) j = if c i j = true then 1 else 0 := by
  rw [cells_get hi, rowN_bit _ h2 (by omega)]
  by_cases e : c i j = true
  · rw [if_pos ⟨hj, e⟩, if_pos e]
  · rw [if_neg (fun hh => e hh.2), if_neg e]
theorem cells_ext {c d : Nat → Nat → Bool} {w n : Nat} (h : ∀ i j, i < n → j < w → c i j = d i j) : cellsL c w n = cellsL d w n := by
  refine rows_ext fun i hi => ?_
  have key : ∀ k, k ≤ w → rowN (c i) k = rowN (d i) k := by
    intro k
    induction k with
    | zero => intro _; rfl
    | succ k ih => intro hk; simp only [rowN]; rw [ih (by omega), h i k hi (by omega)]
  exact key w (Nat.le_refl _)
theorem cells_put {c d : Nat → Nat → Bool} {w n i j : Nat} (h1 : 1 ≤ w) (h2 : w ≤ 6) (h3 : 1 ≤ n) (h4 : n ≤ 6) (hi : i < n) (hj : j < w) (h : ∀ a b, a < n → b < w → d a b = (c a b || (decide (a = i) && decide (b = j)))) : putL (cellsL c w n) i j true = cellsL d w n :=
  ((cells_im c h1 h2 h3 h4).put hi hj true).ext (cells_im d h1 h2 h3 h4) fun a b ha hb => by
    rw [(cells_im c h1 h2 h3 h4).put_bit hi hj ha hb, cells_bit h2 ha hb, cells_bit h2 ha hb, h a b ha hb]
    by_cases e : a = i ∧ b = j
    · rw [if_pos e]; simp [e.1, e.2]
    · rw [if_neg e]
      have : (decide (a = i) && decide (b = j)) = false := by
        rw [Bool.and_eq_false_iff, decide_eq_false_iff_not, decide_eq_false_iff_not]
        by_cases e1 : a = i
        · right; exact fun e2 => e ⟨e1, e2⟩
        · left; exact e1
      rw [this, Bool.or_false]
theorem cells_none (w n : Nat) : cellsL (fun _ _ => false) w n = List.replicate n 0 := by
  rw [← rows_zero]
  refine rows_ext fun i _ => ?_
  have key : ∀ k, rowN (fun _ => false) k = 0 := fun k => by
    induction k with
    | zero => rfl
    | succ k ih => simp only [rowN, ih]; simp
  exact key w
theorem cells_has {c : Nat → Nat → Bool} {w n i j : Nat} (h1 : 1 ≤ w) (h2 : w ≤ 6) (h3 : 1 ≤ n) (h4 : n ≤ 6) (hi : i < n) (hj : j < w) : hasB w (cellsL c w n) i j = c i j := by
  rw [(cells_im c h1 h2 h3 h4).has hi hj, cells_bit h2 hi hj]
  cases c i j <;> rfl
theorem cells_turn {c : Nat → Nat → Bool} {w n : Nat} (h1 : 1 ≤ w) (h2 : w ≤ 6) (h3 : 1 ≤ n) (h4 : n ≤ 6) : turnL (cellsL c w n) w n = cellsL (fun i j => c j i) n w :=
  (cells_im c h1 h2 h3 h4).turn.ext (cells_im _ h3 h4 h1 h2) fun i j hi hj => by
    rw [(cells_im c h1 h2 h3 h4).turn_bit hj hi, cells_bit h2 hj hi, cells_bit h4 hi hj]
theorem cells_rs {c : Nat → Nat → Bool} {w n i : Nat} (h2 : w ≤ 6) (hi : i < n) : (rsL (cellsL c w n) w n).getD i 0 = sumI (fun j => if c i j = true then 1 else 0) w := by
  rw [rs_get hi, cnt_sum]
  exact sum_ext fun j hj => cells_bit h2 hi hj
theorem cells_cs {c : Nat → Nat → Bool} {w n j : Nat} (h2 : w ≤ 6) (hj : j < w) : (csL (cellsL c w n) n w).getD j 0 = sumI (fun i => if c i j = true then 1 else 0) n := by
  rw [cs_get hj]
  exact sum_ext fun i hi => cells_bit h2 hi hj

/-- The rows of the image that is built column by column. -/
def buildL (xs ys : List Int) : List Int := cellsL (bcB (fun i => xs.getD i 0) xs.length ys) ys.length xs.length
theorem build_len (xs ys : List Int) : (buildL xs ys).length = xs.length := cells_len _ _ _
/-- The rows of the image that is built row by row. -/
def buildR (xs ys : List Int) : List Int := cellsL (fun i j => bcB (fun k => ys.getD k 0) ys.length xs j i) ys.length xs.length
theorem buildR_len (xs ys : List Int) : (buildR xs ys).length = xs.length := cells_len _ _ _
variable {xs ys : List Int}
theorem build_im (h : sumsB xs ys = true) : Im ys.length xs.length (buildL xs ys) := by
  have hp := sumsB_parts h
  exact cells_im _ (by omega) (by omega) (by omega) (by omega)
theorem buildR_im (h : sumsB xs ys = true) : Im ys.length xs.length (buildR xs ys) := by
  have hp := sumsB_parts h
  exact cells_im _ (by omega) (by omega) (by omega) (by omega)
theorem buildR_turn (h : sumsB xs ys = true) : turnL (buildL ys xs) xs.length ys.length = buildR xs ys := by
  have hp := sumsB_parts h
  exact cells_turn (by omega) (by omega) (by omega) (by omega)
theorem build_cs (h : sumsB xs ys = true) : csL (buildL xs ys) xs.length ys.length = ys := by
  have hp := sumsB_parts h
  refine lists_ext (n := ys.length) (cs_len _ _ _) rfl fun j hj => ?_
  unfold buildL
  rw [cells_cs (by omega) hj]
  have := hp.2.2.2 j hj
  exact ch_cnt (f := leftI (fun i => xs.getD i 0) xs.length ys j) this.1 this.2
theorem build_rs (h : conB xs ys = true) : rsL (buildL xs ys) ys.length xs.length = xs := by
  have hp := sumsB_parts (conB_valid h)
  refine lists_ext (n := xs.length) (rs_len _ _ _) rfl fun i hi => ?_
  unfold buildL
  rw [cells_rs (by omega) hi]
  have h1 := (con_gr h).done (fun j hj => hp.2.2.2 j hj) i hi
  rw [left_sum] at h1
  omega
theorem build_fit (h : conB xs ys = true) : fitB (ys.length : Nat) (buildL xs ys) xs ys = true := by
  have hI := build_im (conB_valid h)
  exact fitB_4 hI.valid (decide_eq_true (hI.rs.trans (build_rs h))) (decide_eq_true (hI.cs.trans (build_cs (conB_valid h))))
theorem buildR_fit (h : conB xs ys = true) : fitB (ys.length : Nat) (buildR xs ys) xs ys = true := by
  have hv := conB_valid h
  have hI := build_im (sumsB_flip hv)
  have hR := buildR_im hv
  have e := buildR_turn hv
  refine fitB_4 hR.valid (decide_eq_true (hR.rs.trans ?_)) (decide_eq_true (hR.cs.trans ?_))
  · rw [← e, hI.turn_rs]; exact build_cs (sumsB_flip hv)
  · rw [← e, hI.turn_cs]; exact build_rs (conB_flip h)
theorem build_first (h : sumsB xs ys = true) {i k : Nat} (hi : i < xs.length) (hk : k < xs.length) (h1 : hasB ys.length (buildL xs ys) i 0 = true) (h2 : hasB ys.length (buildL xs ys) k 0 = false) : xs.getD k 0 ≤ xs.getD i 0 ∧ (xs.getD k 0 = xs.getD i 0 → i < k) := by
  have hp := sumsB_parts h
  have e1 := cells_has (c := bcB (fun i => xs.getD i 0) xs.length ys) (w := ys.length) (n := xs.length) (j := 0) (by omega) (by omega) (by omega) (by omega) hi (by omega)
  have e2 := cells_has (c := bcB (fun i => xs.getD i 0) xs.length ys) (w := ys.length) (n := xs.length) (j := 0) (by omega) (by omega) (by omega) (by omega) hk (by omega)
  rw [show (((0 : Nat)) : Int) = 0 from rfl] at e1 e2
  unfold buildL at h1 h2
  rw [h1] at e1
  rw [h2] at e2
  have h3 := ch_bet (f := fun i => xs.getD i 0) (c := ys.getD 0 0) hk e1.symm (by
    intro hh
    exact Bool.noConfusion (e2.trans hh))
  unfold bet at h3
  dsimp only at h3
  omega

/-- The rows of the image with the first cells of each row set. -/
def nestL (xs : List Int) (w : Nat) : List Int := cellsL (fun i j => decide ((j : Int) < xs.getD i 0)) w xs.length
theorem nest_len (xs : List Int) (w : Nat) : (nestL xs w).length = xs.length := cells_len _ _ _
theorem nest_row (x : Int) (h0 : 0 ≤ x) (w : Nat) (h : x ≤ w) : rowN (fun j => decide ((j : Int) < x)) w = pw x.toNat - 1 := by
  have key : ∀ k : Nat, rowN (fun j => decide ((j : Int) < x)) k = pw (min k x.toNat) - 1 := fun k => by
    induction k with
    | zero => rw [Nat.zero_min]; rfl
    | succ k ih =>
      simp only [rowN, decide_eq_true_iff]
      rw [ih]
      by_cases e : (k : Int) < x
      · rw [if_pos e, show min k x.toNat = k by omega, show min (k + 1) x.toNat = k + 1 by omega, pw_succ]; omega
      · rw [if_neg e, show min k x.toNat = x.toNat by omega, show min (k + 1) x.toNat = x.toNat by omega]; omega
  rw [key, show min w x.toNat = x.toNat by omega]
theorem nest_get {xs : List Int} {w i : Nat} (hi : i < xs.length) (h0 : 0 ≤ xs.getD i 0) (h : xs.getD i 0 ≤ w) : (nestL xs w).getD i 0 = pw (xs.getD i 0).toNat - 1 := by
  unfold nestL; rw [cells_get hi, nest_row _ h0 w h]
/-- The image can be made. -/
def nestB (xs : List Int) (w : Int) : Bool := inB xs.length 1 6 && (inB w 1 6 && allIn xs 0 w)
theorem nestB_parts {xs : List Int} {w : Nat} (h : nestB xs w = true) : (1 ≤ xs.length ∧ xs.length ≤ 6) ∧ (1 ≤ w ∧ w ≤ 6) ∧ ∀ i, i < xs.length → 0 ≤ xs.getD i 0 ∧ xs.getD i 0 ≤ w := by
  unfold nestB at h
  rw [Bool.and_eq_true, Bool.and_eq_true] at h
  have h1 := inB_iff.1 h.1
  have h2 := inB_iff.1 h.2.1
  exact ⟨by omega, by omega, fun i hi => allIn_iff.1 h.2.2 i hi⟩
variable {xs : List Int} {w : Nat}
theorem nest_im (h : nestB xs w = true) : Im w xs.length (nestL xs w) := by
  have hp := nestB_parts h
  exact cells_im _ (by omega) (by omega) (by omega) (by omega)
theorem nest_rs (h : nestB xs w = true) : rsL (nestL xs w) w xs.length = xs := by
  have hp := nestB_parts h
  refine lists_ext (n := xs.length) (rs_len _ _ _) rfl fun i hi => ?_
  unfold nestL
  rw [cells_rs (by omega) hi]
  have := hp.2.2 i hi
  have h1 := min_sum (xs.getD i 0) this.1 w
  rw [show min (xs.getD i 0) (w : Int) = xs.getD i 0 by omega] at h1
  refine Eq.trans (sum_ext fun j hj => ?_) h1
  simp only [decide_eq_true_eq]
  by_cases e : (j : Int) < xs.getD i 0
  · rw [if_pos e, if_pos (by omega)]
  · rw [if_neg e, if_neg (by omega)]
theorem nest_csI (xs : List Int) (j : Nat) : sumI (fun i => if decide ((j : Int) < xs.getD i 0) = true then (1 : Int) else 0) xs.length = cge xs ((j : Int) + 1) :=
  sum_ext fun i _ => by
    simp only [decide_eq_true_eq]
    by_cases e : (j : Int) < xs.getD i 0
    · rw [if_pos e, if_pos (by omega)]
    · rw [if_neg e, if_neg (by omega)]
theorem nest_cs (h : nestB xs w = true) : csL (nestL xs w) xs.length w = conjL xs w := by
  have hp := nestB_parts h
  refine lists_ext (n := w) (cs_len _ _ _) (conj_len _ _) fun j hj => ?_
  unfold nestL
  rw [cells_cs (by omega) hj, conj_get hj, nest_csI]
theorem nest_con (h : nestB xs w = true) : conB xs (conjL xs w) = true := by
  have h1 := (nest_im h).con
  rwa [nest_rs h, nest_cs h] at h1

theorem ch_pos {f : Nat → Int} {n i : Nat} {c : Int} (hc : sumI (fun k => if 0 < f k then (1 : Int) else 0) n = c) (hi : i < n) : chB f n c i = decide (0 < f i) := by
  refine Bool.eq_iff_iff.2 ?_
  rw [chB_iff, decide_eq_true_iff, ← hc]
  by_cases e : 0 < f i
  · refine ⟨fun _ => e, fun _ => ?_⟩
    have h1 : sumI (fun k => if bet f k i ∨ k = i then (1 : Int) else 0) n = aheadI f n i + 1 := sum_one hi (by simp [bet_irr]) fun k _ hne => by simp [hne]
    have h2 : sumI (fun k => if bet f k i ∨ k = i then (1 : Int) else 0) n ≤ sumI (fun k => if 0 < f k then (1 : Int) else 0) n := sum_le fun k _ => by
      (try dsimp only)
      by_cases eb : bet f k i ∨ k = i
      · have : 0 < f k := by
          rcases eb with eb | rfl
          · unfold bet at eb; omega
          · exact e
        rw [if_pos eb, if_pos this]; exact Int.le_refl _
      · rw [if_neg eb]; split <;> omega
    omega
  · refine ⟨fun hh => ?_, fun hh => absurd hh e⟩
    have h2 : sumI (fun k => if 0 < f k then (1 : Int) else 0) n ≤ aheadI f n i := sum_le fun k _ => by
      (try dsimp only)
      by_cases eb : 0 < f k
      · rw [if_pos eb, if_pos (show bet f k i by unfold bet; omega)]; exact Int.le_refl _
      · rw [if_neg eb]; split <;> omega
    omega
theorem nest_left (h : nestB xs w = true) {j : Nat} (hj : j ≤ w) : ∀ i, i < xs.length → leftI (fun i => xs.getD i 0) xs.length (conjL xs w) j i = max (xs.getD i 0 - j) 0 := by
  have hp := nestB_parts h
  induction j with
  | zero => intro i hi; have := hp.2.2 i hi; simp only [leftI]; omega
  | succ j ih =>
    intro i hi
    have ih := ih (by omega)
    show leftI (fun i => xs.getD i 0) xs.length (conjL xs w) j i - chI (leftI (fun i => xs.getD i 0) xs.length (conjL xs w) j) xs.length ((conjL xs w).getD j 0) i = _
    have hc : sumI (fun k => if 0 < leftI (fun i => xs.getD i 0) xs.length (conjL xs w) j k then (1 : Int) else 0) xs.length = (conjL xs w).getD j 0 := by
      rw [conj_get (by omega), ← nest_csI]
      refine sum_ext fun k hk => ?_
      rw [ih k hk]; simp only [decide_eq_true_eq]
      by_cases e : (j : Int) < xs.getD k 0
      · rw [if_pos e, if_pos (by omega)]
      · rw [if_neg e, if_neg (by omega)]
    unfold chI
    rw [ch_pos hc hi, ih i hi]; simp only [decide_eq_true_eq]
    split <;> omega
/-- Nested sums have one image. -/
theorem nest_build (h : nestB xs w = true) : buildL xs (conjL xs w) = nestL xs w := by
  have hp := nestB_parts h
  unfold buildL nestL
  rw [conj_len]
  refine cells_ext fun i j hi hj => ?_
  unfold bcB
  have ih := nest_left h (j := j) (by omega)
  have hc : sumI (fun k => if 0 < leftI (fun i => xs.getD i 0) xs.length (conjL xs w) j k then (1 : Int) else 0) xs.length = (conjL xs w).getD j 0 := by
    rw [conj_get hj, ← nest_csI]
    refine sum_ext fun k hk => ?_
    rw [ih k hk]; simp only [decide_eq_true_eq]
    by_cases e : (j : Int) < xs.getD k 0
    · rw [if_pos e, if_pos (by omega)]
    · rw [if_neg e, if_neg (by omega)]
  rw [ch_pos hc hi, ih i hi]
  refine Bool.eq_iff_iff.2 ?_
  rw [decide_eq_true_iff, decide_eq_true_iff]
  omega

theorem sum_below (n : Nat) {m : Nat} (h : m ≤ n) : sumI (fun k => if k < m then (1 : Int) else 0) n = m := by
  induction n with
  | zero => have : m = 0 := by omega
            subst this; rfl
  | succ n ih =>
    by_cases e : m = n + 1
    · subst e
      rw [sum_ext (g := fun _ => 1) (fun k hk => if_pos hk), sum_const]; omega
    · simp only [sumI]
      rw [ih (by omega), if_neg (by omega)]; omega
theorem ch_front {f : Nat → Int} {n i : Nat} {c : Int} (hf : ∀ a b, a ≤ b → b < n → f b ≤ f a) (hi : i < n) : chB f n c i = decide ((i : Int) < c) := by
  have h1 : aheadI f n i = i := by
    rw [← sum_below n (Nat.le_of_lt hi)]
    refine sum_ext fun k hk => ?_
    by_cases e : k < i
    · have := hf k i (by omega) hi
      rw [if_pos e, if_pos (show bet f k i by unfold bet; omega)]
    · have := hf i k (by omega) hk
      rw [if_neg e, if_neg (show ¬ bet f k i by unfold bet; omega)]
  unfold chB
  rw [h1]
theorem nest_across (_ : nestB xs w = true) {i : Nat} (hi : i ≤ xs.length) : ∀ j, j < w → leftI (fun k => (conjL xs w).getD k 0) w xs i j = sumI (fun k => if i ≤ k ∧ (j : Int) < xs.getD k 0 then (1 : Int) else 0) xs.length := by
  induction i with
  | zero =>
    intro j hj
    show (conjL xs w).getD j 0 = _
    rw [conj_get hj]
    refine sum_ext fun k _ => ?_
    by_cases e : (j : Int) < xs.getD k 0
    · rw [if_pos (by omega), if_pos ⟨by omega, e⟩]
    · rw [if_neg (by omega), if_neg (fun hh => e hh.2)]
  | succ i ih =>
    intro j hj
    have ih := ih (by omega)
    show leftI (fun k => (conjL xs w).getD k 0) w xs i j - chI (leftI (fun k => (conjL xs w).getD k 0) w xs i) w (xs.getD i 0) j = _
    unfold chI
    rw [ch_front (fun a b hab hb => by
      rw [ih a (by omega), ih b hb]
      refine sum_le fun k _ => ?_
      (try dsimp only)
      by_cases e : i ≤ k ∧ (b : Int) < xs.getD k 0
      · rw [if_pos e, if_pos ⟨e.1, by omega⟩]; exact Int.le_refl _
      · rw [if_neg e]; split <;> omega) hj, ih j hj]
    simp only [decide_eq_true_eq]
    have := sum_one (f := fun k => if i ≤ k ∧ (j : Int) < xs.getD k 0 then (1 : Int) else 0) (g := fun k => if i + 1 ≤ k ∧ (j : Int) < xs.getD k 0 then (1 : Int) else 0) (k := xs.length) (m := i) (d := if (j : Int) < xs.getD i 0 then 1 else 0) (by omega) (by
      (try dsimp only)
      rw [if_neg (show ¬ (i + 1 ≤ i ∧ (j : Int) < xs.getD i 0) by omega)]
      by_cases e : (j : Int) < xs.getD i 0
      · rw [if_pos e, if_pos ⟨Nat.le_refl _, e⟩]; rfl
      · rw [if_neg e, if_neg (fun hh => e hh.2)]; rfl) (fun k _ hne => by
      (try dsimp only)
      by_cases e : i + 1 ≤ k ∧ (j : Int) < xs.getD k 0
      · rw [if_pos e, if_pos ⟨by omega, e.2⟩]
      · rw [if_neg e, if_neg (fun hh => e ⟨by omega, hh.2⟩)])
    omega
theorem nest_buildR (h : nestB xs w = true) : buildR xs (conjL xs w) = nestL xs w := by
  have hp := nestB_parts h
  unfold buildR nestL
  rw [conj_len]
  refine cells_ext fun i j hi hj => ?_
  unfold bcB
  have ih := nest_across h (i := i) (by omega)
  exact ch_front (fun a b hab hb => by
    rw [ih a (by omega), ih b hb]
    refine sum_le fun k _ => ?_
    (try dsimp only)
    by_cases e : i ≤ k ∧ (b : Int) < xs.getD k 0
    · rw [if_pos e, if_pos ⟨e.1, by omega⟩]; exact Int.le_refl _
    · rw [if_neg e]; split <;> omega) hj
end Go.Proofs.Ytemmfnlnhekclaa

namespace Go.Proofs.Ytemmfnlnhekclaa
set_option maxRecDepth 100000
/-- A line of the heap: its index and what is to come. -/
abbrev PL := List (Int × Int)
def pget (L : PL) (i : Nat) : Int × Int := L.getD i (0, 0)
theorem pget_elem {L : PL} {i : Nat} (h : i < L.length) : pget L i = L[i] := by simp [pget, h]
theorem pget_set {L : PL} {k : Nat} {v : Int × Int} (hk : k < L.length) (i : Nat) : pget (L.set k v) i = if i = k then v else pget L i := by
  unfold pget
  by_cases e : i = k
  · subst e; rw [if_pos rfl, List.getD_eq_getElem?_getD, List.getElem?_set_self hk]; rfl
  · rw [if_neg e, List.getD_eq_getElem?_getD, List.getElem?_set_ne (by omega), ← List.getD_eq_getElem?_getD]
/-- p comes ahead of q. -/
def les (p q : Int × Int) : Prop := q.2 < p.2 ∨ (p.2 = q.2 ∧ p.1 < q.1)
instance (p q : Int × Int) : Decidable (les p q) := by unfold les; exact inferInstance
theorem les_asym {p q : Int × Int} (h : les p q) : ¬ les q p := by unfold les at *; omega
theorem les_irr {p : Int × Int} : ¬ les p p := by unfold les; omega
theorem les_trans {p q r : Int × Int} (h : les p q) (h' : les q r) : les p r := by unfold les at *; omega
theorem nles_trans {p q r : Int × Int} (h : ¬ les q p) (h' : ¬ les r q) : ¬ les r p := by unfold les at *; omega
def pswap (L : PL) (i j : Nat) : PL := (L.set i (pget L j)).set j (pget L i)
theorem pswap_len (L : PL) (i j : Nat) : (pswap L i j).length = L.length := by simp [pswap]
theorem pswap_get {L : PL} {i j : Nat} (hi : i < L.length) (hj : j < L.length) (k : Nat) : pget (pswap L i j) k = if k = j then pget L i else if k = i then pget L j else pget L k := by
  unfold pswap
  rw [pget_set (by simpa using hj), pget_set hi]
theorem pswap_perm {L : PL} {i j : Nat} (hi : i < L.length) (hj : j < L.length) : (pswap L i j).Perm L := by
  unfold pswap
  rw [pget_elem hi, pget_elem hj]
  by_cases e : i = j
  · subst e; simp
  · exact List.set_set_perm (i := i) (j := j) hi hj
/-- A line does not come ahead of its parent, for parents from lo on, among the first n. -/
def HP (L : PL) (n lo : Nat) : Prop := ∀ k, 0 < k → k < n → lo ≤ (k - 1) / 2 → ¬ les (pget L k) (pget L ((k - 1) / 2))
theorem HP.top {L : PL} {n : Nat} (h : HP L n 0) : ∀ k, k < n → ¬ les (pget L k) (pget L 0) := by
  intro k
  induction k using Nat.strongRecOn with
  | _ k ih =>
    intro hk
    by_cases e : k = 0
    · subst e; exact les_irr
    · exact nles_trans (ih ((k - 1) / 2) (by omega) (by omega)) (h k (by omega) hk (Nat.zero_le _))
theorem HP.start (L : PL) (n : Nat) {lo : Nat} (h : n / 2 ≤ lo) : HP L n lo := fun k hk hkn hl => by omega
theorem HP.less {L : PL} {n m lo : Nat} (h : HP L n lo) (hm : m ≤ n) : HP L m lo := fun k hk hkm hl => h k hk (by omega) hl
theorem HP.same {L M : PL} {n lo : Nat} (h : HP L n lo) (hM : ∀ k, k < n → lo ≤ k → pget M k = pget L k) : HP M n lo := fun k hk hkn hl => by
  rw [hM k hkn (by omega), hM _ (by omega) hl]; exact h k hk hkn hl
/-- .. but for the children of i, which may come ahead of it. -/
def HD (L : PL) (n lo i : Nat) : Prop :=
  (∀ k, 0 < k → k < n → lo ≤ (k - 1) / 2 → (k - 1) / 2 ≠ i → ¬ les (pget L k) (pget L ((k - 1) / 2))) ∧
  (lo < i → lo ≤ (i - 1) / 2 ∧ ∀ k, 0 < k → k < n → (k - 1) / 2 = i → ¬ les (pget L k) (pget L ((i - 1) / 2)))
theorem HD.start {L : PL} {n lo : Nat} (h : HP L n (lo + 1)) : HD L n lo lo :=
  ⟨fun k hk hkn hl hne => h k hk hkn (by omega), fun hh => by omega⟩
theorem HD.leaf {L : PL} {n lo i : Nat} (h : HD L n lo i) (hn : n ≤ 2 * i + 1) : HP L n lo := fun k hk hkn hl => h.1 k hk hkn hl (by omega)
theorem HD.stop {L : PL} {n lo i j : Nat} (h : HD L n lo i) (hj : ∀ k, 0 < k → k < n → (k - 1) / 2 = i → ¬ les (pget L k) (pget L j)) (hs : ¬ les (pget L j) (pget L i)) : HP L n lo := fun k hk hkn hl => by
  by_cases e : (k - 1) / 2 = i
  · rw [e]; exact nles_trans hs (hj k hk hkn e)
  · exact h.1 k hk hkn hl e
theorem HD.step {L : PL} {n lo i j : Nat} (h : HD L n lo i) (hl : lo ≤ i) (hnl : n ≤ L.length) (hj0 : 0 < j) (hjn : j < n) (hji : (j - 1) / 2 = i) (hj : ∀ k, 0 < k → k < n → (k - 1) / 2 = i → ¬ les (pget L k) (pget L j)) (hs : les (pget L j) (pget L i)) : HD (pswap L i j) n lo j := by
  have g := pswap_get (L := L) (i := i) (j := j) (by omega) (by omega)
  refine ⟨fun k hk hkn hlk hne => ?_, fun _ => ⟨by omega, fun k hk hkn hkj => ?_⟩⟩
  · rw [g, g, if_neg hne]
    by_cases e1 : (k - 1) / 2 = i
    · rw [if_pos e1]
      by_cases e2 : k = j
      · rw [if_pos e2]; exact les_asym hs
      · rw [if_neg e2, if_neg (by omega)]; exact hj k hk hkn e1
    · rw [if_neg e1, if_neg (by rintro rfl; omega)]
      by_cases e2 : k = i
      · subst e2
        rw [if_pos rfl]
        exact (h.2 (by omega)).2 j hj0 hjn hji
      · rw [if_neg e2]; exact h.1 k hk hkn hlk e1
  · rw [g, g, hji, if_neg (by omega), if_neg (by omega), if_neg (by omega), if_pos rfl]
    have := h.1 k hk hkn (by omega) (by omega)
    rwa [hkj] at this
/-- A line that may come ahead of its parent. -/
def HU (L : PL) (n j : Nat) : Prop :=
  (∀ k, 0 < k → k < n → k ≠ j → ¬ les (pget L k) (pget L ((k - 1) / 2))) ∧
  (∀ k, 0 < k → k < n → (k - 1) / 2 = j → 0 < j → ¬ les (pget L k) (pget L ((j - 1) / 2)))
theorem HU.start {L : PL} {n : Nat} (h : HP L n 0) : HU L (n + 1) n :=
  ⟨fun k hk hkn hne => h k hk (by omega) (Nat.zero_le _), fun k hk hkn hkj hj => by omega⟩
theorem HU.root {L : PL} {n : Nat} (h : HU L n 0) : HP L n 0 := fun k hk hkn _ => h.1 k hk hkn (by omega)
theorem HU.stop {L : PL} {n j : Nat} (h : HU L n j) (hs : ¬ les (pget L j) (pget L ((j - 1) / 2))) : HP L n 0 := fun k hk hkn _ => by
  by_cases e : k = j
  · subst e; exact hs
  · exact h.1 k hk hkn e
theorem HU.step {L : PL} {n j : Nat} (h : HU L n j) (hnl : n ≤ L.length) (hj0 : 0 < j) (hjn : j < n) (hs : les (pget L j) (pget L ((j - 1) / 2))) : HU (pswap L ((j - 1) / 2) j) n ((j - 1) / 2) := by
  have g := pswap_get (L := L) (i := (j - 1) / 2) (j := j) (by omega) (by omega)
  obtain ⟨i, hi⟩ : ∃ i, (j - 1) / 2 = i := ⟨_, rfl⟩
  rw [hi] at g hs ⊢
  refine ⟨fun k hk hkn hne => ?_, fun k hk hkn hki hi0 => ?_⟩
  · rw [g, g]
    by_cases e1 : k = j
    · subst e1
      rw [if_pos rfl, hi, if_neg (by omega), if_pos rfl]; exact les_asym hs
    · rw [if_neg e1, if_neg hne]
      by_cases e2 : (k - 1) / 2 = j
      · rw [if_pos e2]
        have := h.2 k hk hkn e2 hj0
        rwa [hi] at this
      · rw [if_neg e2]
        have h1 := h.1 k hk hkn e1
        by_cases e3 : (k - 1) / 2 = i
        · rw [if_pos e3]
          rw [e3] at h1
          exact fun hh => h1 (les_trans hh hs)
        · rw [if_neg e3]; exact h1
  · rw [g, g]
    have h1 := h.1 i hi0 (by omega) (by omega)
    rw [if_neg (by omega : ¬ (i - 1) / 2 = j), if_neg (by omega : ¬ (i - 1) / 2 = i)]
    by_cases e1 : k = j
    · rw [if_pos e1]; exact h1
    · rw [if_neg e1, if_neg (by omega)]
      have h2 := h.1 k hk hkn e1
      rw [hki] at h2
      exact nles_trans h1 h2

theorem perm_map_of {α β : Type} {f : α → β} {L M : List β} (h : L.Perm M) : ∀ xs : List α, M = xs.map f → ∃ ys : List α, ys.Perm xs ∧ ys.map f = L := by
  induction h with
  | nil => intro xs e; exact ⟨xs, .refl _, e.symm⟩
  | cons x _ ih =>
    intro xs e
    cases xs with
    | nil => simp at e
    | cons y r =>
      simp only [List.map_cons, List.cons.injEq] at e
      obtain ⟨zs, h1, h2⟩ := ih r e.2
      exact ⟨y :: zs, h1.cons _, by simp [h2, e.1]⟩
  | swap x y l =>
    intro xs e
    match xs, e with
    | a :: b :: r, e =>
      simp only [List.map_cons, List.cons.injEq] at e
      exact ⟨b :: a :: r, .swap _ _ _, by simp [e.1, e.2.1, e.2.2]⟩
  | trans _ _ h1 h2 =>
    intro xs e
    obtain ⟨ys, a1, a2⟩ := h2 xs e
    obtain ⟨zs, b1, b2⟩ := h1 ys a2.symm
    exact ⟨zs, b1.trans a1, b2⟩
/-- The line i with what is to come. -/
def pr (f : Nat → Int) (i : Nat) : Int × Int := ((i : Int), f i)
theorem les_pr {f : Nat → Int} {k i : Nat} : les (pr f k) (pr f i) ↔ bet f k i := by unfold les bet pr; dsimp only; omega
/-- The first line is taken off. -/
theorem pop_pr {f : Nat → Int} {J : List Nat} {L L' : PL} {x : Int × Int} (h : L.Perm (J.map (pr f))) (hx : (x :: L').Perm L) (hm : ∀ p ∈ L, ¬ les p x) :
    ∃ i J', (i :: J').Perm J ∧ x = pr f i ∧ L'.Perm (J'.map (pr f)) ∧ ∀ k ∈ J, k = i ∨ bet f i k := by
  obtain ⟨ys, h1, h2⟩ := perm_map_of (hx.trans h) J rfl
  cases ys with
  | nil => simp at h2
  | cons i J' =>
    simp only [List.map_cons, List.cons.injEq] at h2
    refine ⟨i, J', h1, h2.1.symm, by rw [h2.2], fun k hk => ?_⟩
    have h3 := hm (pr f k) (h.mem_iff.2 (List.mem_map.2 ⟨k, hk, rfl⟩))
    rw [← h2.1, les_pr] at h3
    by_cases e : k = i
    · left; exact e
    · right
      rcases bet_total (f := f) e with b | b
      · exact absurd b h3
      · exact b
/-- The lines I are taken, the lines J are left. -/
structure TS (f : Nat → Int) (n : Nat) (I J : List Nat) : Prop where
  perm : (I ++ J).Perm (List.range n)
  used : Used f n (fun k => decide (k ∈ I)) I.length
theorem TS.start {f : Nat → Int} {n : Nat} : TS f n [] (List.range n) := ⟨.refl _, Used.zero fun _ _ => by simp⟩
theorem TS.mem {f : Nat → Int} {n k : Nat} {I J : List Nat} (h : TS f n I J) : k < n ↔ k ∈ I ∨ k ∈ J := by
  rw [← List.mem_append, h.perm.mem_iff, List.mem_range]
theorem TS.nodup {f : Nat → Int} {n : Nat} {I J : List Nat} (h : TS f n I J) : (I ++ J).Nodup := h.perm.nodup_iff.2 List.nodup_range
theorem TS.step {f : Nat → Int} {n i : Nat} {I J J' : List Nat} (h : TS f n I J) (hp : (i :: J').Perm J) (hb : ∀ k ∈ J, k = i ∨ bet f i k) : TS f n (I ++ [i]) J' := by
  have hi : i ∈ J := hp.mem_iff.1 (List.mem_cons_self ..)
  have hn := h.nodup
  have hni : i ∉ I := fun hh => by
    rw [List.nodup_append] at hn
    exact hn.2.2 i hh i hi rfl
  have hbest : Best f n (fun k => decide (k ∈ I)) i := ⟨h.mem.2 (.inr hi), by simp [hni], fun k hk hu => hb k (by
    rcases h.mem.1 hk with e | e
    · simp [e] at hu
    · exact e)⟩
  refine ⟨?_, ?_⟩
  · rw [List.append_assoc]
    exact (List.Perm.append_left I hp).trans h.perm
  · have := h.used.next hbest (v := fun k => decide (k ∈ I ++ [i])) fun k _ => by
      rw [Bool.eq_iff_iff]; simp [List.mem_append]
    rwa [← show (I ++ [i]).length = I.length + 1 by simp] at this
theorem TS.ch {f : Nat → Int} {n k : Nat} {I J : List Nat} (h : TS f n I J) (hk : k < n) : k ∈ I ↔ chB f n I.length k = true := by
  rw [← h.used.ch hk, decide_eq_true_iff]
theorem TS.done {f : Nat → Int} {n : Nat} {I J : List Nat} {L : PL} (h : TS f n I J) (hL : L.Perm ((I.map fun k : Nat => ((k : Int), f k - 1)) ++ J.map (pr f))) : L.Perm ((List.range n).map (pr (fun i => f i - chI f n I.length i))) := by
  refine hL.trans ?_
  refine List.Perm.trans ?_ (h.perm.map _)
  rw [List.map_append]
  have e1 : I.map (fun k : Nat => ((k : Int), f k - 1)) = I.map (pr (fun i => f i - chI f n I.length i)) := List.map_congr_left fun k hk => by
    have : chI f n I.length k = 1 := if_pos ((h.ch (h.mem.2 (.inl hk))).1 hk)
    unfold pr; dsimp only; rw [this]
  have e2 : J.map (pr f) = J.map (pr (fun i => f i - chI f n I.length i)) := List.map_congr_left fun k hk => by
    have : chI f n I.length k = 0 := if_neg fun hh => by
      have h1 := (h.ch (h.mem.2 (.inr hk))).2 hh
      have hn := h.nodup
      rw [List.nodup_append] at hn
      exact hn.2.2 k h1 k hk rfl
    unfold pr; dsimp only; rw [this, Int.sub_zero]
  rw [e1, e2]
end Go.Proofs.Ytemmfnlnhekclaa

namespace Go.Proofs.Ytemmfnlnhekclaa
set_option maxRecDepth 100000
open Go.RowKit

/-- The cells of a list of pairs. -/
def flat (L : PL) : List Value := L.flatMap fun p => [.int .i64 p.1, .int .i64 p.2]
theorem fl_nil : flat [] = [] := rfl
theorem fl_cons (p : Int × Int) (L : PL) : flat (p :: L) = .int .i64 p.1 :: .int .i64 p.2 :: flat L := rfl
theorem fl_len (L : PL) : (flat L).length = L.length * 2 := by
  induction L with
  | nil => rfl
  | cons p L ih => rw [fl_cons, List.length_cons, List.length_cons, List.length_cons, ih]; omega
theorem fl_app (L M : PL) : flat (L ++ M) = flat L ++ flat M := by simp [flat]
theorem fl_c0 {L : PL} {i : Nat} (h : i < L.length) : (flat L)[i * 2]? = some (.int .i64 (pget L i).1) := by
  induction L generalizing i with
  | nil => simp at h
  | cons p L ih =>
    cases i with
    | zero => rfl
    | succ i => rw [fl_cons, show (i + 1) * 2 = i * 2 + 1 + 1 by omega, List.getElem?_cons_succ, List.getElem?_cons_succ, ih (by simpa using h)]; rfl
theorem fl_c1 {L : PL} {i : Nat} (h : i < L.length) : (flat L)[i * 2 + 1]? = some (.int .i64 (pget L i).2) := by
  induction L generalizing i with
  | nil => simp at h
  | cons p L ih =>
    cases i with
    | zero => rfl
    | succ i => rw [fl_cons, show (i + 1) * 2 + 1 = i * 2 + 1 + 1 + 1 by omega, List.getElem?_cons_succ, List.getElem?_cons_succ, ih (by simpa using h)]; rfl
theorem fl_set (L : PL) (i : Nat) (x y : Int) : ((flat L).set (i * 2) (.int .i64 x)).set (i * 2 + 1) (.int .i64 y) = flat (L.set i (x, y)) := by
  induction L generalizing i with
  | nil => rfl
  | cons p L ih =>
    cases i with
    | zero => rfl
    | succ i => rw [fl_cons, show (i + 1) * 2 = i * 2 + 1 + 1 by omega, List.set_cons_succ, List.set_cons_succ, List.set_cons_succ, List.set_cons_succ, ih, List.set_cons_succ, fl_cons]
theorem fl_take (L : PL) (k : Nat) : (flat L).take (k * 2) = flat (L.take k) := by
  induction L generalizing k with
  | nil => simp [flat]
  | cons p L ih =>
    cases k with
    | zero => rfl
    | succ k => rw [fl_cons, show (k + 1) * 2 = k * 2 + 1 + 1 by omega, List.take_succ_cons, List.take_succ_cons, ih, List.take_succ_cons, fl_cons]
theorem fl_zero (n : Nat) : flat (List.replicate n (0, 0)) = List.replicate (n * 2) (.int .i64 0) := by
  induction n with
  | zero => rfl
  | succ n ih => rw [List.replicate_succ, fl_cons, ih, show (n + 1) * 2 = n * 2 + 1 + 1 by omega, List.replicate_succ, List.replicate_succ]

/-- Off the blocks b and g the world w' is as w was, but for new memory. -/
structure Ch (b g : Nat) (w w' : World) : Prop where
  os : w'.os = w.os
  tape : w'.tape = w.tape
  output : w'.output = w.output
  size : w.heap.size ≤ w'.heap.size
  block : ∀ k, k < w.heap.size → k ≠ b → k ≠ g → w'.heap[k]? = w.heap[k]?
variable {b g : Nat} {w w' w'' : World}
theorem Ch.refl (b g : Nat) (w : World) : Ch b g w w := ⟨rfl, rfl, rfl, Nat.le_refl _, fun _ _ _ _ => rfl⟩
theorem Ch.trans (h : Ch b g w w') (k : Ch b g w' w'') : Ch b g w w'' :=
  ⟨k.os.trans h.os, k.tape.trans h.tape, k.output.trans h.output, Nat.le_trans h.size k.size, fun i hi h1 h2 => (k.block i (Nat.lt_of_lt_of_le hi h.size) h1 h2).trans (h.block i hi h1 h2)⟩
theorem Ch.of (h : Below w.heap.size w w') : Ch b g w w' := ⟨h.os, h.tape, h.output, h.size, fun k hk _ _ => h.block k hk⟩
theorem Ch.grown {row : Option Nat} (h : w.grownBy w' row) (hr : row = none ∨ row = some b ∨ row = some g) : Ch b g w w' :=
  ⟨h.os, h.tape, h.output, h.size, fun k hk h1 h2 => h.block k hk (by rcases hr with rfl | rfl | rfl <;> simp [h1, h2])⟩
theorem Ch.drew (h : Ch b g w w') : Ch b g w w'.drew := h.trans (Ch.of ((Below.refl _ _).drew))
theorem Ch.drewN (h : Ch b g w w') (n : Nat) : Ch b g w (w'.drewN n) := h.trans (Ch.of (below_drewN (Below.refl _ _) n))
theorem Ch.alloc (h : Ch b g w w') (o : Obj) : Ch b g w (w'.alloc o) := h.trans (Ch.of ((Below.refl _ _).alloc (Nat.le_refl _) o))
theorem Ch.setB (h : Ch b g w w') (j : Nat) (v : Value) : Ch b g w (w'.setCell ⟨b, j, none⟩ v) := h.trans (Ch.grown (grown_set (World.grownBy.refl _ _)) (.inr (.inl rfl)))
theorem Ch.setG (h : Ch b g w w') (j : Nat) (v : Value) : Ch b g w (w'.setCell ⟨g, j, none⟩ v) := h.trans (Ch.grown (grown_set (World.grownBy.refl _ _)) (.inr (.inr rfl)))
theorem Ch.below {B : Nat} (h : Ch b g w w') (h0 : B ≤ w.heap.size) (h1 : B ≤ b) (h2 : B ≤ g) : Below B w w' :=
  ⟨h.os, h.tape, h.output, h.size, fun k hk => h.block k (by omega) (by omega) (by omega)⟩
theorem Ch.cell (h : Ch b g w w') {a : Addr} {v : Value} (hc : w.cell? a = some v) (h1 : a.block ≠ b) (h2 : a.block ≠ g) : w'.cell? a = some v :=
  (World.cell?_of_block (h.block a.block (block_lt hc) h1 h2)).trans hc
theorem Ch.own {B n cap : Nat} {a : Option Addr} {xs : List Int} (h : Ch b g w w') (ho : OwnI w B a n cap xs) (h1 : ∀ p, a = some p → p.block ≠ b ∧ p.block ≠ g) : OwnI w' B a n cap xs := by
  obtain ⟨h0, h2⟩ := ho
  refine ⟨h0, ?_⟩
  rcases h2 with h2 | ⟨k, c, cur, e, hb, hg, r⟩
  · exact .inl h2
  · refine .inr ⟨k, c, cur, e, hb, ?_, r⟩
    simp only [Value.slice.injEq] at e
    have := h1 _ e.1
    rw [h.block k (Array.getElem?_eq_some_iff.1 hg).1 this.1 this.2]; exact hg
theorem Ch.row {n : Nat} {a : Option Addr} {xs : List Int} (h : Ch b g w w') (hr : Row w a n xs) (h1 : ∀ q off, a = some ⟨q, off, none⟩ → 0 < n → q ≠ b ∧ q ≠ g) : Row w' a n xs := by
  obtain ⟨h0, h2⟩ := hr
  refine ⟨h0, ?_⟩
  rcases h2 with h2 | ⟨q, off, rfl, hc⟩
  · exact .inl h2
  · by_cases e : n = 0
    · exact .inl e
    · have := h1 q off rfl (by omega)
      exact .inr ⟨q, off, rfl, fun i hi => h.cell (hc i hi) this.1 this.2⟩
def set4 (w : World) (g i j : Nat) (p q : Int × Int) : World := (((w.setCell ⟨g, i * 2, none⟩ (.int .i64 q.1)).setCell ⟨g, i * 2 + 1, none⟩ (.int .i64 q.2)).setCell ⟨g, j * 2, none⟩ (.int .i64 p.1)).setCell ⟨g, j * 2 + 1, none⟩ (.int .i64 p.2)
theorem set4_grown (w : World) (g i j : Nat) (p q : Int × Int) : w.grownBy (set4 w g i j p q) (some g) := grown_set (grown_set (grown_set (grown_set (World.grownBy.refl _ _))))
end Go.Proofs.Ytemmfnlnhekclaa
