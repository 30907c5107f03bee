/-
  Plain facts on lists of switches: pairs of numbers in their order, the switches of pairs of rows, how many they are and which order they have.
-/
import Derived.Test.YteejopkimlkhoaaEa
namespace Go.Proofs.Yteejopkimlkhoaa
set_option maxRecDepth 100000

/-- The pairs that begin with i, up to (i, k). -/
def segL (i k : Nat) : List (Nat × Nat) := (List.range' (i + 1) (k - (i + 1))).map fun j => (i, j)
theorem seg_nil (i : Nat) : segL i (i + 1) = [] := by simp [segL]
theorem seg_short {i k : Nat} (h : k ≤ i + 1) : segL i k = [] := by unfold segL; rw [show k - (i + 1) = 0 by omega]; rfl
theorem seg_snoc {i k : Nat} (h : i < k) : segL i (k + 1) = segL i k ++ [(i, k)] := by
  unfold segL
  rw [show k + 1 - (i + 1) = (k - (i + 1)) + 1 by omega, List.range'_concat, List.map_append, show i + 1 + 1 * (k - (i + 1)) = k by omega]; rfl
/-- All pairs of numbers below n that begin ahead of i. -/
def uptoL (n i : Nat) : List (Nat × Nat) := (List.range i).flatMap fun p => segL p n
theorem upto_zero (n : Nat) : uptoL n 0 = [] := rfl
theorem upto_snoc (n i : Nat) : uptoL n (i + 1) = uptoL n i ++ segL i n := by
  unfold uptoL; rw [List.range_succ, List.flatMap_append]; simp
/-- All pairs of numbers below n, in order. -/
def pairsL (n : Nat) : List (Nat × Nat) := uptoL n n
theorem upto_pre {n i k : Nat} (h : i ≤ k) : uptoL n i <+: uptoL n k := by
  induction k with
  | zero => rw [show i = 0 by omega]; exact List.prefix_refl _
  | succ k ih =>
    by_cases e : i = k + 1
    · rw [e]; exact List.prefix_refl _
    · rw [upto_snoc]; exact (ih (by omega)).trans (List.prefix_append _ _)
theorem seg_pre {i k m : Nat} (h : k ≤ m) : segL i k <+: segL i m := by
  induction m with
  | zero => rw [show k = 0 by omega]; exact List.prefix_refl _
  | succ m ih =>
    by_cases e : k = m + 1
    · rw [e]; exact List.prefix_refl _
    · by_cases hi : i < m
      · rw [seg_snoc hi]; exact (ih (by omega)).trans (List.prefix_append _ _)
      · rw [seg_short (k := k) (by omega)]; exact List.nil_prefix
theorem pairs_at {n i k : Nat} (h1 : i < k) (h2 : k < n) : ∃ post, pairsL n = (uptoL n i ++ segL i k) ++ (i, k) :: post := by
  have a : uptoL n i ++ segL i (k + 1) <+: uptoL n i ++ segL i n := (List.prefix_append_right_inj _).2 (seg_pre (by omega))
  rw [← upto_snoc] at a
  obtain ⟨post, hp⟩ := a.trans (upto_pre (show i + 1 ≤ n by omega))
  refine ⟨post, ?_⟩
  unfold pairsL
  rw [← hp, seg_snoc h1]; simp
theorem pairs_mem {n i k : Nat} : (i, k) ∈ pairsL n ↔ i < k ∧ k < n := by
  constructor
  · intro h
    unfold pairsL uptoL segL at h
    simp only [List.mem_flatMap, List.mem_range, List.mem_map, List.mem_range'_1, Prod.mk.injEq] at h
    obtain ⟨p, hp, q, hq, rfl, rfl⟩ := h
    omega
  · rintro ⟨h1, h2⟩
    obtain ⟨post, e⟩ := pairs_at h1 h2
    rw [e]; simp
/-- The sum over a list. -/
def sumL {α : Type} (F : α → Int) : List α → Int
  | [] => 0
  | x :: xs => F x + sumL F xs
theorem suml_append {α : Type} (F : α → Int) (xs ys : List α) : sumL F (xs ++ ys) = sumL F xs + sumL F ys := by
  induction xs with
  | nil => simp [sumL]
  | cons x xs ih => simp only [List.cons_append, sumL]; rw [ih]; omega
theorem suml_ext {α : Type} {F G : α → Int} {xs : List α} (h : ∀ x ∈ xs, F x = G x) : sumL F xs = sumL G xs := by
  induction xs with
  | nil => rfl
  | cons x xs ih => simp only [sumL]; rw [h x (by simp), ih fun y hy => h y (by simp [hy])]
theorem suml_seg (F : Nat × Nat → Int) (i : Nat) {n : Nat} (h : i < n) : sumL F (segL i (n + 1)) = sumL F (segL i n) + F (i, n) := by
  rw [seg_snoc h, suml_append]; simp [sumL]
theorem suml_upto (F : Nat × Nat → Int) (n i : Nat) : sumL F (uptoL n i) = sumI (fun p => sumL F (segL p n)) i := by
  induction i with
  | zero => rfl
  | succ i ih => rw [upto_snoc, suml_append, ih]; rfl
theorem suml_pairs (F : Nat × Nat → Int) (n : Nat) : sumL F (pairsL n) = triI (fun i k => F (i, k)) n := by
  unfold pairsL
  rw [suml_upto]
  induction n with
  | zero => rfl
  | succ n ih =>
    show sumI (fun p => sumL F (segL p (n + 1))) n + sumL F (segL n (n + 1)) = triI (fun i k => F (i, k)) n + sumI (fun i => F (i, n)) n
    rw [seg_nil, sum_ext (fun i hi => suml_seg F i hi), sum_add, ih]
    simp [sumL]
theorem len_flat {α β : Type} (f : α → List β) (xs : List α) : ((xs.flatMap f).length : Int) = sumL (fun x => ((f x).length : Int)) xs := by
  induction xs with
  | nil => rfl
  | cons x xs ih => simp only [List.flatMap_cons, List.length_append, sumL]; rw [← ih]; omega
theorem len_filter {α : Type} (p : α → Bool) (xs : List α) : ((xs.filter p).length : Int) = sumL (fun x => bI (p x)) xs := by
  induction xs with
  | nil => rfl
  | cons x xs ih =>
    simp only [List.filter_cons, sumL]; rw [← ih]
    cases p x
    · simp [bI]
    · simp [bI]; omega
/-- A place of a switch. -/
abbrev SwT := Nat × Nat × Nat × Nat
/-- The switches of two rows, among these columns. -/
def rowSw (c : Nat → Nat → Bool) (p : Nat × Nat) (qs : List (Nat × Nat)) : List SwT := (qs.filter fun q => swC c p.1 p.2 q.1 q.2).map fun q => (p.1, p.2, q.1, q.2)
theorem rsw_snoc (c : Nat → Nat → Bool) (p q : Nat × Nat) (qs : List (Nat × Nat)) : rowSw c p (qs ++ [q]) = rowSw c p qs ++ if swC c p.1 p.2 q.1 q.2 = true then [(p.1, p.2, q.1, q.2)] else [] := by
  unfold rowSw
  rw [List.filter_append, List.map_append]
  cases h : swC c p.1 p.2 q.1 q.2 <;> simp [h]
theorem rsw_cons (c : Nat → Nat → Bool) (p q : Nat × Nat) (qs : List (Nat × Nat)) : rowSw c p (q :: qs) = (if swC c p.1 p.2 q.1 q.2 = true then [(p.1, p.2, q.1, q.2)] else []) ++ rowSw c p qs := by
  unfold rowSw
  cases h : swC c p.1 p.2 q.1 q.2 <;> simp [h]
theorem rsw_append (c : Nat → Nat → Bool) (p : Nat × Nat) (qs rs : List (Nat × Nat)) : rowSw c p (qs ++ rs) = rowSw c p qs ++ rowSw c p rs := by
  unfold rowSw; rw [List.filter_append, List.map_append]
/-- The switches of pairs of rows. -/
def allSw (c : Nat → Nat → Bool) (W : Nat) (ps : List (Nat × Nat)) : List SwT := ps.flatMap fun p => rowSw c p (pairsL W)
theorem asw_snoc (c : Nat → Nat → Bool) (W : Nat) (p : Nat × Nat) (ps : List (Nat × Nat)) : allSw c W (ps ++ [p]) = allSw c W ps ++ rowSw c p (pairsL W) := by
  unfold allSw; rw [List.flatMap_append]; simp
theorem asw_append (c : Nat → Nat → Bool) (W : Nat) (ps qs : List (Nat × Nat)) : allSw c W (ps ++ qs) = allSw c W ps ++ allSw c W qs := by
  unfold allSw; rw [List.flatMap_append]
theorem asw_cons (c : Nat → Nat → Bool) (W : Nat) (p : Nat × Nat) (ps : List (Nat × Nat)) : allSw c W (p :: ps) = rowSw c p (pairsL W) ++ allSw c W ps := by
  unfold allSw; rw [List.flatMap_cons]
/-- All switches, in order. -/
def swL (c : Nat → Nat → Bool) (W n : Nat) : List SwT := allSw c W (pairsL n)
theorem swl_at {c : Nat → Nat → Bool} {W n : Nat} {p q : Nat × Nat} {ps ps' qs qs' : List (Nat × Nat)} (hp : pairsL n = ps ++ p :: ps') (hq : pairsL W = qs ++ q :: qs') (h : swC c p.1 p.2 q.1 q.2 = true) :
    swL c W n = (allSw c W ps ++ rowSw c p qs) ++ (p.1, p.2, q.1, q.2) :: (rowSw c p qs' ++ allSw c W ps') := by
  unfold swL
  rw [hp, asw_append, asw_cons, hq, rsw_append, rsw_cons, if_pos h]
  simp
theorem swl_mem {c : Nat → Nat → Bool} {W n A B C D : Nat} : (A, B, C, D) ∈ swL c W n ↔ A < B ∧ B < n ∧ C < D ∧ D < W ∧ swC c A B C D = true := by
  unfold swL allSw rowSw
  simp only [List.mem_flatMap, List.mem_map, List.mem_filter, Prod.exists]
  constructor
  · rintro ⟨a, b, h1, c', d, ⟨h2, h3⟩, h4⟩
    simp only [Prod.mk.injEq] at h4
    obtain ⟨rfl, rfl, rfl, rfl⟩ := h4
    have := pairs_mem.1 h1
    have := pairs_mem.1 h2
    exact ⟨by omega, by omega, by omega, by omega, h3⟩
  · rintro ⟨h1, h2, h3, h4, h5⟩
    exact ⟨A, B, pairs_mem.2 ⟨h1, h2⟩, C, D, ⟨pairs_mem.2 ⟨h3, h4⟩, h5⟩, rfl⟩
theorem swl_len (c : Nat → Nat → Bool) (W n : Nat) : ((swL c W n).length : Int) = manyC c W n := by
  unfold swL allSw manyC
  rw [len_flat, suml_pairs]
  unfold triI
  refine sum_ext fun k _ => sum_ext fun i _ => ?_
  show ((rowSw c (i, k) (pairsL W)).length : Int) = _
  unfold rowSw
  rw [List.length_map, len_filter, suml_pairs]; rfl
/-- The order of switches. -/
def ltS (x y : SwT) : Prop := x.1 < y.1 ∨ x.1 = y.1 ∧ (x.2.1 < y.2.1 ∨ x.2.1 = y.2.1 ∧ (x.2.2.1 < y.2.2.1 ∨ x.2.2.1 = y.2.2.1 ∧ x.2.2.2 < y.2.2.2))
def ltP (x y : Nat × Nat) : Prop := x.1 < y.1 ∨ x.1 = y.1 ∧ x.2 < y.2
theorem seg_sorted (i k : Nat) : (segL i k).Pairwise ltP := by
  unfold segL
  rw [List.pairwise_map]
  exact List.Pairwise.imp (fun h => Or.inr ⟨rfl, h⟩) (List.pairwise_lt_range' (s := i + 1) (n := k - (i + 1)) (step := 1) (by omega))
theorem upto_fst {n i : Nat} {x : Nat × Nat} (h : x ∈ uptoL n i) : x.1 < i := by
  unfold uptoL segL at h
  simp only [List.mem_flatMap, List.mem_range, List.mem_map] at h
  obtain ⟨p, hp, q, _, rfl⟩ := h
  exact hp
theorem seg_fst {i k : Nat} {x : Nat × Nat} (h : x ∈ segL i k) : x.1 = i := by
  unfold segL at h
  simp only [List.mem_map] at h
  obtain ⟨q, _, rfl⟩ := h; rfl
theorem upto_sorted (n i : Nat) : (uptoL n i).Pairwise ltP := by
  induction i with
  | zero => exact List.Pairwise.nil
  | succ i ih =>
    rw [upto_snoc, List.pairwise_append]
    exact ⟨ih, seg_sorted i n, fun a ha b hb => Or.inl (by rw [seg_fst hb]; exact upto_fst ha)⟩
theorem rsw_sorted (c : Nat → Nat → Bool) (p : Nat × Nat) {qs : List (Nat × Nat)} (h : qs.Pairwise ltP) : (rowSw c p qs).Pairwise ltS := by
  unfold rowSw
  rw [List.pairwise_map]
  exact (h.filter _).imp fun h => Or.inr ⟨rfl, Or.inr ⟨rfl, h⟩⟩
theorem asw_sorted (c : Nat → Nat → Bool) (W : Nat) {ps : List (Nat × Nat)} (h : ps.Pairwise ltP) : (allSw c W ps).Pairwise ltS := by
  induction ps with
  | nil => exact List.Pairwise.nil
  | cons p ps ih =>
    rw [List.pairwise_cons] at h
    rw [asw_cons, List.pairwise_append]
    refine ⟨rsw_sorted c p (upto_sorted W W), ih h.2, fun a ha b hb => ?_⟩
    unfold rowSw at ha
    unfold allSw rowSw at hb
    simp only [List.mem_map, List.mem_flatMap] at ha hb
    obtain ⟨_, _, rfl⟩ := ha
    obtain ⟨q, hq, _, _, rfl⟩ := hb
    rcases h.1 q hq with h | ⟨h, h'⟩
    · exact Or.inl h
    · exact Or.inr ⟨h, Or.inl h'⟩
theorem swl_sorted (c : Nat → Nat → Bool) (W n : Nat) : (swL c W n).Pairwise ltS := asw_sorted c W (upto_sorted n n)
theorem upto_len (n i : Nat) (h : i ≤ n) : (uptoL n i).length ≤ i * n := by
  induction i with
  | zero => simp [uptoL]
  | succ i ih =>
    have := ih (by omega)
    rw [upto_snoc, List.length_append, Nat.succ_mul]
    have : (segL i n).length ≤ n := by unfold segL; simp
    omega
theorem rsw_len (c : Nat → Nat → Bool) (p : Nat × Nat) (qs : List (Nat × Nat)) : (rowSw c p qs).length ≤ qs.length := by
  unfold rowSw; rw [List.length_map]; exact List.length_filter_le _ _
end Go.Proofs.Yteejopkimlkhoaa

