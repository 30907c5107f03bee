/-
  Plain facts on unique images: no other image has the same sums just if there is no switch; rows are nested; indexes by descending value.
  Plain facts on sorted images: sums over permuted indexes, the sums of the sorted image, how many switches it has, and that a unique sorted image is nested.
  Plain facts on the sorted image: its cells, its sums, the same a second time, as many switches, and nested if unique.
-/
import Derived.Test.YtnfkafaolelkbaaMa
import Derived.Test.YtnfkafaolelkbaaKh
import Derived.Test.YtnfkafaolelkbaaCa
import Derived.Test.YtnfkafaolelkbaaDa

namespace Go.Proofs.Ytnfkafaolelkbaa
set_option maxRecDepth 100000

/-- No switch: no other image has the same sums. -/
theorem uniq_same {W n : Nat} {xs ys : List Int} (h : Im W n xs) (h' : Im W n ys) (hu : swL (cellOf xs) W n = []) (hs : SumE xs ys W n) : xs = ys := by
  refine im_cell_ext h h' fun i j hi hj => Classical.byContradiction fun hne => ?_
  have hv := var_of hs hi hj hne
  have hz := (var_none h).2 hu
  have em : manyI W (varL xs W n) n = sumI (fun i => sumI (fun j => bI (varB xs W n i j)) W) n := by
    rw [many_sum]
    exact sum_ext fun i hi => sum_ext fun j hj => by (try dsimp only); rw [cell_bit, varl_cell h hi hj]
  rw [em] at hz
  have p1 := sum_at (f := fun j => bI (varB xs W n i j)) (k := W) (fun _ _ => (bI_01 _).1) hj
  have p2 := sum_at (f := fun i => sumI (fun j => bI (varB xs W n i j)) W) (k := n) (fun _ _ => sum_nn fun _ _ => (bI_01 _).1) hi
  (try dsimp only at p1 p2)
  rw [hv, show bI true = 1 from rfl] at p1
  omega
theorem uniq_iff {W n : Nat} {xs : List Int} (h : Im W n xs) : swL (cellOf xs) W n = [] ↔ ∀ ys, Im W n ys → SumE xs ys W n → ys = xs := by
  refine ⟨fun hu ys hy hs => (uniq_same h hy hu hs).symm, fun hall => Classical.byContradiction fun hne => ?_⟩
  obtain ⟨s, hs⟩ := List.exists_mem_of_ne_nil _ hne
  have a := sw_at hs
  have e := hall _ (fls_im h s) (fls_sum h hs).symm
  have hi : s.1 < n := by omega
  have hj : s.2.2.1 < W := by omega
  have c1 : cellOf (flS xs W n s) s.1 s.2.2.1 = !cellOf xs s.1 s.2.2.1 := by
    unfold flS
    rw [fl_cell h hi hj, fl_corner ⟨.inl rfl, .inl rfl⟩]
  rw [e] at c1
  cases hx : cellOf xs s.1 s.2.2.1 <;> rw [hx] at c1 <;> cases c1
/-- Images with the same sums are both unique or both not. -/
theorem uniq_both {W n : Nat} {xs ys : List Int} (h : Im W n xs) (h' : Im W n ys) (hs : SumE xs ys W n) : swL (cellOf xs) W n = [] ↔ swL (cellOf ys) W n = [] := by
  have one : ∀ {xs ys : List Int}, Im W n xs → Im W n ys → SumE xs ys W n → swL (cellOf xs) W n = [] → swL (cellOf ys) W n = [] := by
    intro xs ys h h' hs hu
    have := uniq_same h h' hu hs
    rw [← this]; exact hu
  exact ⟨one h h' hs, one h' h hs.symm⟩
/-- Rows of a unique image are nested. -/
theorem uniq_rows {W n : Nat} {c : Nat → Nat → Bool} (hu : swL c W n = []) {i k j l : Nat} (hi : i < n) (hk : k < n) (hj : j < W) (hl : l < W) (h1 : c i j = true) (h2 : c k j = false) (h3 : c i l = false) : c k l = false := by
  refine Classical.byContradiction fun h4 => ?_
  have h4 : c k l = true := by simpa using h4
  have hik : i ≠ k := fun e => by subst e; rw [h1] at h2; cases h2
  have hjl : j ≠ l := fun e => by subst e; rw [h1] at h3; cases h3
  have hs : swC c i k j l = true := by unfold swC; rw [h1, h2, h3, h4]; rfl
  have main : ∀ {A B C D : Nat}, A < B → B < n → C < D → D < W → swC c A B C D = true → False := fun a1 a2 a3 a4 a5 => by
    have := swl_mem.2 ⟨a1, a2, a3, a4, a5⟩
    rw [hu] at this; cases this
  rcases Nat.lt_or_gt_of_ne hik with e1 | e1 <;> rcases Nat.lt_or_gt_of_ne hjl with e2 | e2
  · exact main e1 hk e2 hl hs
  · exact main e1 hk e2 hj (by rw [sw_cols]; exact hs)
  · exact main e1 hi e2 hl (by rw [sw_flip]; exact hs)
  · exact main e1 hi e2 hj (by rw [sw_cols, sw_flip]; exact hs)
theorem uniq_many {W n : Nat} (c : Nat → Nat → Bool) : swL c W n = [] ↔ manyC c W n = 0 := by
  rw [← swl_len]
  constructor
  · intro e; rw [e]; rfl
  · intro e; exact List.eq_nil_of_length_eq_zero (by omega)
/-- Indexes by descending value, those with equal values in their order: values are 0 to 6. -/
def ordL (f : Nat → Int) (n : Nat) : List Nat := (List.range 7).reverse.flatMap fun (x : Nat) => (List.range n).filter fun i => f i == (x : Int)
def ordP (f : Nat → Int) (i k : Nat) : Prop := f k < f i ∨ f i = f k ∧ i < k
theorem ord_mem {f : Nat → Int} {n : Nat} (h : ∀ i, i < n → 0 ≤ f i ∧ f i ≤ 6) {i : Nat} : i ∈ ordL f n ↔ i < n := by
  unfold ordL
  rw [List.mem_flatMap]
  constructor
  · rintro ⟨x, _, hx⟩
    exact List.mem_range.1 (List.mem_filter.1 hx).1
  · intro hi
    obtain ⟨x, hx⟩ := Int.eq_ofNat_of_zero_le (h i hi).1
    have := h i hi
    exact ⟨x, List.mem_reverse.2 (List.mem_range.2 (by omega)), List.mem_filter.2 ⟨List.mem_range.2 hi, by rw [hx]; simp⟩⟩
theorem ord_sorted (f : Nat → Int) (n : Nat) : (ordL f n).Pairwise (ordP f) := by
  unfold ordL
  rw [List.pairwise_flatMap]
  constructor
  · intro x _
    refine (List.Pairwise.filter _ List.pairwise_lt_range).imp_of_mem ?_
    intro i k hi hk hlt
    have e1 := (List.mem_filter.1 hi).2
    have e2 := (List.mem_filter.1 hk).2
    simp only [beq_iff_eq] at e1 e2
    exact .inr ⟨by omega, hlt⟩
  · rw [List.pairwise_reverse]
    refine List.pairwise_lt_range.imp ?_
    intro x y hxy i hi k hk
    have e1 := (List.mem_filter.1 hi).2
    have e2 := (List.mem_filter.1 hk).2
    simp only [beq_iff_eq] at e1 e2
    exact .inl (by omega)
theorem ord_nodup (f : Nat → Int) (n : Nat) : (ordL f n).Nodup := (ord_sorted f n).imp fun h e => by subst e; rcases h with h | h <;> omega
theorem ord_perm {f : Nat → Int} {n : Nat} (h : ∀ i, i < n → 0 ≤ f i ∧ f i ≤ 6) : (ordL f n).Perm (List.range n) :=
  (List.perm_ext_iff_of_nodup (ord_nodup f n) List.nodup_range).2 fun i => by rw [ord_mem h, List.mem_range]
theorem ord_len {f : Nat → Int} {n : Nat} (h : ∀ i, i < n → 0 ≤ f i ∧ f i ≤ 6) : (ordL f n).length = n := by rw [(ord_perm h).length_eq, List.length_range]
/-- Each list of all indexes in that order is this one. -/
theorem ord_eq {f : Nat → Int} {n : Nat} (h : ∀ i, i < n → 0 ≤ f i ∧ f i ≤ 6) {L : List Nat} (hp : L.Perm (List.range n)) (hs : L.Pairwise (ordP f)) : L = ordL f n :=
  (hp.trans (ord_perm h).symm).eq_of_pairwise (fun a b _ _ h1 h2 => by unfold ordP at h1 h2; omega) hs (ord_sorted f n)
end Go.Proofs.Ytnfkafaolelkbaa

namespace Go.Proofs.Ytnfkafaolelkbaa
set_option maxRecDepth 100000

theorem suml_perm {α : Type} (F : α → Int) {L M : List α} (h : L.Perm M) : sumL F L = sumL F M := by
  induction h with
  | nil => rfl
  | cons x _ ih => simp only [sumL]; rw [ih]
  | swap x y l => simp only [sumL]; omega
  | trans _ _ h1 h2 => exact h1.trans h2
theorem suml_range (F : Nat → Int) (n : Nat) : sumL F (List.range n) = sumI F n := by
  induction n with
  | zero => rfl
  | succ n ih => rw [List.range_succ, suml_append, ih]; simp [sumL, sumI]
theorem suml_list (F : Nat → Int) : ∀ L : List Nat, sumI (fun j => F (L.getD j 0)) L.length = sumL F L
  | [] => rfl
  | x :: L => by
    rw [List.length_cons, sum_shift]
    simp only [sumL]
    rw [← suml_list F L]
    rfl
/-- Indexes in any order: the sum is the same. -/
theorem sum_perm {L : List Nat} {n : Nat} (h : L.Perm (List.range n)) (F : Nat → Int) : sumI (fun j => F (L.getD j 0)) n = sumI F n := by
  have hl : L.length = n := by rw [h.length_eq, List.length_range]
  rw [← suml_range F n, ← suml_perm F h, ← suml_list F L, hl]
theorem perm_lt {L : List Nat} {n i : Nat} (h : L.Perm (List.range n)) (hi : i < n) : L.getD i 0 < n := by
  have hl : L.length = n := by rw [h.length_eq, List.length_range]
  have hi2 : i < L.length := by omega
  rw [List.getD_eq_getElem?_getD, List.getElem?_eq_getElem hi2]
  exact List.mem_range.1 (h.mem_iff.1 (List.getElem_mem hi2))
/-- Cells with rows and columns in another order. -/
def sortC (c : Nat → Nat → Bool) (R C : List Nat) (i j : Nat) : Bool := c (R.getD i 0) (C.getD j 0)
theorem sortc_row {c : Nat → Nat → Bool} {R C : List Nat} {W : Nat} (hC : C.Perm (List.range W)) (i : Nat) : sumI (fun j => bI (sortC c R C i j)) W = sumI (fun j => bI (c (R.getD i 0) j)) W :=
  sum_perm hC (fun j => bI (c (R.getD i 0) j))
theorem sortc_col {c : Nat → Nat → Bool} {R C : List Nat} {n : Nat} (hR : R.Perm (List.range n)) (j : Nat) : sumI (fun i => bI (sortC c R C i j)) n = sumI (fun i => bI (c i (C.getD j 0))) n :=
  sum_perm hR (fun i => bI (c i (C.getD j 0)))
theorem only_perm {c : Nat → Nat → Bool} {R C : List Nat} {W : Nat} (hC : C.Perm (List.range W)) (i k : Nat) : onlyI (sortC c R C) i k W = onlyI c (R.getD i 0) (R.getD k 0) W :=
  sum_perm hC (fun j => bI (c (R.getD i 0) j && !c (R.getD k 0) j))
theorem tri_double {G : Nat → Nat → Int} (hs : ∀ i k, G i k = G k i) (hd : ∀ i, G i i = 0) : ∀ n, sumI (fun i => sumI (fun k => G i k) n) n = 2 * triI G n
  | 0 => rfl
  | n + 1 => by
    have ih := tri_double hs hd n
    rw [tri_succ]
    simp only [sumI]
    rw [sum_add, ih, hd n, sum_ext (f := fun k => G n k) (g := fun i => G i n) fun k _ => hs n k]
    omega
theorem many_only (c : Nat → Nat → Bool) (W n : Nat) : manyC c W n = triI (fun i k => onlyI c i k W * onlyI c k i W) n := tri_ext fun i k _ _ => pair_many c i k W
theorem only_self (c : Nat → Nat → Bool) (i W : Nat) : onlyI c i i W = 0 := by
  unfold onlyI
  rw [sum_ext (g := fun _ => 0) fun j _ => by cases c i j <;> rfl, sum_zero]
/-- The order of rows and columns does not matter for the number of switches. -/
theorem many_perm {c : Nat → Nat → Bool} {R C : List Nat} {W n : Nat} (hR : R.Perm (List.range n)) (hC : C.Perm (List.range W)) : manyC (sortC c R C) W n = manyC c W n := by
  have d : ∀ c : Nat → Nat → Bool, sumI (fun i => sumI (fun k => onlyI c i k W * onlyI c k i W) n) n = 2 * manyC c W n := fun c => by
    rw [many_only]
    exact tri_double (G := fun i k => onlyI c i k W * onlyI c k i W) (fun i k => Int.mul_comm _ _) (fun i => by (try dsimp only); rw [only_self]; rfl) n
  have e : sumI (fun i => sumI (fun k => onlyI (sortC c R C) i k W * onlyI (sortC c R C) k i W) n) n = sumI (fun i => sumI (fun k => onlyI c i k W * onlyI c k i W) n) n := by
    rw [← sum_perm hR (fun i => sumI (fun k => onlyI c i k W * onlyI c k i W) n)]
    refine sum_ext fun i _ => ?_
    rw [← sum_perm hR (fun k => onlyI c (R.getD i 0) k W * onlyI c k (R.getD i 0) W)]
    exact sum_ext fun k _ => by rw [only_perm hC, only_perm hC]
  have := d (sortC c R C)
  rw [e, d c] at this
  omega
/-- In a unique image whose columns do not ascend each row is set from its beginning on. -/
theorem uniq_prefix {W n : Nat} {c : Nat → Nat → Bool} (hu : swL c W n = []) (hd : ∀ j l, j ≤ l → l < W → sumI (fun i => bI (c i l)) n ≤ sumI (fun i => bI (c i j)) n) {i j l : Nat} (hi : i < n) (hjl : j ≤ l) (hl : l < W) (h : c i l = true) : c i j = true := by
  refine Classical.byContradiction fun hno => ?_
  have hno : c i j = false := by simpa using hno
  have hall : ∀ k, k < n → bI (c k j) ≤ bI (c k l) := fun k hk => by
    cases e1 : c k j with
    | false => have := bI_01 (c k l); simp only [bI] at this ⊢; simp; split <;> omega
    | true =>
      have : c k l = true := by
        cases e2 : c k l with
        | true => rfl
        | false =>
          have := uniq_rows hu hi hk hl (by omega : j < W) h e2 hno
          rw [e1] at this; cases this
      rw [this]; exact Int.le_refl _
  have h1 := sum_le hall
  have h2 := hd j l hjl hl
  have h3 : sumI (fun k => bI (c k l) - bI (c k j)) n ≤ 0 := by rw [sum_take]; omega
  have h4 := sum_at (f := fun k => bI (c k l) - bI (c k j)) (k := n) (fun k hk => by have := hall k hk; (try dsimp only); omega) hi
  (try dsimp only at h4)
  rw [h, hno, show bI true = 1 from rfl, show bI false = 0 from rfl] at h4
  omega
theorem prefix_sum {f : Nat → Bool} : ∀ {W : Nat}, (∀ j l, j ≤ l → l < W → f l = true → f j = true) → ∀ j, j < W → f j = decide ((j : Int) < sumI (fun j => bI (f j)) W)
  | 0, _, j, hj => by omega
  | W + 1, h, j, hj => by
    have ih := prefix_sum (f := f) (W := W) fun j l hjl hl hf => h j l hjl (by omega) hf
    have hb := sum_bd (f := fun j => bI (f j)) (fun _ => bI_01 _) W
    have hs : sumI (fun j => bI (f j)) (W + 1) = sumI (fun j => bI (f j)) W + bI (f W) := rfl
    by_cases e : f W = true
    · have all : ∀ k, k ≤ W → f k = true := fun k hk => h k W hk (by omega) e
      have es : sumI (fun j => bI (f j)) W = W := by
        rw [sum_ext (g := fun _ => 1) fun k hk => by (try dsimp only); rw [all k (by omega)]; rfl, sum_same]; omega
      rw [e, show bI true = 1 from rfl] at hs
      rw [hs, all j (by omega), es, decide_eq_true (by omega)]
    · have e : f W = false := by simpa using e
      rw [e, show bI false = 0 from rfl, Int.add_zero] at hs
      rw [hs]
      by_cases ej : j = W
      · subst ej; rw [e, decide_eq_false (by omega)]
      · exact ih j (by omega)
end Go.Proofs.Ytnfkafaolelkbaa

namespace Go.Proofs.Ytnfkafaolelkbaa
set_option maxRecDepth 100000

/-- The sums of a row and of a column. -/
def rI (xs : List Int) (W i : Nat) : Int := sumI (fun j => bI (cellOf xs i j)) W
def cI (xs : List Int) (n j : Nat) : Int := sumI (fun i => bI (cellOf xs i j)) n
theorem ri_bd {xs : List Int} {W : Nat} (h : W ≤ 6) (i : Nat) : 0 ≤ rI xs W i ∧ rI xs W i ≤ 6 := by
  have := sum_bd (f := fun j => bI (cellOf xs i j)) (fun _ => bI_01 _) W
  unfold rI; omega
theorem ci_bd {xs : List Int} {n : Nat} (h : n ≤ 6) (j : Nat) : 0 ≤ cI xs n j ∧ cI xs n j ≤ 6 := by
  have := sum_bd (f := fun i => bI (cellOf xs i j)) (fun _ => bI_01 _) n
  unfold cI; omega
def rowO (xs : List Int) (W n : Nat) : List Nat := ordL (rI xs W) n
def colO (xs : List Int) (W n : Nat) : List Nat := ordL (cI xs n) W
theorem rowo_perm {xs : List Int} {W n : Nat} (h : Im W n xs) : (rowO xs W n).Perm (List.range n) := ord_perm fun i _ => ri_bd h.w6 i
theorem colo_perm {xs : List Int} {W n : Nat} (h : Im W n xs) : (colO xs W n).Perm (List.range W) := ord_perm fun j _ => ci_bd h.l6 j
/-- The sorted image. -/
def sortI (xs : List Int) (W n : Nat) : List Int := cellsL (sortC (cellOf xs) (rowO xs W n) (colO xs W n)) W n
theorem sorti_im {xs : List Int} {W n : Nat} (h : Im W n xs) : Im W n (sortI xs W n) := cells_im _ h.w1 h.w6 h.l1 h.l6
theorem sorti_cell {xs : List Int} {W n i j : Nat} (h : Im W n xs) (hi : i < n) (hj : j < W) : cellOf (sortI xs W n) i j = sortC (cellOf xs) (rowO xs W n) (colO xs W n) i j := by
  have e : cellOf (sortI xs W n) i j = decide (bitI ((sortI xs W n).getD i 0) j = 1) := rfl
  rw [e]
  unfold sortI
  rw [cells_bit h.w6 hi hj]
  cases sortC (cellOf xs) (rowO xs W n) (colO xs W n) i j <;> rfl
theorem sorti_ri {xs : List Int} {W n i : Nat} (h : Im W n xs) (hi : i < n) : rI (sortI xs W n) W i = rI xs W ((rowO xs W n).getD i 0) := by
  unfold rI
  rw [← sortc_row (colo_perm h) i]
  exact sum_ext fun j hj => by rw [sorti_cell h hi hj]
theorem sorti_ci {xs : List Int} {W n j : Nat} (h : Im W n xs) (hj : j < W) : cI (sortI xs W n) n j = cI xs n ((colO xs W n).getD j 0) := by
  unfold cI
  rw [← sortc_col (rowo_perm h) j]
  exact sum_ext fun i hi => by rw [sorti_cell h hi hj]
theorem ord_desc {f : Nat → Int} {n : Nat} (h : ∀ i, i < n → 0 ≤ f i ∧ f i ≤ 6) {i k : Nat} (hik : i ≤ k) (hk : k < n) : f ((ordL f n).getD k 0) ≤ f ((ordL f n).getD i 0) := by
  rcases Nat.eq_or_lt_of_le hik with e | e
  · subst e; exact Int.le_refl _
  · have hl := ord_len h
    have h1 : i < (ordL f n).length := by omega
    have h2 : k < (ordL f n).length := by omega
    have p := List.pairwise_iff_getElem.1 (ord_sorted f n) i k h1 h2 e
    rw [List.getD_eq_getElem?_getD, List.getD_eq_getElem?_getD, List.getElem?_eq_getElem h1, List.getElem?_eq_getElem h2]
    simp only [Option.getD_some]
    unfold ordP at p
    omega
theorem sorti_rdesc {xs : List Int} {W n i k : Nat} (h : Im W n xs) (hik : i ≤ k) (hk : k < n) : rI (sortI xs W n) W k ≤ rI (sortI xs W n) W i := by
  rw [sorti_ri h hk, sorti_ri h (by omega)]
  exact ord_desc (fun i _ => ri_bd h.w6 i) hik hk
theorem sorti_cdesc {xs : List Int} {W n i k : Nat} (h : Im W n xs) (hik : i ≤ k) (hk : k < W) : cI (sortI xs W n) n k ≤ cI (sortI xs W n) n i := by
  rw [sorti_ci h hk, sorti_ci h (by omega)]
  exact ord_desc (fun j _ => ci_bd h.l6 j) hik hk
/-- Descending values: the order is the given one. -/
theorem ord_range {f : Nat → Int} {n : Nat} (h : ∀ i, i < n → 0 ≤ f i ∧ f i ≤ 6) (hd : ∀ i k, i ≤ k → k < n → f k ≤ f i) : ordL f n = List.range n := by
  refine (ord_eq h (List.Perm.refl _) ?_).symm
  refine List.pairwise_lt_range.imp_of_mem ?_
  intro i k _ hk hik
  have := hd i k (by omega) (List.mem_range.1 hk)
  unfold ordP; omega
theorem range_get {n i : Nat} (hi : i < n) : (List.range n).getD i 0 = i := by
  rw [List.getD_eq_getElem?_getD, List.getElem?_range hi]; rfl
/-- The same a second time. -/
theorem sorti_same {xs : List Int} {W n : Nat} (h : Im W n xs) : sortI (sortI xs W n) W n = sortI xs W n := by
  refine im_cell_ext (sorti_im (sorti_im h)) (sorti_im h) fun i j hi hj => ?_
  rw [sorti_cell (sorti_im h) hi hj]
  unfold sortC
  have e1 : rowO (sortI xs W n) W n = List.range n := ord_range (fun i _ => ri_bd h.w6 i) fun i k hik hk => sorti_rdesc h hik hk
  have e2 : colO (sortI xs W n) W n = List.range W := ord_range (fun j _ => ci_bd h.l6 j) fun i k hik hk => sorti_cdesc h hik hk
  rw [e1, e2, range_get hi, range_get hj]
/-- As many switches. -/
theorem sorti_many {xs : List Int} {W n : Nat} (h : Im W n xs) : manyC (cellOf (sortI xs W n)) W n = manyC (cellOf xs) W n := by
  rw [many_ext fun i j hi hj => sorti_cell h hi hj]
  exact many_perm (rowo_perm h) (colo_perm h)
theorem sorti_unique {xs : List Int} {W n : Nat} (h : Im W n xs) : swL (cellOf (sortI xs W n)) W n = [] ↔ swL (cellOf xs) W n = [] := by
  rw [uniq_many, uniq_many, sorti_many h]
/-- An image without a switch whose columns do not ascend is nested. -/
theorem uniq_nest {xs : List Int} {W n : Nat} (h : Im W n xs) (hu : swL (cellOf xs) W n = []) (hd : ∀ j l, j ≤ l → l < W → cI xs n l ≤ cI xs n j) : xs = nestL (rsL xs W n) W := by
  have hl : (rsL xs W n).length = n := rs_len _ _ _
  have him : Im W n (nestL (rsL xs W n) W) := by
    have := cells_im (fun i j => decide ((j : Int) < (rsL xs W n).getD i 0)) h.w1 h.w6 h.l1 h.l6
    unfold nestL; rw [hl]; exact this
  refine im_cell_ext h him fun i j hi hj => ?_
  rw [nest_cell h.w6 (by omega) hj, rs_cells xs W n i hi]
  exact prefix_sum (f := fun j => cellOf xs i j) (fun j l hjl hl hf => uniq_prefix hu hd hi hjl hl hf) j hj
theorem sorti_nest {xs : List Int} {W n : Nat} (h : Im W n xs) (hu : swL (cellOf xs) W n = []) : sortI xs W n = nestL (rsL (sortI xs W n) W n) W :=
  uniq_nest (sorti_im h) ((sorti_unique h).2 hu) fun _ _ hjl hl => sorti_cdesc h hjl hl
theorem rowsl_map (f : Nat → Int) (n : Nat) : rowsL f n = (List.range n).map f := by
  apply List.ext_getElem
  · rw [rows_len, List.length_map, List.length_range]
  · intro i h1 h2
    have hi : i < n := by rw [rows_len] at h1; exact h1
    have := rows_get f hi
    rw [getD_elem h1] at this
    rw [this]; simp
theorem order_list {L : List Nat} {n : Nat} (h : L.Perm (List.range n)) (f : Nat → Int) : (rowsL (fun i => f (L.getD i 0)) n).Perm (rowsL f n) := by
  have hl : L.length = n := by rw [h.length_eq, List.length_range]
  have e : rowsL (fun i => f (L.getD i 0)) n = L.map f := by
    apply List.ext_getElem
    · rw [rows_len, List.length_map, hl]
    · intro i h1 h2
      have hi : i < n := by rw [rows_len] at h1; exact h1
      have := rows_get (fun i => f (L.getD i 0)) hi
      rw [getD_elem h1] at this
      rw [this, List.getElem_map, List.getD_eq_getElem?_getD, List.getElem?_eq_getElem (by omega)]; rfl
  rw [e, rowsl_map]
  exact h.map f
theorem rows_desc {f : Nat → Int} {n : Nat} (hd : ∀ i k, i ≤ k → k < n → f k ≤ f i) : (rowsL f n).Pairwise (fun a b => b ≤ a) := by
  rw [rowsl_map, List.pairwise_map]
  refine List.pairwise_lt_range.imp_of_mem ?_
  intro i k _ hk hik
  exact hd i k (by omega) (List.mem_range.1 hk)
theorem rs_rows (xs : List Int) (W n : Nat) : rsL xs W n = rowsL (rI xs W) n := by
  have e : rsL xs W n = rowsL (fun i => (rsL xs W n).getD i 0) n := rows_ext fun i hi => by rw [rs_get hi]
  rw [e]; exact rows_ext fun i hi => rs_cells xs W n i hi
theorem cs_rows (xs : List Int) (W n : Nat) : csL xs n W = rowsL (cI xs n) W := by
  have e : csL xs n W = rowsL (fun j => (csL xs n W).getD j 0) W := rows_ext fun j hj => by rw [cs_get hj]
  rw [e]; exact rows_ext fun j hj => cs_cells xs W n j hj
/-- Its sums are those of the image, sorted. -/
theorem sorti_rs {xs : List Int} {W n : Nat} (h : Im W n xs) : rsL (sortI xs W n) W n = sortL (rsL xs W n) := by
  refine sort_unique (sums_el h.sumsV).1 ?_ ?_
  · rw [rs_rows, rs_rows, rows_ext fun i hi => sorti_ri h hi]
    exact order_list (rowo_perm h) (rI xs W)
  · rw [rs_rows]; exact rows_desc fun i k hik hk => sorti_rdesc h hik hk
theorem sorti_cs {xs : List Int} {W n : Nat} (h : Im W n xs) : csL (sortI xs W n) n W = sortL (csL xs n W) := by
  refine sort_unique (sums_el h.sumsV).2 ?_ ?_
  · rw [cs_rows, cs_rows, rows_ext fun j hj => sorti_ci h hj]
    exact order_list (colo_perm h) (cI xs n)
  · rw [cs_rows]; exact rows_desc fun i k hik hk => sorti_cdesc h hik hk
end Go.Proofs.Ytnfkafaolelkbaa
