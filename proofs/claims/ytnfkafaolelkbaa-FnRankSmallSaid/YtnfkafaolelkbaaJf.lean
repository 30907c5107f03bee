/-
  Plain facts: any column sums; rows of one cell.
-/
import Derived.Test.YtnfkafaolelkbaaJa
import Derived.Test.YtnfkafaolelkbaaMo
namespace Go.Proofs.Ytnfkafaolelkbaa
set_option maxRecDepth 100000

/-- At most all of them. -/
theorem nOf_bd (P : List Int → Bool) (W : Nat) : ∀ n, nOf P W n ≤ pw (n * W)
  | 0 => by
    have e : nOf P W 0 = bI (P []) + 0 := rfl
    have := (bI_01 (P [])).2
    have h : pw (0 * W) = 1 := by rw [Nat.zero_mul]; rfl
    omega
  | n + 1 => by
    have h := pn_int W
    rw [nOf_succ]
    refine Int.le_trans (sum_le (g := fun _ => pw (n * W)) fun m _ => nOf_bd (fun ys => P ((m : Int) :: ys)) W n) ?_
    rw [sum_const, h, Nat.add_mul, Nat.one_mul, pw_add, Int.mul_comm]
    exact Int.le_refl _
theorem pw_nat (a b : Nat) : a ≤ b → pw a ≤ pw b := pw_le a b
theorem cnt_16 {rows cols : List Int} (h : rows.length * cols.length ≤ 16) : 0 ≤ cntS rows cols ∧ cntS rows cols ≤ 65536 := by
  have h1 := nOf_bd (fitP rows cols cols.length rows.length) cols.length rows.length
  have h2 := pw_nat _ _ h
  have h3 : pw 16 = 65536 := by decide
  have := cnt_nn rows cols
  unfold cntS at *
  omega
/-- Ways to choose k of n. -/
def choI (n : Int) : Nat → Int
  | 0 => 1
  | k + 1 => choI n k * (n - k) / (k + 1)
def prodI (f : Nat → Int) : Nat → Int
  | 0 => 1
  | k + 1 => prodI f k * f k
theorem prod_ext {f g : Nat → Int} : ∀ {k : Nat}, (∀ i, i < k → f i = g i) → prodI f k = prodI g k
  | 0, _ => rfl
  | k + 1, h => by simp only [prodI]; rw [prod_ext fun i hi => h i (by omega), h k (by omega)]
theorem prod_shift (f : Nat → Int) : ∀ n, prodI f (n + 1) = f 0 * prodI (fun i => f (i + 1)) n
  | 0 => by simp [prodI]
  | n + 1 => by
    have := prod_shift f n
    simp only [prodI] at this ⊢
    rw [this, Int.mul_assoc]
theorem prod_one {f g : Nat → Int} {c : Int} {m : Nat} : ∀ {k : Nat}, m < k → f m = c * g m → (∀ i, i < k → i ≠ m → f i = g i) → prodI f k = c * prodI g k
  | 0, h, _, _ => absurd h (Nat.not_lt_zero m)
  | k + 1, h, h1, h2 => by
    simp only [prodI]
    by_cases e : m = k
    · subst e
      rw [h1, prod_ext fun i hi => h2 i (by omega) (by omega), Int.mul_left_comm]
    · rw [prod_one (m := m) (by omega) h1 fun i hi => h2 i (by omega), h2 k (by omega) (by omega), Int.mul_assoc]
theorem cho_masks : ∀ W : Nat, W < 7 → ∀ r : Nat, r < W + 1 → sumI (fun m => bI (decide (cntI m W = (r : Int)))) (pn W) = choI W r := by decide +kernel
/-- Any column sums. -/
def allC (w : Int) : List Int → Int
  | [] => 1
  | r :: rows => choI w r.toNat * allC w rows
theorem allC_prod (w : Int) : ∀ rows : List Int, allC w rows = prodI (fun i => choI w (rows.getD i 0).toNat) rows.length
  | [] => rfl
  | r :: rows => by
    rw [List.length_cons, prod_shift]
    simp only [allC]
    rw [allC_prod w rows]; rfl
theorem allC_num {W : Nat} (hW : W ≤ 6) : ∀ rows : List Int, (∀ r, r ∈ rows → 0 ≤ r ∧ r ≤ W) → nOf (fun xs => decide (xs.map (fun x => cntI x W) = rows)) W rows.length = allC W rows
  | [], _ => by
    have e : nOf (fun xs => decide (xs.map (fun x => cntI x W) = [])) W 0 = bI (decide (([] : List Int).map (fun x => cntI x W) = [])) + 0 := rfl
    rw [List.length_nil, e]; simp [bI, allC]
  | r :: rows, h => by
    have hr := h r (List.mem_cons_self ..)
    have ih := allC_num hW rows fun x hx => h x (List.mem_cons_of_mem _ hx)
    rw [List.length_cons, nOf_succ]
    have hm := cho_masks W (by omega) r.toNat (by omega)
    rw [Int.toNat_of_nonneg hr.1] at hm
    simp only [allC]
    rw [← hm, ← ih, ← sum_mul]
    refine sum_ext fun m _ => ?_
    (try dsimp only)
    rw [nOf_ext (Q := fun ys => decide (cntI m W = r) && decide (ys.map (fun x => cntI x W) = rows)) fun ys _ => by
      rw [List.map_cons, ← Bool.decide_and]
      exact decide_eq_decide.2 ⟨fun e => ⟨(List.cons.inj e).1, (List.cons.inj e).2⟩, fun e => by rw [e.1, e.2]⟩]
    cases decide (cntI (m : Int) W = r) with
    | false =>
      have := nOf_false W rows.length
      simp only [Bool.false_and, bI]
      rw [this]; simp
    | true => simp [bI]
theorem allC_rows {rows : List Int} {W : Nat} (hW : W ≤ 6) (h : ∀ r, r ∈ rows → 0 ≤ r ∧ r ≤ W) : nOf (fun xs => decide (rsL xs W rows.length = rows)) W rows.length = allC W rows := by
  rw [← allC_num hW rows h]
  refine nOf_ext fun xs hx => ?_
  rw [rs_map (imgs_mem.1 hx).1]
theorem mem_bd {rows : List Int} {w : Int} (h : ∀ i, i < rows.length → 0 ≤ rows.getD i 0 ∧ rows.getD i 0 ≤ w) : ∀ r, r ∈ rows → 0 ≤ r ∧ r ≤ w := by
  intro r hr
  obtain ⟨i, hi, e⟩ := List.getElem_of_mem hr
  have := h i hi
  rwa [getD_elem hi, e] at this
/-- At most those with any column sums. -/
theorem cnt_less {rows cols : List Int} (hs : sumsB rows cols = true) : cntS rows cols ≤ allC cols.length rows := by
  obtain ⟨_, ⟨_, d⟩, hr, _⟩ := sumsB_parts hs
  rw [← allC_rows d (mem_bd hr)]
  exact nOf_sub fun xs h => decide_eq_true (fitP_iff.1 h).1
theorem cnt_lessc {rows cols : List Int} (hs : sumsB rows cols = true) : cntS rows cols ≤ allC rows.length cols := by
  rw [← cnt_turn hs]; exact cnt_less (sumsB_flip hs)
/-- Summed up by a value. -/
theorem nOf_by {P : List Int → Bool} {W n K : Nat} (f : List Int → Int) (h : ∀ xs, xs ∈ imgs W n → 0 ≤ f xs ∧ f xs < K) : sumI (fun i => nOf (fun xs => P xs && decide (f xs = (i : Int))) W n) K = nOf P W n := by
  unfold nOf
  rw [suml_swap (fun i xs => bI (P xs && decide (f xs = (i : Int))))]
  refine suml_ext fun xs hx => ?_
  (try dsimp only)
  obtain ⟨h0, h1⟩ := h xs hx
  cases P xs with
  | false =>
    rw [show (fun i : Nat => bI (false && decide (f xs = (i : Int)))) = fun _ => 0 from funext fun i => rfl, sum_zero]; rfl
  | true =>
    rw [sum_one (g := fun _ => 0) (m := (f xs).toNat) (d := 1) (by omega) (by rw [Int.toNat_of_nonneg h0]; simp [bI]) fun i _ hne => ?_, sum_zero]
    · rfl
    · have : ¬ f xs = (i : Int) := by omega
      rw [decide_eq_false this]; rfl
theorem cnt_sum1 {rows : List Int} {W : Nat} (hW : W = 1) (h : ∀ r, r ∈ rows → 0 ≤ r ∧ r ≤ W) : sumI (fun i => cntS rows [(i : Int)]) (rows.length + 1) = allC W rows := by
  subst hW
  rw [← allC_rows (by omega) h, ← nOf_by (K := rows.length + 1) (fun xs => csI xs 0 rows.length) fun xs _ => by have := csI_bd xs 0 rows.length; omega]
  refine sum_ext fun i _ => ?_
  unfold cntS
  refine nOf_ext fun xs _ => ?_
  unfold fitP
  congr 1
  exact decide_eq_decide.2 ⟨fun e => (List.cons.inj e).1, fun e => by rw [← e]; rfl⟩
theorem cnt_sum2 {rows : List Int} {W : Nat} (hW : W = 2) (h : ∀ r, r ∈ rows → 0 ≤ r ∧ r ≤ W) : sumI (fun i => sumI (fun k => cntS rows [(i : Int), (k : Int)]) (rows.length + 1)) (rows.length + 1) = allC W rows := by
  subst hW
  rw [← allC_rows (by omega) h, ← nOf_by (K := rows.length + 1) (fun xs => csI xs 0 rows.length) fun xs _ => by have := csI_bd xs 0 rows.length; omega]
  refine sum_ext fun i _ => ?_
  (try dsimp only)
  rw [← nOf_by (K := rows.length + 1) (fun xs => csI xs 1 rows.length) fun xs _ => by have := csI_bd xs 1 rows.length; omega]
  refine sum_ext fun k _ => ?_
  unfold cntS
  refine nOf_ext fun xs _ => ?_
  unfold fitP
  rw [Bool.and_assoc]
  congr 1
  rw [← Bool.decide_and]
  exact decide_eq_decide.2 ⟨fun e => ⟨(List.cons.inj e).1, (List.cons.inj (List.cons.inj e).2).1⟩, fun e => by rw [← e.1, ← e.2]; rfl⟩
/-- The ways to choose of few. -/
theorem cho_few : ∀ W : Nat, W < 7 → ∀ k : Nat, k < W + 1 → choI W k = choI W (W - k) ∧ 1 ≤ choI W k ∧ choI W k ≤ 20 := by decide +kernel
theorem cho_ends : ∀ W : Nat, W < 7 → choI W 0 = 1 ∧ choI W W = 1 ∧ (1 ≤ W → choI W 1 = W ∧ choI W (W - 1) = W) := by decide +kernel
theorem ones_masks : ∀ W : Nat, W < 7 → (List.range (pn W)).filter (fun m => decide (cntI (m : Nat) W = 1)) = (List.range W).map pn := by decide +kernel
theorem pn_bits : ∀ j : Nat, j < 7 → ∀ l : Nat, l < 7 → bitI (pn j) l = if l = j then 1 else 0 := by decide +kernel
theorem suml_filter {α : Type} (p : α → Bool) (F : α → Int) : ∀ xs : List α, sumL (fun x => if p x = true then F x else 0) xs = sumL F (xs.filter p)
  | [] => rfl
  | x :: xs => by
    rw [List.filter_cons]
    simp only [sumL]
    rw [suml_filter p F xs]
    split <;> simp [sumL]
def fac : Nat → Int
  | 0 => 1
  | k + 1 => fac k * (k + 1)
def facP (cols : List Int) : Int := prodI (fun j => fac (cols.getD j 0).toNat) cols.length
theorem way_ones {W : Nat} (hW : W ≤ 6) : ∀ (n : Nat) (cols : List Int), cols.length = W → (∀ j, j < W → 0 ≤ cols.getD j 0) → lsum cols = n → wayI W (List.replicate n 1) cols * facP cols = fac n
  | 0, cols, hl, h0, hs => by
    have hz : ∀ j, j < cols.length → cols.getD j 0 = 0 := by
      rw [lsum_rows] at hs
      exact sum_none (fun i hi => h0 i (by omega)) hs
    have e : facP cols = 1 := by
      unfold facP
      rw [prod_ext (g := fun _ => 1) fun i hi => by rw [hz i hi]; rfl]
      generalize cols.length = n
      induction n with
      | zero => rfl
      | succ n ih => simp only [prodI]; rw [ih]; rfl
    rw [e, List.replicate_zero]
    simp only [wayI]
    rw [if_pos (by simpa using hs)]; rfl
  | n + 1, cols, hl, h0, hs => by
    have hstep : wayI W (List.replicate (n + 1) 1) cols = sumI (fun j => if 1 ≤ cols.getD j 0 then wayI W (List.replicate n 1) (cols.set j (cols.getD j 0 - 1)) else 0) W := by
      rw [List.replicate_succ]
      simp only [wayI]
      have e1 : ∀ m : Nat, (if cntI m W = 1 ∧ takeB cols m = true then wayI W (List.replicate n 1) (takeI cols m) else 0) = if decide (cntI m W = 1) = true then (fun m : Nat => if takeB cols m = true then wayI W (List.replicate n 1) (takeI cols m) else 0) m else 0 := by
        intro m
        by_cases a : cntI m W = 1 <;> by_cases b : takeB cols m = true <;> simp [a, b]
      rw [sum_ext fun m _ => e1 m, ← suml_rng, suml_filter (fun m : Nat => decide (cntI m W = 1)), ones_masks W (by omega), suml_map, suml_rng]
      refine sum_ext fun j hj => ?_
      have e2 : takeB cols (pn j) = decide (1 ≤ cols.getD j 0) := by
        unfold takeB
        refine decide_eq_decide.2 ⟨fun h => ?_, fun h l hl' => ?_⟩
        · have := h j (by omega)
          rw [pn_bits j (by omega) j (by omega), if_pos rfl] at this
          exact this
        · rw [pn_bits j (by omega) l (by omega)]
          split
          · rename_i e; subst e; exact h
          · exact h0 l (by omega)
      have e3 : takeI cols (pn j) = cols.set j (cols.getD j 0 - 1) := by
        refine lists_ext (took_len ..) (by rw [List.length_set]) fun l hl' => ?_
        rw [took_get _ hl', pn_bits j (by omega) l (by omega)]
        by_cases e : l = j
        · subst e; rw [if_pos rfl, getD_elem (xs := cols.set l (cols.getD l 0 - 1)) (by rw [List.length_set]; exact hl'), List.getElem_set_self]
        · rw [if_neg e, getD_elem (xs := cols.set j (cols.getD j 0 - 1)) (by rw [List.length_set]; exact hl'), List.getElem_set_ne (by omega), getD_elem hl']; omega
      rw [e2, e3]
      simp only [decide_eq_true_eq]
    rw [hstep, ← sum_mul]
    have key : ∀ j, j < W → (if 1 ≤ cols.getD j 0 then wayI W (List.replicate n 1) (cols.set j (cols.getD j 0 - 1)) else 0) * facP cols = cols.getD j 0 * fac n := by
      intro j hj
      have hset : ∀ l, l < cols.length → (cols.set j (cols.getD j 0 - 1)).getD l 0 = if l = j then cols.getD j 0 - 1 else cols.getD l 0 := by
        intro l hl'
        rw [getD_elem (xs := cols.set j (cols.getD j 0 - 1)) (by rw [List.length_set]; exact hl')]
        by_cases e : l = j
        · subst e; rw [if_pos rfl, List.getElem_set_self]
        · rw [if_neg e, List.getElem_set_ne (by omega), getD_elem hl']
      by_cases h1 : 1 ≤ cols.getD j 0
      · rw [if_pos h1]
        have hf : facP cols = cols.getD j 0 * facP (cols.set j (cols.getD j 0 - 1)) := by
          unfold facP
          rw [List.length_set]
          refine prod_one (m := j) (by omega) ?_ fun i hi hne => ?_
          · rw [hset j (by omega), if_pos rfl]
            obtain ⟨t, ht⟩ : ∃ t : Nat, cols.getD j 0 = t + 1 := ⟨(cols.getD j 0 - 1).toNat, by omega⟩
            rw [ht, show ((t : Int) + 1).toNat = t + 1 by omega, show ((t : Int) + 1 - 1).toNat = t by omega]
            simp only [fac]; rw [Int.mul_comm]
          · rw [hset i hi, if_neg hne]
        have ih := way_ones hW n (cols.set j (cols.getD j 0 - 1)) (by rw [List.length_set, hl]) (fun l hl' => by
          rw [hset l (by omega)]; split
          · omega
          · exact h0 l hl') (by
          rw [lsum_rows, List.length_set, sum_one (f := fun l => (cols.set j (cols.getD j 0 - 1)).getD l 0) (g := fun l => cols.getD l 0) (m := j) (d := -1) (by omega) (by
            (try dsimp only); rw [hset j (by omega), if_pos rfl]; omega) fun i hi hne => by (try dsimp only); rw [hset i hi, if_neg hne]]
          rw [lsum_rows] at hs; omega)
        rw [hf, Int.mul_left_comm, ih]
      · rw [if_neg h1]
        have := h0 j hj
        rw [show cols.getD j 0 = 0 by omega]; simp
    rw [sum_ext key, sum_mul]
    have e : sumI (fun i => cols.getD i 0) W = lsum cols := by rw [lsum_rows, hl]
    rw [e, hs]
    simp only [fac]
    rw [Int.mul_comm]; rfl
theorem cnt_ones {rows cols : List Int} (hs : sumsB rows cols = true) (h1 : ∀ i, i < rows.length → rows.getD i 0 = 1) (ht : lsum cols = rows.length) : cntS rows cols * facP cols = fac rows.length := by
  obtain ⟨_, ⟨_, d⟩, _, hc⟩ := sumsB_parts hs
  have e : rows = List.replicate rows.length 1 := by
    refine lists_ext (n := rows.length) rfl List.length_replicate fun i hi => ?_
    rw [h1 i hi, getD_elem (by rw [List.length_replicate]; exact hi), List.getElem_replicate]
  have h := way_ones d rows.length cols rfl (fun j hj => (hc j hj).1) ht
  rw [← e, way_num cols.length rows cols rfl fun j hj => (hc j hj).1] at h
  exact h
/-- Divided by 1, 2, .. -/
def dvI (a : Int) : Nat → Int
  | 0 => a
  | k + 1 => dvI a k / (k + 1)
theorem dv_fac (b : Int) : ∀ (c : Nat) , dvI (b * fac c) c = b := by
  intro c
  induction c generalizing b with
  | zero => simp [dvI, fac]
  | succ k ih =>
    simp only [dvI, fac]
    rw [show b * (fac k * ((k : Int) + 1)) = (b * ((k : Int) + 1)) * fac k by rw [Int.mul_assoc, Int.mul_comm (fac k)], ih]
    exact Int.mul_ediv_cancel _ (by omega)

end Go.Proofs.Ytnfkafaolelkbaa

