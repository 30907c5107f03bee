/-
  Plain facts on the least number of cells to a unique image.
  Plain facts on chains of rows: the least number of cells to a unique image is found along chains.
-/
import Derived.Test.YtnfkafaolelkbaaNd
import Derived.Test.YtnfkafaolelkbaaMo
import Derived.Test.YtnfkafaolelkbaaWa

namespace Go.Proofs.Ytnfkafaolelkbaa
set_option maxRecDepth 100000

theorem cells_cell {c : Nat → Nat → Bool} {W n i j : Nat} (hw : W ≤ 6) (hi : i < n) (hj : j < W) : cellOf (cellsL c W n) i j = c i j := by
  have e : cellOf (cellsL c W n) i j = decide (bitI ((cellsL c W n).getD i 0) j = 1) := rfl
  rw [e, cells_bit hw hi hj]
  cases c i j <;> rfl
/-- The least distance to an image without a switch. -/
structure IsSteps (xs : List Int) (W n : Nat) (k : Int) : Prop where
  ex : ∃ ys, Im W n ys ∧ swL (cellOf ys) W n = [] ∧ farL xs ys W n = k
  le : ∀ ys, Im W n ys → swL (cellOf ys) W n = [] → k ≤ farL xs ys W n
theorem IsSteps.one {xs : List Int} {W n : Nat} {k l : Int} (h : IsSteps xs W n k) (h' : IsSteps xs W n l) : k = l := by
  obtain ⟨y, a, b, c⟩ := h.ex
  obtain ⟨y', a', b', c'⟩ := h'.ex
  have := h.le y' a' b'
  have := h'.le y a b
  omega
theorem IsSteps.nn {xs : List Int} {W n : Nat} {k : Int} (h : IsSteps xs W n k) : 0 ≤ k := by
  obtain ⟨y, _, _, c⟩ := h.ex
  rw [← c]; exact far_nn _ _ _ _
/-- 0 just if the image has no switch. -/
theorem IsSteps.zero {xs : List Int} {W n : Nat} {k : Int} (hI : Im W n xs) (h : IsSteps xs W n k) : k = 0 ↔ swL (cellOf xs) W n = [] := by
  constructor
  · intro e
    obtain ⟨y, a, b, c⟩ := h.ex
    rw [e] at c
    have := (farl_none hI a).1 c
    rw [this]; exact b
  · intro hu
    have h1 := h.le xs hI hu
    have h2 := h.nn
    rw [(farl_none hI hI).2 rfl] at h1
    omega
/-- Near images: the numbers are near. -/
theorem IsSteps.near {xs ys : List Int} {W n : Nat} {k l : Int} (h : IsSteps xs W n k) (h' : IsSteps ys W n l) : k ≤ l + farL xs ys W n := by
  obtain ⟨z, a, b, c⟩ := h'.ex
  have h1 := h.le z a b
  have h2 := (far_three (cellOf xs) (cellOf z) (cellOf ys) W n).1
  have e1 : farL xs z W n = farI (cellOf xs) (cellOf z) W n := rfl
  have e2 : farL ys z W n = farI (cellOf ys) (cellOf z) W n := rfl
  have e3 : farL xs ys W n = farI (cellOf xs) (cellOf ys) W n := rfl
  omega
theorem farl_turn {xs ys : List Int} {W n : Nat} (h : Im W n xs) (h' : Im W n ys) : farL (turnL xs W n) (turnL ys W n) n W = farL xs ys W n := by
  have e := far_turn (cellOf xs) (cellOf ys) W n
  have e1 : farL (turnL xs W n) (turnL ys W n) n W = farI (fun i j => cellOf xs j i) (fun i j => cellOf ys j i) n W := far_ext (fun i j hi hj => turn_cell h hj hi) (fun i j hi hj => turn_cell h' hj hi)
  rw [e1, e]; rfl
theorem farl_oth {xs ys : List Int} {W n : Nat} (h : Im W n xs) (h' : Im W n ys) : farL (othL xs W n) (othL ys W n) W n = farL xs ys W n := by
  have e := far_others (cellOf xs) (cellOf ys) W n
  have e1 : farL (othL xs W n) (othL ys W n) W n = farI (fun i j => !cellOf xs i j) (fun i j => !cellOf ys i j) W n := far_ext (fun i j hi hj => oth_cell h hi hj) (fun i j hi hj => oth_cell h' hi hj)
  rw [e1, e]; rfl
theorem IsSteps.turn {xs : List Int} {W n : Nat} {k : Int} (hI : Im W n xs) (h : IsSteps xs W n k) : IsSteps (turnL xs W n) n W k := by
  constructor
  · obtain ⟨y, a, b, c⟩ := h.ex
    exact ⟨turnL y W n, a.turn, (uniq_turn a).2 b, by rw [farl_turn hI a, c]⟩
  · intro y a b
    have e := a.turn_turn
    have h1 := h.le (turnL y n W) a.turn ((uniq_turn a).2 b)
    have h2 := farl_turn hI a.turn
    rw [e] at h2
    omega
theorem IsSteps.oth {xs : List Int} {W n : Nat} {k : Int} (hI : Im W n xs) (h : IsSteps xs W n k) : IsSteps (othL xs W n) W n k := by
  constructor
  · obtain ⟨y, a, b, c⟩ := h.ex
    exact ⟨othL y W n, a.oth, (uniq_oth a).2 b, by rw [farl_oth hI a, c]⟩
  · intro y a b
    have e := a.oth_oth
    have h1 := h.le (othL y W n) a.oth ((uniq_oth a).2 b)
    have h2 := farl_oth hI a.oth
    rw [e] at h2
    omega
/-- To the image without set cells. -/
theorem none_im {W n : Nat} (h1 : 1 ≤ W) (h2 : W ≤ 6) (h3 : 1 ≤ n) (h4 : n ≤ 6) : Im W n (List.replicate n 0) := by
  rw [← cells_none W n]; exact cells_im _ h1 h2 h3 h4
theorem none_cell {W n i j : Nat} (h2 : W ≤ 6) (hi : i < n) (hj : j < W) : cellOf (List.replicate n 0) i j = false := by
  rw [← cells_none W n]; exact cells_cell h2 hi hj
theorem none_uniq {W n : Nat} (h2 : W ≤ 6) : swL (cellOf (List.replicate n 0)) W n = [] :=
  (uniq_many _).2 (many_nested fun i k hi _ => .inl fun j hj he => by rw [none_cell h2 hi hj] at he; cases he)
theorem none_far {xs : List Int} {W n : Nat} (h : Im W n xs) : farL xs (List.replicate n 0) W n = manyI W xs n := by
  rw [many_sum]
  refine sum_ext fun i hi => sum_ext fun j hj => ?_
  (try dsimp only)
  rw [none_cell h.w6 hi hj, cell_bit]
  cases cellOf xs i j <;> rfl
theorem IsSteps.set {xs : List Int} {W n : Nat} {k : Int} (hI : Im W n xs) (h : IsSteps xs W n k) : k ≤ manyI W xs n := by
  rw [← none_far hI]
  exact h.le _ (none_im hI.w1 hI.w6 hI.l1 hI.l6) (none_uniq hI.w6)
theorem IsSteps.unset {xs : List Int} {W n : Nat} {k : Int} (hI : Im W n xs) (h : IsSteps xs W n k) : k ≤ manyI W (othL xs W n) n := (h.oth hI).set hI.oth
/-- The minimum over the first images. -/
def stepsF (xs : List Int) (W n : Nat) (b : Int) : Nat → Int
  | 0 => b
  | K + 1 => if swL (cellOf (digL W n K)) W n = [] then min (stepsF xs W n b K) (farL xs (digL W n K) W n) else stepsF xs W n b K
theorem steps_le {xs : List Int} {W n : Nat} {b : Int} : ∀ {K : Nat}, stepsF xs W n b K ≤ b ∧ ∀ x : Nat, x < K → swL (cellOf (digL W n x)) W n = [] → stepsF xs W n b K ≤ farL xs (digL W n x) W n
  | 0 => ⟨Int.le_refl _, fun x hx => by omega⟩
  | K + 1 => by
    have ih := steps_le (xs := xs) (W := W) (n := n) (b := b) (K := K)
    simp only [stepsF]
    split
    · refine ⟨by omega, fun x hx hu => ?_⟩
      by_cases e : x = K
      · subst e; omega
      · have := ih.2 x (by omega) hu; omega
    · rename_i hn
      refine ⟨ih.1, fun x hx hu => ?_⟩
      by_cases e : x = K
      · subst e; exact absurd hu hn
      · exact ih.2 x (by omega) hu
theorem steps_ex {xs : List Int} {W n : Nat} {b : Int} : ∀ {K : Nat}, stepsF xs W n b K = b ∨ ∃ x : Nat, x < K ∧ swL (cellOf (digL W n x)) W n = [] ∧ farL xs (digL W n x) W n = stepsF xs W n b K
  | 0 => .inl rfl
  | K + 1 => by
    have ih := steps_ex (xs := xs) (W := W) (n := n) (b := b) (K := K)
    simp only [stepsF]
    split
    · rename_i hu
      rcases Int.le_total (stepsF xs W n b K) (farL xs (digL W n K) W n) with e | e
      · rw [Int.min_eq_left e]
        rcases ih with h | ⟨x, a, b, c⟩
        · exact .inl h
        · exact .inr ⟨x, by omega, b, c⟩
      · rw [Int.min_eq_right e]
        exact .inr ⟨K, by omega, hu, rfl⟩
    · rcases ih with h | ⟨x, a, b, c⟩
      · exact .inl h
      · exact .inr ⟨x, by omega, b, c⟩
/-- Over all images it is the least distance. -/
theorem steps_is {xs : List Int} {W n : Nat} {b : Int} (hI : Im W n xs) (hb : manyI W xs n ≤ b) : IsSteps xs W n (stepsF xs W n b (pw (n * W)).toNat) := by
  have all : ∀ ys, Im W n ys → swL (cellOf ys) W n = [] → stepsF xs W n b (pw (n * W)).toNat ≤ farL xs ys W n := fun ys hy hu => by
    obtain ⟨d1, d2, d3⟩ := dig_num hy
    have := (steps_le (xs := xs) (W := W) (n := n) (b := b) (K := (pw (n * W)).toNat)).2 (numI ys W n).toNat (by omega)
    rw [Int.toNat_of_nonneg d1, d3] at this
    exact this hu
  refine ⟨?_, all⟩
  rcases steps_ex (xs := xs) (W := W) (n := n) (b := b) (K := (pw (n * W)).toNat) with e | ⟨x, _, hu, hf⟩
  · have hn := none_im hI.w1 hI.w6 hI.l1 hI.l6
    have h1 := all _ hn (none_uniq hI.w6)
    refine ⟨List.replicate n 0, hn, none_uniq hI.w6, ?_⟩
    rw [none_far hI] at h1 ⊢
    omega
  · exact ⟨_, dig_im hI.w1 hI.w6 hI.l1 hI.l6 _, hu, hf⟩
end Go.Proofs.Ytnfkafaolelkbaa

namespace Go.Proofs.Ytnfkafaolelkbaa
set_option maxRecDepth 100000

/-- How far a row is from cells. -/
def rfar (xs : List Int) (i : Nat) (c : Nat → Bool) (W : Nat) : Int := sumI (fun j => bI (cellOf xs i j != c j)) W
/-- The first columns of a list. -/
def inP (P : List Nat) (k j : Nat) : Bool := decide (j ∈ P.take k)
def leastF (xs : List Int) (i : Nat) (P : List Nat) (W : Nat) : Nat → Int
  | 0 => W
  | k + 1 => min (leastF xs i P W k) (rfar xs i (inP P k) W)
/-- All rows to rows of a chain. -/
def toF (xs : List Int) (P : List Nat) (W n : Nat) : Int := sumI (fun i => leastF xs i P W (P.length + 1)) n
def loopP (G : List Nat → Int) (P : List Nat) (b : Int) : Nat → Int
  | 0 => b
  | j + 1 => if j ∈ P then loopP G P b j else min (loopP G P b j) (G (P ++ [j]))
/-- The least number over all chains that begin so. -/
def alongP (xs : List Int) (W n : Nat) : Nat → List Nat → Int
  | 0, P => toF xs P W n
  | f + 1, P => loopP (alongP xs W n f) P (manyI W xs n) W
theorem rfar_bd (xs : List Int) (i : Nat) (c : Nat → Bool) (W : Nat) : 0 ≤ rfar xs i c W ∧ rfar xs i c W ≤ W := by
  unfold rfar
  have h := sum_bd (f := fun j => bI (cellOf xs i j != c j)) (fun _ => bI_01 _) W
  omega
theorem least_le {xs : List Int} {i : Nat} {P : List Nat} {W : Nat} : ∀ {k t : Nat}, t < k → leastF xs i P W k ≤ rfar xs i (inP P t) W
  | 0, t, h => by omega
  | k + 1, t, h => by
    simp only [leastF]
    by_cases e : t = k
    · subst e; exact Int.min_le_right _ _
    · have := least_le (xs := xs) (i := i) (P := P) (W := W) (k := k) (t := t) (by omega)
      omega
theorem least_ex {xs : List Int} {i : Nat} {P : List Nat} {W : Nat} : ∀ {k : Nat}, ∃ t, t < k + 1 ∧ leastF xs i P W (k + 1) = rfar xs i (inP P t) W
  | 0 => ⟨0, by omega, by
    simp only [leastF]
    have := rfar_bd xs i (inP P 0) W
    omega⟩
  | k + 1 => by
    obtain ⟨t, ht, e⟩ := least_ex (xs := xs) (i := i) (P := P) (W := W) (k := k)
    rw [leastF]
    rcases Int.le_total (leastF xs i P W (k + 1)) (rfar xs i (inP P (k + 1)) W) with h | h
    · exact ⟨t, by omega, by rw [Int.min_eq_left h, e]⟩
    · exact ⟨k + 1, by omega, by rw [Int.min_eq_right h]⟩
theorem least_bd {xs : List Int} {i : Nat} {P : List Nat} {W : Nat} : ∀ {k : Nat}, 0 ≤ leastF xs i P W k ∧ leastF xs i P W k ≤ W
  | 0 => ⟨by simp only [leastF]; omega, Int.le_refl _⟩
  | k + 1 => by
    have h1 := least_bd (xs := xs) (i := i) (P := P) (W := W) (k := k)
    have h2 := rfar_bd xs i (inP P k) W
    simp only [leastF]; omega
theorem chain_uniq {P : List Nat} {T : Nat → Nat} {W n : Nat} (hw : W ≤ 6) : swL (cellOf (cellsL (fun i j => inP P (T i) j) W n)) W n = [] := by
  refine (uniq_many _).2 (many_nested fun i k hi hk => ?_)
  have main : ∀ i k, i < n → k < n → T i ≤ T k → ∀ j, j < W → cellOf (cellsL (fun i j => inP P (T i) j) W n) i j = true → cellOf (cellsL (fun i j => inP P (T i) j) W n) k j = true := by
    intro i k hi hk hT j hj h
    rw [cells_cell hw hi hj] at h
    rw [cells_cell hw hk hj]
    unfold inP at h ⊢
    rw [decide_eq_true_iff] at h ⊢
    exact (List.take_subset_take_left P hT) h
  rcases Nat.le_total (T i) (T k) with e | e
  · exact .inl (main i k hi hk e)
  · exact .inr (main k i hk hi e)
theorem to_ex {xs : List Int} {P : List Nat} {W n : Nat} (hI : Im W n xs) : ∃ ys, Im W n ys ∧ swL (cellOf ys) W n = [] ∧ farL xs ys W n = toF xs P W n := by
  refine ⟨cellsL (fun i j => inP P ((fun i => Classical.choose (least_ex (xs := xs) (i := i) (P := P) (W := W) (k := P.length))) i) j) W n, cells_im _ hI.w1 hI.w6 hI.l1 hI.l6, chain_uniq hI.w6, ?_⟩
  refine sum_ext fun i hi => ?_
  have h := (Classical.choose_spec (least_ex (xs := xs) (i := i) (P := P) (W := W) (k := P.length))).2
  (try dsimp only)
  rw [h]
  exact sum_ext fun j hj => by (try dsimp only); rw [cells_cell hI.w6 hi hj]
theorem loop_ex {G : List Nat → Int} {P : List Nat} {b : Int} : ∀ {k : Nat}, loopP G P b k = b ∨ ∃ j, j < k ∧ loopP G P b k = G (P ++ [j])
  | 0 => .inl rfl
  | k + 1 => by
    have ih := loop_ex (G := G) (P := P) (b := b) (k := k)
    simp only [loopP]
    split
    · rcases ih with h | ⟨j, h1, h2⟩
      · exact .inl h
      · exact .inr ⟨j, by omega, h2⟩
    · rcases Int.le_total (loopP G P b k) (G (P ++ [k])) with e | e
      · rw [Int.min_eq_left e]
        rcases ih with h | ⟨j, h1, h2⟩
        · exact .inl h
        · exact .inr ⟨j, by omega, h2⟩
      · exact .inr ⟨k, by omega, Int.min_eq_right e⟩
theorem loop_le {G : List Nat → Int} {P : List Nat} {b : Int} : ∀ {k : Nat}, loopP G P b k ≤ b ∧ ∀ j, j < k → ¬ j ∈ P → loopP G P b k ≤ G (P ++ [j])
  | 0 => ⟨Int.le_refl _, fun j hj => by omega⟩
  | k + 1 => by
    have ih := loop_le (G := G) (P := P) (b := b) (k := k)
    simp only [loopP]
    split
    · rename_i hk
      refine ⟨ih.1, fun j hj hn => ?_⟩
      by_cases e : j = k
      · subst e; exact absurd hk hn
      · exact ih.2 j (by omega) hn
    · refine ⟨by omega, fun j hj hn => ?_⟩
      by_cases e : j = k
      · subst e; exact Int.min_le_right _ _
      · have := ih.2 j (by omega) hn; omega
theorem along_ex {xs : List Int} {W n : Nat} (hI : Im W n xs) : ∀ {f : Nat} {P : List Nat}, ∃ ys, Im W n ys ∧ swL (cellOf ys) W n = [] ∧ farL xs ys W n = alongP xs W n f P
  | 0, P => to_ex hI
  | f + 1, P => by
    rw [alongP]
    rcases loop_ex (G := alongP xs W n f) (P := P) (b := manyI W xs n) (k := W) with h | ⟨j, _, h⟩
    · rw [h]
      exact ⟨_, none_im hI.w1 hI.w6 hI.l1 hI.l6, none_uniq hI.w6, none_far hI⟩
    · rw [h]
      exact along_ex hI
theorem along_bd {xs : List Int} {W n : Nat} (hI : Im W n xs) {f : Nat} {P : List Nat} : 0 ≤ alongP xs W n f P ∧ alongP xs W n f P ≤ 36 := by
  obtain ⟨ys, _, _, h⟩ := along_ex hI (f := f) (P := P)
  rw [← h]
  exact far_bd36 hI ys (Nat.le_refl n)
theorem along_le {xs : List Int} {W n : Nat} : ∀ {f : Nat} {P Q : List Nat}, Q.length = f → (P ++ Q).Nodup → (∀ q, q ∈ Q → q < W) → alongP xs W n f P ≤ toF xs (P ++ Q) W n
  | 0, P, Q, hl, _, _ => by
    have : Q = [] := List.length_eq_zero_iff.1 hl
    subst this
    rw [List.append_nil]; exact Int.le_refl _
  | f + 1, P, [], hl, _, _ => by simp at hl
  | f + 1, P, q :: Q, hl, hd, hq => by
    have h1 := along_le (xs := xs) (W := W) (n := n) (f := f) (P := P ++ [q]) (Q := Q) (by simpa using hl) (by rw [List.append_assoc]; exact hd) (fun x hx => hq x (List.mem_cons_of_mem _ hx))
    have h2 := (loop_le (G := alongP xs W n f) (P := P) (b := manyI W xs n) (k := W)).2 q (hq q (List.mem_cons_self ..)) (fun hm => by
      have := (List.nodup_append.1 hd).2.2 q hm q (List.mem_cons_self ..)
      exact this rfl)
    rw [List.append_assoc] at h1
    rw [alongP]
    exact Int.le_trans h2 h1
theorem take_index {Q : List Nat} (hd : Q.Nodup) {p t : Nat} (hp : p < Q.length) : Q.getD p 0 ∈ Q.take t ↔ p < t := by
  rw [List.getD_eq_getElem?_getD, List.getElem?_eq_getElem hp, Option.getD_some, List.mem_take_iff_getElem]
  constructor
  · rintro ⟨i, hi, e⟩
    have := (List.getElem_inj hd).1 e
    omega
  · intro h
    exact ⟨p, by omega, rfl⟩
/-- The rows of a unique image are in the chain of its columns by descending sum. -/
theorem uniq_chain {ys : List Int} {W n : Nat} (h : Im W n ys) (hu : swL (cellOf ys) W n = []) {i j : Nat} (hi : i < n) (hj : j < W) : cellOf ys i j = inP (colO ys W n) (rI ys W i).toNat j := by
  have hC := colo_perm h
  have hR : (List.range n).Perm (List.range n) := List.Perm.refl _
  have hu2 : swL (sortC (cellOf ys) (List.range n) (colO ys W n)) W n = [] := by
    rw [uniq_many, many_perm hR hC, ← uniq_many]; exact hu
  have hl : (colO ys W n).length = W := by rw [hC.length_eq, List.length_range]
  have hnd : (colO ys W n).Nodup := ord_nodup _ _
  obtain ⟨p, hp, hpj⟩ : ∃ p, p < W ∧ (colO ys W n).getD p 0 = j := by
    have hm : j ∈ colO ys W n := hC.mem_iff.2 (List.mem_range.2 hj)
    obtain ⟨p, hp, e⟩ := List.mem_iff_getElem.1 hm
    exact ⟨p, by omega, by rw [List.getD_eq_getElem?_getD, List.getElem?_eq_getElem hp]; exact e⟩
  have hcol : ∀ j, j < W → sumI (fun i => bI (sortC (cellOf ys) (List.range n) (colO ys W n) i j)) n = cI ys n ((colO ys W n).getD j 0) := fun j _ => by
    rw [sortc_col hR]; rfl
  have hpre : ∀ a b, a ≤ b → b < W → sortC (cellOf ys) (List.range n) (colO ys W n) i b = true → sortC (cellOf ys) (List.range n) (colO ys W n) i a = true := fun a b hab hb hx =>
    uniq_prefix hu2 (fun j l hjl hl2 => by rw [hcol l hl2, hcol j (by omega)]; exact ord_desc (fun j _ => ci_bd h.l6 j) hjl hl2) hi hab hb hx
  have hs := prefix_sum (f := fun j => sortC (cellOf ys) (List.range n) (colO ys W n) i j) hpre p hp
  have hrow : sumI (fun j => bI (sortC (cellOf ys) (List.range n) (colO ys W n) i j)) W = rI ys W i := by
    rw [sortc_row hC, range_get hi]; rfl
  rw [hrow] at hs
  (try dsimp only at hs)
  unfold sortC at hs
  rw [range_get hi, hpj] at hs
  rw [hs]
  unfold inP
  have hb := ri_bd h.w6 (xs := ys) i
  have := take_index hnd (p := p) (t := (rI ys W i).toNat) (by omega)
  rw [hpj] at this
  refine decide_eq_decide.2 ?_
  rw [this]; omega
theorem to_le {xs ys : List Int} {W n : Nat} (h : Im W n ys) (hu : swL (cellOf ys) W n = []) : toF xs (colO ys W n) W n ≤ farL xs ys W n := by
  have hl : (colO ys W n).length = W := by rw [(colo_perm h).length_eq, List.length_range]
  refine sum_le fun i hi => ?_
  have e : sumI (fun j => bI (cellOf xs i j != cellOf ys i j)) W = rfar xs i (inP (colO ys W n) (rI ys W i).toNat) W :=
    sum_ext fun j hj => by (try dsimp only); rw [uniq_chain h hu hi hj]
  (try dsimp only)
  rw [e]
  have hb := sum_bd (f := fun j => bI (cellOf ys i j)) (fun _ => bI_01 _) W
  have hr : rI ys W i = sumI (fun j => bI (cellOf ys i j)) W := rfl
  exact least_le (by omega)
theorem along_is {xs : List Int} {W n : Nat} (hI : Im W n xs) : IsSteps xs W n (alongP xs W n W []) := by
  refine ⟨along_ex hI, fun ys hy hu => ?_⟩
  have hC := colo_perm hy
  have h1 := along_le (xs := xs) (W := W) (n := n) (f := W) (P := []) (Q := colO ys W n) (by rw [hC.length_eq, List.length_range]) (by rw [List.nil_append]; exact ord_nodup _ _) (fun q hq => List.mem_range.1 (hC.mem_iff.1 hq))
  rw [List.nil_append] at h1
  exact Int.le_trans h1 (to_le hy hu)
end Go.Proofs.Ytnfkafaolelkbaa
