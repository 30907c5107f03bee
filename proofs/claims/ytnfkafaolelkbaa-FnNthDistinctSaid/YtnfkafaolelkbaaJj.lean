/-
  Plain facts on counting with column sums as keys: choices of rows, counted from the front or one list more at the end; what is counted while a map is ranged over.
-/
import Derived.Test.YtnfkafaolelkbaaJa
namespace Go.Proofs.Ytnfkafaolelkbaa
set_option maxRecDepth 100000

/-- Six numbers, one less at each bit of a row; one more. -/
def subV (k : List Int) (m : Int) : List Int := rowsL (fun j => k.getD j 0 - bitI m j) 6
def addV (k : List Int) (m : Int) : List Int := rowsL (fun j => k.getD j 0 + bitI m j) 6
def zerV : List Int := rowsL (fun _ => 0) 6
def padL (cols : List Int) : List Int := rowsL (fun j => cols.getD j 0) 6
theorem sub_len (k : List Int) (m : Int) : (subV k m).length = 6 := rows_len ..
theorem add_len (k : List Int) (m : Int) : (addV k m).length = 6 := rows_len ..
theorem pad_len (k : List Int) : (padL k).length = 6 := rows_len ..
theorem zer_len : zerV.length = 6 := rows_len ..
theorem sub_get (k : List Int) (m : Int) {j : Nat} (hj : j < 6) : (subV k m).getD j 0 = k.getD j 0 - bitI m j := rows_get _ hj
theorem add_get (k : List Int) (m : Int) {j : Nat} (hj : j < 6) : (addV k m).getD j 0 = k.getD j 0 + bitI m j := rows_get _ hj
theorem pad_get (k : List Int) {j : Nat} (hj : j < 6) : (padL k).getD j 0 = k.getD j 0 := rows_get _ hj
theorem zer_get {j : Nat} (hj : j < 6) : zerV.getD j 0 = 0 := rows_get _ hj
theorem six_ext {k l : List Int} (h1 : k.length = 6) (h2 : l.length = 6) (h : ∀ j, j < 6 → k.getD j 0 = l.getD j 0) : k = l := by
  apply List.ext_getElem (by omega)
  intro j hj hj2
  have := h j (by omega)
  simpa [List.getD_eq_getElem?_getD, List.getElem?_eq_getElem hj, List.getElem?_eq_getElem hj2] using this
theorem add_sub {k l : List Int} {m : Int} (h1 : k.length = 6) (h2 : l.length = 6) : addV k m = l ↔ k = subV l m := by
  constructor
  · rintro rfl
    exact six_ext h1 (sub_len ..) fun j hj => by rw [sub_get _ _ hj, add_get _ _ hj]; omega
  · rintro rfl
    exact six_ext (add_len ..) h2 fun j hj => by rw [add_get _ _ hj, sub_get _ _ hj]; omega
theorem sub_comm (k : List Int) (m l : Int) : subV (subV k m) l = subV (subV k l) m :=
  six_ext (sub_len ..) (sub_len ..) fun j hj => by rw [sub_get _ _ hj, sub_get _ _ hj, sub_get _ _ hj, sub_get _ _ hj]; omega
/-- How many choices of rows, one from each list, have given column sums. -/
def ckr : List (List Int) → List Int → Int
  | [], k => if k = zerV then 1 else 0
  | L :: C, k => sumL (fun m => ckr C (subV k m)) L
theorem suml_zero {α : Type} {F : α → Int} : ∀ {xs : List α}, (∀ x, x ∈ xs → F x = 0) → sumL F xs = 0
  | [], _ => rfl
  | x :: xs, h => by
    have h1 := h x (List.mem_cons_self ..)
    have h2 := suml_zero (F := F) (xs := xs) fun y hy => h y (List.mem_cons_of_mem _ hy)
    show F x + sumL F xs = 0
    omega
theorem suml_add {α : Type} (F G : α → Int) : ∀ xs : List α, sumL (fun x => F x + G x) xs = sumL F xs + sumL G xs
  | [] => rfl
  | x :: xs => by
    have := suml_add F G xs
    show F x + G x + sumL _ xs = F x + sumL F xs + (G x + sumL G xs)
    omega
theorem suml_ex {α : Type} {F G : α → Int} : ∀ {xs : List α}, (∀ x, x ∈ xs → F x = G x) → sumL F xs = sumL G xs
  | [], _ => rfl
  | x :: xs, h => by
    have h1 := h x (List.mem_cons_self ..)
    have h2 := suml_ex (F := F) (G := G) (xs := xs) fun y hy => h y (List.mem_cons_of_mem _ hy)
    show F x + sumL F xs = G x + sumL G xs
    omega
theorem suml_mono {α : Type} {F G : α → Int} : ∀ {xs : List α}, (∀ x, x ∈ xs → F x ≤ G x) → sumL F xs ≤ sumL G xs
  | [], _ => Int.le_refl _
  | x :: xs, h => by
    have h1 := h x (List.mem_cons_self ..)
    have h2 := suml_mono (F := F) (G := G) (xs := xs) fun y hy => h y (List.mem_cons_of_mem _ hy)
    show F x + sumL F xs ≤ G x + sumL G xs
    omega
theorem suml_swp {α β : Type} (F : α → β → Int) (ys : List β) : ∀ xs : List α, sumL (fun x => sumL (F x) ys) xs = sumL (fun y => sumL (fun x => F x y) xs) ys
  | [] => (suml_zero fun _ _ => rfl).symm
  | x :: xs => by
    have h1 := suml_swp F ys xs
    have h2 := suml_add (F x) (fun y => sumL (fun x => F x y) xs) ys
    show sumL (F x) ys + sumL _ xs = sumL (fun y => F x y + sumL (fun x => F x y) xs) ys
    omega
theorem ckr_mid (L : List Int) (B : List (List Int)) : ∀ (A : List (List Int)) (k : List Int), ckr (A ++ L :: B) k = sumL (fun m => ckr (A ++ B) (subV k m)) L
  | [], _ => rfl
  | L0 :: A, k => by
    show sumL (fun m => ckr (A ++ L :: B) (subV k m)) L0 = sumL (fun m => sumL (fun m0 => ckr (A ++ B) (subV (subV k m) m0)) L0) L
    rw [suml_swp (fun m m0 => ckr (A ++ B) (subV (subV k m) m0))]
    refine suml_ex fun m _ => ?_
    rw [ckr_mid L B A]
    exact suml_ex fun m0 _ => by rw [sub_comm]
theorem ckr_snoc (L : List Int) (A : List (List Int)) (k : List Int) : ckr (A ++ [L]) k = sumL (fun m => ckr A (subV k m)) L := by
  have := ckr_mid L [] A k
  simpa using this
theorem ckr_nn : ∀ (C : List (List Int)) (k : List Int), 0 ≤ ckr C k
  | [], k => by unfold ckr; split <;> decide
  | L :: C, k => suml_nn fun m _ => ckr_nn C _
theorem ckr_good : ∀ {C : List (List Int)} {k : List Int}, ckr C k ≠ 0 → ∀ j, j < 6 → 0 ≤ k.getD j 0 ∧ k.getD j 0 ≤ C.length
  | [], k, h, j, hj => by
    have : k = zerV := by
      apply Classical.byContradiction
      intro e
      exact h (by unfold ckr; rw [if_neg e])
    subst this
    rw [zer_get hj]; simp
  | L :: C, k, h, j, hj => by
    apply Classical.byContradiction
    intro hn
    refine h (suml_zero fun m _ => ?_)
    apply Classical.byContradiction
    intro h0
    have h1 := ckr_good h0 j hj
    rw [sub_get _ _ hj] at h1
    have := bit_01 m j
    simp only [List.length_cons] at hn
    omega
theorem ckr_bd : ∀ {C : List (List Int)} (k : List Int), (∀ L, L ∈ C → L.length ≤ 64) → ckr C k ≤ pw (6 * C.length)
  | [], k, _ => by unfold ckr; split <;> decide
  | L :: C, k, h => by
    have h1 := h L (List.mem_cons_self ..)
    have h2 : ∀ m, ckr C (subV k m) ≤ pw (6 * C.length) := fun m => ckr_bd _ fun M hM => h M (List.mem_cons_of_mem _ hM)
    have h3 : ∀ (c : Int) (xs : List Int), 0 ≤ c → xs.length ≤ 64 → (∀ m, ckr C (subV k m) ≤ c) → sumL (fun m => ckr C (subV k m)) xs ≤ c * xs.length := by
      intro c xs hc _ hle
      induction xs with
      | nil => simp [sumL]
      | cons x xs ih =>
        have := ih (by simp at *; omega)
        have := hle x
        simp only [sumL, List.length_cons]
        rw [Int.natCast_add, Int.mul_add]
        omega
    have hp : 1 ≤ pw (6 * C.length) := pw_pos _
    have h4 := h3 _ L (by omega) h1 h2
    have h5 : pw (6 * (C.length + 1)) = pw (6 * C.length) * 64 := by
      rw [show 6 * (C.length + 1) = 6 * C.length + 1 + 1 + 1 + 1 + 1 + 1 by omega]
      simp only [pw_succ]
      omega
    have h6 : pw (6 * C.length) * L.length ≤ pw (6 * C.length) * 64 := Int.mul_le_mul_of_nonneg_left (by omega) (by omega)
    show sumL (fun m => ckr C (subV k m)) L ≤ pw (6 * (C.length + 1))
    omega
/-- All rows of a width with a number of set cells, up to a row. -/
def withL (W : Nat) (r : Int) : Nat → List Int
  | 0 => []
  | k + 1 => withL W r k ++ if cntI (k : Nat) W = r then [(k : Int)] else []
theorem with_sum (W : Nat) (r : Int) (F : Int → Int) : ∀ K, sumL F (withL W r K) = sumI (fun m => if cntI (m : Nat) W = r then F (m : Nat) else 0) K
  | 0 => rfl
  | K + 1 => by
    rw [withL, suml_append, with_sum W r F K]
    show _ + _ = sumI _ K + _
    by_cases h : cntI (K : Nat) W = r
    · rw [if_pos h]; simp [sumL, h]
    · rw [if_neg h]; simp [sumL, h]
theorem with_len (W : Nat) (r : Int) : ∀ K, (withL W r K).length ≤ K
  | 0 => Nat.le_refl _
  | K + 1 => by
    have := with_len W r K
    rw [withL, List.length_append]
    split
    · simp; omega
    · simp; omega
theorem with_mem {W : Nat} {r x : Int} : ∀ {K : Nat}, x ∈ withL W r K → 0 ≤ x ∧ x < K
  | 0, h => by cases h
  | K + 1, h => by
    rw [withL, List.mem_append] at h
    rcases h with h | h
    · have := with_mem h; omega
    · split at h
      · rw [List.mem_singleton] at h; subst h; omega
      · cases h
def choC (W : Nat) (rows : List Int) : List (List Int) := rows.map fun r => withL W r (pn W)
theorem high_bit : ∀ W, W < 7 → ∀ m : Nat, m < pn W → ∀ j, j < 6 → W ≤ j → bitI (m : Nat) j = 0 := by decide +kernel
theorem pad_zero {cols : List Int} (h6 : cols.length ≤ 6) (h : ∀ j, j < cols.length → 0 ≤ cols.getD j 0) : lsum cols = 0 ↔ padL cols = zerV := by
  have hr : lsum cols = sumI (fun i => cols.getD i 0) cols.length := lsum_rows cols
  have key : ∀ (f : Nat → Int) (n : Nat), (∀ i, i < n → 0 ≤ f i) → (sumI f n = 0 ↔ ∀ i, i < n → f i = 0) := by
    intro f n
    induction n with
    | zero => intro _; simp [sumI]
    | succ n ih =>
      intro h
      have h0 : 0 ≤ sumI f n := by
        clear ih
        have h' : ∀ i, i < n → 0 ≤ f i := fun i hi => h i (by omega)
        clear h
        induction n with
        | zero => exact Int.le_refl _
        | succ n ih2 =>
          have := ih2 fun i hi => h' i (by omega)
          have := h' n (by omega)
          simp only [sumI]; omega
      have h1 := ih fun i hi => h i (by omega)
      have h2 := h n (by omega)
      simp only [sumI]
      constructor
      · intro e i hi
        by_cases e2 : i = n
        · subst e2; omega
        · exact h1.1 (by omega) i (by omega)
      · intro e
        have := h1.2 fun i hi => e i (by omega)
        have := e n (by omega)
        omega
  rw [hr, key _ _ h]
  constructor
  · intro e
    refine six_ext (pad_len _) zer_len fun j hj => ?_
    rw [pad_get _ hj, zer_get hj]
    by_cases hc : j < cols.length
    · exact e j hc
    · simp [List.getD_eq_getElem?_getD, List.getElem?_eq_none (by omega : cols.length ≤ j)]
  · intro e j hj
    have : (padL cols).getD j 0 = zerV.getD j 0 := by rw [e]
    rwa [pad_get _ (by omega), zer_get (by omega)] at this
theorem step_ckr {W : Nat} (hW : W ≤ 6) {others cols : List Int} (hl : cols.length = W) (_ : ∀ j, j < W → 0 ≤ cols.getD j 0)
    (ih : ∀ cols' : List Int, cols'.length = W → (∀ j, j < W → 0 ≤ cols'.getD j 0) → wayI W others cols' = ckr (choC W others) (padL cols')) {m : Nat} (hm : m < pn W) :
    (if takeB cols (m : Nat) = true then wayI W others (takeI cols (m : Nat)) else 0) = ckr (choC W others) (subV (padL cols) (m : Nat)) := by
  by_cases ht : takeB cols (m : Nat) = true
  · rw [if_pos ht]
    have hb : ∀ j, j < cols.length → bitI (m : Nat) j ≤ cols.getD j 0 := of_decide_eq_true ht
    have e : subV (padL cols) (m : Nat) = padL (takeI cols (m : Nat)) := six_ext (sub_len ..) (pad_len _) fun j hj => by
      rw [sub_get _ _ hj, pad_get _ hj, pad_get _ hj]
      by_cases hc : j < cols.length
      · rw [took_get _ hc]
      · rw [high_bit W (by omega) m hm j hj (by omega)]
        simp [List.getD_eq_getElem?_getD, List.getElem?_eq_none (by omega : cols.length ≤ j), List.getElem?_eq_none (show (takeI cols (m : Nat)).length ≤ j by rw [took_len]; omega)]
    rw [e]
    refine ih _ (by rw [took_len, hl]) fun j hj => ?_
    rw [took_get _ (by omega)]
    have := hb j (by omega)
    omega
  · rw [if_neg ht]
    apply Eq.symm
    apply Classical.byContradiction
    intro hn
    apply ht
    refine decide_eq_true fun j hj => ?_
    have := (ckr_good hn j (by omega)).1
    rw [sub_get _ _ (by omega), pad_get _ (by omega)] at this
    omega
theorem way_ckr {W : Nat} (hW : W ≤ 6) : ∀ (rows cols : List Int), cols.length = W → (∀ j, j < W → 0 ≤ cols.getD j 0) → wayI W rows cols = ckr (choC W rows) (padL cols)
  | [], cols, hl, h0 => by
    have := pad_zero (cols := cols) (by omega) (by rw [hl]; exact h0)
    show (if lsum cols = 0 then (1 : Int) else 0) = if padL cols = zerV then 1 else 0
    by_cases e : lsum cols = 0
    · rw [if_pos e, if_pos (this.1 e)]
    · rw [if_neg e, if_neg fun h => e (this.2 h)]
  | r :: rows, cols, hl, h0 => by
    show sumI _ (pn W) = sumL (fun m => ckr (choC W rows) (subV (padL cols) m)) (withL W r (pn W))
    rw [with_sum]
    refine sum_ext fun m hm => ?_
    have h := step_ckr hW hl h0 (way_ckr hW rows) hm
    by_cases hr : cntI (m : Nat) W = r
    · rw [if_pos hr, ← h]
      by_cases ht : takeB cols (m : Nat) = true
      · rw [if_pos ht, if_pos ⟨hr, ht⟩]
      · rw [if_neg ht, if_neg fun h => ht h.2]
    · rw [if_neg hr, if_neg fun h => hr h.1]
theorem cho_len (W : Nat) (rows : List Int) : (choC W rows).length = rows.length := by simp [choC]
theorem cho_get {W : Nat} {rows : List Int} {i : Nat} (hi : i < rows.length) : (choC W rows)[i]? = some (withL W (rows.getD i 0) (pn W)) := by
  simp [choC, List.getElem?_map, List.getElem?_eq_getElem hi, List.getD_eq_getElem?_getD]
theorem cnt_ckr {rows cols : List Int} (hs : sumsB rows cols = true) : ckr (choC cols.length rows) (padL cols) = cntS rows cols := by
  obtain ⟨h1, h2, h3, h4⟩ := sumsB_parts hs
  have e := way_num cols.length rows cols rfl (fun j hj => (h4 j hj).1)
  rw [way_ckr (by omega) rows cols rfl fun j hj => (h4 j hj).1] at e
  exact e
/-- What is counted of one column sums' key, and of those that were met. -/
def rowT (N : List Int → Int) (kv k : List Int) (L : List Int) : Int := sumL (fun m => if addV kv m = k then N kv else 0) L
def nxS (ks : List (List Int)) (N : List Int → Int) (L : List Int) (lf : List Int → Bool) (k : List Int) : Int := sumL (fun kv => if lf kv = true then 0 else rowT N kv k L) ks
theorem nx_start {ks : List (List Int)} {N : List Int → Int} {L : List Int} {lf : List Int → Bool} (h : ∀ kv, kv ∈ ks → lf kv = true) (k : List Int) : nxS ks N L lf k = 0 :=
  suml_zero fun kv hk => if_pos (h kv hk)
theorem nx_step {ks : List (List Int)} {N : List Int → Int} {L : List Int} {lf lf' : List Int → Bool} {kv : List Int} (k : List Int) (hd : ks.Nodup) (hk : kv ∈ ks) (hl : lf kv = true) (h : ∀ x, x ∈ ks → lf' x = (lf x && !decide (x = kv))) :
    nxS ks N L lf' k = nxS ks N L lf k + rowT N kv k L := by
  induction ks with
  | nil => cases hk
  | cons x ks ih =>
    obtain ⟨d1, d2⟩ := List.nodup_cons.1 hd
    have hx := h x (List.mem_cons_self ..)
    show (if lf' x = true then 0 else _) + nxS ks N L lf' k = (if lf x = true then 0 else _) + nxS ks N L lf k + _
    by_cases e : x = kv
    · subst e
      have e2 : nxS ks N L lf' k = nxS ks N L lf k := suml_ex fun y hy => by
        have := h y (List.mem_cons_of_mem _ hy)
        rw [this]
        have hne : y ≠ x := fun e => d1 (e ▸ hy)
        simp [hne]
      rw [e2, hx, if_pos hl]
      simp
      omega
    · have hk2 : kv ∈ ks := by
        rcases List.mem_cons.1 hk with h | h
        · exact absurd h.symm e
        · exact h
      have := ih d2 hk2 fun y hy => h y (List.mem_cons_of_mem _ hy)
      rw [this, hx]
      simp [e]
      omega
theorem nx_full {ks : List (List Int)} {C : List (List Int)} {L : List Int} {lf : List Int → Bool} (hd : ks.Nodup) (h6 : ∀ kv, kv ∈ ks → kv.length = 6) (hc : ∀ kv : List Int, kv.length = 6 → ckr C kv ≠ 0 → kv ∈ ks)
    (hl : ∀ kv, kv ∈ ks → lf kv = false) {k : List Int} (hk : k.length = 6) : nxS ks (ckr C) L lf k = ckr (C ++ [L]) k := by
  have e1 : nxS ks (ckr C) L lf k = sumL (fun kv => sumL (fun m => if addV kv m = k then ckr C kv else 0) L) ks :=
    suml_ex fun kv hv => by rw [hl kv hv]; simp [rowT]
  rw [e1, suml_swp (fun kv m => if addV kv m = k then ckr C kv else 0), ckr_snoc]
  refine suml_ex fun m _ => ?_
  have e2 : sumL (fun kv => if addV kv m = k then ckr C kv else 0) ks = sumL (fun kv => if kv = subV k m then ckr C kv else 0) ks :=
    suml_ex fun kv hv => by
      have := add_sub (m := m) (h6 kv hv) hk
      by_cases e : kv = subV k m
      · rw [if_pos e, if_pos (this.2 e)]
      · rw [if_neg e, if_neg fun h => e (this.1 h)]
  rw [e2]
  clear e1 e2
  have key : ∀ (ks : List (List Int)) (x : List Int) , ks.Nodup → sumL (fun kv => if kv = x then ckr C kv else 0) ks = if x ∈ ks then ckr C x else 0 := by
    intro ks x
    induction ks with
    | nil => intro _; simp [sumL]
    | cons y ks ih =>
      intro hd
      obtain ⟨d1, d2⟩ := List.nodup_cons.1 hd
      have := ih d2
      show (if y = x then _ else _) + sumL _ ks = _
      rw [this]
      by_cases e : y = x
      · subst e
        rw [if_pos rfl, if_neg d1, if_pos (List.mem_cons_self ..)]; omega
      · rw [if_neg e]
        by_cases e2 : x ∈ ks
        · rw [if_pos e2, if_pos (List.mem_cons_of_mem _ e2)]; omega
        · rw [if_neg e2, if_neg (by rw [List.mem_cons]; exact fun h => h.elim (fun h => e h.symm) e2)]; omega
  rw [key ks _ hd]
  by_cases e : subV k m ∈ ks
  · rw [if_pos e]
  · rw [if_neg e]
    apply Classical.byContradiction
    intro h
    exact e (hc _ (sub_len ..) (fun h0 => h h0.symm))
theorem row_nn {N : List Int → Int} {kv : List Int} (h : 0 ≤ N kv) (k L : List Int) : 0 ≤ rowT N kv k L := suml_nn fun m _ => by split <;> omega
theorem row_take {N : List Int → Int} {kv : List Int} (k : List Int) {L : List Int} {t : Nat} (ht : t < L.length) : rowT N kv k (L.take (t + 1)) = rowT N kv k (L.take t) + if addV kv (L.getD t 0) = k then N kv else 0 := by
  unfold rowT
  rw [List.take_add_one, suml_append]
  simp [List.getElem?_eq_getElem ht, List.getD_eq_getElem?_getD, sumL]
theorem row_part {N : List Int → Int} {kv : List Int} (h : 0 ≤ N kv) (k L : List Int) (t : Nat) : rowT N kv k (L.take t) ≤ rowT N kv k L := by
  have e : rowT N kv k L = rowT N kv k (L.take t) + rowT N kv k (L.drop t) := by
    unfold rowT; rw [← suml_append, List.take_append_drop]
  have := row_nn h k (L.drop t)
  omega
theorem nx_nn {ks : List (List Int)} {N : List Int → Int} (h : ∀ kv, kv ∈ ks → 0 ≤ N kv) (L : List Int) (lf : List Int → Bool) (k : List Int) : 0 ≤ nxS ks N L lf k :=
  suml_nn fun kv hv => by
    split
    · exact Int.le_refl _
    · exact row_nn (h kv hv) ..
/-- What has been counted is no more than all. -/
theorem nx_le {ks : List (List Int)} {N : List Int → Int} {L : List Int} {lf : List Int → Bool} {kv : List Int} (k : List Int) (h : ∀ kv, kv ∈ ks → 0 ≤ N kv) (hd : ks.Nodup) (hk : kv ∈ ks) (hl : lf kv = true) (t : Nat) :
    nxS ks N L lf k + rowT N kv k (L.take t) ≤ nxS ks N L (fun _ => false) k := by
  have e := nx_step (lf' := fun x => lf x && !decide (x = kv)) (N := N) (L := L) k hd hk hl fun _ _ => rfl
  have h1 := row_part (h kv hk) k L t
  have h2 : nxS ks N L (fun x => lf x && !decide (x = kv)) k ≤ nxS ks N L (fun _ => false) k := suml_mono fun x hx => by
    have := row_nn (h x hx) k L
    split <;> simp <;> omega
  omega
theorem add_good {kv : List Int} {i : Nat} (m : Int) (h : ∀ j, j < 6 → 0 ≤ kv.getD j 0 ∧ kv.getD j 0 ≤ i) : ∀ j, j < 6 → 0 ≤ (addV kv m).getD j 0 ∧ (addV kv m).getD j 0 ≤ (i + 1 : Nat) := fun j hj => by
  rw [add_get _ _ hj]
  have := bit_01 m j
  have := h j hj
  omega
theorem ckr_zero : ckr [] zerV = 1 := if_pos rfl
theorem ckr_none {k : List Int} (h : k ≠ zerV) : ckr [] k = 0 := if_neg h
end Go.Proofs.Ytnfkafaolelkbaa

