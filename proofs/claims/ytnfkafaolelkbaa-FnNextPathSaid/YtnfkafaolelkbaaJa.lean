/-
  Plain facts on counting: all lists of masks, how many of them hold, the ways to fill rows from column sums.
  Plain facts on counting with column sums as keys: choices of rows, counted from the front or one list more at the end; what is counted while a map is ranged over.
  Plain facts on a list with a further element.
  Plain facts: a further row, a further column.
  Plain facts on the images in which a cell is set.
  Plain facts: images with a set cell, counted with column sums as keys.
  Plain facts: a cell is variable just if some, not all, images have it.
-/
import Derived.Test.YtnfkafaolelkbaaEa
import Derived.Test.YtnfkafaolelkbaaCa
import Derived.Test.YtnfkafaolelkbaaVa
import Derived.Test.YtnfkafaolelkbaaMa

namespace Go.Proofs.Ytnfkafaolelkbaa
set_option maxRecDepth 100000

/-- Lists without an element twice are no longer than those that hold them. -/
theorem nodup_sub {α : Type} : ∀ {L M : List α}, L.Nodup → (∀ x, x ∈ L → x ∈ M) → L.length ≤ M.length
  | [], _, _, _ => Nat.zero_le _
  | x :: L, M, hn, hs => by
    obtain ⟨s, t, e⟩ := List.append_of_mem (hs x (List.mem_cons_self ..))
    subst e
    have hn' := List.nodup_cons.1 hn
    have := nodup_sub (L := L) (M := s ++ t) hn'.2 (fun y hy => by
      have := hs y (List.mem_cons_of_mem _ hy)
      rw [List.mem_append, List.mem_cons] at this
      rw [List.mem_append]
      rcases this with h | h | h
      · exact .inl h
      · subst h; exact absurd hy hn'.1
      · exact .inr h)
    simp only [List.length_append, List.length_cons] at this ⊢
    omega
theorem nodup_inj {α β : Type} {f : α → β} : ∀ {L : List α}, L.Nodup → (∀ x y, x ∈ L → y ∈ L → f x = f y → x = y) → (L.map f).Nodup
  | [], _, _ => List.nodup_nil
  | x :: L, hn, hi => by
    have hn' := List.nodup_cons.1 hn
    rw [List.map_cons]
    refine List.nodup_cons.2 ⟨fun hm => ?_, nodup_inj hn'.2 fun a b ha hb => hi a b (List.mem_cons_of_mem _ ha) (List.mem_cons_of_mem _ hb)⟩
    obtain ⟨y, hy, e⟩ := List.mem_map.1 hm
    have := hi y x (List.mem_cons_of_mem _ hy) (List.mem_cons_self ..) e
    subst this
    exact hn'.1 hy
/-- 2 to the W, as a number of masks. -/
def pn (W : Nat) : Nat := (pw W).toNat
theorem pn_int (W : Nat) : ((pn W : Nat) : Int) = pw W := by
  have := pw_pos W
  simp only [pn]; omega
/-- All lists of n masks of W bits. -/
def imgs (W : Nat) : Nat → List (List Int)
  | 0 => [[]]
  | n + 1 => (List.range (pn W)).flatMap fun m : Nat => (imgs W n).map fun xs => (m : Int) :: xs
theorem imgs_mem {W : Nat} : ∀ {n : Nat} {xs : List Int}, xs ∈ imgs W n ↔ xs.length = n ∧ ∀ i, i < n → 0 ≤ xs.getD i 0 ∧ xs.getD i 0 ≤ pw W - 1
  | 0, xs => by
    simp only [imgs, List.mem_singleton]
    constructor
    · intro e; subst e; exact ⟨rfl, fun i hi => absurd hi (Nat.not_lt_zero i)⟩
    · intro e; exact List.length_eq_zero_iff.1 e.1
  | n + 1, xs => by
    have hp := pn_int W
    simp only [imgs, List.mem_flatMap, List.mem_map, List.mem_range]
    constructor
    · rintro ⟨m, hm, ys, hy, e⟩
      subst e
      obtain ⟨h1, h2⟩ := imgs_mem.1 hy
      refine ⟨by rw [List.length_cons, h1], fun i hi => ?_⟩
      cases i with
      | zero => rw [List.getD_cons_zero]; omega
      | succ i => rw [List.getD_cons_succ]; exact h2 i (by omega)
    · rintro ⟨h1, h2⟩
      cases xs with
      | nil => cases h1
      | cons x ys =>
        have h0 := h2 0 (by omega)
        rw [List.getD_cons_zero] at h0
        refine ⟨x.toNat, by omega, ys, imgs_mem.2 ⟨by simpa using h1, fun i hi => ?_⟩, ?_⟩
        · have := h2 (i + 1) (by omega)
          rwa [List.getD_cons_succ] at this
        · rw [Int.toNat_of_nonneg h0.1]
theorem imgs_im {W n : Nat} {xs : List Int} (h1 : 1 ≤ W) (h2 : W ≤ 6) (h3 : 1 ≤ n) (h4 : n ≤ 6) : xs ∈ imgs W n ↔ Im W n xs :=
  imgs_mem.trans ⟨fun ⟨a, b⟩ => ⟨h1, h2, h3, h4, a, b⟩, fun h => ⟨h.hl, h.row⟩⟩
theorem imgs_nodup (W : Nat) : ∀ n, (imgs W n).Nodup
  | 0 => by simp [imgs]
  | n + 1 => by
    simp only [imgs]
    refine List.pairwise_flatMap.2 ⟨fun m _ => nodup_inj (imgs_nodup W n) fun x y _ _ e => (List.cons.inj e).2, ?_⟩
    refine List.Pairwise.imp ?_ (List.nodup_range (n := pn W))
    intro a b hab x hx y hy e
    obtain ⟨x', _, ex⟩ := List.mem_map.1 hx
    obtain ⟨y', _, ey⟩ := List.mem_map.1 hy
    rw [← ex, ← ey] at e
    have := (List.cons.inj e).1
    omega
/-- How many of them. -/
def nOf (P : List Int → Bool) (W n : Nat) : Int := sumL (fun xs => bI (P xs)) (imgs W n)
theorem nOf_len (P : List Int → Bool) (W n : Nat) : nOf P W n = (((imgs W n).filter P).length : Int) := (len_filter P _).symm
theorem nOf_ext {P Q : List Int → Bool} {W n : Nat} (h : ∀ xs, xs ∈ imgs W n → P xs = Q xs) : nOf P W n = nOf Q W n :=
  suml_ext fun x hx => by rw [h x hx]
theorem nOf_le {P Q : List Int → Bool} {W n W' n' : Nat} (f : List Int → List Int)
    (hm : ∀ xs, xs ∈ imgs W n → P xs = true → f xs ∈ imgs W' n' ∧ Q (f xs) = true)
    (hi : ∀ xs ys, xs ∈ imgs W n → ys ∈ imgs W n → P xs = true → P ys = true → f xs = f ys → xs = ys) : nOf P W n ≤ nOf Q W' n' := by
  rw [nOf_len, nOf_len]
  have h1 : (((imgs W n).filter P).map f).Nodup := nodup_inj ((imgs_nodup W n).filter P) fun x y hx hy => by
    have hx' := List.mem_filter.1 hx
    have hy' := List.mem_filter.1 hy
    exact hi x y hx'.1 hy'.1 hx'.2 hy'.2
  have h2 := nodup_sub (M := (imgs W' n').filter Q) h1 fun y hy => by
    obtain ⟨x, hx, e⟩ := List.mem_map.1 hy
    have hx' := List.mem_filter.1 hx
    subst e
    exact List.mem_filter.2 (hm x hx'.1 hx'.2)
  rw [List.length_map] at h2
  omega
theorem nOf_eq {P Q : List Int → Bool} {W n W' n' : Nat} (f g : List Int → List Int)
    (hm : ∀ xs, xs ∈ imgs W n → P xs = true → f xs ∈ imgs W' n' ∧ Q (f xs) = true ∧ g (f xs) = xs)
    (hm' : ∀ xs, xs ∈ imgs W' n' → Q xs = true → g xs ∈ imgs W n ∧ P (g xs) = true ∧ f (g xs) = xs) : nOf P W n = nOf Q W' n' := by
  refine Int.le_antisymm (nOf_le f (fun xs h p => ⟨(hm xs h p).1, (hm xs h p).2.1⟩) fun xs ys h h' p p' e => ?_) (nOf_le g (fun xs h p => ⟨(hm' xs h p).1, (hm' xs h p).2.1⟩) fun xs ys h h' p p' e => ?_)
  · rw [← (hm xs h p).2.2, e, (hm ys h' p').2.2]
  · rw [← (hm' xs h p).2.2, e, (hm' ys h' p').2.2]
theorem bI_nn (b : Bool) : 0 ≤ bI b := by cases b <;> decide
theorem suml_nn {α : Type} {F : α → Int} : ∀ {xs : List α}, (∀ x, x ∈ xs → 0 ≤ F x) → 0 ≤ sumL F xs
  | [], _ => Int.le_refl _
  | x :: xs, h => by
    have h1 := h x (List.mem_cons_self ..)
    have h2 := suml_nn (F := F) (xs := xs) fun y hy => h y (List.mem_cons_of_mem _ hy)
    simp only [sumL]; omega
theorem nOf_nn (P : List Int → Bool) (W n : Nat) : 0 ≤ nOf P W n := suml_nn fun _ _ => bI_nn _
theorem nOf_pos {P : List Int → Bool} {W n : Nat} : 0 < nOf P W n ↔ ∃ xs, xs ∈ imgs W n ∧ P xs = true := by
  rw [nOf_len]
  constructor
  · intro h
    cases e : (imgs W n).filter P with
    | nil => rw [e] at h; exact absurd h (by decide)
    | cons x l =>
      have : x ∈ (imgs W n).filter P := by rw [e]; exact List.mem_cons_self ..
      exact ⟨x, List.mem_filter.1 this⟩
  · rintro ⟨x, hx, hp⟩
    have := List.mem_filter.2 ⟨hx, hp⟩
    have := List.length_pos_of_mem this
    omega
theorem nOf_two {P : List Int → Bool} {W n : Nat} : 1 < nOf P W n ↔ ∃ xs ys, xs ∈ imgs W n ∧ ys ∈ imgs W n ∧ P xs = true ∧ P ys = true ∧ xs ≠ ys := by
  rw [nOf_len]
  constructor
  · intro h
    have hn := (imgs_nodup W n).filter P
    cases e : (imgs W n).filter P with
    | nil => rw [e] at h; exact absurd h (by decide)
    | cons x l =>
      cases e' : l with
      | nil => rw [e, e'] at h; simp only [List.length_cons, List.length_nil] at h; omega
      | cons y l' =>
        rw [e'] at e
        have hx : x ∈ (imgs W n).filter P := by rw [e]; exact List.mem_cons_self ..
        have hy : y ∈ (imgs W n).filter P := by rw [e]; exact List.mem_cons_of_mem _ (List.mem_cons_self ..)
        rw [e] at hn
        have hne := (List.nodup_cons.1 hn).1
        refine ⟨x, y, (List.mem_filter.1 hx).1, (List.mem_filter.1 hy).1, (List.mem_filter.1 hx).2, (List.mem_filter.1 hy).2, fun h => hne ?_⟩
        rw [h]; exact List.mem_cons_self ..
  · rintro ⟨x, y, hx, hy, hp, hq, hne⟩
    have h2 := nodup_sub (L := [x, y]) (M := (imgs W n).filter P) (by simp [hne]) fun z hz => by
      simp only [List.mem_cons, List.not_mem_nil, or_false] at hz
      rcases hz with h | h <;> subst h
      · exact List.mem_filter.2 ⟨hx, hp⟩
      · exact List.mem_filter.2 ⟨hy, hq⟩
    simp only [List.length_cons, List.length_nil] at h2
    omega
theorem suml_flat {α β : Type} (F : β → Int) (f : α → List β) : ∀ xs : List α, sumL F (xs.flatMap f) = sumL (fun x => sumL F (f x)) xs
  | [] => rfl
  | x :: xs => by rw [List.flatMap_cons, suml_append, suml_flat F f xs]; rfl
theorem suml_rng (F : Nat → Int) : ∀ n, sumL F (List.range n) = sumI F n
  | 0 => rfl
  | n + 1 => by rw [List.range_succ, suml_append, suml_rng F n]; simp [sumL, sumI]
theorem suml_map {α β : Type} (F : β → Int) (f : α → β) : ∀ xs : List α, sumL F (xs.map f) = sumL (fun x => F (f x)) xs
  | [] => rfl
  | x :: xs => by rw [List.map_cons]; simp only [sumL]; rw [suml_map F f xs]
theorem nOf_succ (P : List Int → Bool) (W n : Nat) : nOf P W (n + 1) = sumI (fun m => nOf (fun ys => P ((m : Int) :: ys)) W n) (pn W) := by
  have e : nOf P W (n + 1) = sumL (fun xs => bI (P xs)) ((List.range (pn W)).flatMap fun m : Nat => (imgs W n).map fun xs => (m : Int) :: xs) := rfl
  rw [e, suml_flat, ← suml_rng]
  exact suml_ext fun m _ => suml_map ..
theorem sum_mul (c : Int) (f : Nat → Int) : ∀ k, sumI (fun i => f i * c) k = sumI f k * c
  | 0 => by simp [sumI]
  | k + 1 => by simp only [sumI]; rw [sum_mul c f k, Int.add_mul]
theorem suml_swap {α : Type} (F : Nat → α → Int) (k : Nat) : ∀ xs : List α, sumI (fun j => sumL (F j) xs) k = sumL (fun x => sumI (fun j => F j x) k) xs
  | [] => sum_zero k
  | x :: xs => by
    simp only [sumL]
    rw [sum_add, suml_swap F k xs]
theorem nOf_sub {P Q : List Int → Bool} {W n : Nat} (h : ∀ xs, P xs = true → Q xs = true) : nOf P W n ≤ nOf Q W n :=
  nOf_le id (fun xs hx hp => ⟨hx, h xs hp⟩) fun _ _ _ _ _ _ e => e
theorem nOf_false (W n : Nat) : nOf (fun _ => false) W n = 0 := by
  rw [nOf_len, List.filter_eq_nil_iff.2 (by intro a _ h; cases h)]; rfl
/-- The images with given sums. -/
def fitP (rows cols : List Int) (W n : Nat) (xs : List Int) : Bool := decide (rsL xs W n = rows) && decide (csL xs n W = cols)
theorem fitP_iff {rows cols : List Int} {W n : Nat} {xs : List Int} : fitP rows cols W n xs = true ↔ rsL xs W n = rows ∧ csL xs n W = cols := by
  simp only [fitP, Bool.and_eq_true, decide_eq_true_eq]
def takeI (cols : List Int) (m : Int) : List Int := rowsL (fun j => cols.getD j 0 - bitI m j) cols.length
def takeB (cols : List Int) (m : Int) : Bool := decide (∀ j, j < cols.length → bitI m j ≤ cols.getD j 0)
/-- The ways to fill rows from column sums. -/
def wayI (W : Nat) : List Int → List Int → Int
  | [], cols => if lsum cols = 0 then 1 else 0
  | r :: rows, cols => sumI (fun m => if cntI m W = r ∧ takeB cols m = true then wayI W rows (takeI cols m) else 0) (pn W)
theorem rows_shift (f : Nat → Int) (n : Nat) : rowsL f (n + 1) = f 0 :: rowsL (fun i => f (i + 1)) n := by
  simp only [rowsL, List.range_succ_eq_map, List.map_cons, List.map_map]; rfl
theorem rows_len' (f : Nat → Int) (n : Nat) : (rowsL f n).length = n := by simp [rowsL]
theorem rows_get' (f : Nat → Int) {n i : Nat} (h : i < n) : (rowsL f n).getD i 0 = f i := by
  simp [rowsL, List.getD_eq_getElem?_getD, h]
theorem rs_cons (m : Int) (ys : List Int) (W n : Nat) : rsL (m :: ys) W (n + 1) = cntI m W :: rsL ys W n := by
  simp only [rsL]; rw [rows_shift]; rfl
theorem csI_cons (m : Int) (ys : List Int) (j n : Nat) : csI (m :: ys) j (n + 1) = bitI m j + csI ys j n := by
  simp only [csI]; rw [sum_shift]; rfl
theorem took_len (cols : List Int) (m : Int) : (takeI cols m).length = cols.length := rows_len' ..
theorem took_get {cols : List Int} (m : Int) {j : Nat} (h : j < cols.length) : (takeI cols m).getD j 0 = cols.getD j 0 - bitI m j := rows_get' _ h
theorem cs_iff {xs cols : List Int} {W n : Nat} (hl : cols.length = W) : csL xs n W = cols ↔ ∀ j, j < W → csI xs j n = cols.getD j 0 := by
  constructor
  · intro h j hj; rw [← h, cs_get hj]
  · intro h; exact lists_ext (cs_len ..) hl fun j hj => by rw [cs_get hj, h j hj]
theorem fit_cons {r m : Int} {rows cols ys : List Int} {W n : Nat} (hl : cols.length = W) : fitP (r :: rows) cols W (n + 1) (m :: ys) = (decide (cntI m W = r ∧ takeB cols m = true) && fitP rows (takeI cols m) W n ys) := by
  apply Bool.eq_iff_iff.2
  rw [fitP_iff, Bool.and_eq_true, fitP_iff, decide_eq_true_eq, rs_cons, cs_iff hl, cs_iff (by rw [took_len, hl])]
  simp only [List.cons.injEq, takeB, decide_eq_true_eq]
  constructor
  · rintro ⟨⟨h1, h2⟩, h3⟩
    refine ⟨⟨h1, fun j hj => ?_⟩, h2, fun j hj => ?_⟩
    · have := h3 j (by omega); rw [csI_cons] at this
      have := (csI_bd ys j n).1
      omega
    · have := h3 j hj; rw [csI_cons] at this
      rw [took_get _ (by omega)]; omega
  · rintro ⟨⟨h1, h2⟩, h3, h4⟩
    refine ⟨⟨h1, h3⟩, fun j hj => ?_⟩
    have := h4 j hj
    rw [took_get _ (by omega)] at this
    rw [csI_cons]; omega
theorem lsum_rows (xs : List Int) : lsum xs = sumI (fun i => xs.getD i 0) xs.length := by
  induction xs with
  | nil => rfl
  | cons x xs ih => rw [List.length_cons, sum_shift]; simp only [lsum, List.getD_cons_zero, List.getD_cons_succ]; rw [ih]
theorem way_num (W : Nat) : ∀ (rows cols : List Int), cols.length = W → (∀ j, j < W → 0 ≤ cols.getD j 0) → wayI W rows cols = nOf (fitP rows cols W rows.length) W rows.length
  | [], cols, hl, h0 => by
    have e : nOf (fitP [] cols W 0) W 0 = bI (fitP [] cols W 0 []) + 0 := rfl
    have e2 : fitP [] cols W 0 [] = decide (lsum cols = 0) := by
      apply Bool.eq_iff_iff.2
      rw [fitP_iff, decide_eq_true_eq, cs_iff hl, lsum_rows, hl]
      constructor
      · rintro ⟨_, h⟩
        rw [sum_ext (g := fun _ => 0) fun i hi => by rw [← h i hi]; rfl, sum_zero]
      · intro h
        exact ⟨rfl, fun j hj => by rw [sum_none h0 h j hj]; rfl⟩
    rw [List.length_nil, e, e2]
    simp only [wayI]
    split <;> rename_i h <;> simp [h, bI]
  | r :: rows, cols, hl, h0 => by
    rw [List.length_cons, nOf_succ]
    simp only [wayI]
    refine sum_ext fun m _ => ?_
    (try dsimp only)
    rw [nOf_ext (Q := fun ys => decide (cntI m W = r ∧ takeB cols m = true) && fitP rows (takeI cols m) W rows.length ys) fun ys _ => fit_cons hl]
    by_cases h : cntI m W = r ∧ takeB cols m = true
    · rw [if_pos h, way_num W rows (takeI cols m) (by rw [took_len, hl])]
      · refine nOf_ext fun ys _ => ?_
        rw [decide_eq_true h]; rfl
      · intro j hj
        rw [took_get _ (by omega)]
        have := of_decide_eq_true h.2 j (by omega)
        omega
    · rw [if_neg h, decide_eq_false h]
      exact (nOf_false W rows.length).symm
/-- The number of images with given sums. -/
def cntS (rows cols : List Int) : Int := nOf (fitP rows cols cols.length rows.length) cols.length rows.length
theorem fit_im {rows cols : List Int} {W n : Nat} {xs : List Int} (h : Im W n xs) (h1 : rsL xs W n = rows) (h2 : csL xs n W = cols) : xs ∈ imgs W n ∧ fitP rows cols W n xs = true :=
  ⟨(imgs_im h.w1 h.w6 h.l1 h.l6).2 h, fitP_iff.2 ⟨h1, h2⟩⟩
theorem im_fit {rows cols : List Int} (hs : sumsB rows cols = true) {xs : List Int} (hm : xs ∈ imgs cols.length rows.length) : Im cols.length rows.length xs := by
  obtain ⟨⟨a, b⟩, ⟨c, d⟩, _⟩ := sumsB_parts hs
  exact (imgs_im c d a b).1 hm
theorem cnt_nn (rows cols : List Int) : 0 ≤ cntS rows cols := nOf_nn ..
theorem cnt_turn {rows cols : List Int} (hs : sumsB rows cols = true) : cntS cols rows = cntS rows cols := by
  have hs' := sumsB_flip hs
  refine nOf_eq (fun xs => turnL xs rows.length cols.length) (fun xs => turnL xs cols.length rows.length) (fun xs hx hp => ?_) fun xs hx hp => ?_
  · have hI := im_fit hs' hx
    obtain ⟨h1, h2⟩ := fitP_iff.1 hp
    have := fit_im hI.turn (hI.turn_rs.trans h2) (hI.turn_cs.trans h1)
    exact ⟨this.1, this.2, hI.turn_turn⟩
  · have hI := im_fit hs hx
    obtain ⟨h1, h2⟩ := fitP_iff.1 hp
    have := fit_im hI.turn (hI.turn_rs.trans h2) (hI.turn_cs.trans h1)
    exact ⟨this.1, this.2, hI.turn_turn⟩
theorem oth_fit {rows cols : List Int} {W n : Nat} {xs : List Int} (h : Im W n xs) (hr : rows.length = n) (hc : cols.length = W) (h1 : rsL xs W n = rows) (h2 : csL xs n W = cols) :
    rsL (othL xs W n) W n = restL rows W ∧ csL (othL xs W n) n W = restL cols n := by
  rw [h.oth_rs, h.oth_cs, h1, h2]
  unfold restL
  rw [hr, hc]
  exact ⟨rfl, rfl⟩
theorem rest_fit {rows cols : List Int} (hs : sumsB rows cols = true) {xs : List Int} (hx : xs ∈ imgs cols.length rows.length) (hp : fitP rows cols cols.length rows.length xs = true) :
    othL xs cols.length rows.length ∈ imgs cols.length rows.length ∧ fitP (restL rows cols.length) (restL cols rows.length) cols.length rows.length (othL xs cols.length rows.length) = true := by
  have hI := im_fit hs hx
  obtain ⟨h1, h2⟩ := fitP_iff.1 hp
  obtain ⟨k1, k2⟩ := oth_fit hI rfl rfl h1 h2
  exact fit_im hI.oth k1 k2
theorem cnt_rest {rows cols : List Int} (hs : sumsB rows cols = true) : cntS (restL rows cols.length) (restL cols rows.length) = cntS rows cols := by
  have hs' := rest_valid hs
  have e1 := rest_len rows cols.length
  have e2 := rest_len cols rows.length
  unfold cntS
  rw [e1, e2]
  refine nOf_eq (fun xs => othL xs cols.length rows.length) (fun xs => othL xs cols.length rows.length) (fun xs hx hp => ?_) fun xs hx hp => ?_
  · have hI := im_fit hs hx
    have := rest_fit hs' (xs := xs) (by rw [e1, e2]; exact hx) (by rw [e1, e2]; exact hp)
    rw [e1, e2, rest_rest, rest_rest] at this
    exact ⟨this.1, this.2, hI.oth_oth⟩
  · have hI := im_fit hs hx
    have := rest_fit hs hx hp
    exact ⟨this.1, this.2, hI.oth_oth⟩

end Go.Proofs.Ytnfkafaolelkbaa

namespace Go.Proofs.Ytnfkafaolelkbaa
set_option maxRecDepth 100000

/-- Six numbers, one less at each bit of a row; one more. -/
def subV (k : List Int) (m : Int) : List Int := rowsL (fun j => k.getD j 0 - bitI m j) 6
def addV (k : List Int) (m : Int) : List Int := rowsL (fun j => k.getD j 0 + bitI m j) 6
def zerV : List Int := rowsL (fun _ => 0) 6
def padL (cols : List Int) : List Int := rowsL (fun j => cols.getD j 0) 6
theorem sub_len (k : List Int) (m : Int) : (subV k m).length = 6 := rows_len ..
theorem add_len (k : List Int) (m : Int) : (addV k m).length = 6 := rows_len ..
theorem pad_len (k : List Int) : (padL k).length = 6 := rows_len ..
theorem zer_len : zerV.length = 6 := rows_len ..
theorem sub_get (k : List Int) (m : Int) {j : Nat} (hj : j < 6) : (subV k m).getD j 0 = k.getD j 0 - bitI m j := rows_get _ hj
theorem add_get (k : List Int) (m : Int) {j : Nat} (hj : j < 6) : (addV k m).getD j 0 = k.getD j 0 + bitI m j := rows_get _ hj
theorem pad_get (k : List Int) {j : Nat} (hj : j < 6) : (padL k).getD j 0 = k.getD j 0 := rows_get _ hj
theorem zer_get {j : Nat} (hj : j < 6) : zerV.getD j 0 = 0 := rows_get _ hj
theorem six_ext {k l : List Int} (h1 : k.length = 6) (h2 : l.length = 6) (h : ∀ j, j < 6 → k.getD j 0 = l.getD j 0) : k = l := by
  apply List.ext_getElem (by omega)
  intro j hj hj2
  have := h j (by omega)
  simpa [List.getD_eq_getElem?_getD, List.getElem?_eq_getElem hj, List.getElem?_eq_getElem hj2] using this
theorem add_sub {k l : List Int} {m : Int} (h1 : k.length = 6) (h2 : l.length = 6) : addV k m = l ↔ k = subV l m := by
  constructor
  · rintro rfl
    exact six_ext h1 (sub_len ..) fun j hj => by rw [sub_get _ _ hj, add_get _ _ hj]; omega
  · rintro rfl
    exact six_ext (add_len ..) h2 fun j hj => by rw [add_get _ _ hj, sub_get _ _ hj]; omega
theorem sub_comm (k : List Int) (m l : Int) : subV (subV k m) l = subV (subV k l) m :=
  six_ext (sub_len ..) (sub_len ..) fun j hj => by rw [sub_get _ _ hj, sub_get _ _ hj, sub_get _ _ hj, sub_get _ _ hj]; omega
/-- How many choices of rows, one from each list, have given column sums. -/
def ckr : List (List Int) → List Int → Int
  | [], k => if k = zerV then 1 else 0
  | L :: C, k => sumL (fun m => ckr C (subV k m)) L
theorem suml_zero {α : Type} {F : α → Int} : ∀ {xs : List α}, (∀ x, x ∈ xs → F x = 0) → sumL F xs = 0
  | [], _ => rfl
  | x :: xs, h => by
    have h1 := h x (List.mem_cons_self ..)
    have h2 := suml_zero (F := F) (xs := xs) fun y hy => h y (List.mem_cons_of_mem _ hy)
    show F x + sumL F xs = 0
    omega
theorem suml_add {α : Type} (F G : α → Int) : ∀ xs : List α, sumL (fun x => F x + G x) xs = sumL F xs + sumL G xs
  | [] => rfl
  | x :: xs => by
    have := suml_add F G xs
    show F x + G x + sumL _ xs = F x + sumL F xs + (G x + sumL G xs)
    omega
theorem suml_ex {α : Type} {F G : α → Int} : ∀ {xs : List α}, (∀ x, x ∈ xs → F x = G x) → sumL F xs = sumL G xs
  | [], _ => rfl
  | x :: xs, h => by
    have h1 := h x (List.mem_cons_self ..)
    have h2 := suml_ex (F := F) (G := G) (xs := xs) fun y hy => h y (List.mem_cons_of_mem _ hy)
    show F x + sumL F xs = G x + sumL G xs
    omega
theorem suml_mono {α : Type} {F G : α → Int} : ∀ {xs : List α}, (∀ x, x ∈ xs → F x ≤ G x) → sumL F xs ≤ sumL G xs
  | [], _ => Int.le_refl _
  | x :: xs, h => by
    have h1 := h x (List.mem_cons_self ..)
    have h2 := suml_mono (F := F) (G := G) (xs := xs) fun y hy => h y (List.mem_cons_of_mem _ hy)
    show F x + sumL F xs ≤ G x + sumL G xs
    omega
theorem suml_swp {α β : Type} (F : α → β → Int) (ys : List β) : ∀ xs : List α, sumL (fun x => sumL (F x) ys) xs = sumL (fun y => sumL (fun x => F x y) xs) ys
  | [] => (suml_zero fun _ _ => rfl).symm
  | x :: xs => by
    have h1 := suml_swp F ys xs
    have h2 := suml_add (F x) (fun y => sumL (fun x => F x y) xs) ys
    show sumL (F x) ys + sumL _ xs = sumL (fun y => F x y + sumL (fun x => F x y) xs) ys
    omega
theorem ckr_mid (L : List Int) (B : List (List Int)) : ∀ (A : List (List Int)) (k : List Int), ckr (A ++ L :: B) k = sumL (fun m => ckr (A ++ B) (subV k m)) L
  | [], _ => rfl
  | L0 :: A, k => by
    show sumL (fun m => ckr (A ++ L :: B) (subV k m)) L0 = sumL (fun m => sumL (fun m0 => ckr (A ++ B) (subV (subV k m) m0)) L0) L
    rw [suml_swp (fun m m0 => ckr (A ++ B) (subV (subV k m) m0))]
    refine suml_ex fun m _ => ?_
    rw [ckr_mid L B A]
    exact suml_ex fun m0 _ => by rw [sub_comm]
theorem ckr_snoc (L : List Int) (A : List (List Int)) (k : List Int) : ckr (A ++ [L]) k = sumL (fun m => ckr A (subV k m)) L := by
  have := ckr_mid L [] A k
  simpa using this
theorem ckr_nn : ∀ (C : List (List Int)) (k : List Int), 0 ≤ ckr C k
  | [], k => by unfold ckr; split <;> decide
  | L :: C, k => suml_nn fun m _ => ckr_nn C _
theorem ckr_good : ∀ {C : List (List Int)} {k : List Int}, ckr C k ≠ 0 → ∀ j, j < 6 → 0 ≤ k.getD j 0 ∧ k.getD j 0 ≤ C.length
  | [], k, h, j, hj => by
    have : k = zerV := by
      apply Classical.byContradiction
      intro e
      exact h (by unfold ckr; rw [if_neg e])
    subst this
    rw [zer_get hj]; simp
  | L :: C, k, h, j, hj => by
    apply Classical.byContradiction
    intro hn
    refine h (suml_zero fun m _ => ?_)
    apply Classical.byContradiction
    intro h0
    have h1 := ckr_good h0 j hj
    rw [sub_get _ _ hj] at h1
    have := bit_01 m j
    simp only [List.length_cons] at hn
    omega
theorem ckr_bd : ∀ {C : List (List Int)} (k : List Int), (∀ L, L ∈ C → L.length ≤ 64) → ckr C k ≤ pw (6 * C.length)
  | [], k, _ => by unfold ckr; split <;> decide
  | L :: C, k, h => by
    have h1 := h L (List.mem_cons_self ..)
    have h2 : ∀ m, ckr C (subV k m) ≤ pw (6 * C.length) := fun m => ckr_bd _ fun M hM => h M (List.mem_cons_of_mem _ hM)
    have h3 : ∀ (c : Int) (xs : List Int), 0 ≤ c → xs.length ≤ 64 → (∀ m, ckr C (subV k m) ≤ c) → sumL (fun m => ckr C (subV k m)) xs ≤ c * xs.length := by
      intro c xs hc _ hle
      induction xs with
      | nil => simp [sumL]
      | cons x xs ih =>
        have := ih (by simp at *; omega)
        have := hle x
        simp only [sumL, List.length_cons]
        rw [Int.natCast_add, Int.mul_add]
        omega
    have hp : 1 ≤ pw (6 * C.length) := pw_pos _
    have h4 := h3 _ L (by omega) h1 h2
    have h5 : pw (6 * (C.length + 1)) = pw (6 * C.length) * 64 := by
      rw [show 6 * (C.length + 1) = 6 * C.length + 1 + 1 + 1 + 1 + 1 + 1 by omega]
      simp only [pw_succ]
      omega
    have h6 : pw (6 * C.length) * L.length ≤ pw (6 * C.length) * 64 := Int.mul_le_mul_of_nonneg_left (by omega) (by omega)
    show sumL (fun m => ckr C (subV k m)) L ≤ pw (6 * (C.length + 1))
    omega
/-- All rows of a width with a number of set cells, up to a row. -/
def withL (W : Nat) (r : Int) : Nat → List Int
  | 0 => []
  | k + 1 => withL W r k ++ if cntI (k : Nat) W = r then [(k : Int)] else []
theorem with_sum (W : Nat) (r : Int) (F : Int → Int) : ∀ K, sumL F (withL W r K) = sumI (fun m => if cntI (m : Nat) W = r then F (m : Nat) else 0) K
  | 0 => rfl
  | K + 1 => by
    rw [withL, suml_append, with_sum W r F K]
    show _ + _ = sumI _ K + _
    by_cases h : cntI (K : Nat) W = r
    · rw [if_pos h]; simp [sumL, h]
    · rw [if_neg h]; simp [sumL, h]
theorem with_len (W : Nat) (r : Int) : ∀ K, (withL W r K).length ≤ K
  | 0 => Nat.le_refl _
  | K + 1 => by
    have := with_len W r K
    rw [withL, List.length_append]
    split
    · simp; omega
    · simp; omega
theorem with_mem {W : Nat} {r x : Int} : ∀ {K : Nat}, x ∈ withL W r K → 0 ≤ x ∧ x < K
  | 0, h => by cases h
  | K + 1, h => by
    rw [withL, List.mem_append] at h
    rcases h with h | h
    · have := with_mem h; omega
    · split at h
      · rw [List.mem_singleton] at h; subst h; omega
      · cases h
def choC (W : Nat) (rows : List Int) : List (List Int) := rows.map fun r => withL W r (pn W)
theorem high_bit : ∀ W, W < 7 → ∀ m : Nat, m < pn W → ∀ j, j < 6 → W ≤ j → bitI (m : Nat) j = 0 := by decide +kernel
theorem pad_zero {cols : List Int} (h6 : cols.length ≤ 6) (h : ∀ j, j < cols.length → 0 ≤ cols.getD j 0) : lsum cols = 0 ↔ padL cols = zerV := by
  have hr : lsum cols = sumI (fun i => cols.getD i 0) cols.length := lsum_rows cols
  have key : ∀ (f : Nat → Int) (n : Nat), (∀ i, i < n → 0 ≤ f i) → (sumI f n = 0 ↔ ∀ i, i < n → f i = 0) := by
    intro f n
    induction n with
    | zero => intro _; simp [sumI]
    | succ n ih =>
      intro h
      have h0 : 0 ≤ sumI f n := by
        clear ih
        have h' : ∀ i, i < n → 0 ≤ f i := fun i hi => h i (by omega)
        clear h
        induction n with
        | zero => exact Int.le_refl _
        | succ n ih2 =>
          have := ih2 fun i hi => h' i (by omega)
          have := h' n (by omega)
          simp only [sumI]; omega
      have h1 := ih fun i hi => h i (by omega)
      have h2 := h n (by omega)
      simp only [sumI]
      constructor
      · intro e i hi
        by_cases e2 : i = n
        · subst e2; omega
        · exact h1.1 (by omega) i (by omega)
      · intro e
        have := h1.2 fun i hi => e i (by omega)
        have := e n (by omega)
        omega
  rw [hr, key _ _ h]
  constructor
  · intro e
    refine six_ext (pad_len _) zer_len fun j hj => ?_
    rw [pad_get _ hj, zer_get hj]
    by_cases hc : j < cols.length
    · exact e j hc
    · simp [List.getD_eq_getElem?_getD, List.getElem?_eq_none (by omega : cols.length ≤ j)]
  · intro e j hj
    have : (padL cols).getD j 0 = zerV.getD j 0 := by rw [e]
    rwa [pad_get _ (by omega), zer_get (by omega)] at this
theorem step_ckr {W : Nat} (hW : W ≤ 6) {others cols : List Int} (hl : cols.length = W) (_ : ∀ j, j < W → 0 ≤ cols.getD j 0)
    (ih : ∀ cols' : List Int, cols'.length = W → (∀ j, j < W → 0 ≤ cols'.getD j 0) → wayI W others cols' = ckr (choC W others) (padL cols')) {m : Nat} (hm : m < pn W) :
    (if takeB cols (m : Nat) = true then wayI W others (takeI cols (m : Nat)) else 0) = ckr (choC W others) (subV (padL cols) (m : Nat)) := by
  by_cases ht : takeB cols (m : Nat) = true
  · rw [if_pos ht]
    have hb : ∀ j, j < cols.length → bitI (m : Nat) j ≤ cols.getD j 0 := of_decide_eq_true ht
    have e : subV (padL cols) (m : Nat) = padL (takeI cols (m : Nat)) := six_ext (sub_len ..) (pad_len _) fun j hj => by
      rw [sub_get _ _ hj, pad_get _ hj, pad_get _ hj]
      by_cases hc : j < cols.length
      · rw [took_get _ hc]
      · rw [high_bit W (by omega) m hm j hj (by omega)]
        simp [List.getD_eq_getElem?_getD, List.getElem?_eq_none (by omega : cols.length ≤ j), List.getElem?_eq_none (show (takeI cols (m : Nat)).length ≤ j by rw [took_len]; omega)]
    rw [e]
    refine ih _ (by rw [took_len, hl]) fun j hj => ?_
    rw [took_get _ (by omega)]
    have := hb j (by omega)
    omega
  · rw [if_neg ht]
    apply Eq.symm
    apply Classical.byContradiction
    intro hn
    apply ht
    refine decide_eq_true fun j hj => ?_
    have := (ckr_good hn j (by omega)).1
    rw [sub_get _ _ (by omega), pad_get _ (by omega)] at this
    omega
theorem way_ckr {W : Nat} (hW : W ≤ 6) : ∀ (rows cols : List Int), cols.length = W → (∀ j, j < W → 0 ≤ cols.getD j 0) → wayI W rows cols = ckr (choC W rows) (padL cols)
  | [], cols, hl, h0 => by
    have := pad_zero (cols := cols) (by omega) (by rw [hl]; exact h0)
    show (if lsum cols = 0 then (1 : Int) else 0) = if padL cols = zerV then 1 else 0
    by_cases e : lsum cols = 0
    · rw [if_pos e, if_pos (this.1 e)]
    · rw [if_neg e, if_neg fun h => e (this.2 h)]
  | r :: rows, cols, hl, h0 => by
    show sumI _ (pn W) = sumL (fun m => ckr (choC W rows) (subV (padL cols) m)) (withL W r (pn W))
    rw [with_sum]
    refine sum_ext fun m hm => ?_
    have h := step_ckr hW hl h0 (way_ckr hW rows) hm
    by_cases hr : cntI (m : Nat) W = r
    · rw [if_pos hr, ← h]
      by_cases ht : takeB cols (m : Nat) = true
      · rw [if_pos ht, if_pos ⟨hr, ht⟩]
      · rw [if_neg ht, if_neg fun h => ht h.2]
    · rw [if_neg hr, if_neg fun h => hr h.1]
theorem cho_len (W : Nat) (rows : List Int) : (choC W rows).length = rows.length := by simp [choC]
theorem cho_get {W : Nat} {rows : List Int} {i : Nat} (hi : i < rows.length) : (choC W rows)[i]? = some (withL W (rows.getD i 0) (pn W)) := by
  simp [choC, List.getElem?_map, List.getElem?_eq_getElem hi, List.getD_eq_getElem?_getD]
theorem cnt_ckr {rows cols : List Int} (hs : sumsB rows cols = true) : ckr (choC cols.length rows) (padL cols) = cntS rows cols := by
  obtain ⟨h1, h2, h3, h4⟩ := sumsB_parts hs
  have e := way_num cols.length rows cols rfl (fun j hj => (h4 j hj).1)
  rw [way_ckr (by omega) rows cols rfl fun j hj => (h4 j hj).1] at e
  exact e
/-- What is counted of one column sums' key, and of those that were met. -/
def rowT (N : List Int → Int) (kv k : List Int) (L : List Int) : Int := sumL (fun m => if addV kv m = k then N kv else 0) L
def nxS (ks : List (List Int)) (N : List Int → Int) (L : List Int) (lf : List Int → Bool) (k : List Int) : Int := sumL (fun kv => if lf kv = true then 0 else rowT N kv k L) ks
theorem nx_start {ks : List (List Int)} {N : List Int → Int} {L : List Int} {lf : List Int → Bool} (h : ∀ kv, kv ∈ ks → lf kv = true) (k : List Int) : nxS ks N L lf k = 0 :=
  suml_zero fun kv hk => if_pos (h kv hk)
theorem nx_step {ks : List (List Int)} {N : List Int → Int} {L : List Int} {lf lf' : List Int → Bool} {kv : List Int} (k : List Int) (hd : ks.Nodup) (hk : kv ∈ ks) (hl : lf kv = true) (h : ∀ x, x ∈ ks → lf' x = (lf x && !decide (x = kv))) :
    nxS ks N L lf' k = nxS ks N L lf k + rowT N kv k L := by
  induction ks with
  | nil => cases hk
  | cons x ks ih =>
    obtain ⟨d1, d2⟩ := List.nodup_cons.1 hd
    have hx := h x (List.mem_cons_self ..)
    show (if lf' x = true then 0 else _) + nxS ks N L lf' k = (if lf x = true then 0 else _) + nxS ks N L lf k + _
    by_cases e : x = kv
    · subst e
      have e2 : nxS ks N L lf' k = nxS ks N L lf k := suml_ex fun y hy => by
        have := h y (List.mem_cons_of_mem _ hy)
        rw [this]
        have hne : y ≠ x := fun e => d1 (e ▸ hy)
        simp [hne]
      rw [e2, hx, if_pos hl]
      simp
      omega
    · have hk2 : kv ∈ ks := by
        rcases List.mem_cons.1 hk with h | h
        · exact absurd h.symm e
        · exact h
      have := ih d2 hk2 fun y hy => h y (List.mem_cons_of_mem _ hy)
      rw [this, hx]
      simp [e]
      omega
theorem nx_full {ks : List (List Int)} {C : List (List Int)} {L : List Int} {lf : List Int → Bool} (hd : ks.Nodup) (h6 : ∀ kv, kv ∈ ks → kv.length = 6) (hc : ∀ kv : List Int, kv.length = 6 → ckr C kv ≠ 0 → kv ∈ ks)
    (hl : ∀ kv, kv ∈ ks → lf kv = false) {k : List Int} (hk : k.length = 6) : nxS ks (ckr C) L lf k = ckr (C ++ [L]) k := by
  have e1 : nxS ks (ckr C) L lf k = sumL (fun kv => sumL (fun m => if addV kv m = k then ckr C kv else 0) L) ks :=
    suml_ex fun kv hv => by rw [hl kv hv]; simp [rowT]
  rw [e1, suml_swp (fun kv m => if addV kv m = k then ckr C kv else 0), ckr_snoc]
  refine suml_ex fun m _ => ?_
  have e2 : sumL (fun kv => if addV kv m = k then ckr C kv else 0) ks = sumL (fun kv => if kv = subV k m then ckr C kv else 0) ks :=
    suml_ex fun kv hv => by
      have := add_sub (m := m) (h6 kv hv) hk
      by_cases e : kv = subV k m
      · rw [if_pos e, if_pos (this.2 e)]
      · rw [if_neg e, if_neg fun h => e (this.1 h)]
  rw [e2]
  clear e1 e2
  have key : ∀ (ks : List (List Int)) (x : List Int) , ks.Nodup → sumL (fun kv => if kv = x then ckr C kv else 0) ks = if x ∈ ks then ckr C x else 0 := by
    intro ks x
    induction ks with
    | nil => intro _; simp [sumL]
    | cons y ks ih =>
      intro hd
      obtain ⟨d1, d2⟩ := List.nodup_cons.1 hd
      have := ih d2
      show (if y = x then _ else _) + sumL _ ks = _
      rw [this]
      by_cases e : y = x
      · subst e
        rw [if_pos rfl, if_neg d1, if_pos (List.mem_cons_self ..)]; omega
      · rw [if_neg e]
        by_cases e2 : x ∈ ks
        · rw [if_pos e2, if_pos (List.mem_cons_of_mem _ e2)]; omega
        · rw [if_neg e2, if_neg (by rw [List.mem_cons]; exact fun h => h.elim (fun h => e h.symm) e2)]; omega
  rw [key ks _ hd]
  by_cases e : subV k m ∈ ks
  · rw [if_pos e]
  · rw [if_neg e]
    apply Classical.byContradiction
    intro h
    exact e (hc _ (sub_len ..) (fun h0 => h h0.symm))
theorem row_nn {N : List Int → Int} {kv : List Int} (h : 0 ≤ N kv) (k L : List Int) : 0 ≤ rowT N kv k L := suml_nn fun m _ => by split <;> omega
theorem row_take {N : List Int → Int} {kv : List Int} (k : List Int) {L : List Int} {t : Nat} (ht : t < L.length) : rowT N kv k (L.take (t + 1)) = rowT N kv k (L.take t) + if addV kv (L.getD t 0) = k then N kv else 0 := by
  unfold rowT
  rw [List.take_add_one, suml_append]
  simp [List.getElem?_eq_getElem ht, List.getD_eq_getElem?_getD, sumL]
theorem row_part {N : List Int → Int} {kv : List Int} (h : 0 ≤ N kv) (k L : List Int) (t : Nat) : rowT N kv k (L.take t) ≤ rowT N kv k L := by
  have e : rowT N kv k L = rowT N kv k (L.take t) + rowT N kv k (L.drop t) := by
    unfold rowT; rw [← suml_append, List.take_append_drop]
  have := row_nn h k (L.drop t)
  omega
theorem nx_nn {ks : List (List Int)} {N : List Int → Int} (h : ∀ kv, kv ∈ ks → 0 ≤ N kv) (L : List Int) (lf : List Int → Bool) (k : List Int) : 0 ≤ nxS ks N L lf k :=
  suml_nn fun kv hv => by
    split
    · exact Int.le_refl _
    · exact row_nn (h kv hv) ..
/-- What has been counted is no more than all. -/
theorem nx_le {ks : List (List Int)} {N : List Int → Int} {L : List Int} {lf : List Int → Bool} {kv : List Int} (k : List Int) (h : ∀ kv, kv ∈ ks → 0 ≤ N kv) (hd : ks.Nodup) (hk : kv ∈ ks) (hl : lf kv = true) (t : Nat) :
    nxS ks N L lf k + rowT N kv k (L.take t) ≤ nxS ks N L (fun _ => false) k := by
  have e := nx_step (lf' := fun x => lf x && !decide (x = kv)) (N := N) (L := L) k hd hk hl fun _ _ => rfl
  have h1 := row_part (h kv hk) k L t
  have h2 : nxS ks N L (fun x => lf x && !decide (x = kv)) k ≤ nxS ks N L (fun _ => false) k := suml_mono fun x hx => by
    have := row_nn (h x hx) k L
    split <;> simp <;> omega
  omega
theorem add_good {kv : List Int} {i : Nat} (m : Int) (h : ∀ j, j < 6 → 0 ≤ kv.getD j 0 ∧ kv.getD j 0 ≤ i) : ∀ j, j < 6 → 0 ≤ (addV kv m).getD j 0 ∧ (addV kv m).getD j 0 ≤ (i + 1 : Nat) := fun j hj => by
  rw [add_get _ _ hj]
  have := bit_01 m j
  have := h j hj
  omega
theorem ckr_zero : ckr [] zerV = 1 := if_pos rfl
theorem ckr_none {k : List Int} (h : k ≠ zerV) : ckr [] k = 0 := if_neg h
end Go.Proofs.Ytnfkafaolelkbaa

namespace Go.Proofs.Ytnfkafaolelkbaa
set_option maxRecDepth 100000

/-- A further element at k. -/
def insL {α : Type} (k : Nat) (m : α) (xs : List α) : List α := xs.take k ++ m :: xs.drop k
theorem ins_len {α : Type} {k : Nat} (m : α) {xs : List α} (hk : k ≤ xs.length) : (insL k m xs).length = xs.length + 1 := by
  simp only [insL, List.length_append, List.length_cons, List.length_take, List.length_drop]; omega
theorem ins_map {α β : Type} (f : α → β) (k : Nat) (m : α) (xs : List α) : (insL k m xs).map f = insL k (f m) (xs.map f) := by
  simp [insL, List.map_take, List.map_drop]
theorem ins_inj {α : Type} {k : Nat} {m m' : α} {xs ys : List α} (hl : xs.length = ys.length) : insL k m xs = insL k m' ys ↔ m = m' ∧ xs = ys := by
  constructor
  · intro h
    simp only [insL] at h
    have h1 := List.append_inj h (by rw [List.length_take, List.length_take, hl])
    have h2 := List.cons.inj h1.2
    refine ⟨h2.1, ?_⟩
    rw [← List.take_append_drop k xs, ← List.take_append_drop k ys, h1.1, h2.2]
  · rintro ⟨a, b⟩; rw [a, b]
/-- Without the element at k. -/
def delL {α : Type} (k : Nat) (xs : List α) : List α := xs.take k ++ xs.drop (k + 1)
theorem del_len {α : Type} {k : Nat} {xs : List α} (hk : k < xs.length) : (delL k xs).length + 1 = xs.length := by
  simp only [delL, List.length_append, List.length_take, List.length_drop]; omega
theorem ins_del {xs : List Int} {k : Nat} (hk : k < xs.length) : insL k (xs.getD k 0) (delL k xs) = xs := by
  unfold insL delL
  have e : (xs.take k).length = k := by rw [List.length_take]; omega
  rw [List.take_append_of_le_length (by omega), List.take_of_length_le (by omega), List.drop_append, e, Nat.sub_self, List.drop_zero, List.drop_of_length_le (l := xs.take k) (by omega), List.nil_append]
  rw [getD_elem hk, List.getElem_cons_drop, List.take_append_drop]
theorem del_ins {xs : List Int} {k : Nat} (m : Int) (hk : k ≤ xs.length) : delL k (insL k m xs) = xs ∧ (insL k m xs).getD k 0 = m := by
  have e : (xs.take k).length = k := by rw [List.length_take]; omega
  have h1 := ins_len m hk
  have h2 := ins_del (xs := insL k m xs) (k := k) (by omega)
  have h3 : (delL k (insL k m xs)).length = xs.length := by have := del_len (xs := insL k m xs) (k := k) (by omega); omega
  have := (ins_inj h3).1 h2
  exact ⟨this.2, this.1⟩

end Go.Proofs.Ytnfkafaolelkbaa

namespace Go.Proofs.Ytnfkafaolelkbaa
set_option maxRecDepth 100000

theorem rs_map {xs : List Int} {W n : Nat} (hl : xs.length = n) : rsL xs W n = xs.map fun x => cntI x W := by
  refine lists_ext (rs_len ..) (by rw [List.length_map, hl]) fun i hi => ?_
  rw [rs_get hi, getD_elem (xs := xs.map fun x => cntI x W) (by rw [List.length_map]; omega), List.getElem_map, getD_elem (by omega)]
theorem lsum_app : ∀ xs ys : List Int, lsum (xs ++ ys) = lsum xs + lsum ys
  | [], ys => by simp [lsum]
  | x :: xs, ys => by rw [List.cons_append]; simp only [lsum]; rw [lsum_app xs ys]; omega
theorem lsum_ins (k : Nat) (m : Int) (xs : List Int) : lsum (insL k m xs) = m + lsum xs := by
  unfold insL
  rw [lsum_app]
  simp only [lsum]
  have := lsum_app (xs.take k) (xs.drop k)
  rw [List.take_append_drop] at this
  omega
theorem csI_ins {xs : List Int} {n k : Nat} (m : Int) (j : Nat) (hl : xs.length = n) (hk : k ≤ n) : csI (insL k m xs) j (n + 1) = bitI m j + csI xs j n := by
  have e := ins_len m (xs := xs) (k := k) (by omega)
  rw [hl] at e
  have h1 := csI_map (insL k m xs) j
  have h2 := csI_map xs j
  rw [e] at h1
  rw [hl] at h2
  rw [h1, h2, ins_map, lsum_ins]
theorem ins_mem {xs : List Int} {W n k : Nat} {m : Int} (h0 : 0 ≤ m) (h1 : m ≤ pw W - 1) (hk : k ≤ n) (hx : xs ∈ imgs W n) : insL k m xs ∈ imgs W (n + 1) := by
  obtain ⟨hl, hr⟩ := imgs_mem.1 hx
  refine imgs_mem.2 ⟨by rw [ins_len m (by omega), hl], fun i hi => ?_⟩
  have all : ∀ x, x ∈ insL k m xs → 0 ≤ x ∧ x ≤ pw W - 1 := by
    intro x hm
    have hall : ∀ y, y ∈ xs → 0 ≤ y ∧ y ≤ pw W - 1 := fun y hy => by
      obtain ⟨i, hi, e⟩ := List.getElem_of_mem hy
      have := hr i (by omega)
      rwa [getD_elem hi, e] at this
    unfold insL at hm
    rcases List.mem_append.1 hm with a | a
    · exact hall x (List.mem_of_mem_take a)
    · rcases List.mem_cons.1 a with b | b
      · subst b; exact ⟨h0, h1⟩
      · exact hall x (List.mem_of_mem_drop b)
  have hi' : i < (insL k m xs).length := by rw [ins_len m (by omega)]; omega
  rw [getD_elem hi']
  exact all _ (List.getElem_mem hi')
theorem del_mem {xs : List Int} {W n k : Nat} (hk : k < n + 1) (hx : xs ∈ imgs W (n + 1)) : delL k xs ∈ imgs W n ∧ 0 ≤ xs.getD k 0 ∧ xs.getD k 0 ≤ pw W - 1 := by
  obtain ⟨hl, hr⟩ := imgs_mem.1 hx
  have hall : ∀ y, y ∈ xs → 0 ≤ y ∧ y ≤ pw W - 1 := fun y hy => by
    obtain ⟨i, hi, e⟩ := List.getElem_of_mem hy
    have := hr i (by omega)
    rwa [getD_elem hi, e] at this
  have hd := del_len (xs := xs) (k := k) (by omega)
  refine ⟨imgs_mem.2 ⟨by omega, fun i hi => ?_⟩, hr k hk⟩
  rw [getD_elem (by omega)]
  have hm := List.getElem_mem (l := delL k xs) (n := i) (by omega)
  unfold delL at hm ⊢
  rcases List.mem_append.1 hm with a | a
  · exact hall _ (List.mem_of_mem_take a)
  · exact hall _ (List.mem_of_mem_drop a)
/-- A further row that the sums leave no choice for. -/
theorem cnt_ins {rows cols cols' : List Int} {k : Nat} {r m : Int} (hc : cols'.length = cols.length) (hk : k ≤ rows.length) (h0 : 0 ≤ m) (h1 : m ≤ pw cols.length - 1) (hr : cntI m cols.length = r)
    (hu : ∀ x, 0 ≤ x → x ≤ pw cols.length - 1 → cntI x cols.length = r → x = m) (hb : ∀ j, j < cols.length → cols'.getD j 0 = cols.getD j 0 + bitI m j) :
    cntS (insL k r rows) cols' = cntS rows cols := by
  have el := ins_len r hk
  unfold cntS
  rw [el, hc]
  have key : ∀ ys, ys ∈ imgs cols.length rows.length → (fitP (insL k r rows) cols' cols.length (rows.length + 1) (insL k m ys) = true ↔ fitP rows cols cols.length rows.length ys = true) := by
    intro ys hy
    obtain ⟨hl, _⟩ := imgs_mem.1 hy
    rw [fitP_iff, fitP_iff, rs_map (by rw [ins_len m (by omega), hl]), rs_map hl, ins_map, ins_inj (by rw [List.length_map, hl]), cs_iff hc, cs_iff rfl]
    constructor
    · rintro ⟨⟨_, a⟩, b⟩
      refine ⟨a, fun j hj => ?_⟩
      have := b j hj
      rw [csI_ins m j hl hk, hb j hj] at this
      omega
    · rintro ⟨a, b⟩
      refine ⟨⟨hr, a⟩, fun j hj => ?_⟩
      rw [csI_ins m j hl hk, hb j hj, b j hj]
      omega
  refine nOf_eq (delL k) (insL k m) (fun xs hx hp => ?_) fun ys hy hp => ?_
  · obtain ⟨hl, _⟩ := imgs_mem.1 hx
    obtain ⟨hd, hx0, hx1⟩ := del_mem (k := k) (by omega) hx
    have e := ins_del (xs := xs) (k := k) (by omega)
    have em : xs.getD k 0 = m := by
      refine hu _ hx0 hx1 ?_
      have h2 := (fitP_iff.1 hp).1
      rw [rs_map hl, ← e, ins_map, ins_inj (by rw [List.length_map]; have := del_len (xs := xs) (k := k) (by omega); omega)] at h2
      exact h2.1
    rw [em] at e
    exact ⟨hd, (key _ hd).1 (by rw [e]; exact hp), e⟩
  · obtain ⟨hl, _⟩ := imgs_mem.1 hy
    exact ⟨ins_mem h0 h1 hk hy, (key ys hy).2 hp, (del_ins m (by omega)).1⟩
theorem cnt_bits (x : Int) : ∀ W, (cntI x W = 0 → ∀ j, j < W → bitI x j = 0) ∧ (cntI x W = W → ∀ j, j < W → bitI x j = 1)
  | 0 => ⟨fun _ j hj => absurd hj (Nat.not_lt_zero j), fun _ j hj => absurd hj (Nat.not_lt_zero j)⟩
  | W + 1 => by
    have ih := cnt_bits x W
    have hb := cnt_bd x W
    have hp : bitI x W = 0 ∨ bitI x W = 1 := by unfold bitI; omega
    simp only [cntI]
    constructor
    · intro h j hj
      by_cases e : j = W
      · subst e; omega
      · exact ih.1 (by omega) j (by omega)
    · intro h j hj
      by_cases e : j = W
      · subst e; omega
      · exact ih.2 (by omega) j (by omega)
theorem bit_naught (j : Nat) : bitI 0 j = 0 := by simp [bitI]
theorem full_bits : ∀ W, W < 7 → (∀ j, j < W → bitI (pw W - 1) j = 1) ∧ cntI (pw W - 1) W = W := by decide +kernel
theorem cnt_zeroI : ∀ W, cntI 0 W = 0
  | 0 => rfl
  | W + 1 => by simp only [cntI]; rw [cnt_zeroI W, bit_naught]; rfl
/-- A row without a set cell. -/
theorem cnt_row0 {rows cols : List Int} (hs : sumsB rows cols = true) {k : Nat} (hk : k ≤ rows.length) : cntS (insL k 0 rows) cols = cntS rows cols := by
  obtain ⟨_, ⟨_, d⟩, _⟩ := sumsB_parts hs
  have hp := pw_pos cols.length
  refine cnt_ins (m := 0) rfl hk (Int.le_refl _) (by omega) (cnt_zeroI _) (fun x h0 h1 h => ?_) fun j _ => by rw [bit_naught]; omega
  exact bits_ext d ⟨h0, h1⟩ ⟨Int.le_refl _, by omega⟩ fun j hj => by rw [(cnt_bits x _).1 h j hj, bit_naught]
/-- A row of set cells. -/
theorem cnt_row1 {rows cols : List Int} (hs : sumsB rows cols = true) {k : Nat} (hk : k ≤ rows.length) : cntS (insL k (cols.length : Int) rows) (cols.map (· + 1)) = cntS rows cols := by
  obtain ⟨_, ⟨_, d⟩, _⟩ := sumsB_parts hs
  have hp := pw_pos cols.length
  have hf := full_bits cols.length (by omega)
  refine cnt_ins (m := pw cols.length - 1) (by rw [List.length_map]) hk (by omega) (Int.le_refl _) hf.2 (fun x h0 h1 h => ?_) fun j hj => ?_
  · exact bits_ext d ⟨h0, h1⟩ ⟨by omega, Int.le_refl _⟩ fun j hj => by rw [(cnt_bits x _).2 h j hj, hf.1 j hj]
  · rw [hf.1 j hj, getD_elem (by rw [List.length_map]; exact hj), List.getElem_map, getD_elem hj]
/-- A column without a set cell. -/
theorem cnt_col0 {rows cols : List Int} (hs : sumsB rows cols = true) {k : Nat} (hk : k ≤ cols.length) (hs' : sumsB rows (insL k 0 cols) = true) : cntS rows (insL k 0 cols) = cntS rows cols := by
  rw [← cnt_turn hs', cnt_row0 (sumsB_flip hs) hk, cnt_turn hs]
theorem ins_end {α : Type} (m : α) (xs : List α) : insL xs.length m xs = xs ++ [m] := by simp [insL]

end Go.Proofs.Ytnfkafaolelkbaa

namespace Go.Proofs.Ytnfkafaolelkbaa
set_option maxRecDepth 100000

/-- The images with given sums in which a cell is set. -/
def cntC (rows cols : List Int) (i j : Nat) : Int := nOf (fun xs => fitP rows cols cols.length rows.length xs && cellOf xs i j) cols.length rows.length
theorem suml_mul {α : Type} (c : Int) (F : α → Int) : ∀ xs : List α, sumL (fun x => c * F x) xs = c * sumL F xs
  | [] => by simp [sumL]
  | x :: xs => by simp only [sumL]; rw [suml_mul c F xs, Int.mul_add]
theorem suml_sub {α : Type} (F G : α → Int) : ∀ xs : List α, sumL (fun x => F x - G x) xs = sumL F xs - sumL G xs
  | [] => by simp [sumL]
  | x :: xs => by simp only [sumL]; rw [suml_sub F G xs]; omega
theorem cell_nn (rows cols : List Int) (i j : Nat) : 0 ≤ cntC rows cols i j := nOf_nn ..
theorem cell_row {rows cols : List Int} {i : Nat} (hi : i < rows.length) : sumI (fun j => cntC rows cols i j) cols.length = rows.getD i 0 * cntS rows cols := by
  unfold cntC cntS nOf
  rw [suml_swap (fun j xs => bI (fitP rows cols cols.length rows.length xs && cellOf xs i j)), ← suml_mul]
  refine suml_ext fun xs _ => ?_
  (try dsimp only)
  cases e : fitP rows cols cols.length rows.length xs with
  | false =>
    rw [show (fun j => bI (false && cellOf xs i j)) = fun _ => 0 from funext fun j => rfl, sum_zero]
    simp [bI]
  | true =>
    have h1 := (fitP_iff.1 e).1
    have h2 := rs_cells xs cols.length rows.length i hi
    rw [h1] at h2
    rw [h2, sum_ext (g := fun j => bI (cellOf xs i j)) fun j _ => by rw [Bool.true_and]]
    simp [bI]
theorem cell_col {rows cols : List Int} {j : Nat} (hj : j < cols.length) : sumI (fun i => cntC rows cols i j) rows.length = cols.getD j 0 * cntS rows cols := by
  unfold cntC cntS nOf
  rw [suml_swap (fun i xs => bI (fitP rows cols cols.length rows.length xs && cellOf xs i j)), ← suml_mul]
  refine suml_ext fun xs _ => ?_
  (try dsimp only)
  cases e : fitP rows cols cols.length rows.length xs with
  | false =>
    rw [show (fun i => bI (false && cellOf xs i j)) = fun _ => 0 from funext fun i => rfl, sum_zero]
    simp [bI]
  | true =>
    have h1 := (fitP_iff.1 e).2
    have h2 := cs_cells xs cols.length rows.length j hj
    rw [h1] at h2
    rw [h2, sum_ext (g := fun i => bI (cellOf xs i j)) fun i _ => by rw [Bool.true_and]]
    simp [bI]
theorem cell_all (rows cols : List Int) : sumI (fun i => sumI (fun j => cntC rows cols i j) cols.length) rows.length = lsum rows * cntS rows cols := by
  rw [sum_ext (g := fun i => rows.getD i 0 * cntS rows cols) fun i hi => cell_row hi, sum_mul, lsum_rows]
theorem cell_le (rows cols : List Int) (i j : Nat) : cntC rows cols i j ≤ cntS rows cols := nOf_sub fun _ h => (Bool.and_eq_true _ _ ▸ h).1
theorem cell_not (rows cols : List Int) (i j : Nat) : nOf (fun xs => fitP rows cols cols.length rows.length xs && !cellOf xs i j) cols.length rows.length = cntS rows cols - cntC rows cols i j := by
  unfold cntS cntC nOf
  rw [← suml_sub]
  refine suml_ext fun xs _ => ?_
  (try dsimp only)
  cases fitP rows cols cols.length rows.length xs <;> cases cellOf xs i j <;> rfl
theorem cell_turn {rows cols : List Int} (hs : sumsB rows cols = true) {i j : Nat} (hi : i < rows.length) (hj : j < cols.length) : cntC cols rows j i = cntC rows cols i j := by
  have hs' := sumsB_flip hs
  refine nOf_eq (fun xs => turnL xs rows.length cols.length) (fun xs => turnL xs cols.length rows.length) (fun xs hx hp => ?_) fun xs hx hp => ?_
  · rw [Bool.and_eq_true] at hp
    have hI := im_fit hs' hx
    obtain ⟨h1, h2⟩ := fitP_iff.1 hp.1
    have := fit_im hI.turn (hI.turn_rs.trans h2) (hI.turn_cs.trans h1)
    exact ⟨this.1, by rw [this.2, turn_cell hI hj hi, hp.2]; rfl, hI.turn_turn⟩
  · rw [Bool.and_eq_true] at hp
    have hI := im_fit hs hx
    obtain ⟨h1, h2⟩ := fitP_iff.1 hp.1
    have := fit_im hI.turn (hI.turn_rs.trans h2) (hI.turn_cs.trans h1)
    exact ⟨this.1, by rw [this.2, turn_cell hI hi hj, hp.2]; rfl, hI.turn_turn⟩
theorem cell_rest {rows cols : List Int} (hs : sumsB rows cols = true) {i j : Nat} (hi : i < rows.length) (hj : j < cols.length) : cntC (restL rows cols.length) (restL cols rows.length) i j = cntS rows cols - cntC rows cols i j := by
  rw [← cell_not]
  have hs' := rest_valid hs
  have e1 := rest_len rows cols.length
  have e2 := rest_len cols rows.length
  unfold cntC
  rw [e1, e2]
  refine nOf_eq (fun xs => othL xs cols.length rows.length) (fun xs => othL xs cols.length rows.length) (fun xs hx hp => ?_) fun xs hx hp => ?_
  · rw [Bool.and_eq_true] at hp
    have hI := im_fit hs hx
    have := rest_fit hs' (xs := xs) (by rw [e1, e2]; exact hx) (by rw [e1, e2]; exact hp.1)
    rw [e1, e2, rest_rest, rest_rest] at this
    exact ⟨this.1, by rw [this.2, oth_cell hI hi hj, hp.2]; rfl, hI.oth_oth⟩
  · rw [Bool.and_eq_true] at hp
    have hI := im_fit hs hx
    have := rest_fit hs hx hp.1
    exact ⟨this.1, by rw [this.2, oth_cell hI hi hj]; simpa using hp.2, hI.oth_oth⟩
/-- The ways with a set cell, its row ahead. -/
def cellW (W : Nat) (r : Int) (j : Nat) (others cols : List Int) : Int :=
  sumI (fun m => if (cntI m W = r ∧ bitI m j = 1) ∧ takeB cols m = true then wayI W others (takeI cols m) else 0) (pn W)
theorem cellw_num {cols others : List Int} {r : Int} (j : Nat) :
    cellW cols.length r j others cols = nOf (fun xs => fitP (r :: others) cols cols.length (others.length + 1) xs && cellOf xs 0 j) cols.length (others.length + 1) := by
  rw [nOf_succ]
  refine sum_ext fun m _ => ?_
  (try dsimp only)
  have ec : ∀ ys : List Int, cellOf ((m : Int) :: ys) 0 j = decide (bitI m j = 1) := fun ys => rfl
  rw [nOf_ext (Q := fun ys => (decide (cntI m cols.length = r ∧ takeB cols m = true) && decide (bitI m j = 1)) && fitP others (takeI cols m) cols.length others.length ys) fun ys _ => by
    rw [fit_cons rfl, ec, Bool.and_assoc, Bool.and_assoc, Bool.and_comm (fitP _ _ _ _ _)]]
  by_cases h : (cntI m cols.length = r ∧ bitI m j = 1) ∧ takeB cols m = true
  · rw [if_pos h, way_num cols.length others (takeI cols m) (took_len ..)]
    · refine nOf_ext fun ys _ => ?_
      rw [decide_eq_true (p := cntI m cols.length = r ∧ takeB cols m = true) ⟨h.1.1, h.2⟩, decide_eq_true h.1.2]; rfl
    · intro j hj
      rw [took_get _ hj]
      have := of_decide_eq_true h.2 j hj
      omega
  · rw [if_neg h]
    rw [nOf_ext (Q := fun _ => false) fun ys _ => by
      have : (decide (cntI m cols.length = r ∧ takeB cols m = true) && decide (bitI m j = 1)) = false := by
        rw [Bool.eq_false_iff]
        intro hc
        rw [Bool.and_eq_true, decide_eq_true_eq, decide_eq_true_eq] at hc
        exact h ⟨⟨hc.1.1, hc.2⟩, hc.1.2⟩
      rw [this]; rfl]
    exact (nOf_false ..).symm
theorem ins_front {α : Type} (m : α) (xs : List α) : insL 0 m xs = m :: xs := rfl
theorem fit_move {rows cols ys : List Int} {W k : Nat} {r m : Int} (hl : cols.length = W) (hk : k ≤ rows.length) (hy : ys.length = rows.length) :
    fitP (insL k r rows) cols W (rows.length + 1) (insL k m ys) = true ↔ fitP (r :: rows) cols W (rows.length + 1) (m :: ys) = true := by
  rw [fitP_iff, fitP_iff, rs_map (by rw [ins_len m (by omega), hy]), rs_map (by rw [List.length_cons, hy]), ins_map, ins_inj (by rw [List.length_map, hy]), cs_iff hl, cs_iff hl, List.map_cons]
  simp only [List.cons.injEq]
  constructor
  · rintro ⟨a, b⟩
    refine ⟨a, fun j hj => ?_⟩
    have := b j hj
    rw [csI_ins m j hy hk] at this
    rw [csI_cons]; exact this
  · rintro ⟨a, b⟩
    refine ⟨a, fun j hj => ?_⟩
    have := b j hj
    rw [csI_cons] at this
    rw [csI_ins m j hy hk]; exact this
/-- CellCount of the model. -/
theorem cell_way {rows cols : List Int} {i : Nat} (j : Nat) (hi : i < rows.length) : cellW cols.length (rows.getD i 0) j (delL i rows) cols = cntC rows cols i j := by
  have hd := del_len hi
  have e := ins_del hi
  rw [cellw_num j]
  unfold cntC
  rw [← hd]
  refine nOf_eq (fun xs => insL i (xs.getD 0 0) (delL 0 xs)) (fun xs => xs.getD i 0 :: delL i xs) (fun xs hx hp => ?_) fun xs hx hp => ?_
  · rw [Bool.and_eq_true] at hp
    obtain ⟨hx1, hx2, hx3⟩ := del_mem (k := 0) (by omega) hx
    obtain ⟨hl, _⟩ := imgs_mem.1 hx
    obtain ⟨hl', _⟩ := imgs_mem.1 hx1
    have ex := ins_del (xs := xs) (k := 0) (by omega)
    rw [ins_front] at ex
    obtain ⟨d1, d2⟩ := del_ins (xs := delL 0 xs) (k := i) (xs.getD 0 0) (by omega)
    refine ⟨ins_mem hx2 hx3 (by omega) hx1, ?_, ?_⟩
    · rw [Bool.and_eq_true]
      refine ⟨?_, ?_⟩
      · have := (fit_move (rows := delL i rows) (cols := cols) (ys := delL 0 xs) (k := i) (r := rows.getD i 0) (m := xs.getD 0 0) rfl (by omega) hl').2 (by rw [ex]; exact hp.1)
        rwa [e] at this
      · have e3 : cellOf (insL i (xs.getD 0 0) (delL 0 xs)) i j = cellOf xs 0 j := by unfold cellOf; rw [d2]
        rw [e3]; exact hp.2
    · (try dsimp only)
      rw [d1, d2, ex]
  · rw [Bool.and_eq_true] at hp
    obtain ⟨hx1, hx2, hx3⟩ := del_mem (k := i) (by omega) hx
    obtain ⟨hl, _⟩ := imgs_mem.1 hx
    obtain ⟨hl', _⟩ := imgs_mem.1 hx1
    have ex := ins_del (xs := xs) (k := i) (by omega)
    refine ⟨ins_mem (k := 0) hx2 hx3 (by omega) hx1, ?_, ?_⟩
    · rw [Bool.and_eq_true]
      refine ⟨?_, ?_⟩
      · refine (fit_move (rows := delL i rows) (cols := cols) (ys := delL i xs) (k := i) (r := rows.getD i 0) (m := xs.getD i 0) rfl (by omega) hl').1 ?_
        rw [ex, e]; exact hp.1
      · exact hp.2
    · exact ex

end Go.Proofs.Ytnfkafaolelkbaa

namespace Go.Proofs.Ytnfkafaolelkbaa
set_option maxRecDepth 100000

theorem suml_fil {α : Type} (p : α → Bool) (F : α → Int) : ∀ xs : List α, sumL (fun x => if p x = true then F x else 0) xs = sumL F (xs.filter p)
  | [] => rfl
  | x :: xs => by
    have := suml_fil p F xs
    show (if p x = true then F x else 0) + _ = _
    by_cases h : p x = true
    · rw [if_pos h, List.filter_cons_of_pos h, this]; rfl
    · rw [if_neg h, List.filter_cons_of_neg h, this]; omega
/-- The rows of one list that have a cell. -/
def bitL (j : Nat) (L : List Int) : List Int := L.filter fun m => decide (bitI m j = 1)
theorem cell_ckr {rows cols : List Int} (hs : sumsB rows cols = true) {i j : Nat} (hi : i < rows.length) :
    ckr ((choC cols.length rows).set i (bitL j (withL cols.length (rows.getD i 0) (pn cols.length)))) (padL cols) = cntC rows cols i j := by
  obtain ⟨h1, h2, h3, h4⟩ := sumsB_parts hs
  have hc : i < (choC cols.length rows).length := by rw [cho_len]; exact hi
  rw [← cell_way j hi, List.set_eq_take_append_cons_drop, if_pos hc, ckr_mid]
  have e : (choC cols.length rows).take i ++ (choC cols.length rows).drop (i + 1) = choC cols.length (delL i rows) := by
    unfold choC delL; rw [List.map_append, List.map_take, List.map_drop]
  rw [e]
  unfold bitL cellW
  rw [← suml_fil, with_sum]
  refine (sum_ext fun m hm => ?_)
  have h := step_ckr (W := cols.length) (by omega) (others := delL i rows) rfl (fun j hj => (h4 j hj).1) (way_ckr (by omega) _) hm
  rw [← h]
  by_cases hr : cntI (m : Nat) cols.length = rows.getD i 0
  · rw [if_pos hr]
    by_cases hb : bitI (m : Nat) j = 1
    · rw [if_pos (decide_eq_true hb)]
      by_cases ht : takeB cols (m : Nat) = true
      · rw [if_pos ht, if_pos ⟨⟨hr, hb⟩, ht⟩]
      · rw [if_neg ht, if_neg fun h => ht h.2]
    · rw [if_neg (by simpa using hb), if_neg fun h => hb h.1.2]
  · rw [if_neg hr, if_neg fun h => hr h.1.1]
end Go.Proofs.Ytnfkafaolelkbaa

namespace Go.Proofs.Ytnfkafaolelkbaa
set_option maxRecDepth 100000

/-- A cell is variable just if some, not all, of the images have it. -/
theorem cell_var {rows cols : List Int} {xs : List Int} {W n : Nat} (hI : Im W n xs) (h1 : rsL xs W n = rows) (h2 : csL xs n W = cols) {i j : Nat} (hi : i < n) (hj : j < W) :
    varB xs W n i j = decide (0 < cntC rows cols i j ∧ cntC rows cols i j < cntS rows cols) := by
  have hs : sumsB rows cols = true := by have := hI.sumsV; rwa [h1, h2] at this
  have e1 : rows.length = n := by rw [← h1, rs_len]
  have e2 : cols.length = W := by rw [← h2, cs_len]
  subst e1; subst e2
  have hx := fit_im hI h1 h2
  have hn := cell_not rows cols i j
  apply Bool.eq_iff_iff.2
  rw [decide_eq_true_eq, var_ex hI hi hj]
  constructor
  · rintro ⟨ys, hy, hS, hne⟩
    have hy' := fit_im hy (hS.1.symm.trans h1) (hS.2.symm.trans h2)
    have p1 : 0 < cntC rows cols i j := nOf_pos.2 (by
      cases e : cellOf xs i j with
      | true => exact ⟨xs, hx.1, by rw [hx.2, e]; rfl⟩
      | false => exact ⟨ys, hy'.1, by rw [hy'.2]; cases e' : cellOf ys i j <;> simp_all⟩)
    have p2 : 0 < nOf (fun xs => fitP rows cols cols.length rows.length xs && !cellOf xs i j) cols.length rows.length := nOf_pos.2 (by
      cases e : cellOf xs i j with
      | false => exact ⟨xs, hx.1, by rw [hx.2, e]; rfl⟩
      | true => exact ⟨ys, hy'.1, by rw [hy'.2]; cases e' : cellOf ys i j <;> simp_all⟩)
    omega
  · rintro ⟨p1, p2⟩
    have p3 : 0 < nOf (fun xs => fitP rows cols cols.length rows.length xs && !cellOf xs i j) cols.length rows.length := by omega
    obtain ⟨a, ha, hp⟩ := nOf_pos.1 p1
    obtain ⟨b, hb, hq⟩ := nOf_pos.1 p3
    rw [Bool.and_eq_true] at hp hq
    obtain ⟨a1, a2⟩ := fitP_iff.1 hp.1
    obtain ⟨b1, b2⟩ := fitP_iff.1 hq.1
    cases e : cellOf xs i j with
    | true => exact ⟨b, im_fit hs hb, ⟨h1.trans b1.symm, h2.trans b2.symm⟩, by intro e'; rw [e'] at hq; simp at hq⟩
    | false => exact ⟨a, im_fit hs ha, ⟨h1.trans a1.symm, h2.trans a2.symm⟩, by intro e'; rw [e'] at hp; simp at hp⟩

end Go.Proofs.Ytnfkafaolelkbaa
