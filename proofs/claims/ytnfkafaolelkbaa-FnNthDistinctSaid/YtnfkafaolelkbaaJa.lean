/-
  Plain facts on counting: all lists of masks, how many of them hold, the ways to fill rows from column sums.
-/
import Derived.Test.YtnfkafaolelkbaaEa
namespace Go.Proofs.Ytnfkafaolelkbaa
set_option maxRecDepth 100000

/-- Lists without an element twice are no longer than those that hold them. -/
theorem nodup_sub {α : Type} : ∀ {L M : List α}, L.Nodup → (∀ x, x ∈ L → x ∈ M) → L.length ≤ M.length
  | [], _, _, _ => Nat.zero_le _
  | x :: L, M, hn, hs => by
    obtain ⟨s, t, e⟩ := List.append_of_mem (hs x (List.mem_cons_self ..))
    subst e
    have hn' := List.nodup_cons.1 hn
    have := nodup_sub (L := L) (M := s ++ t) hn'.2 (fun y hy => by
      have := hs y (List.mem_cons_of_mem _ hy)
      rw [List.mem_append, List.mem_cons] at this
      rw [List.mem_append]
      rcases this with h | h | h
      · exact .inl h
      · subst h; exact absurd hy hn'.1
      · exact .inr h)
    simp only [List.length_append, List.length_cons] at this ⊢
    omega
theorem nodup_inj {α β : Type} {f : α → β} : ∀ {L : List α}, L.Nodup → (∀ x y, x ∈ L → y ∈ L → f x = f y → x = y) → (L.map f).Nodup
  | [], _, _ => List.nodup_nil
  | x :: L, hn, hi => by
    have hn' := List.nodup_cons.1 hn
    rw [List.map_cons]
    refine List.nodup_cons.2 ⟨fun hm => ?_, nodup_inj hn'.2 fun a b ha hb => hi a b (List.mem_cons_of_mem _ ha) (List.mem_cons_of_mem _ hb)⟩
    obtain ⟨y, hy, e⟩ := List.mem_map.1 hm
    have := hi y x (List.mem_cons_of_mem _ hy) (List.mem_cons_self ..) e
    subst this
    exact hn'.1 hy
/-- 2 to the W, as a number of masks. -/
def pn (W : Nat) : Nat := (pw W).toNat
theorem pn_int (W : Nat) : ((pn W : Nat) : Int) = pw W := by
  have := pw_pos W
  simp only [pn]; omega
/-- All lists of n masks of W bits. -/
def imgs (W : Nat) : Nat → List (List Int)
  | 0 => [[]]
  | n + 1 => (List.range (pn W)).flatMap fun m : Nat => (imgs W n).map fun xs => (m : Int) :: xs
theorem imgs_mem {W : Nat} : ∀ {n : Nat} {xs : List Int}, xs ∈ imgs W n ↔ xs.length = n ∧ ∀ i, i < n → 0 ≤ xs.getD i 0 ∧ xs.getD i 0 ≤ pw W - 1
  | 0, xs => by
    simp only [imgs, List.mem_singleton]
    constructor
    · intro e; subst e; exact ⟨rfl, fun i hi => absurd hi (Nat.not_lt_zero i)⟩
    · intro e; exact List.length_eq_zero_iff.1 e.1
  | n + 1, xs => by
    have hp := pn_int W
    simp only [imgs, List.mem_flatMap, List.mem_map, List.mem_range]
    constructor
    · rintro ⟨m, hm, ys, hy, e⟩
      subst e
      obtain ⟨h1, h2⟩ := imgs_mem.1 hy
      refine ⟨by rw [List.length_cons, h1], fun i hi => ?_⟩
      cases i with
      | zero => rw [List.getD_cons_zero]; omega
      | succ i => rw [List.getD_cons_succ]; exact h2 i (by omega)
    · rintro ⟨h1, h2⟩
      cases xs with
      | nil => cases h1
      | cons x ys =>
        have h0 := h2 0 (by omega)
        rw [List.getD_cons_zero] at h0
        refine ⟨x.toNat, by omega, ys, imgs_mem.2 ⟨by simpa using h1, fun i hi => ?_⟩, ?_⟩
        · have := h2 (i + 1) (by omega)
          rwa [List.getD_cons_succ] at this
        · rw [Int.toNat_of_nonneg h0.1]
theorem imgs_im {W n : Nat} {xs : List Int} (h1 : 1 ≤ W) (h2 : W ≤ 6) (h3 : 1 ≤ n) (h4 : n ≤ 6) : xs ∈ imgs W n ↔ Im W n xs :=
  imgs_mem.trans ⟨fun ⟨a, b⟩ => ⟨h1, h2, h3, h4, a, b⟩, fun h => ⟨h.hl, h.row⟩⟩
theorem imgs_nodup (W : Nat) : ∀ n, (imgs W n).Nodup
  | 0 => by simp [imgs]
  | n + 1 => by
    simp only [imgs]
    refine List.pairwise_flatMap.2 ⟨fun m _ => nodup_inj (imgs_nodup W n) fun x y _ _ e => (List.cons.inj e).2, ?_⟩
    refine List.Pairwise.imp ?_ (List.nodup_range (n := pn W))
    intro a b hab x hx y hy e
    obtain ⟨x', _, ex⟩ := List.mem_map.1 hx
    obtain ⟨y', _, ey⟩ := List.mem_map.1 hy
    rw [← ex, ← ey] at e
    have := (List.cons.inj e).1
    omega
/-- How many of them. -/
def nOf (P : List Int → Bool) (W n : Nat) : Int := sumL (fun xs => bI (P xs)) (imgs W n)
theorem nOf_len (P : List Int → Bool) (W n : Nat) : nOf P W n = (((imgs W n).filter P).length : Int) := (len_filter P _).symm
theorem nOf_ext {P Q : List Int → Bool} {W n : Nat} (h : ∀ xs, xs ∈ imgs W n → P xs = Q xs) : nOf P W n = nOf Q W n :=
  suml_ext fun x hx => by rw [h x hx]
theorem nOf_le {P Q : List Int → Bool} {W n W' n' : Nat} (f : List Int → List Int)
    (hm : ∀ xs, xs ∈ imgs W n → P xs = true → f xs ∈ imgs W' n' ∧ Q (f xs) = true)
    (hi : ∀ xs ys, xs ∈ imgs W n → ys ∈ imgs W n → P xs = true → P ys = true → f xs = f ys → xs = ys) : nOf P W n ≤ nOf Q W' n' := by
  rw [nOf_len, nOf_len]
  have h1 : (((imgs W n).filter P).map f).Nodup := nodup_inj ((imgs_nodup W n).filter P) fun x y hx hy => by
    have hx' := List.mem_filter.1 hx
    have hy' := List.mem_filter.1 hy
    exact hi x y hx'.1 hy'.1 hx'.2 hy'.2
  have h2 := nodup_sub (M := (imgs W' n').filter Q) h1 fun y hy => by
    obtain ⟨x, hx, e⟩ := List.mem_map.1 hy
    have hx' := List.mem_filter.1 hx
    subst e
    exact List.mem_filter.2 (hm x hx'.1 hx'.2)
  rw [List.length_map] at h2
  omega
theorem nOf_eq {P Q : List Int → Bool} {W n W' n' : Nat} (f g : List Int → List Int)
    (hm : ∀ xs, xs ∈ imgs W n → P xs = true → f xs ∈ imgs W' n' ∧ Q (f xs) = true ∧ g (f xs) = xs)
    (hm' : ∀ xs, xs ∈ imgs W' n' → Q xs = true → g xs ∈ imgs W n ∧ P (g xs) = true ∧ f (g xs) = xs) : nOf P W n = nOf Q W' n' := by
  refine Int.le_antisymm (nOf_le f (fun xs h p => ⟨(hm xs h p).1, (hm xs h p).2.1⟩) fun xs ys h h' p p' e => ?_) (nOf_le g (fun xs h p => ⟨(hm' xs h p).1, (hm' xs h p).2.1⟩) fun xs ys h h' p p' e => ?_)
  · rw [← (hm xs h p).2.2, e, (hm ys h' p').2.2]
  · rw [← (hm' xs h p).2.2, e, (hm' ys h' p').2.2]
theorem bI_nn (b : Bool) : 0 ≤ bI b := by cases b <;> decide
theorem suml_nn {α : Type} {F : α → Int} : ∀ {xs : List α}, (∀ x, x ∈ xs → 0 ≤ F x) → 0 ≤ sumL F xs
  | [], _ => Int.le_refl _
  | x :: xs, h => by
    have h1 := h x (List.mem_cons_self ..)
    have h2 := suml_nn (F := F) (xs := xs) fun y hy => h y (List.mem_cons_of_mem _ hy)
    simp only [sumL]; omega
theorem nOf_nn (P : List Int → Bool) (W n : Nat) : 0 ≤ nOf P W n := suml_nn fun _ _ => bI_nn _
theorem nOf_pos {P : List Int → Bool} {W n : Nat} : 0 < nOf P W n ↔ ∃ xs, xs ∈ imgs W n ∧ P xs = true := by
  rw [nOf_len]
  constructor
  · intro h
    cases e : (imgs W n).filter P with
    | nil => rw [e] at h; exact absurd h (by decide)
    | cons x l =>
      have : x ∈ (imgs W n).filter P := by rw [e]; exact List.mem_cons_self ..
      exact ⟨x, List.mem_filter.1 this⟩
  · rintro ⟨x, hx, hp⟩
    have := List.mem_filter.2 ⟨hx, hp⟩
    have := List.length_pos_of_mem this
    omega
theorem nOf_two {P : List Int → Bool} {W n : Nat} : 1 < nOf P W n ↔ ∃ xs ys, xs ∈ imgs W n ∧ ys ∈ imgs W n ∧ P xs = true ∧ P ys = true ∧ xs ≠ ys := by
  rw [nOf_len]
  constructor
  · intro h
    have hn := (imgs_nodup W n).filter P
    cases e : (imgs W n).filter P with
    | nil => rw [e] at h; exact absurd h (by decide)
    | cons x l =>
      cases e' : l with
      | nil => rw [e, e'] at h; simp only [List.length_cons, List.length_nil] at h; omega
      | cons y l' =>
        rw [e'] at e
        have hx : x ∈ (imgs W n).filter P := by rw [e]; exact List.mem_cons_self ..
        have hy : y ∈ (imgs W n).filter P := by rw [e]; exact List.mem_cons_of_mem _ (List.mem_cons_self ..)
        rw [e] at hn
        have hne := (List.nodup_cons.1 hn).1
        refine ⟨x, y, (List.mem_filter.1 hx).1, (List.mem_filter.1 hy).1, (List.mem_filter.1 hx).2, (List.mem_filter.1 hy).2, fun h => hne ?_⟩
        rw [h]; exact List.mem_cons_self ..
  · rintro ⟨x, y, hx, hy, hp, hq, hne⟩
    have h2 := nodup_sub (L := [x, y]) (M := (imgs W n).filter P) (by simp [hne]) fun z hz => by
      simp only [List.mem_cons, List.not_mem_nil, or_false] at hz
      rcases hz with h | h <;> subst h
      · exact List.mem_filter.2 ⟨hx, hp⟩
      · exact List.mem_filter.2 ⟨hy, hq⟩
    simp only [List.length_cons, List.length_nil] at h2
    omega
theorem suml_flat {α β : Type} (F : β → Int) (f : α → List β) : ∀ xs : List α, sumL F (xs.flatMap f) = sumL (fun x => sumL F (f x)) xs
  | [] => rfl
  | x :: xs => by rw [List.flatMap_cons, suml_append, suml_flat F f xs]; rfl
theorem suml_rng (F : Nat → Int) : ∀ n, sumL F (List.range n) = sumI F n
  | 0 => rfl
  | n + 1 => by rw [List.range_succ, suml_append, suml_rng F n]; simp [sumL, sumI]
theorem suml_map {α β : Type} (F : β → Int) (f : α → β) : ∀ xs : List α, sumL F (xs.map f) = sumL (fun x => F (f x)) xs
  | [] => rfl
  | x :: xs => by rw [List.map_cons]; simp only [sumL]; rw [suml_map F f xs]
theorem nOf_succ (P : List Int → Bool) (W n : Nat) : nOf P W (n + 1) = sumI (fun m => nOf (fun ys => P ((m : Int) :: ys)) W n) (pn W) := by
  have e : nOf P W (n + 1) = sumL (fun xs => bI (P xs)) ((List.range (pn W)).flatMap fun m : Nat => (imgs W n).map fun xs => (m : Int) :: xs) := rfl
  rw [e, suml_flat, ← suml_rng]
  exact suml_ext fun m _ => suml_map ..
theorem sum_mul (c : Int) (f : Nat → Int) : ∀ k, sumI (fun i => f i * c) k = sumI f k * c
  | 0 => by simp [sumI]
  | k + 1 => by simp only [sumI]; rw [sum_mul c f k, Int.add_mul]
theorem suml_swap {α : Type} (F : Nat → α → Int) (k : Nat) : ∀ xs : List α, sumI (fun j => sumL (F j) xs) k = sumL (fun x => sumI (fun j => F j x) k) xs
  | [] => sum_zero k
  | x :: xs => by
    simp only [sumL]
    rw [sum_add, suml_swap F k xs]
theorem nOf_sub {P Q : List Int → Bool} {W n : Nat} (h : ∀ xs, P xs = true → Q xs = true) : nOf P W n ≤ nOf Q W n :=
  nOf_le id (fun xs hx hp => ⟨hx, h xs hp⟩) fun _ _ _ _ _ _ e => e
theorem nOf_false (W n : Nat) : nOf (fun _ => false) W n = 0 := by
  rw [nOf_len, List.filter_eq_nil_iff.2 (by intro a _ h; cases h)]; rfl
/-- The images with given sums. -/
def fitP (rows cols : List Int) (W n : Nat) (xs : List Int) : Bool := decide (rsL xs W n = rows) && decide (csL xs n W = cols)
theorem fitP_iff {rows cols : List Int} {W n : Nat} {xs : List Int} : fitP rows cols W n xs = true ↔ rsL xs W n = rows ∧ csL xs n W = cols := by
  simp only [fitP, Bool.and_eq_true, decide_eq_true_eq]
def takeI (cols : List Int) (m : Int) : List Int := rowsL (fun j => cols.getD j 0 - bitI m j) cols.length
def takeB (cols : List Int) (m : Int) : Bool := decide (∀ j, j < cols.length → bitI m j ≤ cols.getD j 0)
/-- The ways to fill rows from column sums. -/
def wayI (W : Nat) : List Int → List Int → Int
  | [], cols => if lsum cols = 0 then 1 else 0
  | r :: rows, cols => sumI (fun m => if cntI m W = r ∧ takeB cols m = true then wayI W rows (takeI cols m) else 0) (pn W)
theorem rows_shift (f : Nat → Int) (n : Nat) : rowsL f (n + 1) = f 0 :: rowsL (fun i => f (i + 1)) n := by
  simp only [rowsL, List.range_succ_eq_map, List.map_cons, List.map_map]; rfl
theorem rows_len' (f : Nat → Int) (n : Nat) : (rowsL f n).length = n := by simp [rowsL]
theorem rows_get' (f : Nat → Int) {n i : Nat} (h : i < n) : (rowsL f n).getD i 0 = f i := by
  simp [rowsL, List.getD_eq_getElem?_getD, h]
theorem rs_cons (m : Int) (ys : List Int) (W n : Nat) : rsL (m :: ys) W (n + 1) = cntI m W :: rsL ys W n := by
  simp only [rsL]; rw [rows_shift]; rfl
theorem csI_cons (m : Int) (ys : List Int) (j n : Nat) : csI (m :: ys) j (n + 1) = bitI m j + csI ys j n := by
  simp only [csI]; rw [sum_shift]; rfl
theorem took_len (cols : List Int) (m : Int) : (takeI cols m).length = cols.length := rows_len' ..
theorem took_get {cols : List Int} (m : Int) {j : Nat} (h : j < cols.length) : (takeI cols m).getD j 0 = cols.getD j 0 - bitI m j := rows_get' _ h
theorem cs_iff {xs cols : List Int} {W n : Nat} (hl : cols.length = W) : csL xs n W = cols ↔ ∀ j, j < W → csI xs j n = cols.getD j 0 := by
  constructor
  · intro h j hj; rw [← h, cs_get hj]
  · intro h; exact lists_ext (cs_len ..) hl fun j hj => by rw [cs_get hj, h j hj]
theorem fit_cons {r m : Int} {rows cols ys : List Int} {W n : Nat} (hl : cols.length = W) : fitP (r :: rows) cols W (n + 1) (m :: ys) = (decide (cntI m W = r ∧ takeB cols m = true) && fitP rows (takeI cols m) W n ys) := by
  apply Bool.eq_iff_iff.2
  rw [fitP_iff, Bool.and_eq_true, fitP_iff, decide_eq_true_eq, rs_cons, cs_iff hl, cs_iff (by rw [took_len, hl])]
  simp only [List.cons.injEq, takeB, decide_eq_true_eq]
  constructor
  · rintro ⟨⟨h1, h2⟩, h3⟩
    refine ⟨⟨h1, fun j hj => ?_⟩, h2, fun j hj => ?_⟩
    · have := h3 j (by omega); rw [csI_cons] at this
      have := (csI_bd ys j n).1
      omega
    · have := h3 j hj; rw [csI_cons] at this
      rw [took_get _ (by omega)]; omega
  · rintro ⟨⟨h1, h2⟩, h3, h4⟩
    refine ⟨⟨h1, h3⟩, fun j hj => ?_⟩
    have := h4 j hj
    rw [took_get _ (by omega)] at this
    rw [csI_cons]; omega
theorem lsum_rows (xs : List Int) : lsum xs = sumI (fun i => xs.getD i 0) xs.length := by
  induction xs with
  | nil => rfl
  | cons x xs ih => rw [List.length_cons, sum_shift]; simp only [lsum, List.getD_cons_zero, List.getD_cons_succ]; rw [ih]
theorem way_num (W : Nat) : ∀ (rows cols : List Int), cols.length = W → (∀ j, j < W → 0 ≤ cols.getD j 0) → wayI W rows cols = nOf (fitP rows cols W rows.length) W rows.length
  | [], cols, hl, h0 => by
    have e : nOf (fitP [] cols W 0) W 0 = bI (fitP [] cols W 0 []) + 0 := rfl
    have e2 : fitP [] cols W 0 [] = decide (lsum cols = 0) := by
      apply Bool.eq_iff_iff.2
      rw [fitP_iff, decide_eq_true_eq, cs_iff hl, lsum_rows, hl]
      constructor
      · rintro ⟨_, h⟩
        rw [sum_ext (g := fun _ => 0) fun i hi => by rw [← h i hi]; rfl, sum_zero]
      · intro h
        exact ⟨rfl, fun j hj => by rw [sum_none h0 h j hj]; rfl⟩
    rw [List.length_nil, e, e2]
    simp only [wayI]
    split <;> rename_i h <;> simp [h, bI]
  | r :: rows, cols, hl, h0 => by
    rw [List.length_cons, nOf_succ]
    simp only [wayI]
    refine sum_ext fun m _ => ?_
    (try dsimp only)
    rw [nOf_ext (Q := fun ys => decide (cntI m W = r ∧ takeB cols m = true) && fitP rows (takeI cols m) W rows.length ys) fun ys _ => fit_cons hl]
    by_cases h : cntI m W = r ∧ takeB cols m = true
    · rw [if_pos h, way_num W rows (takeI cols m) (by rw [took_len, hl])]
      · refine nOf_ext fun ys _ => ?_
        rw [decide_eq_true h]; rfl
      · intro j hj
        rw [took_get _ (by omega)]
        have := of_decide_eq_true h.2 j (by omega)
        omega
    · rw [if_neg h, decide_eq_false h]
      exact (nOf_false W rows.length).symm
/-- The number of images with given sums. -/
def cntS (rows cols : List Int) : Int := nOf (fitP rows cols cols.length rows.length) cols.length rows.length
theorem fit_im {rows cols : List Int} {W n : Nat} {xs : List Int} (h : Im W n xs) (h1 : rsL xs W n = rows) (h2 : csL xs n W = cols) : xs ∈ imgs W n ∧ fitP rows cols W n xs = true :=
  ⟨(imgs_im h.w1 h.w6 h.l1 h.l6).2 h, fitP_iff.2 ⟨h1, h2⟩⟩
theorem im_fit {rows cols : List Int} (hs : sumsB rows cols = true) {xs : List Int} (hm : xs ∈ imgs cols.length rows.length) : Im cols.length rows.length xs := by
  obtain ⟨⟨a, b⟩, ⟨c, d⟩, _⟩ := sumsB_parts hs
  exact (imgs_im c d a b).1 hm
theorem cnt_nn (rows cols : List Int) : 0 ≤ cntS rows cols := nOf_nn ..
theorem cnt_turn {rows cols : List Int} (hs : sumsB rows cols = true) : cntS cols rows = cntS rows cols := by
  have hs' := sumsB_flip hs
  refine nOf_eq (fun xs => turnL xs rows.length cols.length) (fun xs => turnL xs cols.length rows.length) (fun xs hx hp => ?_) fun xs hx hp => ?_
  · have hI := im_fit hs' hx
    obtain ⟨h1, h2⟩ := fitP_iff.1 hp
    have := fit_im hI.turn (hI.turn_rs.trans h2) (hI.turn_cs.trans h1)
    exact ⟨this.1, this.2, hI.turn_turn⟩
  · have hI := im_fit hs hx
    obtain ⟨h1, h2⟩ := fitP_iff.1 hp
    have := fit_im hI.turn (hI.turn_rs.trans h2) (hI.turn_cs.trans h1)
    exact ⟨this.1, this.2, hI.turn_turn⟩
theorem oth_fit {rows cols : List Int} {W n : Nat} {xs : List Int} (h : Im W n xs) (hr : rows.length = n) (hc : cols.length = W) (h1 : rsL xs W n = rows) (h2 : csL xs n W = cols) :
    rsL (othL xs W n) W n = restL rows W ∧ csL (othL xs W n) n W = restL cols n := by
  rw [h.oth_rs, h.oth_cs, h1, h2]
  unfold restL
  rw [hr, hc]
  exact ⟨rfl, rfl⟩
theorem rest_fit {rows cols : List Int} (hs : sumsB rows cols = true) {xs : List Int} (hx : xs ∈ imgs cols.length rows.length) (hp : fitP rows cols cols.length rows.length xs = true) :
    othL xs cols.length rows.length ∈ imgs cols.length rows.length ∧ fitP (restL rows cols.length) (restL cols rows.length) cols.length rows.length (othL xs cols.length rows.length) = true := by
  have hI := im_fit hs hx
  obtain ⟨h1, h2⟩ := fitP_iff.1 hp
  obtain ⟨k1, k2⟩ := oth_fit hI rfl rfl h1 h2
  exact fit_im hI.oth k1 k2
theorem cnt_rest {rows cols : List Int} (hs : sumsB rows cols = true) : cntS (restL rows cols.length) (restL cols rows.length) = cntS rows cols := by
  have hs' := rest_valid hs
  have e1 := rest_len rows cols.length
  have e2 := rest_len cols rows.length
  unfold cntS
  rw [e1, e2]
  refine nOf_eq (fun xs => othL xs cols.length rows.length) (fun xs => othL xs cols.length rows.length) (fun xs hx hp => ?_) fun xs hx hp => ?_
  · have hI := im_fit hs hx
    have := rest_fit hs' (xs := xs) (by rw [e1, e2]; exact hx) (by rw [e1, e2]; exact hp)
    rw [e1, e2, rest_rest, rest_rest] at this
    exact ⟨this.1, this.2, hI.oth_oth⟩
  · have hI := im_fit hs hx
    have := rest_fit hs hx hp
    exact ⟨this.1, this.2, hI.oth_oth⟩

end Go.Proofs.Ytnfkafaolelkbaa

