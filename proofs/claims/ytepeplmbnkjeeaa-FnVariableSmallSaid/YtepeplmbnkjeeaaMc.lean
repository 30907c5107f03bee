/-
  Plain facts on variable cells of an image that is given by its rows: a cell is variable just if an image with the same sums is different in it; what a flip leaves.
-/
import Derived.Test.YtepeplmbnkjeeaaMb
import Derived.Test.YtepeplmbnkjeeaaVa
namespace Go.Proofs.Ytepeplmbnkjeeaa
set_option maxRecDepth 100000

theorem SameC.sume {W n : Nat} {xs ys : List Int} (h : SameC (cellOf xs) (cellOf ys) W n) : SumE xs ys W n := by
  constructor
  · unfold rsL; exact rows_ext fun i hi => by rw [cnt_sum, cnt_sum, sum_ext (g := fun j => bI (cellOf xs i j)) fun j _ => cell_bit xs i j, h.rows i hi]; exact (sum_ext fun j _ => cell_bit ys i j).symm
  · unfold csL; exact rows_ext fun j hj => by
      have e1 := cs_cells xs W n j hj
      have e2 := cs_cells ys W n j hj
      rw [cs_get hj] at e1 e2
      rw [e1, e2]; exact h.cols j hj
/-- The place from which arrows must lead on: the column of a cell that is set, the row of another one; and the other end. -/
def fromP (xs : List Int) (n i j : Nat) : Nat := if cellOf xs i j = true then n + j else i
def toP (xs : List Int) (n i j : Nat) : Nat := if cellOf xs i j = true then i else n + j
def parP (xs : List Int) (W n s : Nat) : List Int := bfsP (arC (cellOf xs) n) (n + W) s
/-- A cell is variable. -/
def varB (xs : List Int) (W n i j : Nat) : Bool := decide (0 ≤ (parP xs W n (fromP xs n i j)).getD (toP xs n i j) 0)
/-- One cell is changed. -/
def togL (xs : List Int) (W n i j : Nat) : List Int := cellsL (togC (cellOf xs) i j) W n
def flipF (P : List Int) (W n s : Nat) : Nat → List Int → Nat → List Int
  | 0, xs, _ => xs
  | f + 1, xs, p => if p = s then xs else flipF P W n s f (togL xs W n (min (P.getD p 0).toNat p) (max (P.getD p 0).toNat p - n)) (P.getD p 0).toNat
/-- The rows that a flip leaves. -/
def flipL (xs : List Int) (W n i j : Nat) : List Int := flipF (parP xs W n (fromP xs n i j)) W n (fromP xs n i j) (n + W) (togL xs W n i j) (toP xs n i j)
theorem tog_im {W n : Nat} {xs : List Int} (h : Im W n xs) (i j : Nat) : Im W n (togL xs W n i j) := cells_im _ h.w1 h.w6 h.l1 h.l6
theorem tog_cell {W n : Nat} {xs : List Int} (h : Im W n xs) {i j a b : Nat} (ha : a < n) (hb : b < W) : cellOf (togL xs W n i j) a b = togC (cellOf xs) i j a b := by
  unfold togL
  show decide (_ = (1 : Int)) = _
  rw [cells_bit h.w6 ha hb]
  cases togC (cellOf xs) i j a b <;> rfl
theorem ends_lt {xs : List Int} {W n i j : Nat} (hi : i < n) (hj : j < W) : fromP xs n i j < n + W ∧ toP xs n i j < n + W := by
  unfold fromP toP; by_cases e : cellOf xs i j = true <;> simp only [e, if_true] <;> constructor <;> (try split) <;> omega
theorem ends_set {xs : List Int} {n i j : Nat} (h : cellOf xs i j = true) : fromP xs n i j = n + j ∧ toP xs n i j = i := ⟨if_pos h, if_pos h⟩
theorem ends_not {xs : List Int} {n i j : Nat} (h : cellOf xs i j = false) : fromP xs n i j = i ∧ toP xs n i j = n + j := ⟨if_neg (by rw [h]; simp), if_neg (by rw [h]; simp)⟩
theorem ends_or (xs : List Int) (n i j : Nat) : fromP xs n i j = i ∧ toP xs n i j = n + j ∨ fromP xs n i j = n + j ∧ toP xs n i j = i := by
  cases h : cellOf xs i j with
  | true => exact .inr (ends_set h)
  | false => exact .inl (ends_not h)
/-- The cell's own arrow leads back. -/
theorem ends_arc {xs : List Int} {n i j : Nat} (hi : i < n) : arC (cellOf xs) n (toP xs n i j) (fromP xs n i j) = true := by
  cases h : cellOf xs i j with
  | true => rw [(ends_set h).1, (ends_set h).2, arc_set hi]; exact h
  | false => rw [(ends_not h).1, (ends_not h).2, arc_not hi, h]; rfl
theorem par_tree (xs : List Int) {W n s : Nat} (hs : s < n + W) : Tree (arC (cellOf xs) n) (n + W) s (parP xs W n s) := bfs_tree _ hs
theorem var_iff {xs : List Int} {W n i j : Nat} (hi : i < n) (hj : j < W) : varB xs W n i j = true ↔ Rch (arC (cellOf xs) n) (n + W) (fromP xs n i j) (toP xs n i j) :=
  decide_eq_true_iff.trans ((par_tree xs (ends_lt hi hj).1).rch (ends_lt hi hj).2)
/-- A cell in which an image with the same sums is different is variable. -/
theorem var_of {W n : Nat} {xs ys : List Int} (hs : SumE xs ys W n) {i j : Nat} (hi : i < n) (hj : j < W) (hne : cellOf xs i j ≠ cellOf ys i j) : varB xs W n i j = true := by
  have T := par_tree xs (ends_lt (xs := xs) hi hj).1
  have f := tree_fix hs.cells T hi hj hne
  have r := T.root
  refine decide_eq_true ?_
  rcases ends_or xs n i j with ⟨e1, e2⟩ | ⟨e1, e2⟩
  · rw [e2]; rw [e1] at f r ⊢; exact f.1 (by omega)
  · rw [e2]; rw [e1] at f r ⊢; exact f.2 (by omega)
/-- Both ways: arrows lead from the row to the column and back. -/
theorem var_both {xs : List Int} {W n i j : Nat} (hi : i < n) (hj : j < W) : (decide (0 ≤ (parP xs W n i).getD (n + j) 0) && decide (0 ≤ (parP xs W n (n + j)).getD i 0)) = varB xs W n i j := by
  have T1 := par_tree xs (show i < n + W by omega)
  have T2 := par_tree xs (show n + j < n + W by omega)
  cases h : cellOf xs i j with
  | true =>
    have e : 0 ≤ (parP xs W n i).getD (n + j) 0 := T1.cl i (n + j) (by omega) (by omega) (by rw [T1.root]; omega) (by rw [arc_set hi]; exact h)
    rw [decide_eq_true e, Bool.true_and]
    unfold varB
    rw [(ends_set h).1, (ends_set h).2]
  | false =>
    have e : 0 ≤ (parP xs W n (n + j)).getD i 0 := T2.cl (n + j) i (by omega) (by omega) (by rw [T2.root]; omega) (by rw [arc_not hi, h]; rfl)
    rw [decide_eq_true e, Bool.and_true]
    unfold varB
    rw [(ends_not h).1, (ends_not h).2]
/-- A flip on its way back: it is at p, and f steps are enough. -/
structure FlipAt (xs : List Int) (W n i j : Nat) (rk : Nat → Nat) (f : Nat) (ys : List Int) (p : Nat) : Prop where
  im : Im W n ys
  lt : p < n + W
  pos : 0 ≤ (parP xs W n (fromP xs n i j)).getD p 0
  enough : rk p ≤ f
  fc : FlipC (cellOf xs) n W i j (fromP xs n i j) rk (cellOf ys) p
  eq : flipF (parP xs W n (fromP xs n i j)) W n (fromP xs n i j) f ys p = flipL xs W n i j
theorem FlipC.ext {c x y : Nat → Nat → Bool} {n W i j s p : Nat} {rk : Nat → Nat} (h : FlipC c n W i j s rk x p) (hi : i < n) (hj : j < W) (e : ∀ a b, a < n → b < W → x a b = y a b) : FlipC c n W i j s rk y p :=
  ⟨by rw [← e i j hi hj]; exact h.cell, fun k l hk hl hn hd => h.rest k l hk hl hn (by rw [e k l hk hl]; exact hd),
   fun k hk => by rw [← h.rows k hk]; exact sum_ext fun l hl => by rw [e k l hk hl],
   fun l hl => by rw [← h.cols l hl]; exact sum_ext fun k hk => by rw [e k l hk hl],
   fun k hk => by refine Int.le_trans (Int.le_of_eq ?_) (h.cntr k hk); exact sum_ext fun l hl => by rw [e k l hk hl],
   fun l hl => by refine Int.le_trans (Int.le_of_eq ?_) (h.cntc l hl); exact sum_ext fun k hk => by rw [e k l hk hl]⟩
/-- How places are ranked. -/
def Ranked (xs : List Int) (W n s : Nat) (rk : Nat → Nat) : Prop := (∀ k, rk k ≤ n + W) ∧ ∀ k, k < n + W → k ≠ s → 0 ≤ (parP xs W n s).getD k 0 → ∃ f : Nat, (parP xs W n s).getD k 0 = f ∧ f < n + W ∧ 0 ≤ (parP xs W n s).getD f 0 ∧ arC (cellOf xs) n f k = true ∧ rk f < rk k
theorem flip_at0 {W n : Nat} {xs : List Int} (h : Im W n xs) {i j : Nat} (hi : i < n) (hj : j < W) (hv : varB xs W n i j = true) : ∃ rk, Ranked xs W n (fromP xs n i j) rk ∧ FlipAt xs W n i j rk (n + W) (togL xs W n i j) (toP xs n i j) := by
  obtain ⟨rk, h1, h2⟩ := (par_tree xs (ends_lt (xs := xs) hi hj).1).up
  refine ⟨rk, ⟨h1, h2⟩, tog_im h i j, (ends_lt hi hj).2, of_decide_eq_true hv, h1 _, ?_, rfl⟩
  refine (flip_0 rk hi hj ?_ (ends_arc hi)).ext hi hj fun a b ha hb => (tog_cell h ha hb).symm
  exact ends_or xs n i j
/-- One step back. -/
theorem FlipAt.step {xs ys : List Int} {W n i j f p : Nat} {rk : Nat → Nat} (h : FlipAt xs W n i j rk f ys p) (hr : Ranked xs W n (fromP xs n i j) rk) (hi : i < n) (hj : j < W) (hp : p ≠ fromP xs n i j) :
    ∃ q g k l : Nat, (parP xs W n (fromP xs n i j)).getD p 0 = q ∧ f = g + 1 ∧ rk q < rk p ∧ (q = k ∧ p = n + l ∨ p = k ∧ q = n + l) ∧ k < n ∧ l < W ∧ FlipAt xs W n i j rk g (togL ys W n k l) q := by
  obtain ⟨q, eq, hq, hq0, ha, hlt⟩ := hr.2 p h.lt hp h.pos
  obtain ⟨g, rfl⟩ : ∃ g, f = g + 1 := ⟨f - 1, by have := h.enough; omega⟩
  have hb : ∃ k l, (q = k ∧ p = n + l ∨ p = k ∧ q = n + l) ∧ k < n ∧ l < W ∧ min q p = k ∧ max q p - n = l := by
    rcases arc_ways hq h.lt ha with ⟨l, h1, h2, h3, _⟩ | ⟨l, h1, h2, h3, _⟩
    · exact ⟨q, l, .inl ⟨rfl, h2⟩, h1, h3, by omega, by omega⟩
    · exact ⟨p, l, .inr ⟨rfl, h2⟩, h1, h3, by omega, by omega⟩
  obtain ⟨k, l, hkl, hk, hl, e1, e2⟩ := hb
  refine ⟨q, g, k, l, eq, rfl, hlt, hkl, hk, hl, ?_⟩
  rw [← e1, ← e2]
  refine ⟨tog_im h.im _ _, hq, hq0, by have := h.enough; omega, ?_, ?_⟩
  · refine (flip_step h.fc hi hj (ends_or xs n i j) (ends_arc hi) h.lt hq ha hlt hp).ext hi hj fun a b ha hb => ?_
    rw [tog_cell h.im ha hb]
  · have := h.eq
    rw [flipF, if_neg hp, eq, Int.toNat_natCast] at this
    exact this
theorem FlipAt.done {xs ys : List Int} {W n i j f : Nat} {rk : Nat → Nat} (h : FlipAt xs W n i j rk f ys (fromP xs n i j)) : flipL xs W n i j = ys := by
  rw [← h.eq]
  cases f with
  | zero => rfl
  | succ f => rw [flipF, if_pos rfl]
/-- What a flip leaves. -/
theorem flip_all {W n : Nat} {xs : List Int} (h : Im W n xs) {i j : Nat} (hi : i < n) (hj : j < W) (hv : varB xs W n i j = true) :
    Im W n (flipL xs W n i j) ∧ SumE xs (flipL xs W n i j) W n ∧ cellOf (flipL xs W n i j) i j = !cellOf xs i j ∧ farL xs (flipL xs W n i j) W n ≤ 2 * n ∧ farL xs (flipL xs W n i j) W n ≤ 2 * W := by
  obtain ⟨rk, hr, h0⟩ := flip_at0 h hi hj hv
  have main : ∀ f ys p, FlipAt xs W n i j rk f ys p → ∃ zs, Im W n zs ∧ FlipC (cellOf xs) n W i j (fromP xs n i j) rk (cellOf zs) (fromP xs n i j) ∧ flipL xs W n i j = zs := by
    intro f
    induction f with
    | zero =>
      intro ys p hf
      by_cases e : p = fromP xs n i j
      · subst e; exact ⟨ys, hf.im, hf.fc, hf.done⟩
      · obtain ⟨q, g, _, _, _, e1, _⟩ := hf.step hr hi hj e; omega
    | succ f ih =>
      intro ys p hf
      by_cases e : p = fromP xs n i j
      · subst e; exact ⟨ys, hf.im, hf.fc, hf.done⟩
      · obtain ⟨q, g, _, _, _, e1, _, _, _, _, hn⟩ := hf.step hr hi hj e
        obtain rfl : g = f := by omega
        exact ih _ _ hn
  obtain ⟨zs, hI, hF, e⟩ := main _ _ _ h0
  rw [e]
  have d := flip_end hF
  refine ⟨hI, d.1.sume, hF.cell, ?_, ?_⟩
  · rw [farl_comm]; exact d.2.1
  · rw [farl_comm]; exact d.2.2
/-- A cell is variable just if an image with the same sums is different in it. -/
theorem var_ex {W n : Nat} {xs : List Int} (h : Im W n xs) {i j : Nat} (hi : i < n) (hj : j < W) : varB xs W n i j = true ↔ ∃ ys, Im W n ys ∧ SumE xs ys W n ∧ cellOf ys i j ≠ cellOf xs i j :=
  ⟨fun hv => by have a := flip_all h hi hj hv; exact ⟨_, a.1, a.2.1, by rw [a.2.2.1]; cases cellOf xs i j <;> simp⟩, fun ⟨ys, _, hs, hne⟩ => var_of hs hi hj fun e => hne e.symm⟩
/-- The image of the variable cells. -/
def varL (xs : List Int) (W n : Nat) : List Int := cellsL (varB xs W n) W n
theorem varl_im {W n : Nat} {xs : List Int} (h : Im W n xs) : Im W n (varL xs W n) := cells_im _ h.w1 h.w6 h.l1 h.l6
theorem varl_cell {W n : Nat} {xs : List Int} (h : Im W n xs) {i j : Nat} (hi : i < n) (hj : j < W) : cellOf (varL xs W n) i j = varB xs W n i j := by
  unfold varL
  show decide (_ = (1 : Int)) = _
  rw [cells_bit h.w6 hi hj]
  cases varB xs W n i j <;> rfl
theorem varB_same {W n : Nat} {xs ys : List Int} (h : Im W n xs) (h' : Im W n ys) (hs : SumE xs ys W n) {i j : Nat} (hi : i < n) (hj : j < W) : varB xs W n i j = varB ys W n i j := by
  have one : ∀ {xs ys : List Int}, Im W n xs → Im W n ys → SumE xs ys W n → varB xs W n i j = true → varB ys W n i j = true := by
    intro xs ys h h' hs hv
    obtain ⟨zs, hz, hsz, hne⟩ := (var_ex h hi hj).1 hv
    by_cases e : cellOf ys i j = cellOf xs i j
    · exact (var_ex h' hi hj).2 ⟨zs, hz, hs.symm.trans hsz, by rw [e]; exact hne⟩
    · exact (var_ex h' hi hj).2 ⟨xs, h, hs.symm, fun e2 => e e2.symm⟩
  cases e1 : varB xs W n i j with
  | true => exact (one h h' hs e1).symm
  | false =>
    cases e2 : varB ys W n i j with
    | true => have := one h' h hs.symm e2; rw [e1] at this; cases this
    | false => rfl
theorem varL_same {W n : Nat} {xs ys : List Int} (h : Im W n xs) (h' : Im W n ys) (hs : SumE xs ys W n) : varL xs W n = varL ys W n :=
  im_cell_ext (varl_im h) (varl_im h') fun i j hi hj => by rw [varl_cell h hi hj, varl_cell h' hi hj]; exact varB_same h h' hs hi hj
theorem SumE.turn {W n : Nat} {xs ys : List Int} (h : Im W n xs) (h' : Im W n ys) (hs : SumE xs ys W n) : SumE (turnL xs W n) (turnL ys W n) n W :=
  ⟨by rw [h.turn_rs, h'.turn_rs]; exact hs.2, by rw [h.turn_cs, h'.turn_cs]; exact hs.1⟩
theorem SumE.oth {W n : Nat} {xs ys : List Int} (h : Im W n xs) (h' : Im W n ys) (hs : SumE xs ys W n) : SumE (othL xs W n) (othL ys W n) W n :=
  ⟨by rw [h.oth_rs, h'.oth_rs, hs.1], by rw [h.oth_cs, h'.oth_cs, hs.2]⟩
theorem var_turn {W n : Nat} {xs : List Int} (h : Im W n xs) {i j : Nat} (hi : i < n) (hj : j < W) : varB (turnL xs W n) n W j i = varB xs W n i j := by
  have one : ∀ {W n : Nat} {xs : List Int}, Im W n xs → ∀ {i j : Nat}, i < n → j < W → varB xs W n i j = true → varB (turnL xs W n) n W j i = true := by
    intro W n xs h i j hi hj hv
    obtain ⟨zs, hz, hsz, hne⟩ := (var_ex h hi hj).1 hv
    exact (var_ex h.turn hj hi).2 ⟨_, hz.turn, hsz.turn h hz, by rw [turn_cell hz hi hj, turn_cell h hi hj]; exact hne⟩
  cases e1 : varB xs W n i j with
  | true => exact one h hi hj e1
  | false =>
    cases e2 : varB (turnL xs W n) n W j i with
    | true => have := one h.turn hj hi e2; rw [h.turn_turn, e1] at this; cases this
    | false => rfl
theorem varL_turn {W n : Nat} {xs : List Int} (h : Im W n xs) : varL (turnL xs W n) n W = turnL (varL xs W n) W n :=
  im_cell_ext (varl_im h.turn) (varl_im h).turn fun j i hj hi => by rw [varl_cell h.turn hj hi, turn_cell (varl_im h) hi hj, varl_cell h hi hj, var_turn h hi hj]
theorem var_oth {W n : Nat} {xs : List Int} (h : Im W n xs) {i j : Nat} (hi : i < n) (hj : j < W) : varB (othL xs W n) W n i j = varB xs W n i j := by
  have one : ∀ {xs : List Int}, Im W n xs → varB xs W n i j = true → varB (othL xs W n) W n i j = true := by
    intro xs h hv
    obtain ⟨zs, hz, hsz, hne⟩ := (var_ex h hi hj).1 hv
    exact (var_ex h.oth hi hj).2 ⟨_, hz.oth, hsz.oth h hz, by rw [oth_cell hz hi hj, oth_cell h hi hj]; intro e; exact hne (by simpa using e)⟩
  cases e1 : varB xs W n i j with
  | true => exact one h e1
  | false =>
    cases e2 : varB (othL xs W n) W n i j with
    | true => have := one h.oth e2; rw [h.oth_oth, e1] at this; cases this
    | false => rfl
theorem varL_oth {W n : Nat} {xs : List Int} (h : Im W n xs) : varL (othL xs W n) W n = varL xs W n :=
  im_cell_ext (varl_im h.oth) (varl_im h) fun i j hi hj => by rw [varl_cell h.oth hi hj, varl_cell h hi hj, var_oth h hi hj]
/-- A line has no variable cell that is alone. -/
theorem sum_first {f g : Nat → Bool} {k i : Nat} (hi : i < k) (hne : f i ≠ g i) (hs : sumI (fun j => bI (f j)) k = sumI (fun j => bI (g j)) k) : ∃ l, l < k ∧ l ≠ i ∧ f l ≠ g l := by
  refine Classical.byContradiction fun hno => ?_
  have e : ∀ l, l < k → l ≠ i → bI (f l) = bI (g l) := fun l hl hli => by rw [Classical.byContradiction fun h => hno ⟨l, hl, hli, h⟩]
  have := sum_one (f := fun j => bI (f j)) (g := fun j => bI (g j)) (d := bI (f i) - bI (g i)) hi (by (try dsimp only); omega) e
  exact hne (bI_diff (by omega))
theorem sum_pair {f : Nat → Int} {k i l : Nat} (h : ∀ i, i < k → 0 ≤ f i) (hi : i < k) (hl : l < k) (hil : i ≠ l) : f i + f l ≤ sumI f k := by
  have e := sum_one (f := f) (g := fun j => if j = i then 0 else f j) (k := k) (m := i) (d := f i) hi (by (try dsimp only); rw [if_pos rfl]; omega) fun j _ hj => by (try dsimp only); rw [if_neg hj]
  have := sum_at (f := fun j => if j = i then 0 else f j) (k := k) (i := l) (fun j hj => by (try dsimp only); split; omega; exact h j hj) hl
  (try dsimp only at this)
  rw [if_neg (Ne.symm hil)] at this
  omega
theorem var_rows {W n : Nat} {xs : List Int} (h : Im W n xs) {i : Nat} (hi : i < n) : (rsL (varL xs W n) W n).getD i 0 ≠ 1 := by
  rw [rs_cells _ _ _ _ hi]
  intro e
  obtain ⟨j, hj, hp⟩ := sum_pos (f := fun j => bI (cellOf (varL xs W n) i j)) (k := W) (by rw [e]; omega)
  have hv := bI_pos hp
  rw [varl_cell h hi hj] at hv
  obtain ⟨zs, hz, hsz, hne⟩ := (var_ex h hi hj).1 hv
  obtain ⟨l, hl, hlj, hd⟩ := sum_first (f := cellOf zs i) (g := cellOf xs i) hj hne (hsz.cells.rows i hi).symm
  have hv2 := (var_ex h hi hl).2 ⟨zs, hz, hsz, hd⟩
  have := sum_pair (f := fun j => bI (cellOf (varL xs W n) i j)) (fun j _ => (bI_01 _).1) hj hl (Ne.symm hlj)
  (try dsimp only at this)
  rw [varl_cell h hi hj, varl_cell h hi hl, hv, hv2] at this
  simp only [bI, if_true] at this
  unfold bI at e
  omega
theorem var_cols {W n : Nat} {xs : List Int} (h : Im W n xs) {j : Nat} (hj : j < W) : (csL (varL xs W n) n W).getD j 0 ≠ 1 := by
  have := var_rows h.turn (i := j) hj
  rw [varL_turn h, (varl_im h).turn_rs] at this
  exact this
theorem var_switch {W n : Nat} {xs : List Int} (h : Im W n xs) {s : SwT} (hs : s ∈ swL (cellOf xs) W n) {i j : Nat} (hc : (i = s.1 ∨ i = s.2.1) ∧ (j = s.2.2.1 ∨ j = s.2.2.2)) : varB xs W n i j = true := by
  have a := sw_at hs
  have hi : i < n := by omega
  have hj : j < W := by omega
  refine (var_ex h hi hj).2 ⟨_, fls_im h s, (fls_sum h hs).symm, ?_⟩
  unfold flS
  rw [fl_cell h hi hj, fl_corner hc]
  cases cellOf xs i j <;> simp
/-- There is a variable cell just if there is a switch. -/
theorem var_none {W n : Nat} {xs : List Int} (h : Im W n xs) : manyI W (varL xs W n) n = 0 ↔ swL (cellOf xs) W n = [] := by
  have em : manyI W (varL xs W n) n = sumI (fun i => sumI (fun j => bI (varB xs W n i j)) W) n := by
    rw [many_sum]
    exact sum_ext fun i hi => sum_ext fun j hj => by (try dsimp only); rw [cell_bit, varl_cell h hi hj]
  rw [em]
  constructor
  · intro e
    refine Classical.byContradiction fun hne => ?_
    obtain ⟨s, hs⟩ := List.exists_mem_of_ne_nil _ hne
    have a := sw_at hs
    have hv := var_switch h hs (i := s.1) (j := s.2.2.1) ⟨.inl rfl, .inl rfl⟩
    have p1 := sum_at (f := fun j => bI (varB xs W n s.1 j)) (k := W) (i := s.2.2.1) (fun _ _ => (bI_01 _).1) (by omega)
    have p2 := sum_at (f := fun i => sumI (fun j => bI (varB xs W n i j)) W) (k := n) (i := s.1) (fun _ _ => sum_nn fun _ _ => (bI_01 _).1) (by omega)
    (try dsimp only at p1 p2)
    rw [hv] at p1
    simp only [bI, if_true] at p1
    unfold bI at p2 e
    omega
  · intro e
    refine Classical.byContradiction fun hne => ?_
    have hp : 0 < sumI (fun i => sumI (fun j => bI (varB xs W n i j)) W) n := by
      have := sum_nn (f := fun i => sumI (fun j => bI (varB xs W n i j)) W) (k := n) (fun _ _ => sum_nn fun _ _ => (bI_01 _).1)
      omega
    obtain ⟨i, hi, hp⟩ := sum_pos hp
    obtain ⟨j, hj, hp⟩ := sum_pos hp
    have a := flip_all h hi hj (bI_pos hp)
    have hr := path_run h a.1 a.2.1
    cases hl : pathL W n xs (flipL xs W n i j) with
    | nil =>
      rw [hl] at hr
      have e2 : xs = flipL xs W n i j := by simpa [runL] using hr
      have e3 := a.2.2.1
      rw [← e2] at e3
      cases hx : cellOf xs i j <;> rw [hx] at e3 <;> cases e3
    | cons s L =>
      rw [hl, List.map_cons, runL] at hr
      by_cases ho : okB W xs (castQ s).1 (castQ s).2.1 (castQ s).2.2.1 (castQ s).2.2.2 = true
      · obtain ⟨A, B, C, D, _, _, _, _, a1, a2, a3, a4, hs⟩ := okB_im h ho
        have hm := swl_mem.2 ⟨a1, a2, a3, a4, hs⟩
        rw [e] at hm; cases hm
      · rw [if_neg ho] at hr; cases hr
/-- A variable cell's row and column are neither empty nor full. -/
theorem var_full {W n : Nat} {xs : List Int} (h : Im W n xs) {i j : Nat} (hi : i < n) (hj : j < W) (hv : varB xs W n i j = true) : 0 < (rsL xs W n).getD i 0 ∧ (rsL xs W n).getD i 0 < W := by
  rw [rs_cells _ _ _ _ hi]
  obtain ⟨zs, hz, hsz, hne⟩ := (var_ex h hi hj).1 hv
  obtain ⟨l, hl, hlj, hd⟩ := sum_first (f := cellOf zs i) (g := cellOf xs i) hj hne (hsz.cells.rows i hi).symm
  have es := hsz.cells.rows i hi
  have b1 := sum_bd (f := fun j => bI (cellOf xs i j)) (fun _ => bI_01 _) W
  have b2 := sum_bd (f := fun j => bI (cellOf zs i j)) (fun _ => bI_01 _) W
  have p1 := sum_at (f := fun j => bI (cellOf xs i j)) (k := W) (fun _ _ => (bI_01 _).1) hj
  have p2 := sum_at (f := fun j => bI (cellOf zs i j)) (k := W) (fun _ _ => (bI_01 _).1) hj
  have q1 := sum_at (f := fun j => 1 - bI (cellOf xs i j)) (k := W) (fun _ _ => by (try dsimp only); have := bI_01 (cellOf xs i j); rename_i a _; have := bI_01 (cellOf xs i a); omega) hj
  have q2 := sum_at (f := fun j => 1 - bI (cellOf zs i j)) (k := W) (fun _ _ => by (try dsimp only); rename_i a _; have := bI_01 (cellOf zs i a); omega) hj
  rw [sum_sub] at q1 q2
  (try dsimp only at p1 p2 q1 q2)
  cases e1 : cellOf xs i j <;> cases e2 : cellOf zs i j
  · rw [e1, e2] at hne; exact absurd rfl hne
  · rw [e1] at p1 q1; rw [e2] at p2 q2; simp only [bI] at p1 p2 q1 q2 es b1 b2 ⊢; simp at p1 p2 q1 q2; omega
  · rw [e1] at p1 q1; rw [e2] at p2 q2; simp only [bI] at p1 p2 q1 q2 es b1 b2 ⊢; simp at p1 p2 q1 q2; omega
  · rw [e1, e2] at hne; exact absurd rfl hne
theorem var_fullc {W n : Nat} {xs : List Int} (h : Im W n xs) {i j : Nat} (hi : i < n) (hj : j < W) (hv : varB xs W n i j = true) : 0 < (csL xs n W).getD j 0 ∧ (csL xs n W).getD j 0 < n := by
  have := var_full h.turn hj hi (by rw [var_turn h hi hj]; exact hv)
  rw [h.turn_rs] at this
  exact this
/-- For each place whether it is reached from the row i. -/
def rchB (xs : List Int) (W n i q : Nat) : Bool := decide (0 ≤ (parP xs W n i).getD q 0)
theorem rch_iff {xs : List Int} {W n i q : Nat} (hi : i < n + W) (hq : q < n + W) : rchB xs W n i q = true ↔ Rch (arC (cellOf xs) n) (n + W) i q := decide_eq_true_iff.trans ((par_tree xs hi).rch hq)
theorem rch_self {xs : List Int} {W n i : Nat} (hi : i < n + W) : rchB xs W n i i = true := (rch_iff hi hi).2 (Rch.refl _ _ _)
theorem rch_set {xs : List Int} {W n i k j : Nat} (hi : i < n + W) (hk : k < n) (hj : j < W) (hc : cellOf xs k j = true) (hr : rchB xs W n i k = true) : rchB xs W n i (n + j) = true :=
  (rch_iff hi (by omega)).2 (((rch_iff hi (by omega)).1 hr).snoc (by omega) (by omega) (by rw [arc_set hk]; exact hc))
theorem rch_not {xs : List Int} {W n i k j : Nat} (hi : i < n + W) (hk : k < n) (hj : j < W) (hc : cellOf xs k j = false) (hr : rchB xs W n i (n + j) = true) : rchB xs W n i k = true :=
  (rch_iff hi (by omega)).2 (((rch_iff hi (by omega)).1 hr).snoc (by omega) (by omega) (by rw [arc_not hk, hc]; rfl))
theorem rch_trans {xs : List Int} {W n i k q : Nat} (hi : i < n + W) (hk : k < n + W) (hq : q < n + W) (h1 : rchB xs W n i k = true) (h2 : rchB xs W n k q = true) : rchB xs W n i q = true :=
  (rch_iff hi hq).2 (((rch_iff hi hk).1 h1).trans ((rch_iff hk hq).1 h2))
theorem arc_oth {W n : Nat} {xs : List Int} (h : Im W n xs) {p q : Nat} (hp : p < n + W) (hq : q < n + W) : arC (cellOf (othL xs W n)) n p q = arC (cellOf xs) n q p := by
  by_cases e1 : p < n
  · by_cases e2 : q < n
    · unfold arC; rw [if_pos e1, if_pos e2, decide_eq_false (by omega), decide_eq_false (by omega)]; rfl
    · obtain ⟨l, rfl⟩ : ∃ l, q = n + l := ⟨q - n, by omega⟩
      rw [arc_set e1, arc_not e1, oth_cell h e1 (by omega)]
  · obtain ⟨l, rfl⟩ : ∃ l, p = n + l := ⟨p - n, by omega⟩
    by_cases e2 : q < n
    · rw [arc_set e2, arc_not e2, oth_cell h e2 (by omega), Bool.not_not]
    · unfold arC; rw [if_neg e1, if_neg e2, decide_eq_false e2, decide_eq_false e1]; rfl
theorem rch_oth {W n : Nat} {xs : List Int} (h : Im W n xs) {i k : Nat} (hi : i < n + W) (hk : k < n + W) : rchB (othL xs W n) W n i k = rchB xs W n k i := by
  rw [Bool.eq_iff_iff, rch_iff hi hk, rch_iff hk hi]
  exact ⟨fun hr => hr.rev fun p q hp hq => arc_oth h hp hq, fun hr => hr.rev fun p q hp hq => (arc_oth h hq hp).symm⟩
/-- The row and the column of a variable cell are in one group. -/
theorem var_reach {xs : List Int} {W n i j : Nat} (hi : i < n) (hj : j < W) (hv : varB xs W n i j = true) : rchB xs W n i (n + j) = true := by
  have := var_both (xs := xs) hi hj
  rw [hv, Bool.and_eq_true] at this
  exact this.1
end Go.Proofs.Ytepeplmbnkjeeaa

