/-
  Plain facts on arrows between rows and columns: what is no cell of a part does not change while sums stay, and a flip along arrows keeps the sums and changes at most two cells of a line.
-/
import Derived.Test.YtepeplmbnkjeeaaMa
import Derived.Test.YtepeplmbnkjeeaaVa
namespace Go.Proofs.Ytepeplmbnkjeeaa
set_option maxRecDepth 100000

/-- Whether an arrow leads from one place to another one: rows come first, n of them, columns behind them. -/
def arC (c : Nat → Nat → Bool) (n p q : Nat) : Bool := if p < n then decide (n ≤ q) && c p (q - n) else decide (q < n) && !c q (p - n)
theorem arc_set {c : Nat → Nat → Bool} {n i : Nat} (hi : i < n) (j : Nat) : arC c n i (n + j) = c i j := by
  unfold arC; rw [if_pos hi, show n + j - n = j by omega, decide_eq_true (show n ≤ n + j by omega), Bool.true_and]
theorem arc_not {c : Nat → Nat → Bool} {n i : Nat} (hi : i < n) (j : Nat) : arC c n (n + j) i = !c i j := by
  unfold arC; rw [if_neg (by omega), show n + j - n = j by omega, decide_eq_true hi, Bool.true_and]
/-- The two kinds of arrows. -/
theorem arc_ways {c : Nat → Nat → Bool} {n W p q : Nat} (hp : p < n + W) (hq : q < n + W) (h : arC c n p q = true) :
    (∃ l, p < n ∧ q = n + l ∧ l < W ∧ c p l = true) ∨ (∃ l, q < n ∧ p = n + l ∧ l < W ∧ c q l = false) := by
  unfold arC at h
  by_cases e : p < n
  · rw [if_pos e, Bool.and_eq_true] at h
    have h1 := of_decide_eq_true h.1
    exact .inl ⟨q - n, e, by omega, by omega, h.2⟩
  · rw [if_neg e, Bool.and_eq_true] at h
    have h1 := of_decide_eq_true h.1
    exact .inr ⟨p - n, h1, by omega, by omega, by simpa using h.2⟩
theorem bI_diff {a b : Bool} (h : bI a - bI b = 0) : a = b := by revert h; cases a <;> cases b <;> simp [bI]
/-- Where arrows lead out of no part of the places, images with the same sums have the same cells. -/
theorem part_fix {c d : Nat → Nat → Bool} {n W : Nat} (h : SameC c d W n) (S : Nat → Bool) (hS : ∀ p q, p < n + W → q < n + W → S p = true → arC c n p q = true → S q = true) {i j : Nat} (hi : i < n) (hj : j < W) (hne : S i ≠ S (n + j)) : c i j = d i j := by
  let dl : Nat → Nat → Int := fun i j => bI (c i j) - bI (d i j)
  let t : Nat → Nat → Int := fun i j => (if S (n + j) = true then dl i j else 0) - (if S i = true then dl i j else 0)
  have r0 : ∀ i, i < n → sumI (fun j => dl i j) W = 0 := fun i hi => by
    show sumI (fun j => bI (c i j) - bI (d i j)) W = 0
    rw [sum_take, h.rows i hi]; omega
  have c0 : ∀ j, j < W → sumI (fun i => dl i j) n = 0 := fun j hj => by
    show sumI (fun i => bI (c i j) - bI (d i j)) n = 0
    rw [sum_take, h.cols j hj]; omega
  have s1 : sumI (fun i => sumI (fun j => if S (n + j) = true then dl i j else 0) W) n = 0 := by
    rw [sum_swap]
    refine (sum_ext (g := fun _ => 0) fun j hj => ?_).trans (sum_zero W)
    by_cases e : S (n + j) = true
    · exact (sum_ext fun i _ => by rw [if_pos e]).trans (c0 j hj)
    · exact (sum_ext (g := fun _ => 0) fun i _ => by rw [if_neg e]).trans (sum_zero n)
  have s2 : sumI (fun i => sumI (fun j => if S i = true then dl i j else 0) W) n = 0 := by
    refine (sum_ext (g := fun _ => 0) fun i hi => ?_).trans (sum_zero n)
    by_cases e : S i = true
    · exact (sum_ext fun j _ => by rw [if_pos e]).trans (r0 i hi)
    · exact (sum_ext (g := fun _ => 0) fun j _ => by rw [if_neg e]).trans (sum_zero W)
  have s3 : sumI (fun i => sumI (fun j => t i j) W) n = 0 := by
    have : sumI (fun i => sumI (fun j => t i j) W) n = sumI (fun i => sumI (fun j => if S (n + j) = true then dl i j else 0) W) n - sumI (fun i => sumI (fun j => if S i = true then dl i j else 0) W) n := by
      rw [← sum_take]; exact sum_ext fun i _ => by rw [← sum_take]
    rw [this, s1, s2]; rfl
  have nn : ∀ i, i < n → ∀ j, j < W → 0 ≤ t i j := fun i hi j hj => by
    show 0 ≤ (if S (n + j) = true then dl i j else 0) - (if S i = true then dl i j else 0)
    have a1 := hS i (n + j) (by omega) (by omega)
    have a2 := hS (n + j) i (by omega) (by omega)
    rw [arc_set hi] at a1
    rw [arc_not hi] at a2
    show 0 ≤ (if S (n + j) = true then bI (c i j) - bI (d i j) else 0) - (if S i = true then bI (c i j) - bI (d i j) else 0)
    cases hsi : S i <;> cases hsj : S (n + j) <;> cases hc : c i j <;> cases hd : d i j <;> simp_all [bI]
  have t0 : t i j ≤ 0 := by
    have h1 := sum_at (f := fun j => t i j) (nn i hi) hj
    have h2 := sum_at (f := fun i => sumI (fun j => t i j) W) (fun i hi => sum_nn (nn i hi)) hi
    omega
  have t1 := nn i hi j hj
  have t2 : (if S (n + j) = true then bI (c i j) - bI (d i j) else 0) - (if S i = true then bI (c i j) - bI (d i j) else 0) = 0 := Int.le_antisymm t0 t1
  apply bI_diff
  cases hsi : S i <;> cases hsj : S (n + j)
  · rw [hsi, hsj] at hne; exact absurd rfl hne
  · rw [hsi, hsj] at t2; simp at t2; omega
  · rw [hsi, hsj] at t2; simp at t2; omega
  · rw [hsi, hsj] at hne; exact absurd rfl hne
/-- A cell that is different has both ends in one part. -/
theorem tree_fix {c d : Nat → Nat → Bool} {n W s : Nat} {P : List Int} (h : SameC c d W n) (T : Tree (arC c n) (n + W) s P) {i j : Nat} (hi : i < n) (hj : j < W) (hne : c i j ≠ d i j) : (0 ≤ P.getD i 0) ↔ (0 ≤ P.getD (n + j) 0) := by
  have := part_fix h (fun q => decide (0 ≤ P.getD q 0)) (fun p q hp hq h0 ha => decide_eq_true (T.cl p q hp hq (of_decide_eq_true h0) ha)) hi hj
  by_cases e1 : 0 ≤ P.getD i 0 <;> by_cases e2 : 0 ≤ P.getD (n + j) 0
  · exact ⟨fun _ => e2, fun _ => e1⟩
  · exact absurd (this (by rw [decide_eq_true e1, decide_eq_false e2]; simp)) hne
  · exact absurd (this (by rw [decide_eq_false e1, decide_eq_true e2]; simp)) hne
  · exact ⟨fun x => absurd x e1, fun x => absurd x e2⟩
/-- One cell is changed. -/
def togC (x : Nat → Nat → Bool) (i j a b : Nat) : Bool := if a = i ∧ b = j then !x a b else x a b
theorem tog_row (x : Nat → Nat → Bool) {W i j : Nat} (hj : j < W) : sumI (fun b => bI (togC x i j i b)) W = sumI (fun b => bI (x i b)) W + (1 - 2 * bI (x i j)) :=
  sum_one hj (by show bI (togC x i j i j) = _; unfold togC; rw [if_pos ⟨rfl, rfl⟩, bI_not]; omega) fun b _ hb => by show bI (togC x i j i b) = _; unfold togC; rw [if_neg (by omega)]
theorem tog_rest (x : Nat → Nat → Bool) {i j k l : Nat} (h : ¬ (k = i ∧ l = j)) : togC x i j k l = x k l := if_neg h
theorem tog_here (x : Nat → Nat → Bool) (i j : Nat) : togC x i j i j = !x i j := if_pos ⟨rfl, rfl⟩
theorem tog_col (x : Nat → Nat → Bool) {n i j : Nat} (hi : i < n) : sumI (fun a => bI (togC x i j a j)) n = sumI (fun a => bI (x a j)) n + (1 - 2 * bI (x i j)) :=
  sum_one hi (by show bI (togC x i j i j) = _; rw [tog_here, bI_not]; omega) fun b _ hb => by show bI (togC x i j b j) = _; rw [tog_rest _ (by omega)]
theorem tog_cnt_row (x c : Nat → Nat → Bool) {W i j : Nat} (hj : j < W) (he : x i j = c i j) : sumI (fun b => bI (togC x i j i b != c i b)) W = sumI (fun b => bI (x i b != c i b)) W + 1 :=
  sum_one hj (by show bI (togC x i j i j != c i j) = bI (x i j != c i j) + 1; rw [tog_here, he]; cases c i j <;> rfl) fun b _ hb => by show bI (togC x i j i b != c i b) = _; rw [tog_rest _ (by omega)]
theorem tog_cnt_col (x c : Nat → Nat → Bool) {n i j : Nat} (hi : i < n) (he : x i j = c i j) : sumI (fun a => bI (togC x i j a j != c a j)) n = sumI (fun a => bI (x a j != c a j)) n + 1 :=
  sum_one hi (by show bI (togC x i j i j != c i j) = bI (x i j != c i j) + 1; rw [tog_here, he]; cases c i j <;> rfl) fun b _ hb => by show bI (togC x i j b j != c b j) = _; rw [tog_rest _ (by omega)]
/-- One if two places are the same. -/
def eqI (p q : Nat) : Int := if p = q then 1 else 0
theorem eqI_self (p : Nat) : eqI p p = 1 := if_pos rfl
theorem eqI_ne {p q : Nat} (h : p ≠ q) : eqI p q = 0 := if_neg h
/-- What holds while a flip goes back from the place g to the place s: it is at p. -/
structure FlipC (c : Nat → Nat → Bool) (n W i j s : Nat) (rk : Nat → Nat) (x : Nat → Nat → Bool) (p : Nat) : Prop where
  cell : x i j = !c i j
  rest : ∀ k l, k < n → l < W → ¬ (k = i ∧ l = j) → x k l ≠ c k l → rk p < rk k ∨ rk p < rk (n + l)
  rows : ∀ k, k < n → sumI (fun l => bI (x k l)) W = sumI (fun l => bI (c k l)) W + eqI k s - eqI k p
  cols : ∀ l, l < W → sumI (fun k => bI (x k l)) n = sumI (fun k => bI (c k l)) n - eqI (n + l) s + eqI (n + l) p
  cntr : ∀ k, k < n → sumI (fun l => bI (x k l != c k l)) W ≤ eqI k s + eqI k p + (if rk p < rk k then 2 else 0)
  cntc : ∀ l, l < W → sumI (fun k => bI (x k l != c k l)) n ≤ eqI (n + l) s + eqI (n + l) p + (if rk p < rk (n + l) then 2 else 0)
theorem two_mono {a b c : Nat} (h : b < a) : (if a < c then (2 : Int) else 0) ≤ (if b < c then 2 else 0) := by
  by_cases e : a < c
  · rw [if_pos e, if_pos (by omega)]; omega
  · rw [if_neg e]; split <;> omega
theorem eqI_01 (p q : Nat) : 0 ≤ eqI p q ∧ eqI p q ≤ 1 := by unfold eqI; split <;> omega
/-- The cell of an arrow is changed. -/
theorem flip_step {c x : Nat → Nat → Bool} {n W i j s g p f : Nat} {rk : Nat → Nat} (h : FlipC c n W i j s rk x p) (hi : i < n) (hj : j < W)
    (hsg : s = i ∧ g = n + j ∨ s = n + j ∧ g = i) (hgs : arC c n g s = true) (hp : p < n + W) (hf : f < n + W) (ha : arC c n f p = true) (hlt : rk f < rk p) (hps : p ≠ s) :
    FlipC c n W i j s rk (togC x (min f p) (max f p - n)) f := by
  rcases arc_ways hf hp ha with ⟨l, hfn, rfl, hl, hc⟩ | ⟨l, hpn, rfl, hl, hc⟩
  · rw [show min f (n + l) = f by omega, show max f (n + l) - n = l by omega]
    have hne : ¬ (f = i ∧ l = j) := by
      rintro ⟨rfl, rfl⟩
      rcases hsg with ⟨rfl, rfl⟩ | ⟨rfl, rfl⟩
      · rw [arc_not hi, hc] at hgs; simp at hgs
      · exact hps rfl
    have hx : x f l = c f l := Classical.byContradiction fun e => by
      rcases h.rest f l hfn hl hne e with h1 | h1 <;> omega
    have hb : bI (x f l) = 1 := by rw [hx, hc]; rfl
    refine ⟨by rw [tog_rest _ (by omega)]; exact h.cell, fun k m hk hm hkm hd => ?_, fun k hk => ?_, fun m hm => ?_, fun k hk => ?_, fun m hm => ?_⟩
    · by_cases e : k = f ∧ m = l
      · obtain ⟨rfl, rfl⟩ := e; exact .inr hlt
      · rw [tog_rest _ e] at hd
        rcases h.rest k m hk hm hkm hd with h1 | h1 <;> omega
    · have h0 := h.rows k hk
      rw [eqI_ne (show k ≠ n + l by omega)] at h0
      by_cases e : k = f
      · subst e; rw [tog_row x hl, h0, hb, eqI_self]; omega
      · rw [eqI_ne e, sum_ext (g := fun l => bI (x k l)) fun b _ => by show bI (togC x f l k b) = _; rw [tog_rest _ (by omega)], h0]
    · have h0 := h.cols m hm
      rw [eqI_ne (show n + m ≠ f by omega)]
      by_cases e : m = l
      · subst e; rw [tog_col x hfn, h0, hb, eqI_self]; omega
      · rw [sum_ext (g := fun k => bI (x k m)) fun b _ => by show bI (togC x f l b m) = _; rw [tog_rest _ (by omega)], h0, eqI_ne (show n + m ≠ n + l by omega)]
    · have h0 := h.cntr k hk
      rw [eqI_ne (show k ≠ n + l by omega)] at h0
      by_cases e : k = f
      · subst e; rw [tog_cnt_row x c hl hx, eqI_self]; rw [if_neg (by omega)] at h0; rw [if_neg (by omega)]; omega
      · rw [eqI_ne e, sum_ext (g := fun l => bI (x k l != c k l)) fun b _ => by show bI (togC x f l k b != c k b) = _; rw [tog_rest _ (by omega)]]
        have := two_mono (c := rk k) hlt; omega
    · have h0 := h.cntc m hm
      rw [eqI_ne (show n + m ≠ f by omega)]
      by_cases e : m = l
      · subst e; rw [tog_cnt_col x c hfn hx, if_pos hlt]; rw [eqI_self, eqI_ne hps, if_neg (by omega)] at h0; have := eqI_01 (n + m) s; omega
      · rw [sum_ext (g := fun k => bI (x k m != c k m)) fun b _ => by show bI (togC x f l b m != c b m) = _; rw [tog_rest _ (by omega)]]
        rw [eqI_ne (show n + m ≠ n + l by omega)] at h0
        have := two_mono (c := rk (n + m)) hlt; omega
  · rw [show min (n + l) p = p by omega, show max (n + l) p - n = l by omega]
    have hne : ¬ (p = i ∧ l = j) := by
      rintro ⟨rfl, rfl⟩
      rcases hsg with ⟨rfl, rfl⟩ | ⟨rfl, rfl⟩
      · exact hps rfl
      · rw [arc_set hi, hc] at hgs; simp at hgs
    have hx : x p l = c p l := Classical.byContradiction fun e => by
      rcases h.rest p l hpn hl hne e with h1 | h1 <;> omega
    have hb : bI (x p l) = 0 := by rw [hx, hc]; rfl
    refine ⟨by rw [tog_rest _ (by omega)]; exact h.cell, fun k m hk hm hkm hd => ?_, fun k hk => ?_, fun m hm => ?_, fun k hk => ?_, fun m hm => ?_⟩
    · by_cases e : k = p ∧ m = l
      · obtain ⟨rfl, rfl⟩ := e; exact .inl hlt
      · rw [tog_rest _ e] at hd
        rcases h.rest k m hk hm hkm hd with h1 | h1 <;> omega
    · have h0 := h.rows k hk
      rw [eqI_ne (show k ≠ n + l by omega)]
      by_cases e : k = p
      · subst e; rw [tog_row x hl, h0, hb, eqI_self]; omega
      · rw [sum_ext (g := fun l => bI (x k l)) fun b _ => by show bI (togC x p l k b) = _; rw [tog_rest _ (by omega)], h0, eqI_ne e]
    · have h0 := h.cols m hm
      rw [eqI_ne (show n + m ≠ p by omega)] at h0
      by_cases e : m = l
      · subst e; rw [tog_col x hpn, h0, hb, eqI_self]; omega
      · rw [eqI_ne (show n + m ≠ n + l by omega), sum_ext (g := fun k => bI (x k m)) fun b _ => by show bI (togC x p l b m) = _; rw [tog_rest _ (by omega)], h0]
    · have h0 := h.cntr k hk
      rw [eqI_ne (show k ≠ n + l by omega)]
      by_cases e : k = p
      · subst e; rw [tog_cnt_row x c hl hx, if_pos hlt]; rw [eqI_self, eqI_ne hps, if_neg (by omega)] at h0; have := eqI_01 k s; omega
      · rw [sum_ext (g := fun l => bI (x k l != c k l)) fun b _ => by show bI (togC x p l k b != c k b) = _; rw [tog_rest _ (by omega)]]
        rw [eqI_ne e] at h0
        have := two_mono (c := rk k) hlt; omega
    · have h0 := h.cntc m hm
      rw [eqI_ne (show n + m ≠ p by omega)] at h0
      by_cases e : m = l
      · subst e; rw [tog_cnt_col x c hpn hx, eqI_self]; rw [if_neg (by omega)] at h0; rw [if_neg (by omega)]; omega
      · rw [eqI_ne (show n + m ≠ n + l by omega), sum_ext (g := fun k => bI (x k m != c k m)) fun b _ => by show bI (togC x p l b m != c b m) = _; rw [tog_rest _ (by omega)]]
        have := two_mono (c := rk (n + m)) hlt; omega
/-- The cell itself is changed first. -/
theorem flip_0 {c : Nat → Nat → Bool} {n W i j s g : Nat} (rk : Nat → Nat) (hi : i < n) (hj : j < W)
    (hsg : s = i ∧ g = n + j ∨ s = n + j ∧ g = i) (hgs : arC c n g s = true) : FlipC c n W i j s rk (togC c i j) g := by
  have hcnt : ∀ k, 0 ≤ (if rk g < rk k then (2 : Int) else 0) := fun k => by split <;> omega
  have zero : ∀ k, sumI (fun l => bI (c k l != c k l)) W = 0 := fun k => by rw [← sum_zero W]; exact sum_ext fun l _ => by cases c k l <;> rfl
  have zeroc : ∀ l, sumI (fun k => bI (c k l != c k l)) n = 0 := fun l => by rw [← sum_zero n]; exact sum_ext fun k _ => by cases c k l <;> rfl
  rcases hsg with ⟨rfl, rfl⟩ | ⟨rfl, rfl⟩
  · have hc : c s j = false := by rw [arc_not hi] at hgs; simpa using hgs
    refine ⟨tog_here _ _ _, fun k l _ _ hkl hd => absurd (tog_rest c hkl) hd, fun k hk => ?_, fun l hl => ?_, fun k hk => ?_, fun l hl => ?_⟩
    · rw [eqI_ne (show k ≠ n + j by omega)]
      by_cases e : k = s
      · subst e; rw [tog_row c hj, hc, eqI_self]; simp [bI]
      · rw [eqI_ne e, sum_ext (g := fun l => bI (c k l)) fun b _ => by show bI (togC c s j k b) = _; rw [tog_rest _ (by omega)]]; omega
    · rw [eqI_ne (show n + l ≠ s by omega)]
      by_cases e : l = j
      · subst e; rw [tog_col c hi, hc, eqI_self]; simp [bI]
      · rw [eqI_ne (show n + l ≠ n + j by omega), sum_ext (g := fun k => bI (c k l)) fun b _ => by show bI (togC c s j b l) = _; rw [tog_rest _ (by omega)]]; omega
    · have := hcnt k; have e1 := eqI_01 k (n + j); have e2 := eqI_01 k s
      by_cases e : k = s
      · subst e; rw [tog_cnt_row c c hj rfl, zero, eqI_self]; omega
      · rw [sum_ext (g := fun l => bI (c k l != c k l)) fun b _ => by show bI (togC c s j k b != c k b) = _; rw [tog_rest _ (by omega)], zero]; omega
    · have := hcnt (n + l); have e1 := eqI_01 (n + l) (n + j); have e2 := eqI_01 (n + l) s
      by_cases e : l = j
      · subst e; rw [tog_cnt_col c c hi rfl, zeroc, eqI_self (n + l)]; omega
      · rw [sum_ext (g := fun k => bI (c k l != c k l)) fun b _ => by show bI (togC c s j b l != c b l) = _; rw [tog_rest _ (by omega)], zeroc]; omega
  · have hc : c g j = true := by rw [arc_set hi] at hgs; exact hgs
    refine ⟨tog_here _ _ _, fun k l _ _ hkl hd => absurd (tog_rest c hkl) hd, fun k hk => ?_, fun l hl => ?_, fun k hk => ?_, fun l hl => ?_⟩
    · rw [eqI_ne (show k ≠ n + j by omega)]
      by_cases e : k = g
      · subst e; rw [tog_row c hj, hc, eqI_self]; simp [bI]; omega
      · rw [eqI_ne e, sum_ext (g := fun l => bI (c k l)) fun b _ => by show bI (togC c g j k b) = _; rw [tog_rest _ (by omega)]]; omega
    · rw [eqI_ne (show n + l ≠ g by omega)]
      by_cases e : l = j
      · subst e; rw [tog_col c hi, hc, eqI_self]; simp [bI]; omega
      · rw [eqI_ne (show n + l ≠ n + j by omega), sum_ext (g := fun k => bI (c k l)) fun b _ => by show bI (togC c g j b l) = _; rw [tog_rest _ (by omega)]]; omega
    · have := hcnt k; have e1 := eqI_01 k (n + j); have e2 := eqI_01 k g
      by_cases e : k = g
      · subst e; rw [tog_cnt_row c c hj rfl, zero, eqI_self]; omega
      · rw [sum_ext (g := fun l => bI (c k l != c k l)) fun b _ => by show bI (togC c g j k b != c k b) = _; rw [tog_rest _ (by omega)], zero]; omega
    · have := hcnt (n + l); have e1 := eqI_01 (n + l) (n + j); have e2 := eqI_01 (n + l) g
      by_cases e : l = j
      · subst e; rw [tog_cnt_col c c hi rfl, zeroc, eqI_self (n + l)]; omega
      · rw [sum_ext (g := fun k => bI (c k l != c k l)) fun b _ => by show bI (togC c g j b l != c b l) = _; rw [tog_rest _ (by omega)], zeroc]; omega
/-- Back at the start: the sums are the same, and no line has more than two cells that are different. -/
theorem flip_end {c x : Nat → Nat → Bool} {n W i j s : Nat} {rk : Nat → Nat} (h : FlipC c n W i j s rk x s) :
    SameC c x W n ∧ farI x c W n ≤ 2 * n ∧ farI x c W n ≤ 2 * W := by
  have le2 : ∀ k, eqI k s + eqI k s + (if rk s < rk k then 2 else 0) ≤ 2 := fun k => by
    by_cases e : k = s
    · subst e; rw [eqI_self, if_neg (Nat.lt_irrefl _)]; omega
    · rw [eqI_ne e]; split <;> omega
  refine ⟨⟨fun k hk => by rw [h.rows k hk]; omega, fun l hl => by rw [h.cols l hl]; omega⟩, ?_, ?_⟩
  · rw [show (2 : Int) * n = n * 2 by omega, ← sum_same]
    exact sum_le fun k hk => Int.le_trans (h.cntr k hk) (le2 k)
  · rw [show (2 : Int) * W = W * 2 by omega, ← sum_same, ← far_turn]
    exact sum_le fun l hl => Int.le_trans (h.cntc l hl) (le2 (n + l))
end Go.Proofs.Ytepeplmbnkjeeaa

