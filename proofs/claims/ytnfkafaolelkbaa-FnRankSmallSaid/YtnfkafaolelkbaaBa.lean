/-
  Plain facts on ranks: the order of images, all images with given sums in their order, the number of those ahead.
-/
import Derived.Test.YtnfkafaolelkbaaJa
namespace Go.Proofs.Ytnfkafaolelkbaa
set_option maxRecDepth 100000

/-- A list of numbers stands ahead of another one. -/
def ltB : List Int → List Int → Bool
  | x :: xs, y :: ys => decide (x < y) || (decide (x = y) && ltB xs ys)
  | _, _ => false
theorem lt_irr : ∀ xs : List Int, ltB xs xs = false
  | [] => rfl
  | x :: xs => by simp [ltB, lt_irr xs]
theorem lt_asym : ∀ {xs ys : List Int}, ltB xs ys = true → ltB ys xs = false
  | [], _, h => by simp [ltB] at h
  | x :: xs, [], h => by simp [ltB] at h
  | x :: xs, y :: ys, h => by
    simp only [ltB, Bool.or_eq_true, Bool.and_eq_true, decide_eq_true_eq] at h
    rcases h with h | ⟨e, h⟩
    · have h1 : ¬ y < x := by omega
      have h2 : ¬ y = x := by omega
      simp [ltB, h1, h2]
    · subst e; simp [ltB, lt_asym h]
theorem lt_tri : ∀ {xs ys : List Int}, xs.length = ys.length → ltB xs ys = false → ltB ys xs = false → xs = ys
  | [], [], _, _, _ => rfl
  | [], _ :: _, h, _, _ => by simp at h
  | _ :: _, [], h, _, _ => by simp at h
  | x :: xs, y :: ys, h, h1, h2 => by
    simp only [ltB, Bool.or_eq_false_iff, decide_eq_false_iff_not] at h1 h2
    obtain rfl : x = y := by omega
    have a := h1.2
    have b := h2.2
    simp only [decide_true, Bool.true_and] at a b
    rw [lt_tri (by simpa using h) a b]
theorem lt_cons (x : Int) (xs ys : List Int) : ltB (x :: xs) (x :: ys) = ltB xs ys := by simp [ltB]
/-- Of two lists the first place that differs tells. -/
theorem lt_at : ∀ {n k : Nat} {xs ys : List Int}, xs.length = n → ys.length = n → k ≤ n → (∀ q, q < k → xs.getD q 0 = ys.getD q 0) → (k = n ∨ xs.getD k 0 ≠ ys.getD k 0) → (ltB xs ys = true ↔ k < n ∧ xs.getD k 0 < ys.getD k 0)
  | n, 0, [], ys, h1, h2, _, _, _ => by
    subst h1
    simp [ltB]
  | n, 0, x :: xs, [], h1, h2, _, _, _ => by simp at h1 h2; omega
  | n, 0, x :: xs, y :: ys, h1, h2, _, _, h => by
    simp at h1 h2
    have h : x ≠ y := by
      rcases h with h | h
      · omega
      · simpa using h
    simp [ltB, h]
    omega
  | n, k + 1, [], ys, h1, _, hk, _, _ => by simp at h1; omega
  | n, k + 1, x :: xs, [], h1, h2, hk, _, _ => by simp at h2; omega
  | n, k + 1, x :: xs, y :: ys, h1, h2, hk, he, hd => by
    obtain ⟨m, rfl⟩ : ∃ m, n = m + 1 := ⟨n - 1, by omega⟩
    have h0 := he 0 (by omega)
    simp only [List.getD_cons_zero] at h0
    subst h0
    rw [lt_cons, lt_at (n := m) (k := k) (by simpa using h1) (by simpa using h2) (by omega) (fun q hq => by have := he (q + 1) (by omega); simpa using this) (by
      rcases hd with hd | hd
      · left; omega
      · right; simpa using hd)]
    simp
theorem imgs_sorted (W : Nat) : ∀ n, (imgs W n).Pairwise (fun a b => ltB a b = true)
  | 0 => by simp [imgs]
  | n + 1 => by
    simp only [imgs]
    refine List.pairwise_flatMap.2 ⟨fun m _ => ?_, ?_⟩
    · rw [List.pairwise_map]
      exact (imgs_sorted W n).imp fun {a b} h => by rw [lt_cons]; exact h
    · refine List.Pairwise.imp ?_ (List.pairwise_lt_range (n := pn W))
      intro a b hab x hx y hy
      obtain ⟨x', _, ex⟩ := List.mem_map.1 hx
      obtain ⟨y', _, ey⟩ := List.mem_map.1 hy
      subst ex; subst ey
      have : (a : Int) < (b : Int) := by omega
      simp [ltB, this]
/-- The images with given sums in their order. -/
def allS (rows cols : List Int) : List (List Int) := (imgs cols.length rows.length).filter (fitP rows cols cols.length rows.length)
theorem alls_sorted (rows cols : List Int) : (allS rows cols).Pairwise (fun a b => ltB a b = true) := (imgs_sorted _ _).filter _
theorem alls_len (rows cols : List Int) : ((allS rows cols).length : Int) = cntS rows cols := (nOf_len _ _ _).symm
theorem alls_mem {rows cols xs : List Int} : xs ∈ allS rows cols ↔ xs ∈ imgs cols.length rows.length ∧ fitP rows cols cols.length rows.length xs = true := List.mem_filter
/-- The rank of an image with given sums. -/
def rnkS (rows cols xs : List Int) : Int := nOf (fun ys => fitP rows cols cols.length rows.length ys && ltB ys xs) cols.length rows.length
theorem sorted_ahead : ∀ {L : List (List Int)}, L.Pairwise (fun a b => ltB a b = true) → ∀ (k : Nat) (h : k < L.length), (L.filter fun y => ltB y L[k]).length = k
  | [], _, k, h => absurd h (Nat.not_lt_zero k)
  | x :: L, hp, 0, h => by
    have hp' := List.pairwise_cons.1 hp
    rw [List.getElem_cons_zero, List.length_eq_zero_iff, List.filter_eq_nil_iff]
    intro y hy
    rcases List.mem_cons.1 hy with e | hm
    · subst e; simp [lt_irr]
    · simp [lt_asym (hp'.1 y hm)]
  | x :: L, hp, k + 1, h => by
    have hp' := List.pairwise_cons.1 hp
    have hk : k < L.length := by simpa using h
    have h1 := hp'.1 _ (List.getElem_mem hk)
    have h2 := sorted_ahead hp'.2 k hk
    rw [List.getElem_cons_succ, List.filter_cons_of_pos (p := fun y => ltB y L[k]) h1, List.length_cons, h2]
theorem rnk_fil (rows cols xs : List Int) : rnkS rows cols xs = (((allS rows cols).filter fun y => ltB y xs).length : Int) := by
  unfold rnkS allS
  rw [nOf_len, List.filter_filter]
  congr 3
  funext y
  rw [Bool.and_comm]
def nthS (rows cols : List Int) (k : Nat) : List Int := (allS rows cols).getD k []
theorem nth_mem {rows cols : List Int} {k : Nat} (h : (k : Int) < cntS rows cols) : nthS rows cols k ∈ allS rows cols := by
  rw [← alls_len] at h
  have hk : k < (allS rows cols).length := by omega
  unfold nthS
  rw [List.getD_eq_getElem?_getD, List.getElem?_eq_getElem hk, Option.getD_some]
  exact List.getElem_mem hk
theorem nth_rnk {rows cols : List Int} {k : Nat} (h : (k : Int) < cntS rows cols) : rnkS rows cols (nthS rows cols k) = k := by
  rw [← alls_len] at h
  have hk : k < (allS rows cols).length := by omega
  rw [rnk_fil, show nthS rows cols k = (allS rows cols)[k] from by unfold nthS; rw [List.getD_eq_getElem?_getD, List.getElem?_eq_getElem hk, Option.getD_some], sorted_ahead (alls_sorted rows cols) k hk]
theorem rnk_nth {rows cols xs : List Int} (h : xs ∈ allS rows cols) : ∃ k : Nat, rnkS rows cols xs = k ∧ (k : Int) < cntS rows cols ∧ nthS rows cols k = xs := by
  obtain ⟨k, hk, e⟩ := List.getElem_of_mem h
  have hc : (k : Int) < cntS rows cols := by rw [← alls_len]; omega
  have en : nthS rows cols k = xs := by unfold nthS; rw [List.getD_eq_getElem?_getD, List.getElem?_eq_getElem hk, Option.getD_some, e]
  exact ⟨k, by rw [← en]; exact nth_rnk hc, hc, en⟩
theorem rnk_inj {rows cols xs ys : List Int} (hx : xs ∈ allS rows cols) (hy : ys ∈ allS rows cols) (h : rnkS rows cols xs = rnkS rows cols ys) : xs = ys := by
  obtain ⟨k, a, _, b⟩ := rnk_nth hx
  obtain ⟨l, c, _, d⟩ := rnk_nth hy
  obtain rfl : k = l := by omega
  rw [← b, ← d]
theorem nth_inj {rows cols : List Int} {k l : Nat} (hk : (k : Int) < cntS rows cols) (hl : (l : Int) < cntS rows cols) (h : nthS rows cols k = nthS rows cols l) : k = l := by
  have a := nth_rnk hk
  have b := nth_rnk hl
  rw [h] at a
  omega
theorem nth_lt {rows cols : List Int} {k l : Nat} (h : k < l) (hl : (l : Int) < cntS rows cols) : ltB (nthS rows cols k) (nthS rows cols l) = true := by
  rw [← alls_len] at hl
  have h2 : l < (allS rows cols).length := by omega
  have e1 : nthS rows cols k = (allS rows cols)[k]'(by omega) := by unfold nthS; rw [List.getD_eq_getElem?_getD, List.getElem?_eq_getElem (by omega), Option.getD_some]
  have e2 : nthS rows cols l = (allS rows cols)[l]'(by omega) := by unfold nthS; rw [List.getD_eq_getElem?_getD, List.getElem?_eq_getElem (by omega), Option.getD_some]
  rw [e1, e2]
  exact List.pairwise_iff_getElem.1 (alls_sorted rows cols) k l _ _ h
theorem alls_len2 {rows cols xs : List Int} (h : xs ∈ allS rows cols) : xs.length = rows.length := (imgs_mem.1 (alls_mem.1 h).1).1
theorem alls_im {rows cols xs : List Int} (hs : sumsB rows cols = true) (h : xs ∈ allS rows cols) : Im cols.length rows.length xs ∧ rsL xs cols.length rows.length = rows ∧ csL xs rows.length cols.length = cols := by
  obtain ⟨a, b⟩ := alls_mem.1 h
  exact ⟨im_fit hs a, fitP_iff.1 b⟩
theorem im_alls {xs : List Int} {W n : Nat} (h : Im W n xs) : xs ∈ allS (rsL xs W n) (csL xs n W) := by
  rw [alls_mem, rs_len, cs_len]
  exact fit_im h rfl rfl
/-- Of all images some stand ahead, one is the image, the others behind. -/
theorem rnk_split {rows cols xs : List Int} (hx : xs ∈ allS rows cols) : cntS rows cols = rnkS rows cols xs + 1 + nOf (fun ys => fitP rows cols cols.length rows.length ys && ltB xs ys) cols.length rows.length := by
  have e : ∀ L : List (List Int), L.Nodup → (∀ y, y ∈ L → y.length = xs.length) → xs ∈ L → (L.length : Int) = ((L.filter fun y => ltB y xs).length : Int) + 1 + ((L.filter fun y => ltB xs y).length : Int) := by
    intro L hn hl hm
    have key : ∀ L : List (List Int), (∀ y, y ∈ L → y.length = xs.length) → (L.length : Int) = ((L.filter fun y => ltB y xs).length : Int) + ((L.filter fun y => decide (y = xs)).length : Int) + ((L.filter fun y => ltB xs y).length : Int) := by
      intro L
      induction L with
      | nil => intro _; rfl
      | cons y L ih =>
        intro hl
        have h1 := ih fun z hz => hl z (List.mem_cons_of_mem _ hz)
        have h2 := hl y (List.mem_cons_self ..)
        cases a : ltB y xs with
        | true =>
          have b := lt_asym a
          have c : ¬ y = xs := fun e => by subst e; rw [lt_irr] at a; cases a
          simp [a, b, c]; omega
        | false =>
          cases b : ltB xs y with
          | true =>
            have c : ¬ y = xs := fun e => by subst e; rw [lt_irr] at b; cases b
            simp [a, b, c]; omega
          | false =>
            have c := lt_tri h2 a b
            subst c
            simp [lt_irr]; omega
    have e1 := key L hl
    have e2 : (L.filter fun y => decide (y = xs)).length = 1 := by
      have a : (L.filter fun y => decide (y = xs)).length ≤ [xs].length := nodup_sub (hn.filter _) fun y hy => by
        have := (List.mem_filter.1 hy).2
        simp at this; subst this; simp
      have b : [xs].length ≤ (L.filter fun y => decide (y = xs)).length := nodup_sub (by simp) fun y hy => by
        simp at hy; subst hy
        exact List.mem_filter.2 ⟨hm, by simp⟩
      simp only [List.length_singleton] at a b
      omega
    omega
  have h1 := e (allS rows cols) ((imgs_nodup _ _).filter _) (fun y hy => by rw [alls_len2 hy, alls_len2 hx]) hx
  rw [alls_len] at h1
  rw [h1, rnk_fil, nOf_len]
  congr 2
  unfold allS
  rw [List.filter_filter]
  congr 1
  congr 1
  funext y
  rw [Bool.and_comm]
theorem lt_oth {W : Nat} : ∀ {n : Nat} {xs ys : List Int}, xs.length = n → ys.length = n → ltB (othL xs W n) (othL ys W n) = ltB ys xs := by
  have key : ∀ (c : Int) {xs ys : List Int}, xs.length = ys.length → ltB (xs.map fun x => c - x) (ys.map fun x => c - x) = ltB ys xs := by
    intro c xs
    induction xs with
    | nil => intro ys h; cases ys with
      | nil => rfl
      | cons y ys => simp at h
    | cons x xs ih => intro ys h; cases ys with
      | nil => simp at h
      | cons y ys =>
        have := ih (ys := ys) (by simpa using h)
        simp only [List.map_cons, ltB, this]
        congr 1
        · apply decide_eq_decide.2; omega
        · congr 1; apply decide_eq_decide.2; omega
  intro n xs ys h1 h2
  have e : ∀ zs : List Int, zs.length = n → othL zs W n = zs.map fun x => pw W - 1 - x := fun zs hz => by
    apply List.ext_getElem (by simp [othL, rowsL, hz])
    intro i hi hi2
    simp [othL, rowsL] at hi
    simp [othL, rowsL, List.getD_eq_getElem?_getD, List.getElem?_eq_getElem (show i < zs.length by omega)]
  rw [e xs h1, e ys h2, key _ (by omega)]
/-- Other cells have the opposite order. -/
theorem rnk_oth {rows cols xs : List Int} (hs : sumsB rows cols = true) (hx : xs ∈ allS rows cols) : othL xs cols.length rows.length ∈ allS (restL rows cols.length) (restL cols rows.length) ∧
    rnkS rows cols xs + rnkS (restL rows cols.length) (restL cols rows.length) (othL xs cols.length rows.length) = cntS rows cols - 1 := by
  have hs' := rest_valid hs
  have e1 := rest_len rows cols.length
  have e2 := rest_len cols rows.length
  obtain ⟨hm, hp⟩ := alls_mem.1 hx
  have hlx := alls_len2 hx
  have hr := rest_fit hs hm hp
  refine ⟨by rw [alls_mem, e1, e2]; exact hr, ?_⟩
  have h := rnk_split hx
  have h2 : rnkS (restL rows cols.length) (restL cols rows.length) (othL xs cols.length rows.length) = nOf (fun ys => fitP rows cols cols.length rows.length ys && ltB xs ys) cols.length rows.length := by
    unfold rnkS
    rw [e1, e2]
    refine nOf_eq (fun xs => othL xs cols.length rows.length) (fun xs => othL xs cols.length rows.length) (fun ys hy hp => ?_) fun ys hy hp => ?_
    · rw [Bool.and_eq_true] at hp
      have hI := im_fit hs hy
      have := rest_fit hs' (xs := ys) (by rw [e1, e2]; exact hy) (by rw [e1, e2]; exact hp.1)
      rw [e1, e2, rest_rest, rest_rest] at this
      have h3 := hp.2
      rw [← lt_oth (W := cols.length) (n := rows.length) (by simp [othL, rowsL]) hI.hl, (im_fit hs hm).oth_oth] at h3
      exact ⟨this.1, by rw [this.2, h3]; rfl, hI.oth_oth⟩
    · rw [Bool.and_eq_true] at hp
      have hI := im_fit hs hy
      have := rest_fit hs hy hp.1
      have h3 := hp.2
      rw [← lt_oth (W := cols.length) (n := rows.length) hI.hl hlx] at h3
      exact ⟨this.1, by rw [this.2, h3]; rfl, hI.oth_oth⟩
  omega
theorem nth_oth {rows cols : List Int} (hs : sumsB rows cols = true) {k l : Nat} (h : (k : Int) + l + 1 = cntS rows cols) : nthS (restL rows cols.length) (restL cols rows.length) l = othL (nthS rows cols k) cols.length rows.length := by
  have hk : (k : Int) < cntS rows cols := by omega
  have hm := nth_mem hk
  obtain ⟨h1, h2⟩ := rnk_oth hs hm
  have h3 := nth_rnk hk
  have hc := cnt_rest hs
  have hl : (l : Int) < cntS (restL rows cols.length) (restL cols rows.length) := by omega
  have h4 := nth_rnk hl
  exact rnk_inj (nth_mem hl) h1 (by omega)
/-- The ways with a first row below a number. -/
def befI (W : Nat) (r : Int) (rows cols : List Int) (k : Nat) : Int := sumI (fun m => if cntI m W = r ∧ takeB cols m = true then wayI W rows (takeI cols m) else 0) k
theorem way_bef (W : Nat) (r : Int) (rows cols : List Int) : wayI W (r :: rows) cols = befI W r rows cols (pn W) := rfl
def rnkI (W : Nat) : List Int → List Int → List Int → Int
  | r :: rows, cols, x :: xs => befI W r rows cols x.toNat + rnkI W rows (takeI cols x) xs
  | _, _, _ => 0
theorem sum_upto (f : Nat → Int) {k : Nat} : ∀ {K : Nat}, k < K → (∀ m, k < m → m < K → f m = 0) → sumI f K = sumI f k + f k
  | 0, h, _ => absurd h (Nat.not_lt_zero k)
  | K + 1, h, h0 => by
    by_cases e : k = K
    · subst e; rfl
    · have := sum_upto f (k := k) (K := K) (by omega) fun m a b => h0 m a (by omega)
      have h2 := h0 K (by omega) (by omega)
      simp only [sumI]; omega
theorem rnk_num (W : Nat) : ∀ (rows cols xs : List Int), cols.length = W → (∀ j, j < W → 0 ≤ cols.getD j 0) → xs ∈ imgs W rows.length → fitP rows cols W rows.length xs = true →
    rnkI W rows cols xs = nOf (fun ys => fitP rows cols W rows.length ys && ltB ys xs) W rows.length
  | [], cols, xs, hl, h0, hx, hp => by
    have : xs = [] := List.length_eq_zero_iff.1 (imgs_mem.1 hx).1
    subst this
    have : (fun ys : List Int => fitP [] cols W ([] : List Int).length ys && ltB ys []) = fun _ => false := by
      funext ys; cases ys <;> simp [ltB]
    rw [this, nOf_false]
    rfl
  | r :: rows, cols, [], hl, h0, hx, hp => by have := (imgs_mem.1 hx).1; simp at this
  | r :: rows, cols, x :: xs, hl, h0, hx, hp => by
    rw [List.length_cons] at hx hp ⊢
    have hx' := imgs_mem.1 hx
    have hx0 := hx'.2 0 (by omega)
    rw [List.getD_cons_zero] at hx0
    have hpn := pn_int W
    have hxs : xs ∈ imgs W rows.length := imgs_mem.2 ⟨by simpa using hx'.1, fun i hi => by have := hx'.2 (i + 1) (by omega); simpa using this⟩
    rw [fit_cons hl, Bool.and_eq_true, decide_eq_true_eq] at hp
    obtain ⟨⟨hr, ht⟩, hp⟩ := hp
    have hnn : ∀ j, j < W → 0 ≤ (takeI cols x).getD j 0 := fun j hj => by
      have hb : ∀ j, j < cols.length → bitI x j ≤ cols.getD j 0 := of_decide_eq_true ht
      rw [took_get _ (by omega)]
      have := hb j (by omega)
      omega
    have ih := rnk_num W rows (takeI cols x) xs (by rw [took_len, hl]) hnn hxs hp
    obtain ⟨k, rfl⟩ := Int.eq_ofNat_of_zero_le hx0.1
    rw [nOf_succ, sum_upto (k := k) _ (by omega)]
    · show befI W r rows cols ((k : Int)).toNat + rnkI W rows (takeI cols (k : Int)) xs = _
      rw [Int.toNat_natCast, ih]
      unfold befI
      congr 1
      · refine sum_ext fun m hm => ?_
        have hlt : (m : Int) < (k : Int) := by omega
        by_cases h : cntI (m : Nat) W = r ∧ takeB cols (m : Nat) = true
        · rw [if_pos h, way_num W rows (takeI cols (m : Nat)) (by rw [took_len, hl])]
          · refine nOf_ext fun ys _ => ?_
            rw [fit_cons hl, decide_eq_true h]
            simp [ltB, hlt]
          · intro j hj
            have hb : ∀ j, j < cols.length → bitI (m : Nat) j ≤ cols.getD j 0 := of_decide_eq_true h.2
            rw [took_get _ (by omega)]
            have := hb j (by omega)
            omega
        · rw [if_neg h]
          refine Eq.symm ((nOf_ext fun ys _ => ?_).trans (nOf_false W rows.length))
          rw [fit_cons hl, decide_eq_false h]; rfl
      · refine nOf_ext fun ys _ => ?_
        rw [fit_cons hl, lt_cons, decide_eq_true ⟨hr, ht⟩]; rfl
    · intro m h1 h2
      refine (nOf_ext fun ys _ => ?_).trans (nOf_false W rows.length)
      have a : ¬ (m : Int) < (k : Int) := by omega
      have b : ¬ (m : Int) = (k : Int) := by omega
      have : ltB ((m : Int) :: ys) ((k : Int) :: xs) = false := by simp [ltB, a]; omega
      rw [this, Bool.and_false]
theorem rnk_rec {rows cols xs : List Int} (hs : sumsB rows cols = true) (hx : xs ∈ allS rows cols) : rnkI cols.length rows cols xs = rnkS rows cols xs := by
  obtain ⟨_, _, _, h4⟩ := sumsB_parts hs
  obtain ⟨a, b⟩ := alls_mem.1 hx
  exact rnk_num _ rows cols xs rfl (fun j hj => (h4 j hj).1) a b
theorem bef_nn {W : Nat} (r : Int) (rows cols : List Int) (h : ∀ m : Nat, takeB cols (m : Nat) = true → 0 ≤ wayI W rows (takeI cols (m : Nat))) : ∀ k, 0 ≤ befI W r rows cols k
  | 0 => Int.le_refl _
  | k + 1 => by
    have := bef_nn r rows cols h k
    have e : befI W r rows cols (k + 1) = befI W r rows cols k + if cntI (k : Nat) W = r ∧ takeB cols (k : Nat) = true then wayI W rows (takeI cols (k : Nat)) else 0 := rfl
    rw [e]
    split
    · rename_i h1; have := h k h1.2; omega
    · omega
end Go.Proofs.Ytnfkafaolelkbaa

