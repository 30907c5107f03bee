/-
  Plain facts on ranks: images chosen row by row, ranks summed up row by row, rows counted by lists of choices.
-/
import Derived.Test.YtnfkafaolelkbaaBa
import Derived.Test.YtnfkafaolelkbaaJa
namespace Go.Proofs.Ytnfkafaolelkbaa
set_option maxRecDepth 100000

/-- What is chosen row by row. -/
def NthR (W : Nat) : List Int → List Int → Int → List Int → Prop
  | [], cols, n, xs => xs = [] ∧ 0 ≤ n ∧ n < wayI W [] cols
  | r :: rows, cols, n, xs => ∃ (x : Nat) (ys : List Int), xs = (x : Int) :: ys ∧ x < pn W ∧ cntI (x : Nat) W = r ∧ takeB cols (x : Nat) = true ∧ NthR W rows (takeI cols (x : Nat)) (n - befI W r rows cols x) ys
theorem taken_ge {cols : List Int} {m : Int} (h : takeB cols m = true) : ∀ j, j < cols.length → 0 ≤ (takeI cols m).getD j 0 := fun j hj => by
  have hb : ∀ j, j < cols.length → bitI m j ≤ cols.getD j 0 := of_decide_eq_true h
  rw [took_get _ hj]
  have := hb j hj
  omega
theorem nthr_ok (W : Nat) : ∀ (rows cols : List Int) (n : Int) (xs : List Int), cols.length = W → (∀ j, j < W → 0 ≤ cols.getD j 0) → NthR W rows cols n xs → xs ∈ imgs W rows.length ∧ fitP rows cols W rows.length xs = true ∧ rnkI W rows cols xs = n
  | [], cols, n, xs, hl, h0, ⟨hx, h1, h2⟩ => by
    subst hx
    have e := way_num W [] cols hl h0
    rw [e, List.length_nil, show nOf (fitP [] cols W 0) W 0 = bI (fitP [] cols W 0 []) + 0 from rfl] at h2
    refine ⟨by simp [imgs], ?_, ?_⟩
    · cases hh : fitP [] cols W 0 [] with
      | true => rfl
      | false => rw [hh] at h2; simp [bI] at h2; omega
    · have : n = 0 := by have := bI_01 (fitP [] cols W 0 []); omega
      subst this; rfl
  | r :: rows, cols, n, xs, hl, h0, ⟨x, ys, hx, h1, h2, h3, h4⟩ => by
    subst hx
    have ih := nthr_ok W rows (takeI cols (x : Nat)) _ ys (by rw [took_len, hl]) (fun j hj => taken_ge h3 j (by omega)) h4
    have hp := pn_int W
    refine ⟨?_, ?_, ?_⟩
    · have a := imgs_mem.1 ih.1
      refine imgs_mem.2 ⟨by rw [List.length_cons, List.length_cons, a.1], fun i hi => ?_⟩
      cases i with
      | zero => rw [List.getD_cons_zero]; omega
      | succ i => rw [List.getD_cons_succ]; exact a.2 i (by simpa using hi)
    · rw [List.length_cons, fit_cons hl, decide_eq_true ⟨h2, h3⟩, ih.2.1]; rfl
    · show befI W r rows cols ((x : Int)).toNat + rnkI W rows (takeI cols (x : Int)) ys = n
      rw [Int.toNat_natCast, ih.2.2]; omega
theorem nthr_nth {rows cols xs : List Int} {k : Nat} (hs : sumsB rows cols = true) (h : NthR cols.length rows cols k xs) : (k : Int) < cntS rows cols ∧ xs = nthS rows cols k := by
  obtain ⟨_, _, _, h4⟩ := sumsB_parts hs
  obtain ⟨a, b, c⟩ := nthr_ok cols.length rows cols k xs rfl (fun j hj => (h4 j hj).1) h
  have hm : xs ∈ allS rows cols := alls_mem.2 ⟨a, b⟩
  rw [rnk_rec hs hm] at c
  obtain ⟨l, e1, e2, e3⟩ := rnk_nth hm
  obtain rfl : l = k := by omega
  exact ⟨e2, e3.symm⟩
def subsV (xs k : List Int) : List Int := xs.foldl subV k
theorem subs_snoc (xs : List Int) (x : Int) (k : List Int) : subsV (xs ++ [x]) k = subV (subsV xs k) x := by
  simp [subsV, List.foldl_append]
def oneL (xs : List Int) : List (List Int) := xs.map fun x => [x]
theorem ckr_one (C : List (List Int)) : ∀ (xs k : List Int), ckr (oneL xs ++ C) k = ckr C (subsV xs k)
  | [], _ => rfl
  | x :: xs, k => by
    show sumL (fun m => ckr (oneL xs ++ C) (subV k m)) [x] = _
    simp only [sumL]
    rw [ckr_one C xs]
    show ckr C (subsV xs (subV k x)) + 0 = ckr C (subsV (x :: xs) k)
    rw [Int.add_zero]; rfl
/-- Of the rows with a number of cells those below one. -/
theorem with_pre (W : Nat) (r : Int) : ∀ (k d : Nat), ∃ T, withL W r (k + d) = withL W r k ++ T
  | k, 0 => ⟨[], by simp⟩
  | k, d + 1 => by
    obtain ⟨T, h⟩ := with_pre W r k d
    refine ⟨T ++ if cntI ((k + d : Nat) : Int) W = r then [((k + d : Nat) : Int)] else [], ?_⟩
    rw [← List.append_assoc, ← h, ← Nat.add_assoc]; rfl
theorem with_at {W : Nat} {r : Int} {x K : Nat} (hx : x < K) (hr : cntI (x : Nat) W = r) : ∃ T, withL W r K = withL W r x ++ (x : Int) :: T := by
  obtain ⟨T, h⟩ := with_pre W r (x + 1) (K - (x + 1))
  refine ⟨T, ?_⟩
  rw [show K = x + 1 + (K - (x + 1)) by omega, h, withL, if_pos hr, List.append_assoc]; rfl
theorem with_cnt {W : Nat} {r x : Int} : ∀ {K : Nat}, x ∈ withL W r K → cntI x W = r
  | 0, h => by cases h
  | K + 1, h => by
    rw [withL, List.mem_append] at h
    rcases h with h | h
    · exact with_cnt h
    · split at h
      · rename_i h2; rw [List.mem_singleton] at h; subst h; exact h2
      · cases h
theorem with_sorted (W : Nat) (r : Int) : ∀ K, (withL W r K).Pairwise (· < ·)
  | 0 => List.Pairwise.nil
  | K + 1 => by
    rw [withL]
    refine List.pairwise_append.2 ⟨with_sorted W r K, by split <;> simp, fun x hx y hy => ?_⟩
    have := with_mem hx
    split at hy
    · rw [List.mem_singleton] at hy; subst hy; omega
    · cases hy
theorem with_take {W : Nat} {r : Int} {x K : Nat} (hx : x < K) (hr : cntI (x : Nat) W = r) : (withL W r K).take (withL W r x).length = withL W r x ∧ (withL W r x).length < (withL W r K).length ∧ (withL W r K).getD (withL W r x).length 0 = (x : Int) := by
  obtain ⟨T, h⟩ := with_at hx hr
  rw [h]
  refine ⟨by simp, by simp, ?_⟩
  simp [List.getD_eq_getElem?_getD]
/-- The elements ahead of an index are those below its element. -/
theorem with_index {W : Nat} {r : Int} {K t : Nat} (ht : t < (withL W r K).length) : ∃ x : Nat, (withL W r K).getD t 0 = (x : Int) ∧ x < K ∧ cntI (x : Nat) W = r ∧ (withL W r x).length = t := by
  have hm : (withL W r K).getD t 0 ∈ withL W r K := by
    rw [List.getD_eq_getElem?_getD, List.getElem?_eq_getElem ht, Option.getD_some]; exact List.getElem_mem ht
  have h1 := with_mem hm
  have h2 := with_cnt hm
  obtain ⟨x, hx⟩ := Int.eq_ofNat_of_zero_le h1.1
  rw [hx] at h1 h2
  have hk : x < K := by omega
  refine ⟨x, hx, hk, h2, ?_⟩
  obtain ⟨a, b, c⟩ := with_take hk h2
  have hs := List.pairwise_iff_getElem.1 (with_sorted W r K)
  rcases Nat.lt_trichotomy (withL W r x).length t with h | h | h
  · have := hs _ _ b ht h
    rw [List.getD_eq_getElem?_getD, List.getElem?_eq_getElem b, Option.getD_some] at c
    rw [List.getD_eq_getElem?_getD, List.getElem?_eq_getElem ht, Option.getD_some] at hx
    omega
  · exact h
  · have := hs _ _ ht b h
    rw [List.getD_eq_getElem?_getD, List.getElem?_eq_getElem b, Option.getD_some] at c
    rw [List.getD_eq_getElem?_getD, List.getElem?_eq_getElem ht, Option.getD_some] at hx
    omega
/-- What is counted with a part of the first list. -/
theorem ckr_bef {W : Nat} (hW : W ≤ 6) (r : Int) {rows cols : List Int} (hl : cols.length = W) (h0 : ∀ j, j < W → 0 ≤ cols.getD j 0) : ∀ {k : Nat}, k ≤ pn W → ckr (withL W r k :: choC W rows) (padL cols) = befI W r rows cols k
  | k, hk => by
    show sumL (fun m => ckr (choC W rows) (subV (padL cols) m)) (withL W r k) = _
    rw [with_sum]
    unfold befI
    refine sum_ext fun m hm => ?_
    have h := step_ckr hW hl h0 (way_ckr hW rows) (show m < pn W by omega)
    by_cases hr : cntI (m : Nat) W = r
    · rw [if_pos hr, ← h]
      by_cases ht : takeB cols (m : Nat) = true
      · rw [if_pos ht, if_pos ⟨hr, ht⟩]
      · rw [if_neg ht, if_neg fun h => ht h.2]
    · rw [if_neg hr, if_neg fun h => hr h.1]
theorem sub_pad {W : Nat} (hW : W ≤ 6) {cols : List Int} (hl : cols.length = W) {m : Nat} (hm : m < pn W) : subV (padL cols) (m : Nat) = padL (takeI cols (m : Nat)) :=
  six_ext (sub_len ..) (pad_len _) fun j hj => by
    rw [sub_get _ _ hj, pad_get _ hj, pad_get _ hj]
    by_cases hc : j < cols.length
    · rw [took_get _ hc]
    · rw [high_bit W (by omega) m hm j hj (by omega)]
      simp [List.getD_eq_getElem?_getD, List.getElem?_eq_none (by omega : cols.length ≤ j), List.getElem?_eq_none (show (takeI cols (m : Nat)).length ≤ j by rw [took_len]; omega)]
/-- Rows are chosen one by one: what has been chosen, what is left. -/
structure Pre (W : Nat) (rows cols : List Int) (n : Int) (i : Nat) (ys cols' : List Int) (n' : Int) : Prop where
  hl : cols'.length = W
  hb : ∀ j, j < W → 0 ≤ cols'.getD j 0 ∧ cols'.getD j 0 ≤ 6
  h0 : 0 ≤ n'
  h1 : n' < wayI W (rows.drop i) cols'
  hy : ys.length = i
  hv : subsV ys (padL cols) = padL cols'
  hk : ∀ zs, NthR W (rows.drop i) cols' n' zs → NthR W rows cols n (ys ++ zs)
theorem pre_start {W : Nat} {rows cols : List Int} {n : Int} (hl : cols.length = W) (hb : ∀ j, j < W → 0 ≤ cols.getD j 0 ∧ cols.getD j 0 ≤ 6) (h0 : 0 ≤ n) (h1 : n < wayI W rows cols) : Pre W rows cols n 0 [] cols n :=
  ⟨hl, hb, h0, h1, rfl, rfl, fun _ h => h⟩
theorem drop_hd {rows : List Int} {i : Nat} (hi : i < rows.length) : rows.drop i = rows.getD i 0 :: rows.drop (i + 1) := by
  rw [List.drop_eq_getElem_cons hi, List.getD_eq_getElem?_getD, List.getElem?_eq_getElem hi, Option.getD_some]
theorem bef_succ (W : Nat) (r : Int) (rows cols : List Int) (k : Nat) : befI W r rows cols (k + 1) = befI W r rows cols k + if cntI (k : Nat) W = r ∧ takeB cols (k : Nat) = true then wayI W rows (takeI cols (k : Nat)) else 0 := rfl
theorem Pre.step {W : Nat} {rows cols ys cols' : List Int} {n n' : Int} {i x : Nat} (h : Pre W rows cols n i ys cols' n') (hW : W ≤ 6) (hi : i < rows.length) (hx : x < pn W)
    (h1 : befI W (rows.getD i 0) (rows.drop (i + 1)) cols' x ≤ n') (h2 : n' < befI W (rows.getD i 0) (rows.drop (i + 1)) cols' (x + 1)) :
    cntI (x : Nat) W = rows.getD i 0 ∧ takeB cols' (x : Nat) = true ∧ Pre W rows cols n (i + 1) (ys ++ [(x : Int)]) (takeI cols' (x : Nat)) (n' - befI W (rows.getD i 0) (rows.drop (i + 1)) cols' x) := by
  rw [bef_succ] at h2
  by_cases hc : cntI (x : Nat) W = rows.getD i 0 ∧ takeB cols' (x : Nat) = true
  · rw [if_pos hc] at h2
    have hlen := h.hl
    refine ⟨hc.1, hc.2, by rw [took_len, h.hl], fun j hj => ?_, by omega, by omega, by rw [List.length_append, h.hy]; rfl, by rw [subs_snoc, h.hv, sub_pad hW h.hl hx], fun zs hz => ?_⟩
    · have a := taken_ge hc.2 j (by omega)
      have b := bit_01 (x : Nat) j
      have c := h.hb j hj
      refine ⟨a, ?_⟩
      rw [took_get _ (by omega)]; omega
    · rw [List.append_assoc]
      refine h.hk _ ?_
      rw [drop_hd hi]
      exact ⟨x, zs, rfl, hx, hc.1, hc.2, hz⟩
  · rw [if_neg hc] at h2; omega
theorem Pre.done {W : Nat} {rows cols ys cols' : List Int} {n n' : Int} (h : Pre W rows cols n rows.length ys cols' n') : NthR W rows cols n ys := by
  have h1 := h.h1
  have h2 := h.hk []
  rw [List.drop_length] at h1 h2
  rw [List.append_nil] at h2
  exact h2 ⟨rfl, h.h0, h1⟩
/-- Ranks are summed up row by row. -/
structure RkSt (W : Nat) (rows cols xs : List Int) (i : Nat) (cols' : List Int) (acc : Int) : Prop where
  hl : cols'.length = W
  hb : ∀ j, j < W → 0 ≤ cols'.getD j 0 ∧ cols'.getD j 0 ≤ 6
  hm : xs.drop i ∈ imgs W (rows.drop i).length
  hf : fitP (rows.drop i) cols' W (rows.drop i).length (xs.drop i) = true
  hv : subsV (xs.take i) (padL cols) = padL cols'
  h0 : 0 ≤ acc
  hr : rnkI W rows cols xs = acc + rnkI W (rows.drop i) cols' (xs.drop i)
theorem rk_start {W : Nat} {rows cols xs : List Int} (hl : cols.length = W) (hb : ∀ j, j < W → 0 ≤ cols.getD j 0 ∧ cols.getD j 0 ≤ 6) (hm : xs ∈ imgs W rows.length) (hf : fitP rows cols W rows.length xs = true) : RkSt W rows cols xs 0 cols 0 :=
  ⟨hl, hb, by simpa using hm, by simpa using hf, rfl, Int.le_refl _, by simp⟩
theorem RkSt.step {W : Nat} {rows cols xs cols' : List Int} {acc : Int} {i : Nat} (h : RkSt W rows cols xs i cols' acc) (hW : W ≤ 6) (hi : i < rows.length) (hxl : xs.length = rows.length) :
    ∃ x : Nat, xs.getD i 0 = (x : Int) ∧ x < pn W ∧ cntI (x : Nat) W = rows.getD i 0 ∧ takeB cols' (x : Nat) = true ∧ 0 ≤ befI W (rows.getD i 0) (rows.drop (i + 1)) cols' x ∧
      acc + befI W (rows.getD i 0) (rows.drop (i + 1)) cols' x ≤ rnkI W rows cols xs ∧
      RkSt W rows cols xs (i + 1) (takeI cols' (x : Nat)) (acc + befI W (rows.getD i 0) (rows.drop (i + 1)) cols' x) := by
  have hm := h.hm
  have hf := h.hf
  have hr := h.hr
  have hlen := h.hl
  rw [drop_hd hi] at hm hf hr
  rw [drop_hd (rows := xs) (by omega)] at hm hf hr
  obtain ⟨hm1, hm2⟩ := imgs_mem.1 hm
  have hx0 := hm2 0 (by simp)
  rw [List.getD_cons_zero] at hx0
  have hp := pn_int W
  obtain ⟨x, hx⟩ := Int.eq_ofNat_of_zero_le hx0.1
  rw [hx] at hm hf hr hx0
  rw [List.length_cons] at hf
  rw [fit_cons h.hl, Bool.and_eq_true, decide_eq_true_eq] at hf
  obtain ⟨⟨hc, ht⟩, hf⟩ := hf
  have hxp : x < pn W := by omega
  have hnn : ∀ j, j < W → 0 ≤ (takeI cols' (x : Nat)).getD j 0 ∧ (takeI cols' (x : Nat)).getD j 0 ≤ 6 := fun j hj => by
    have a := taken_ge ht j (by omega)
    have b := bit_01 (x : Nat) j
    have c := h.hb j hj
    refine ⟨a, ?_⟩
    rw [took_get _ (by omega)]; omega
  have hm' : xs.drop (i + 1) ∈ imgs W (rows.drop (i + 1)).length := imgs_mem.2 ⟨by simpa using hm1, fun q hq => by have := hm2 (q + 1) (by rw [List.length_cons]; omega); simpa using this⟩
  have hbn : 0 ≤ befI W (rows.getD i 0) (rows.drop (i + 1)) cols' x := bef_nn _ _ _ (fun m hmt => by
    rw [way_num W _ _ (by rw [took_len, h.hl]) fun j hj => taken_ge hmt j (by omega)]
    exact nOf_nn ..) x
  have hrest := rnk_num W (rows.drop (i + 1)) (takeI cols' (x : Nat)) (xs.drop (i + 1)) (by rw [took_len, h.hl]) (fun j hj => (hnn j hj).1) hm' hf
  have hge : 0 ≤ rnkI W (rows.drop (i + 1)) (takeI cols' (x : Nat)) (xs.drop (i + 1)) := by rw [hrest]; exact nOf_nn ..
  have he : rnkI W (rows.getD i 0 :: rows.drop (i + 1)) cols' ((x : Int) :: xs.drop (i + 1)) = befI W (rows.getD i 0) (rows.drop (i + 1)) cols' x + rnkI W (rows.drop (i + 1)) (takeI cols' (x : Nat)) (xs.drop (i + 1)) := by
    show befI W _ _ cols' ((x : Int)).toNat + _ = _
    rw [Int.toNat_natCast]
  rw [he] at hr
  refine ⟨x, hx, hxp, hc, ht, hbn, by omega, by rw [took_len, h.hl], hnn, hm', hf, ?_, by have := h.h0; omega, by omega⟩
  rw [List.take_add_one, List.getElem?_eq_getElem (show i < xs.length by omega), Option.toList_some, subs_snoc, h.hv, ← sub_pad hW h.hl hxp]
  congr 1
  rw [← hx, List.getD_eq_getElem?_getD, List.getElem?_eq_getElem (show i < xs.length by omega), Option.getD_some]
theorem RkSt.done {W : Nat} {rows cols xs cols' : List Int} {acc : Int} (h : RkSt W rows cols xs rows.length cols' acc) : rnkI W rows cols xs = acc := by
  have := h.hr
  rw [List.drop_length] at this
  rw [this]
  have e : rnkI W [] cols' (xs.drop rows.length) = 0 := by cases xs.drop rows.length <;> rfl
  omega
theorem rnk_bd {rows cols xs : List Int} (hx : xs ∈ allS rows cols) : 0 ≤ rnkS rows cols xs ∧ rnkS rows cols xs < cntS rows cols := by
  obtain ⟨k, a, b, _⟩ := rnk_nth hx
  omega
end Go.Proofs.Ytnfkafaolelkbaa

