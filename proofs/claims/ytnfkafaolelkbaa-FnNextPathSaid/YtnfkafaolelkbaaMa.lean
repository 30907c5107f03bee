/-
  Plain facts on places that are visited in the order in which they are reached along arrows: the tree of sources, what is reached, and that the order of the visits ends.
  Plain facts on arrows between rows and columns: what is no cell of a part does not change while sums stay, and a flip along arrows keeps the sums and changes at most two cells of a line.
  Plain facts on variable cells of an image that is given by its rows: a cell is variable just if an image with the same sums is different in it; what a flip leaves.
-/
import Derived.Test.YtnfkafaolelkbaaA
import Derived.Test.YtnfkafaolelkbaaVa

namespace Go.Proofs.Ytnfkafaolelkbaa
set_option maxRecDepth 100000

/-- One place after the other is asked: it is reached from f unless it was reached before. -/
def seeK (arr : Nat → Nat → Bool) (f : Nat) : Nat → List Int × List Int → List Int × List Int
  | 0, s => s
  | k + 1, s => if arr f k = true ∧ (seeK arr f k s).1.getD k 0 < 0 then ((seeK arr f k s).1.set k (f : Int), (seeK arr f k s).2 ++ [(k : Int)]) else seeK arr f k s
/-- One place after the other is visited. -/
def bfsK (arr : Nat → Nat → Bool) (m : Nat) (s : List Int × List Int) : Nat → List Int × List Int
  | 0 => s
  | a + 1 => if a < (bfsK arr m s a).2.length then seeK arr ((bfsK arr m s a).2.getD a 0).toNat m (bfsK arr m s a) else bfsK arr m s a
def bfs0 (m s : Nat) : List Int × List Int := ((List.replicate m (-1)).set s (s : Int), [(s : Int)])
/-- For each place the one from which it is reached. -/
def bfsP (arr : Nat → Nat → Bool) (m s : Nat) : List Int := (bfsK arr m (bfs0 m s) m).1
theorem set_get {P : List Int} {k q m : Nat} {v : Int} (hl : P.length = m) (hk : k < m) : (P.set k v).getD q 0 = if q = k then v else P.getD q 0 := by
  rw [List.getD_eq_getElem?_getD, List.getD_eq_getElem?_getD, List.getElem?_set]
  by_cases e : k = q
  · subst e; rw [if_pos rfl, if_pos rfl, if_pos (by omega)]; rfl
  · rw [if_neg e, if_neg (fun h => e h.symm)]
/-- What holds while places are visited: a of them are done. -/
structure Seen (arr : Nat → Nat → Bool) (m s a : Nat) (P Q : List Int) : Prop where
  len : P.length = m
  lt : s < m
  qm : ∀ x ∈ Q, ∃ k : Nat, x = k ∧ k < m ∧ 0 ≤ P.getD k 0
  nd : Q.Nodup
  pq : ∀ k, k < m → 0 ≤ P.getD k 0 → (k : Int) ∈ Q
  bd : ∀ k, k < m → -1 ≤ P.getD k 0 ∧ P.getD k 0 < m
  root : P.getD s 0 = s
  up : ∀ k, k < m → k ≠ s → 0 ≤ P.getD k 0 → ∃ f : Nat, P.getD k 0 = f ∧ f < m ∧ 0 ≤ P.getD f 0 ∧ arr f k = true ∧ Q.idxOf (f : Int) < Q.idxOf (k : Int)
  cl : ∀ i, i < a → i < Q.length → ∀ k, k < m → arr (Q.getD i 0).toNat k = true → 0 ≤ P.getD k 0
theorem Seen.at {arr : Nat → Nat → Bool} {m s a : Nat} {P Q : List Int} (h : Seen arr m s a P Q) {i : Nat} (hi : i < Q.length) : ∃ k : Nat, Q.getD i 0 = k ∧ k < m ∧ 0 ≤ P.getD k 0 :=
  h.qm _ (by rw [List.getD_eq_getElem?_getD, List.getElem?_eq_getElem hi]; exact List.getElem_mem hi)
theorem nodup_len {m : Nat} : ∀ {Q : List Int}, Q.Nodup → (∀ x ∈ Q, ∃ k : Nat, x = k ∧ k < m) → Q.length ≤ m := by
  induction m with
  | zero =>
    intro Q _ h
    cases Q with
    | nil => simp
    | cons x Q => obtain ⟨k, _, hk⟩ := h x (by simp); omega
  | succ m ih =>
    intro Q hn h
    have h1 := ih (Q := Q.erase (m : Int)) (hn.erase _) fun x hx => by
      have hx' := List.mem_of_mem_erase hx
      obtain ⟨k, rfl, hk⟩ := h x hx'
      refine ⟨k, rfl, ?_⟩
      have : (k : Int) ≠ (m : Int) := fun e => by
        rw [e] at hx
        exact (hn.mem_erase_iff.1 hx).1 rfl
      omega
    have h2 : Q.length ≤ (Q.erase (m : Int)).length + 1 := by rw [List.length_erase]; split <;> omega
    omega
theorem Seen.short {arr : Nat → Nat → Bool} {m s a : Nat} {P Q : List Int} (h : Seen arr m s a P Q) : Q.length ≤ m :=
  nodup_len h.nd fun x hx => by obtain ⟨k, e, hk, _⟩ := h.qm x hx; exact ⟨k, e, hk⟩
theorem seen_0 (arr : Nat → Nat → Bool) {m s : Nat} (hs : s < m) : Seen arr m s 0 (bfs0 m s).1 (bfs0 m s).2 := by
  have hl : (List.replicate m (-1 : Int)).length = m := List.length_replicate
  have g : ∀ k, k < m → (bfs0 m s).1.getD k 0 = if k = s then (s : Int) else -1 := fun k hk => by
    unfold bfs0
    rw [set_get hl hs]
    by_cases e : k = s
    · rw [if_pos e, if_pos e]
    · rw [if_neg e, if_neg e, List.getD_eq_getElem?_getD, List.getElem?_replicate, if_pos hk]; rfl
  refine ⟨by unfold bfs0; rw [List.length_set]; exact hl, hs, fun x hx => ⟨s, by simpa [bfs0] using hx, hs, by rw [g s hs, if_pos rfl]; omega⟩, by simp [bfs0], fun k hk h => ?_, fun k hk => ?_, by rw [g s hs, if_pos rfl], fun k hk hne h => ?_, fun i hi => absurd hi (Nat.not_lt_zero _)⟩
  · rw [g k hk] at h
    by_cases e : k = s
    · subst e; simp [bfs0]
    · rw [if_neg e] at h; omega
  · rw [g k hk]; by_cases e : k = s
    · rw [if_pos e]; omega
    · rw [if_neg e]; omega
  · rw [g k hk, if_neg hne] at h; omega
/-- While the place f, the next one to be visited, looks at places: k of them. -/
structure Look (arr : Nat → Nat → Bool) (m s a f k : Nat) (P Q : List Int) : Prop extends Seen arr m s a P Q where
  mem : (f : Int) ∈ Q
  qa : a < Q.length
  qf : Q.getD a 0 = f
  half : ∀ q, q < k → arr f q = true → 0 ≤ P.getD q 0
theorem look_step {arr : Nat → Nat → Bool} {m s a f k : Nat} {P Q : List Int} (h : Look arr m s a f k P Q) (hk : k < m) :
    (arr f k = true ∧ P.getD k 0 < 0 → Look arr m s a f (k + 1) (P.set k (f : Int)) (Q ++ [(k : Int)])) ∧ (¬ (arr f k = true ∧ P.getD k 0 < 0) → Look arr m s a f (k + 1) P Q) := by
  constructor
  · rintro ⟨ha, hp⟩
    have g : ∀ q, (P.set k (f : Int)).getD q 0 = if q = k then (f : Int) else P.getD q 0 := fun q => set_get h.len hk
    have pos : ∀ q, 0 ≤ P.getD q 0 → 0 ≤ (P.set k (f : Int)).getD q 0 := fun q hq => by
      rw [g]; by_cases e : q = k
      · rw [if_pos e]; omega
      · rw [if_neg e]; exact hq
    have nk : (k : Int) ∉ Q := fun hm => by obtain ⟨q, e, _, hq⟩ := h.qm _ hm; have : k = q := by omega
                                            subst this; omega
    have ks : k ≠ s := fun e => by have := h.root; subst e; omega
    obtain ⟨f', ef, hfm, hfp⟩ := h.qm _ h.mem
    have : f' = f := by omega
    subst this
    have idx : ∀ q : Nat, (q : Int) ∈ Q → (Q ++ [(k : Int)]).idxOf (q : Int) = Q.idxOf (q : Int) := fun q hq => by rw [List.idxOf_append, if_pos hq]
    have idk : (Q ++ [(k : Int)]).idxOf (k : Int) = Q.length := by rw [List.idxOf_append, if_neg nk]; simp
    refine ⟨⟨by rw [List.length_set]; exact h.len, h.lt, fun x hx => ?_, ?_, fun q hq h0 => ?_, fun q hq => ?_, by rw [g, if_neg (fun e => ks e.symm)]; exact h.root, fun q hq hne h0 => ?_, fun i hi hi2 q hq haq => ?_⟩, by rw [List.mem_append]; exact .inl h.mem, by rw [List.length_append]; have := h.qa; omega, ?_, fun q hq haq => ?_⟩
    · rw [List.mem_append, List.mem_singleton] at hx
      rcases hx with hx | rfl
      · obtain ⟨q, e, hq, h0⟩ := h.qm x hx
        exact ⟨q, e, hq, pos q h0⟩
      · exact ⟨k, rfl, hk, by rw [g, if_pos rfl]; omega⟩
    · rw [List.nodup_append]
      exact ⟨h.nd, by simp, fun x hx y hy => by rw [List.mem_singleton] at hy; subst hy; exact fun e => nk (e ▸ hx)⟩
    · rw [List.mem_append, List.mem_singleton]
      by_cases e : q = k
      · exact .inr (by rw [e])
      · rw [g, if_neg e] at h0; exact .inl (h.pq q hq h0)
    · rw [g]; by_cases e : q = k
      · rw [if_pos e]; omega
      · rw [if_neg e]; exact h.bd q hq
    · by_cases e : q = k
      · subst e
        exact ⟨f', by rw [g, if_pos rfl], hfm, pos _ hfp, ha, by rw [idk, idx f' h.mem]; exact List.idxOf_lt_length_of_mem h.mem⟩
      · rw [g, if_neg e] at h0
        obtain ⟨p, ep, hpm, hp0, hpa, hlt⟩ := h.up q hq hne h0
        exact ⟨p, by rw [g, if_neg e]; exact ep, hpm, pos _ hp0, hpa, by rw [idx p (h.pq p hpm hp0), idx q (h.pq q hq h0)]; exact hlt⟩
    · have hl : i < Q.length := by have := h.qa; omega
      refine pos q (h.cl i hi hl q hq ?_)
      rw [List.getD_eq_getElem?_getD, List.getElem?_append_left hl, ← List.getD_eq_getElem?_getD] at haq
      exact haq
    · have := h.qf
      rw [List.getD_eq_getElem?_getD, List.getElem?_append_left h.qa, ← List.getD_eq_getElem?_getD]; exact this
    · by_cases e : q = k
      · rw [g, if_pos e]; omega
      · exact pos q (h.half q (by omega) haq)
  · intro hno
    refine { h with half := fun q hq haq => ?_ }
    by_cases e : q = k
    · subst e
      exact Int.not_lt.1 fun hlt => hno ⟨haq, hlt⟩
    · exact h.half q (by omega) haq
theorem look_k {arr : Nat → Nat → Bool} {m s a f : Nat} {S : List Int × List Int} (h : Look arr m s a f 0 S.1 S.2) : ∀ k, k ≤ m → Look arr m s a f k (seeK arr f k S).1 (seeK arr f k S).2
  | 0, _ => h
  | k + 1, hk => by
    have ih := look_step (look_k h k (by omega)) (show k < m by omega)
    unfold seeK
    by_cases e : arr f k = true ∧ (seeK arr f k S).1.getD k 0 < 0
    · rw [if_pos e]; exact ih.1 e
    · rw [if_neg e]; exact ih.2 e
theorem seen_look {arr : Nat → Nat → Bool} {m s a f : Nat} {P Q : List Int} (h : Seen arr m s a P Q) (ha : a < Q.length) (hf : Q.getD a 0 = f) : Look arr m s a f 0 P Q :=
  ⟨h, by rw [← hf, List.getD_eq_getElem?_getD, List.getElem?_eq_getElem ha]; exact List.getElem_mem ha, ha, hf, fun _ hq => absurd hq (Nat.not_lt_zero _)⟩
theorem look_seen {arr : Nat → Nat → Bool} {m s a f : Nat} {P Q : List Int} (h : Look arr m s a f m P Q) : Seen arr m s (a + 1) P Q :=
  have hc : ∀ i, i < a + 1 → i < Q.length → ∀ k, k < m → arr (Q.getD i 0).toNat k = true → 0 ≤ P.getD k 0 := by
    intro i hi hi2 q hq haq
    by_cases e : i = a
    · subst e
      rw [h.qf] at haq
      exact h.half q hq haq
    · exact h.cl i (by omega) hi2 q hq haq
  { h.toSeen with cl := hc }
theorem seen_k (arr : Nat → Nat → Bool) {m s : Nat} (hs : s < m) : ∀ a, Seen arr m s a (bfsK arr m (bfs0 m s) a).1 (bfsK arr m (bfs0 m s) a).2
  | 0 => seen_0 arr hs
  | a + 1 => by
    have ih := seen_k arr hs a
    unfold bfsK
    by_cases e : a < (bfsK arr m (bfs0 m s) a).2.length
    · rw [if_pos e]
      obtain ⟨f, hf, _⟩ := ih.at e
      rw [hf, Int.toNat_natCast]
      exact look_seen (look_k (seen_look ih e hf) m (Nat.le_refl _))
    · rw [if_neg e]
      exact { ih with cl := fun i hi hi2 => ih.cl i (by omega) hi2 }
/-- When no place is left, nothing changes. -/
theorem bfs_end (arr : Nat → Nat → Bool) (m s : Nat) {a : Nat} (ha : (bfsK arr m (bfs0 m s) a).2.length ≤ a) : ∀ d, bfsK arr m (bfs0 m s) (a + d) = bfsK arr m (bfs0 m s) a
  | 0 => rfl
  | d + 1 => by
    rw [show a + (d + 1) = (a + d) + 1 from rfl, bfsK, bfs_end arr m s ha d, if_neg (by omega)]
theorem bfs_done (arr : Nat → Nat → Bool) {m s : Nat} {a : Nat} (ham : a ≤ m) (ha : (bfsK arr m (bfs0 m s) a).2.length ≤ a) : bfsP arr m s = (bfsK arr m (bfs0 m s) a).1 := by
  unfold bfsP
  rw [show m = a + (m - a) by omega, ← bfs_end arr (a + (m - a)) s (a := a) (by rw [← show m = a + (m - a) by omega]; exact ha) (m - a)]
/-- The tree of the places that are reached. -/
structure Tree (arr : Nat → Nat → Bool) (m s : Nat) (P : List Int) : Prop where
  len : P.length = m
  lt : s < m
  bd : ∀ k, k < m → -1 ≤ P.getD k 0 ∧ P.getD k 0 < m
  root : P.getD s 0 = s
  up : ∃ rk : Nat → Nat, (∀ k, rk k ≤ m) ∧ ∀ k, k < m → k ≠ s → 0 ≤ P.getD k 0 → ∃ f : Nat, P.getD k 0 = f ∧ f < m ∧ 0 ≤ P.getD f 0 ∧ arr f k = true ∧ rk f < rk k
  cl : ∀ k q, k < m → q < m → 0 ≤ P.getD k 0 → arr k q = true → 0 ≤ P.getD q 0
theorem bfs_tree (arr : Nat → Nat → Bool) {m s : Nat} (hs : s < m) : Tree arr m s (bfsP arr m s) := by
  have h := seen_k arr hs m
  refine ⟨h.len, hs, h.bd, h.root, ⟨fun k => (bfsK arr m (bfs0 m s) m).2.idxOf (k : Int), fun k => Nat.le_trans List.idxOf_le_length h.short, h.up⟩, fun k q hk hq h0 ha => ?_⟩
  have hm := h.pq k hk h0
  obtain ⟨i, hi, e⟩ := List.getElem_of_mem hm
  refine h.cl i (by have := h.short; omega) hi q hq ?_
  rw [List.getD_eq_getElem?_getD, List.getElem?_eq_getElem hi, e]
  exact ha
/-- A place is reached along arrows. -/
def Rch (arr : Nat → Nat → Bool) (m s k : Nat) : Prop := ∀ S : Nat → Prop, S s → (∀ p q, p < m → q < m → S p → arr p q = true → S q) → S k
theorem Rch.refl (arr : Nat → Nat → Bool) (m s : Nat) : Rch arr m s s := fun _ h _ => h
theorem Rch.snoc {arr : Nat → Nat → Bool} {m s k q : Nat} (h : Rch arr m s k) (hk : k < m) (hq : q < m) (ha : arr k q = true) : Rch arr m s q := fun S h0 hs => hs k q hk hq (h S h0 hs) ha
theorem Rch.trans {arr : Nat → Nat → Bool} {m s k q : Nat} (h : Rch arr m s k) (h' : Rch arr m k q) : Rch arr m s q := fun S h0 hs => h' S (h S h0 hs) hs
theorem Rch.rev {arr arr' : Nat → Nat → Bool} {m s k : Nat} (he : ∀ p q, p < m → q < m → arr p q = arr' q p) (h : Rch arr m s k) : Rch arr' m k s :=
  h (fun q => Rch arr' m q s) (Rch.refl _ _ _) fun p q hp hq hr ha => ((Rch.refl arr' m q).snoc hq hp (by rw [← he p q hp hq]; exact ha)).trans hr
theorem Rch.ext {arr arr' : Nat → Nat → Bool} {m s k : Nat} (he : ∀ p q, p < m → q < m → arr p q = true → arr' p q = true) (h : Rch arr m s k) : Rch arr' m s k :=
  fun S h0 hs => h S h0 fun p q hp hq hS ha => hs p q hp hq hS (he p q hp hq ha)
theorem Tree.rch {arr : Nat → Nat → Bool} {m s : Nat} {P : List Int} (h : Tree arr m s P) {k : Nat} (hk : k < m) : 0 ≤ P.getD k 0 ↔ Rch arr m s k := by
  constructor
  · obtain ⟨rk, _, hu⟩ := h.up
    have main : ∀ n k, rk k ≤ n → k < m → 0 ≤ P.getD k 0 → Rch arr m s k := by
      intro n
      induction n with
      | zero =>
        intro k hn hk h0
        by_cases e : k = s
        · subst e; exact Rch.refl _ _ _
        · obtain ⟨f, _, _, _, _, hlt⟩ := hu k hk e h0; omega
      | succ n ih =>
        intro k hn hk h0
        by_cases e : k = s
        · subst e; exact Rch.refl _ _ _
        · obtain ⟨f, _, hf, hf0, ha, hlt⟩ := hu k hk e h0
          exact (ih f (by omega) hf hf0).snoc hf hk ha
    exact main _ k (Nat.le_refl _) hk
  · intro hr
    exact (hr (fun q => q < m ∧ 0 ≤ P.getD q 0) ⟨h.lt, by rw [h.root]; omega⟩ fun p q hp hq hS ha => ⟨hq, h.cl p q hp hq hS.2 ha⟩).2
end Go.Proofs.Ytnfkafaolelkbaa

namespace Go.Proofs.Ytnfkafaolelkbaa
set_option maxRecDepth 100000

/-- Whether an arrow leads from one place to another one: rows come first, n of them, columns behind them. -/
def arC (c : Nat → Nat → Bool) (n p q : Nat) : Bool := if p < n then decide (n ≤ q) && c p (q - n) else decide (q < n) && !c q (p - n)
theorem arc_set {c : Nat → Nat → Bool} {n i : Nat} (hi : i < n) (j : Nat) : arC c n i (n + j) = c i j := by
  unfold arC; rw [if_pos hi, show n + j - n = j by omega, decide_eq_true (show n ≤ n + j by omega), Bool.true_and]
theorem arc_not {c : Nat → Nat → Bool} {n i : Nat} (hi : i < n) (j : Nat) : arC c n (n + j) i = !c i j := by
  unfold arC; rw [if_neg (by omega), show n + j - n = j by omega, decide_eq_true hi, Bool.true_and]
/-- The two kinds of arrows. -/
theorem arc_ways {c : Nat → Nat → Bool} {n W p q : Nat} (hp : p < n + W) (hq : q < n + W) (h : arC c n p q = true) :
    (∃ l, p < n ∧ q = n + l ∧ l < W ∧ c p l = true) ∨ (∃ l, q < n ∧ p = n + l ∧ l < W ∧ c q l = false) := by
  unfold arC at h
  by_cases e : p < n
  · rw [if_pos e, Bool.and_eq_true] at h
    have h1 := of_decide_eq_true h.1
    exact .inl ⟨q - n, e, by omega, by omega, h.2⟩
  · rw [if_neg e, Bool.and_eq_true] at h
    have h1 := of_decide_eq_true h.1
    exact .inr ⟨p - n, h1, by omega, by omega, by simpa using h.2⟩
theorem bI_diff {a b : Bool} (h : bI a - bI b = 0) : a = b := by revert h; cases a <;> cases b <;> simp [bI]
/-- Where arrows lead out of no part of the places, images with the same sums have the same cells. -/
theorem part_fix {c d : Nat → Nat → Bool} {n W : Nat} (h : SameC c d W n) (S : Nat → Bool) (hS : ∀ p q, p < n + W → q < n + W → S p = true → arC c n p q = true → S q = true) {i j : Nat} (hi : i < n) (hj : j < W) (hne : S i ≠ S (n + j)) : c i j = d i j := by
  let dl : Nat → Nat → Int := fun i j => bI (c i j) - bI (d i j)
  let t : Nat → Nat → Int := fun i j => (if S (n + j) = true then dl i j else 0) - (if S i = true then dl i j else 0)
  have r0 : ∀ i, i < n → sumI (fun j => dl i j) W = 0 := fun i hi => by
    show sumI (fun j => bI (c i j) - bI (d i j)) W = 0
    rw [sum_take, h.rows i hi]; omega
  have c0 : ∀ j, j < W → sumI (fun i => dl i j) n = 0 := fun j hj => by
    show sumI (fun i => bI (c i j) - bI (d i j)) n = 0
    rw [sum_take, h.cols j hj]; omega
  have s1 : sumI (fun i => sumI (fun j => if S (n + j) = true then dl i j else 0) W) n = 0 := by
    rw [sum_swap]
    refine (sum_ext (g := fun _ => 0) fun j hj => ?_).trans (sum_zero W)
    by_cases e : S (n + j) = true
    · exact (sum_ext fun i _ => by rw [if_pos e]).trans (c0 j hj)
    · exact (sum_ext (g := fun _ => 0) fun i _ => by rw [if_neg e]).trans (sum_zero n)
  have s2 : sumI (fun i => sumI (fun j => if S i = true then dl i j else 0) W) n = 0 := by
    refine (sum_ext (g := fun _ => 0) fun i hi => ?_).trans (sum_zero n)
    by_cases e : S i = true
    · exact (sum_ext fun j _ => by rw [if_pos e]).trans (r0 i hi)
    · exact (sum_ext (g := fun _ => 0) fun j _ => by rw [if_neg e]).trans (sum_zero W)
  have s3 : sumI (fun i => sumI (fun j => t i j) W) n = 0 := by
    have : sumI (fun i => sumI (fun j => t i j) W) n = sumI (fun i => sumI (fun j => if S (n + j) = true then dl i j else 0) W) n - sumI (fun i => sumI (fun j => if S i = true then dl i j else 0) W) n := by
      rw [← sum_take]; exact sum_ext fun i _ => by rw [← sum_take]
    rw [this, s1, s2]; rfl
  have nn : ∀ i, i < n → ∀ j, j < W → 0 ≤ t i j := fun i hi j hj => by
    show 0 ≤ (if S (n + j) = true then dl i j else 0) - (if S i = true then dl i j else 0)
    have a1 := hS i (n + j) (by omega) (by omega)
    have a2 := hS (n + j) i (by omega) (by omega)
    rw [arc_set hi] at a1
    rw [arc_not hi] at a2
    show 0 ≤ (if S (n + j) = true then bI (c i j) - bI (d i j) else 0) - (if S i = true then bI (c i j) - bI (d i j) else 0)
    cases hsi : S i <;> cases hsj : S (n + j) <;> cases hc : c i j <;> cases hd : d i j <;> simp_all [bI]
  have t0 : t i j ≤ 0 := by
    have h1 := sum_at (f := fun j => t i j) (nn i hi) hj
    have h2 := sum_at (f := fun i => sumI (fun j => t i j) W) (fun i hi => sum_nn (nn i hi)) hi
    omega
  have t1 := nn i hi j hj
  have t2 : (if S (n + j) = true then bI (c i j) - bI (d i j) else 0) - (if S i = true then bI (c i j) - bI (d i j) else 0) = 0 := Int.le_antisymm t0 t1
  apply bI_diff
  cases hsi : S i <;> cases hsj : S (n + j)
  · rw [hsi, hsj] at hne; exact absurd rfl hne
  · rw [hsi, hsj] at t2; simp at t2; omega
  · rw [hsi, hsj] at t2; simp at t2; omega
  · rw [hsi, hsj] at hne; exact absurd rfl hne
/-- A cell that is different has both ends in one part. -/
theorem tree_fix {c d : Nat → Nat → Bool} {n W s : Nat} {P : List Int} (h : SameC c d W n) (T : Tree (arC c n) (n + W) s P) {i j : Nat} (hi : i < n) (hj : j < W) (hne : c i j ≠ d i j) : (0 ≤ P.getD i 0) ↔ (0 ≤ P.getD (n + j) 0) := by
  have := part_fix h (fun q => decide (0 ≤ P.getD q 0)) (fun p q hp hq h0 ha => decide_eq_true (T.cl p q hp hq (of_decide_eq_true h0) ha)) hi hj
  by_cases e1 : 0 ≤ P.getD i 0 <;> by_cases e2 : 0 ≤ P.getD (n + j) 0
  · exact ⟨fun _ => e2, fun _ => e1⟩
  · exact absurd (this (by rw [decide_eq_true e1, decide_eq_false e2]; simp)) hne
  · exact absurd (this (by rw [decide_eq_false e1, decide_eq_true e2]; simp)) hne
  · exact ⟨fun x => absurd x e1, fun x => absurd x e2⟩
/-- One cell is changed. -/
def togC (x : Nat → Nat → Bool) (i j a b : Nat) : Bool := if a = i ∧ b = j then !x a b else x a b
theorem tog_row (x : Nat → Nat → Bool) {W i j : Nat} (hj : j < W) : sumI (fun b => bI (togC x i j i b)) W = sumI (fun b => bI (x i b)) W + (1 - 2 * bI (x i j)) :=
  sum_one hj (by show bI (togC x i j i j) = _; unfold togC; rw [if_pos ⟨rfl, rfl⟩, bI_not]; omega) fun b _ hb => by show bI (togC x i j i b) = _; unfold togC; rw [if_neg (by omega)]
theorem tog_rest (x : Nat → Nat → Bool) {i j k l : Nat} (h : ¬ (k = i ∧ l = j)) : togC x i j k l = x k l := if_neg h
theorem tog_here (x : Nat → Nat → Bool) (i j : Nat) : togC x i j i j = !x i j := if_pos ⟨rfl, rfl⟩
theorem tog_col (x : Nat → Nat → Bool) {n i j : Nat} (hi : i < n) : sumI (fun a => bI (togC x i j a j)) n = sumI (fun a => bI (x a j)) n + (1 - 2 * bI (x i j)) :=
  sum_one hi (by show bI (togC x i j i j) = _; rw [tog_here, bI_not]; omega) fun b _ hb => by show bI (togC x i j b j) = _; rw [tog_rest _ (by omega)]
theorem tog_cnt_row (x c : Nat → Nat → Bool) {W i j : Nat} (hj : j < W) (he : x i j = c i j) : sumI (fun b => bI (togC x i j i b != c i b)) W = sumI (fun b => bI (x i b != c i b)) W + 1 :=
  sum_one hj (by show bI (togC x i j i j != c i j) = bI (x i j != c i j) + 1; rw [tog_here, he]; cases c i j <;> rfl) fun b _ hb => by show bI (togC x i j i b != c i b) = _; rw [tog_rest _ (by omega)]
theorem tog_cnt_col (x c : Nat → Nat → Bool) {n i j : Nat} (hi : i < n) (he : x i j = c i j) : sumI (fun a => bI (togC x i j a j != c a j)) n = sumI (fun a => bI (x a j != c a j)) n + 1 :=
  sum_one hi (by show bI (togC x i j i j != c i j) = bI (x i j != c i j) + 1; rw [tog_here, he]; cases c i j <;> rfl) fun b _ hb => by show bI (togC x i j b j != c b j) = _; rw [tog_rest _ (by omega)]
/-- One if two places are the same. -/
def eqI (p q : Nat) : Int := if p = q then 1 else 0
theorem eqI_self (p : Nat) : eqI p p = 1 := if_pos rfl
theorem eqI_ne {p q : Nat} (h : p ≠ q) : eqI p q = 0 := if_neg h
/-- What holds while a flip goes back from the place g to the place s: it is at p. -/
structure FlipC (c : Nat → Nat → Bool) (n W i j s : Nat) (rk : Nat → Nat) (x : Nat → Nat → Bool) (p : Nat) : Prop where
  cell : x i j = !c i j
  rest : ∀ k l, k < n → l < W → ¬ (k = i ∧ l = j) → x k l ≠ c k l → rk p < rk k ∨ rk p < rk (n + l)
  rows : ∀ k, k < n → sumI (fun l => bI (x k l)) W = sumI (fun l => bI (c k l)) W + eqI k s - eqI k p
  cols : ∀ l, l < W → sumI (fun k => bI (x k l)) n = sumI (fun k => bI (c k l)) n - eqI (n + l) s + eqI (n + l) p
  cntr : ∀ k, k < n → sumI (fun l => bI (x k l != c k l)) W ≤ eqI k s + eqI k p + (if rk p < rk k then 2 else 0)
  cntc : ∀ l, l < W → sumI (fun k => bI (x k l != c k l)) n ≤ eqI (n + l) s + eqI (n + l) p + (if rk p < rk (n + l) then 2 else 0)
theorem two_mono {a b c : Nat} (h : b < a) : (if a < c then (2 : Int) else 0) ≤ (if b < c then 2 else 0) := by
  by_cases e : a < c
  · rw [if_pos e, if_pos (by omega)]; omega
  · rw [if_neg e]; split <;> omega
theorem eqI_01 (p q : Nat) : 0 ≤ eqI p q ∧ eqI p q ≤ 1 := by unfold eqI; split <;> omega
/-- The cell of an arrow is changed. -/
theorem flip_step {c x : Nat → Nat → Bool} {n W i j s g p f : Nat} {rk : Nat → Nat} (h : FlipC c n W i j s rk x p) (hi : i < n) (hj : j < W)
    (hsg : s = i ∧ g = n + j ∨ s = n + j ∧ g = i) (hgs : arC c n g s = true) (hp : p < n + W) (hf : f < n + W) (ha : arC c n f p = true) (hlt : rk f < rk p) (hps : p ≠ s) :
    FlipC c n W i j s rk (togC x (min f p) (max f p - n)) f := by
  rcases arc_ways hf hp ha with ⟨l, hfn, rfl, hl, hc⟩ | ⟨l, hpn, rfl, hl, hc⟩
  · rw [show min f (n + l) = f by omega, show max f (n + l) - n = l by omega]
    have hne : ¬ (f = i ∧ l = j) := by
      rintro ⟨rfl, rfl⟩
      rcases hsg with ⟨rfl, rfl⟩ | ⟨rfl, rfl⟩
      · rw [arc_not hi, hc] at hgs; simp at hgs
      · exact hps rfl
    have hx : x f l = c f l := Classical.byContradiction fun e => by
      rcases h.rest f l hfn hl hne e with h1 | h1 <;> omega
    have hb : bI (x f l) = 1 := by rw [hx, hc]; rfl
    refine ⟨by rw [tog_rest _ (by omega)]; exact h.cell, fun k m hk hm hkm hd => ?_, fun k hk => ?_, fun m hm => ?_, fun k hk => ?_, fun m hm => ?_⟩
    · by_cases e : k = f ∧ m = l
      · obtain ⟨rfl, rfl⟩ := e; exact .inr hlt
      · rw [tog_rest _ e] at hd
        rcases h.rest k m hk hm hkm hd with h1 | h1 <;> omega
    · have h0 := h.rows k hk
      rw [eqI_ne (show k ≠ n + l by omega)] at h0
      by_cases e : k = f
      · subst e; rw [tog_row x hl, h0, hb, eqI_self]; omega
      · rw [eqI_ne e, sum_ext (g := fun l => bI (x k l)) fun b _ => by show bI (togC x f l k b) = _; rw [tog_rest _ (by omega)], h0]
    · have h0 := h.cols m hm
      rw [eqI_ne (show n + m ≠ f by omega)]
      by_cases e : m = l
      · subst e; rw [tog_col x hfn, h0, hb, eqI_self]; omega
      · rw [sum_ext (g := fun k => bI (x k m)) fun b _ => by show bI (togC x f l b m) = _; rw [tog_rest _ (by omega)], h0, eqI_ne (show n + m ≠ n + l by omega)]
    · have h0 := h.cntr k hk
      rw [eqI_ne (show k ≠ n + l by omega)] at h0
      by_cases e : k = f
      · subst e; rw [tog_cnt_row x c hl hx, eqI_self]; rw [if_neg (by omega)] at h0; rw [if_neg (by omega)]; omega
      · rw [eqI_ne e, sum_ext (g := fun l => bI (x k l != c k l)) fun b _ => by show bI (togC x f l k b != c k b) = _; rw [tog_rest _ (by omega)]]
        have := two_mono (c := rk k) hlt; omega
    · have h0 := h.cntc m hm
      rw [eqI_ne (show n + m ≠ f by omega)]
      by_cases e : m = l
      · subst e; rw [tog_cnt_col x c hfn hx, if_pos hlt]; rw [eqI_self, eqI_ne hps, if_neg (by omega)] at h0; have := eqI_01 (n + m) s; omega
      · rw [sum_ext (g := fun k => bI (x k m != c k m)) fun b _ => by show bI (togC x f l b m != c b m) = _; rw [tog_rest _ (by omega)]]
        rw [eqI_ne (show n + m ≠ n + l by omega)] at h0
        have := two_mono (c := rk (n + m)) hlt; omega
  · rw [show min (n + l) p = p by omega, show max (n + l) p - n = l by omega]
    have hne : ¬ (p = i ∧ l = j) := by
      rintro ⟨rfl, rfl⟩
      rcases hsg with ⟨rfl, rfl⟩ | ⟨rfl, rfl⟩
      · exact hps rfl
      · rw [arc_set hi, hc] at hgs; simp at hgs
    have hx : x p l = c p l := Classical.byContradiction fun e => by
      rcases h.rest p l hpn hl hne e with h1 | h1 <;> omega
    have hb : bI (x p l) = 0 := by rw [hx, hc]; rfl
    refine ⟨by rw [tog_rest _ (by omega)]; exact h.cell, fun k m hk hm hkm hd => ?_, fun k hk => ?_, fun m hm => ?_, fun k hk => ?_, fun m hm => ?_⟩
    · by_cases e : k = p ∧ m = l
      · obtain ⟨rfl, rfl⟩ := e; exact .inl hlt
      · rw [tog_rest _ e] at hd
        rcases h.rest k m hk hm hkm hd with h1 | h1 <;> omega
    · have h0 := h.rows k hk
      rw [eqI_ne (show k ≠ n + l by omega)]
      by_cases e : k = p
      · subst e; rw [tog_row x hl, h0, hb, eqI_self]; omega
      · rw [sum_ext (g := fun l => bI (x k l)) fun b _ => by show bI (togC x p l k b) = _; rw [tog_rest _ (by omega)], h0, eqI_ne e]
    · have h0 := h.cols m hm
      rw [eqI_ne (show n + m ≠ p by omega)] at h0
      by_cases e : m = l
      · subst e; rw [tog_col x hpn, h0, hb, eqI_self]; omega
      · rw [eqI_ne (show n + m ≠ n + l by omega), sum_ext (g := fun k => bI (x k m)) fun b _ => by show bI (togC x p l b m) = _; rw [tog_rest _ (by omega)], h0]
    · have h0 := h.cntr k hk
      rw [eqI_ne (show k ≠ n + l by omega)]
      by_cases e : k = p
      · subst e; rw [tog_cnt_row x c hl hx, if_pos hlt]; rw [eqI_self, eqI_ne hps, if_neg (by omega)] at h0; have := eqI_01 k s; omega
      · rw [sum_ext (g := fun l => bI (x k l != c k l)) fun b _ => by show bI (togC x p l k b != c k b) = _; rw [tog_rest _ (by omega)]]
        rw [eqI_ne e] at h0
        have := two_mono (c := rk k) hlt; omega
    · have h0 := h.cntc m hm
      rw [eqI_ne (show n + m ≠ p by omega)] at h0
      by_cases e : m = l
      · subst e; rw [tog_cnt_col x c hpn hx, eqI_self]; rw [if_neg (by omega)] at h0; rw [if_neg (by omega)]; omega
      · rw [eqI_ne (show n + m ≠ n + l by omega), sum_ext (g := fun k => bI (x k m != c k m)) fun b _ => by show bI (togC x p l b m != c b m) = _; rw [tog_rest _ (by omega)]]
        have := two_mono (c := rk (n + m)) hlt; omega
/-- The cell itself is changed first. -/
theorem flip_0 {c : Nat → Nat → Bool} {n W i j s g : Nat} (rk : Nat → Nat) (hi : i < n) (hj : j < W)
    (hsg : s = i ∧ g = n + j ∨ s = n + j ∧ g = i) (hgs : arC c n g s = true) : FlipC c n W i j s rk (togC c i j) g := by
  have hcnt : ∀ k, 0 ≤ (if rk g < rk k then (2 : Int) else 0) := fun k => by split <;> omega
  have zero : ∀ k, sumI (fun l => bI (c k l != c k l)) W = 0 := fun k => by rw [← sum_zero W]; exact sum_ext fun l _ => by cases c k l <;> rfl
  have zeroc : ∀ l, sumI (fun k => bI (c k l != c k l)) n = 0 := fun l => by rw [← sum_zero n]; exact sum_ext fun k _ => by cases c k l <;> rfl
  rcases hsg with ⟨rfl, rfl⟩ | ⟨rfl, rfl⟩
  · have hc : c s j = false := by rw [arc_not hi] at hgs; simpa using hgs
    refine ⟨tog_here _ _ _, fun k l _ _ hkl hd => absurd (tog_rest c hkl) hd, fun k hk => ?_, fun l hl => ?_, fun k hk => ?_, fun l hl => ?_⟩
    · rw [eqI_ne (show k ≠ n + j by omega)]
      by_cases e : k = s
      · subst e; rw [tog_row c hj, hc, eqI_self]; simp [bI]
      · rw [eqI_ne e, sum_ext (g := fun l => bI (c k l)) fun b _ => by show bI (togC c s j k b) = _; rw [tog_rest _ (by omega)]]; omega
    · rw [eqI_ne (show n + l ≠ s by omega)]
      by_cases e : l = j
      · subst e; rw [tog_col c hi, hc, eqI_self]; simp [bI]
      · rw [eqI_ne (show n + l ≠ n + j by omega), sum_ext (g := fun k => bI (c k l)) fun b _ => by show bI (togC c s j b l) = _; rw [tog_rest _ (by omega)]]; omega
    · have := hcnt k; have e1 := eqI_01 k (n + j); have e2 := eqI_01 k s
      by_cases e : k = s
      · subst e; rw [tog_cnt_row c c hj rfl, zero, eqI_self]; omega
      · rw [sum_ext (g := fun l => bI (c k l != c k l)) fun b _ => by show bI (togC c s j k b != c k b) = _; rw [tog_rest _ (by omega)], zero]; omega
    · have := hcnt (n + l); have e1 := eqI_01 (n + l) (n + j); have e2 := eqI_01 (n + l) s
      by_cases e : l = j
      · subst e; rw [tog_cnt_col c c hi rfl, zeroc, eqI_self (n + l)]; omega
      · rw [sum_ext (g := fun k => bI (c k l != c k l)) fun b _ => by show bI (togC c s j b l != c b l) = _; rw [tog_rest _ (by omega)], zeroc]; omega
  · have hc : c g j = true := by rw [arc_set hi] at hgs; exact hgs
    refine ⟨tog_here _ _ _, fun k l _ _ hkl hd => absurd (tog_rest c hkl) hd, fun k hk => ?_, fun l hl => ?_, fun k hk => ?_, fun l hl => ?_⟩
    · rw [eqI_ne (show k ≠ n + j by omega)]
      by_cases e : k = g
      · subst e; rw [tog_row c hj, hc, eqI_self]; simp [bI]; omega
      · rw [eqI_ne e, sum_ext (g := fun l => bI (c k l)) fun b _ => by show bI (togC c g j k b) = _; rw [tog_rest _ (by omega)]]; omega
    · rw [eqI_ne (show n + l ≠ g by omega)]
      by_cases e : l = j
      · subst e; rw [tog_col c hi, hc, eqI_self]; simp [bI]; omega
      · rw [eqI_ne (show n + l ≠ n + j by omega), sum_ext (g := fun k => bI (c k l)) fun b _ => by show bI (togC c g j b l) = _; rw [tog_rest _ (by omega)]]; omega
    · have := hcnt k; have e1 := eqI_01 k (n + j); have e2 := eqI_01 k g
      by_cases e : k = g
      · subst e; rw [tog_cnt_row c c hj rfl, zero, eqI_self]; omega
      · rw [sum_ext (g := fun l => bI (c k l != c k l)) fun b _ => by show bI (togC c g j k b != c k b) = _; rw [tog_rest _ (by omega)], zero]; omega
    · have := hcnt (n + l); have e1 := eqI_01 (n + l) (n + j); have e2 := eqI_01 (n + l) g
      by_cases e : l = j
      · subst e; rw [tog_cnt_col c c hi rfl, zeroc, eqI_self (n + l)]; omega
      · rw [sum_ext (g := fun k => bI (c k l != c k l)) fun b _ => by show bI (togC c g j b l != c b l) = _; rw [tog_rest _ (by omega)], zeroc]; omega
/-- Back at the start: the sums are the same, and no line has more than two cells that are different. -/
theorem flip_end {c x : Nat → Nat → Bool} {n W i j s : Nat} {rk : Nat → Nat} (h : FlipC c n W i j s rk x s) :
    SameC c x W n ∧ farI x c W n ≤ 2 * n ∧ farI x c W n ≤ 2 * W := by
  have le2 : ∀ k, eqI k s + eqI k s + (if rk s < rk k then 2 else 0) ≤ 2 := fun k => by
    by_cases e : k = s
    · subst e; rw [eqI_self, if_neg (Nat.lt_irrefl _)]; omega
    · rw [eqI_ne e]; split <;> omega
  refine ⟨⟨fun k hk => by rw [h.rows k hk]; omega, fun l hl => by rw [h.cols l hl]; omega⟩, ?_, ?_⟩
  · rw [show (2 : Int) * n = n * 2 by omega, ← sum_same]
    exact sum_le fun k hk => Int.le_trans (h.cntr k hk) (le2 k)
  · rw [show (2 : Int) * W = W * 2 by omega, ← sum_same, ← far_turn]
    exact sum_le fun l hl => Int.le_trans (h.cntc l hl) (le2 (n + l))
end Go.Proofs.Ytnfkafaolelkbaa

namespace Go.Proofs.Ytnfkafaolelkbaa
set_option maxRecDepth 100000

theorem SameC.sume {W n : Nat} {xs ys : List Int} (h : SameC (cellOf xs) (cellOf ys) W n) : SumE xs ys W n := by
  constructor
  · unfold rsL; exact rows_ext fun i hi => by rw [cnt_sum, cnt_sum, sum_ext (g := fun j => bI (cellOf xs i j)) fun j _ => cell_bit xs i j, h.rows i hi]; exact (sum_ext fun j _ => cell_bit ys i j).symm
  · unfold csL; exact rows_ext fun j hj => by
      have e1 := cs_cells xs W n j hj
      have e2 := cs_cells ys W n j hj
      rw [cs_get hj] at e1 e2
      rw [e1, e2]; exact h.cols j hj
/-- The place from which arrows must lead on: the column of a cell that is set, the row of another one; and the other end. -/
def fromP (xs : List Int) (n i j : Nat) : Nat := if cellOf xs i j = true then n + j else i
def toP (xs : List Int) (n i j : Nat) : Nat := if cellOf xs i j = true then i else n + j
def parP (xs : List Int) (W n s : Nat) : List Int := bfsP (arC (cellOf xs) n) (n + W) s
/-- A cell is variable. -/
def varB (xs : List Int) (W n i j : Nat) : Bool := decide (0 ≤ (parP xs W n (fromP xs n i j)).getD (toP xs n i j) 0)
/-- One cell is changed. -/
def togL (xs : List Int) (W n i j : Nat) : List Int := cellsL (togC (cellOf xs) i j) W n
def flipF (P : List Int) (W n s : Nat) : Nat → List Int → Nat → List Int
  | 0, xs, _ => xs
  | f + 1, xs, p => if p = s then xs else flipF P W n s f (togL xs W n (min (P.getD p 0).toNat p) (max (P.getD p 0).toNat p - n)) (P.getD p 0).toNat
/-- The rows that a flip leaves. -/
def flipL (xs : List Int) (W n i j : Nat) : List Int := flipF (parP xs W n (fromP xs n i j)) W n (fromP xs n i j) (n + W) (togL xs W n i j) (toP xs n i j)
theorem tog_im {W n : Nat} {xs : List Int} (h : Im W n xs) (i j : Nat) : Im W n (togL xs W n i j) := cells_im _ h.w1 h.w6 h.l1 h.l6
theorem tog_cell {W n : Nat} {xs : List Int} (h : Im W n xs) {i j a b : Nat} (ha : a < n) (hb : b < W) : cellOf (togL xs W n i j) a b = togC (cellOf xs) i j a b := by
  unfold togL
  show decide (_ = (1 : Int)) = _
  rw [cells_bit h.w6 ha hb]
  cases togC (cellOf xs) i j a b <;> rfl
theorem ends_lt {xs : List Int} {W n i j : Nat} (hi : i < n) (hj : j < W) : fromP xs n i j < n + W ∧ toP xs n i j < n + W := by
  unfold fromP toP; by_cases e : cellOf xs i j = true <;> simp only [e, if_true] <;> constructor <;> (try split) <;> omega
theorem ends_set {xs : List Int} {n i j : Nat} (h : cellOf xs i j = true) : fromP xs n i j = n + j ∧ toP xs n i j = i := ⟨if_pos h, if_pos h⟩
theorem ends_not {xs : List Int} {n i j : Nat} (h : cellOf xs i j = false) : fromP xs n i j = i ∧ toP xs n i j = n + j := ⟨if_neg (by rw [h]; simp), if_neg (by rw [h]; simp)⟩
theorem ends_or (xs : List Int) (n i j : Nat) : fromP xs n i j = i ∧ toP xs n i j = n + j ∨ fromP xs n i j = n + j ∧ toP xs n i j = i := by
  cases h : cellOf xs i j with
  | true => exact .inr (ends_set h)
  | false => exact .inl (ends_not h)
/-- The cell's own arrow leads back. -/
theorem ends_arc {xs : List Int} {n i j : Nat} (hi : i < n) : arC (cellOf xs) n (toP xs n i j) (fromP xs n i j) = true := by
  cases h : cellOf xs i j with
  | true => rw [(ends_set h).1, (ends_set h).2, arc_set hi]; exact h
  | false => rw [(ends_not h).1, (ends_not h).2, arc_not hi, h]; rfl
theorem par_tree (xs : List Int) {W n s : Nat} (hs : s < n + W) : Tree (arC (cellOf xs) n) (n + W) s (parP xs W n s) := bfs_tree _ hs
theorem var_iff {xs : List Int} {W n i j : Nat} (hi : i < n) (hj : j < W) : varB xs W n i j = true ↔ Rch (arC (cellOf xs) n) (n + W) (fromP xs n i j) (toP xs n i j) :=
  decide_eq_true_iff.trans ((par_tree xs (ends_lt hi hj).1).rch (ends_lt hi hj).2)
/-- A cell in which an image with the same sums is different is variable. -/
theorem var_of {W n : Nat} {xs ys : List Int} (hs : SumE xs ys W n) {i j : Nat} (hi : i < n) (hj : j < W) (hne : cellOf xs i j ≠ cellOf ys i j) : varB xs W n i j = true := by
  have T := par_tree xs (ends_lt (xs := xs) hi hj).1
  have f := tree_fix hs.cells T hi hj hne
  have r := T.root
  refine decide_eq_true ?_
  rcases ends_or xs n i j with ⟨e1, e2⟩ | ⟨e1, e2⟩
  · rw [e2]; rw [e1] at f r ⊢; exact f.1 (by omega)
  · rw [e2]; rw [e1] at f r ⊢; exact f.2 (by omega)
/-- Both ways: arrows lead from the row to the column and back. -/
theorem var_both {xs : List Int} {W n i j : Nat} (hi : i < n) (hj : j < W) : (decide (0 ≤ (parP xs W n i).getD (n + j) 0) && decide (0 ≤ (parP xs W n (n + j)).getD i 0)) = varB xs W n i j := by
  have T1 := par_tree xs (show i < n + W by omega)
  have T2 := par_tree xs (show n + j < n + W by omega)
  cases h : cellOf xs i j with
  | true =>
    have e : 0 ≤ (parP xs W n i).getD (n + j) 0 := T1.cl i (n + j) (by omega) (by omega) (by rw [T1.root]; omega) (by rw [arc_set hi]; exact h)
    rw [decide_eq_true e, Bool.true_and]
    unfold varB
    rw [(ends_set h).1, (ends_set h).2]
  | false =>
    have e : 0 ≤ (parP xs W n (n + j)).getD i 0 := T2.cl (n + j) i (by omega) (by omega) (by rw [T2.root]; omega) (by rw [arc_not hi, h]; rfl)
    rw [decide_eq_true e, Bool.and_true]
    unfold varB
    rw [(ends_not h).1, (ends_not h).2]
/-- A flip on its way back: it is at p, and f steps are enough. -/
structure FlipAt (xs : List Int) (W n i j : Nat) (rk : Nat → Nat) (f : Nat) (ys : List Int) (p : Nat) : Prop where
  im : Im W n ys
  lt : p < n + W
  pos : 0 ≤ (parP xs W n (fromP xs n i j)).getD p 0
  enough : rk p ≤ f
  fc : FlipC (cellOf xs) n W i j (fromP xs n i j) rk (cellOf ys) p
  eq : flipF (parP xs W n (fromP xs n i j)) W n (fromP xs n i j) f ys p = flipL xs W n i j
theorem FlipC.ext {c x y : Nat → Nat → Bool} {n W i j s p : Nat} {rk : Nat → Nat} (h : FlipC c n W i j s rk x p) (hi : i < n) (hj : j < W) (e : ∀ a b, a < n → b < W → x a b = y a b) : FlipC c n W i j s rk y p :=
  ⟨by rw [← e i j hi hj]; exact h.cell, fun k l hk hl hn hd => h.rest k l hk hl hn (by rw [e k l hk hl]; exact hd),
   fun k hk => by rw [← h.rows k hk]; exact sum_ext fun l hl => by rw [e k l hk hl],
   fun l hl => by rw [← h.cols l hl]; exact sum_ext fun k hk => by rw [e k l hk hl],
   fun k hk => by refine Int.le_trans (Int.le_of_eq ?_) (h.cntr k hk); exact sum_ext fun l hl => by rw [e k l hk hl],
   fun l hl => by refine Int.le_trans (Int.le_of_eq ?_) (h.cntc l hl); exact sum_ext fun k hk => by rw [e k l hk hl]⟩
/-- How places are ranked. -/
def Ranked (xs : List Int) (W n s : Nat) (rk : Nat → Nat) : Prop := (∀ k, rk k ≤ n + W) ∧ ∀ k, k < n + W → k ≠ s → 0 ≤ (parP xs W n s).getD k 0 → ∃ f : Nat, (parP xs W n s).getD k 0 = f ∧ f < n + W ∧ 0 ≤ (parP xs W n s).getD f 0 ∧ arC (cellOf xs) n f k = true ∧ rk f < rk k
theorem flip_at0 {W n : Nat} {xs : List Int} (h : Im W n xs) {i j : Nat} (hi : i < n) (hj : j < W) (hv : varB xs W n i j = true) : ∃ rk, Ranked xs W n (fromP xs n i j) rk ∧ FlipAt xs W n i j rk (n + W) (togL xs W n i j) (toP xs n i j) := by
  obtain ⟨rk, h1, h2⟩ := (par_tree xs (ends_lt (xs := xs) hi hj).1).up
  refine ⟨rk, ⟨h1, h2⟩, tog_im h i j, (ends_lt hi hj).2, of_decide_eq_true hv, h1 _, ?_, rfl⟩
  refine (flip_0 rk hi hj ?_ (ends_arc hi)).ext hi hj fun a b ha hb => (tog_cell h ha hb).symm
  exact ends_or xs n i j
/-- One step back. -/
theorem FlipAt.step {xs ys : List Int} {W n i j f p : Nat} {rk : Nat → Nat} (h : FlipAt xs W n i j rk f ys p) (hr : Ranked xs W n (fromP xs n i j) rk) (hi : i < n) (hj : j < W) (hp : p ≠ fromP xs n i j) :
    ∃ q g k l : Nat, (parP xs W n (fromP xs n i j)).getD p 0 = q ∧ f = g + 1 ∧ rk q < rk p ∧ (q = k ∧ p = n + l ∨ p = k ∧ q = n + l) ∧ k < n ∧ l < W ∧ FlipAt xs W n i j rk g (togL ys W n k l) q := by
  obtain ⟨q, eq, hq, hq0, ha, hlt⟩ := hr.2 p h.lt hp h.pos
  obtain ⟨g, rfl⟩ : ∃ g, f = g + 1 := ⟨f - 1, by have := h.enough; omega⟩
  have hb : ∃ k l, (q = k ∧ p = n + l ∨ p = k ∧ q = n + l) ∧ k < n ∧ l < W ∧ min q p = k ∧ max q p - n = l := by
    rcases arc_ways hq h.lt ha with ⟨l, h1, h2, h3, _⟩ | ⟨l, h1, h2, h3, _⟩
    · exact ⟨q, l, .inl ⟨rfl, h2⟩, h1, h3, by omega, by omega⟩
    · exact ⟨p, l, .inr ⟨rfl, h2⟩, h1, h3, by omega, by omega⟩
  obtain ⟨k, l, hkl, hk, hl, e1, e2⟩ := hb
  refine ⟨q, g, k, l, eq, rfl, hlt, hkl, hk, hl, ?_⟩
  rw [← e1, ← e2]
  refine ⟨tog_im h.im _ _, hq, hq0, by have := h.enough; omega, ?_, ?_⟩
  · refine (flip_step h.fc hi hj (ends_or xs n i j) (ends_arc hi) h.lt hq ha hlt hp).ext hi hj fun a b ha hb => ?_
    rw [tog_cell h.im ha hb]
  · have := h.eq
    rw [flipF, if_neg hp, eq, Int.toNat_natCast] at this
    exact this
theorem FlipAt.done {xs ys : List Int} {W n i j f : Nat} {rk : Nat → Nat} (h : FlipAt xs W n i j rk f ys (fromP xs n i j)) : flipL xs W n i j = ys := by
  rw [← h.eq]
  cases f with
  | zero => rfl
  | succ f => rw [flipF, if_pos rfl]
/-- What a flip leaves. -/
theorem flip_all {W n : Nat} {xs : List Int} (h : Im W n xs) {i j : Nat} (hi : i < n) (hj : j < W) (hv : varB xs W n i j = true) :
    Im W n (flipL xs W n i j) ∧ SumE xs (flipL xs W n i j) W n ∧ cellOf (flipL xs W n i j) i j = !cellOf xs i j ∧ farL xs (flipL xs W n i j) W n ≤ 2 * n ∧ farL xs (flipL xs W n i j) W n ≤ 2 * W := by
  obtain ⟨rk, hr, h0⟩ := flip_at0 h hi hj hv
  have main : ∀ f ys p, FlipAt xs W n i j rk f ys p → ∃ zs, Im W n zs ∧ FlipC (cellOf xs) n W i j (fromP xs n i j) rk (cellOf zs) (fromP xs n i j) ∧ flipL xs W n i j = zs := by
    intro f
    induction f with
    | zero =>
      intro ys p hf
      by_cases e : p = fromP xs n i j
      · subst e; exact ⟨ys, hf.im, hf.fc, hf.done⟩
      · obtain ⟨q, g, _, _, _, e1, _⟩ := hf.step hr hi hj e; omega
    | succ f ih =>
      intro ys p hf
      by_cases e : p = fromP xs n i j
      · subst e; exact ⟨ys, hf.im, hf.fc, hf.done⟩
      · obtain ⟨q, g, _, _, _, e1, _, _, _, _, hn⟩ := hf.step hr hi hj e
        obtain rfl : g = f := by omega
        exact ih _ _ hn
  obtain ⟨zs, hI, hF, e⟩ := main _ _ _ h0
  rw [e]
  have d := flip_end hF
  refine ⟨hI, d.1.sume, hF.cell, ?_, ?_⟩
  · rw [farl_comm]; exact d.2.1
  · rw [farl_comm]; exact d.2.2
/-- A cell is variable just if an image with the same sums is different in it. -/
theorem var_ex {W n : Nat} {xs : List Int} (h : Im W n xs) {i j : Nat} (hi : i < n) (hj : j < W) : varB xs W n i j = true ↔ ∃ ys, Im W n ys ∧ SumE xs ys W n ∧ cellOf ys i j ≠ cellOf xs i j :=
  ⟨fun hv => by have a := flip_all h hi hj hv; exact ⟨_, a.1, a.2.1, by rw [a.2.2.1]; cases cellOf xs i j <;> simp⟩, fun ⟨ys, _, hs, hne⟩ => var_of hs hi hj fun e => hne e.symm⟩
/-- The image of the variable cells. -/
def varL (xs : List Int) (W n : Nat) : List Int := cellsL (varB xs W n) W n
theorem varl_im {W n : Nat} {xs : List Int} (h : Im W n xs) : Im W n (varL xs W n) := cells_im _ h.w1 h.w6 h.l1 h.l6
theorem varl_cell {W n : Nat} {xs : List Int} (h : Im W n xs) {i j : Nat} (hi : i < n) (hj : j < W) : cellOf (varL xs W n) i j = varB xs W n i j := by
  unfold varL
  show decide (_ = (1 : Int)) = _
  rw [cells_bit h.w6 hi hj]
  cases varB xs W n i j <;> rfl
theorem varB_same {W n : Nat} {xs ys : List Int} (h : Im W n xs) (h' : Im W n ys) (hs : SumE xs ys W n) {i j : Nat} (hi : i < n) (hj : j < W) : varB xs W n i j = varB ys W n i j := by
  have one : ∀ {xs ys : List Int}, Im W n xs → Im W n ys → SumE xs ys W n → varB xs W n i j = true → varB ys W n i j = true := by
    intro xs ys h h' hs hv
    obtain ⟨zs, hz, hsz, hne⟩ := (var_ex h hi hj).1 hv
    by_cases e : cellOf ys i j = cellOf xs i j
    · exact (var_ex h' hi hj).2 ⟨zs, hz, hs.symm.trans hsz, by rw [e]; exact hne⟩
    · exact (var_ex h' hi hj).2 ⟨xs, h, hs.symm, fun e2 => e e2.symm⟩
  cases e1 : varB xs W n i j with
  | true => exact (one h h' hs e1).symm
  | false =>
    cases e2 : varB ys W n i j with
    | true => have := one h' h hs.symm e2; rw [e1] at this; cases this
    | false => rfl
theorem varL_same {W n : Nat} {xs ys : List Int} (h : Im W n xs) (h' : Im W n ys) (hs : SumE xs ys W n) : varL xs W n = varL ys W n :=
  im_cell_ext (varl_im h) (varl_im h') fun i j hi hj => by rw [varl_cell h hi hj, varl_cell h' hi hj]; exact varB_same h h' hs hi hj
theorem SumE.turn {W n : Nat} {xs ys : List Int} (h : Im W n xs) (h' : Im W n ys) (hs : SumE xs ys W n) : SumE (turnL xs W n) (turnL ys W n) n W :=
  ⟨by rw [h.turn_rs, h'.turn_rs]; exact hs.2, by rw [h.turn_cs, h'.turn_cs]; exact hs.1⟩
theorem SumE.oth {W n : Nat} {xs ys : List Int} (h : Im W n xs) (h' : Im W n ys) (hs : SumE xs ys W n) : SumE (othL xs W n) (othL ys W n) W n :=
  ⟨by rw [h.oth_rs, h'.oth_rs, hs.1], by rw [h.oth_cs, h'.oth_cs, hs.2]⟩
theorem var_turn {W n : Nat} {xs : List Int} (h : Im W n xs) {i j : Nat} (hi : i < n) (hj : j < W) : varB (turnL xs W n) n W j i = varB xs W n i j := by
  have one : ∀ {W n : Nat} {xs : List Int}, Im W n xs → ∀ {i j : Nat}, i < n → j < W → varB xs W n i j = true → varB (turnL xs W n) n W j i = true := by
    intro W n xs h i j hi hj hv
    obtain ⟨zs, hz, hsz, hne⟩ := (var_ex h hi hj).1 hv
    exact (var_ex h.turn hj hi).2 ⟨_, hz.turn, hsz.turn h hz, by rw [turn_cell hz hi hj, turn_cell h hi hj]; exact hne⟩
  cases e1 : varB xs W n i j with
  | true => exact one h hi hj e1
  | false =>
    cases e2 : varB (turnL xs W n) n W j i with
    | true => have := one h.turn hj hi e2; rw [h.turn_turn, e1] at this; cases this
    | false => rfl
theorem varL_turn {W n : Nat} {xs : List Int} (h : Im W n xs) : varL (turnL xs W n) n W = turnL (varL xs W n) W n :=
  im_cell_ext (varl_im h.turn) (varl_im h).turn fun j i hj hi => by rw [varl_cell h.turn hj hi, turn_cell (varl_im h) hi hj, varl_cell h hi hj, var_turn h hi hj]
theorem var_oth {W n : Nat} {xs : List Int} (h : Im W n xs) {i j : Nat} (hi : i < n) (hj : j < W) : varB (othL xs W n) W n i j = varB xs W n i j := by
  have one : ∀ {xs : List Int}, Im W n xs → varB xs W n i j = true → varB (othL xs W n) W n i j = true := by
    intro xs h hv
    obtain ⟨zs, hz, hsz, hne⟩ := (var_ex h hi hj).1 hv
    exact (var_ex h.oth hi hj).2 ⟨_, hz.oth, hsz.oth h hz, by rw [oth_cell hz hi hj, oth_cell h hi hj]; intro e; exact hne (by simpa using e)⟩
  cases e1 : varB xs W n i j with
  | true => exact one h e1
  | false =>
    cases e2 : varB (othL xs W n) W n i j with
    | true => have := one h.oth e2; rw [h.oth_oth, e1] at this; cases this
    | false => rfl
theorem varL_oth {W n : Nat} {xs : List Int} (h : Im W n xs) : varL (othL xs W n) W n = varL xs W n :=
  im_cell_ext (varl_im h.oth) (varl_im h) fun i j hi hj => by rw [varl_cell h.oth hi hj, varl_cell h hi hj, var_oth h hi hj]
/-- A line has no variable cell that is alone. -/
theorem sum_first {f g : Nat → Bool} {k i : Nat} (hi : i < k) (hne : f i ≠ g i) (hs : sumI (fun j => bI (f j)) k = sumI (fun j => bI (g j)) k) : ∃ l, l < k ∧ l ≠ i ∧ f l ≠ g l := by
  refine Classical.byContradiction fun hno => ?_
  have e : ∀ l, l < k → l ≠ i → bI (f l) = bI (g l) := fun l hl hli => by rw [Classical.byContradiction fun h => hno ⟨l, hl, hli, h⟩]
  have := sum_one (f := fun j => bI (f j)) (g := fun j => bI (g j)) (d := bI (f i) - bI (g i)) hi (by (try dsimp only); omega) e
  exact hne (bI_diff (by omega))
theorem sum_pair {f : Nat → Int} {k i l : Nat} (h : ∀ i, i < k → 0 ≤ f i) (hi : i < k) (hl : l < k) (hil : i ≠ l) : f i + f l ≤ sumI f k := by
  have e := sum_one (f := f) (g := fun j => if j = i then 0 else f j) (k := k) (m := i) (d := f i) hi (by (try dsimp only); rw [if_pos rfl]; omega) fun j _ hj => by (try dsimp only); rw [if_neg hj]
  have := sum_at (f := fun j => if j = i then 0 else f j) (k := k) (i := l) (fun j hj => by (try dsimp only); split; omega; exact h j hj) hl
  (try dsimp only at this)
  rw [if_neg (Ne.symm hil)] at this
  omega
theorem var_rows {W n : Nat} {xs : List Int} (h : Im W n xs) {i : Nat} (hi : i < n) : (rsL (varL xs W n) W n).getD i 0 ≠ 1 := by
  rw [rs_cells _ _ _ _ hi]
  intro e
  obtain ⟨j, hj, hp⟩ := sum_pos (f := fun j => bI (cellOf (varL xs W n) i j)) (k := W) (by rw [e]; omega)
  have hv := bI_pos hp
  rw [varl_cell h hi hj] at hv
  obtain ⟨zs, hz, hsz, hne⟩ := (var_ex h hi hj).1 hv
  obtain ⟨l, hl, hlj, hd⟩ := sum_first (f := cellOf zs i) (g := cellOf xs i) hj hne (hsz.cells.rows i hi).symm
  have hv2 := (var_ex h hi hl).2 ⟨zs, hz, hsz, hd⟩
  have := sum_pair (f := fun j => bI (cellOf (varL xs W n) i j)) (fun j _ => (bI_01 _).1) hj hl (Ne.symm hlj)
  (try dsimp only at this)
  rw [varl_cell h hi hj, varl_cell h hi hl, hv, hv2] at this
  simp only [bI, if_true] at this
  unfold bI at e
  omega
theorem var_cols {W n : Nat} {xs : List Int} (h : Im W n xs) {j : Nat} (hj : j < W) : (csL (varL xs W n) n W).getD j 0 ≠ 1 := by
  have := var_rows h.turn (i := j) hj
  rw [varL_turn h, (varl_im h).turn_rs] at this
  exact this
theorem var_switch {W n : Nat} {xs : List Int} (h : Im W n xs) {s : SwT} (hs : s ∈ swL (cellOf xs) W n) {i j : Nat} (hc : (i = s.1 ∨ i = s.2.1) ∧ (j = s.2.2.1 ∨ j = s.2.2.2)) : varB xs W n i j = true := by
  have a := sw_at hs
  have hi : i < n := by omega
  have hj : j < W := by omega
  refine (var_ex h hi hj).2 ⟨_, fls_im h s, (fls_sum h hs).symm, ?_⟩
  unfold flS
  rw [fl_cell h hi hj, fl_corner hc]
  cases cellOf xs i j <;> simp
/-- There is a variable cell just if there is a switch. -/
theorem var_none {W n : Nat} {xs : List Int} (h : Im W n xs) : manyI W (varL xs W n) n = 0 ↔ swL (cellOf xs) W n = [] := by
  have em : manyI W (varL xs W n) n = sumI (fun i => sumI (fun j => bI (varB xs W n i j)) W) n := by
    rw [many_sum]
    exact sum_ext fun i hi => sum_ext fun j hj => by (try dsimp only); rw [cell_bit, varl_cell h hi hj]
  rw [em]
  constructor
  · intro e
    refine Classical.byContradiction fun hne => ?_
    obtain ⟨s, hs⟩ := List.exists_mem_of_ne_nil _ hne
    have a := sw_at hs
    have hv := var_switch h hs (i := s.1) (j := s.2.2.1) ⟨.inl rfl, .inl rfl⟩
    have p1 := sum_at (f := fun j => bI (varB xs W n s.1 j)) (k := W) (i := s.2.2.1) (fun _ _ => (bI_01 _).1) (by omega)
    have p2 := sum_at (f := fun i => sumI (fun j => bI (varB xs W n i j)) W) (k := n) (i := s.1) (fun _ _ => sum_nn fun _ _ => (bI_01 _).1) (by omega)
    (try dsimp only at p1 p2)
    rw [hv] at p1
    simp only [bI, if_true] at p1
    unfold bI at p2 e
    omega
  · intro e
    refine Classical.byContradiction fun hne => ?_
    have hp : 0 < sumI (fun i => sumI (fun j => bI (varB xs W n i j)) W) n := by
      have := sum_nn (f := fun i => sumI (fun j => bI (varB xs W n i j)) W) (k := n) (fun _ _ => sum_nn fun _ _ => (bI_01 _).1)
      omega
    obtain ⟨i, hi, hp⟩ := sum_pos hp
    obtain ⟨j, hj, hp⟩ := sum_pos hp
    have a := flip_all h hi hj (bI_pos hp)
    have hr := path_run h a.1 a.2.1
    cases hl : pathL W n xs (flipL xs W n i j) with
    | nil =>
      rw [hl] at hr
      have e2 : xs = flipL xs W n i j := by simpa [runL] using hr
      have e3 := a.2.2.1
      rw [← e2] at e3
      cases hx : cellOf xs i j <;> rw [hx] at e3 <;> cases e3
    | cons s L =>
      rw [hl, List.map_cons, runL] at hr
      by_cases ho : okB W xs (castQ s).1 (castQ s).2.1 (castQ s).2.2.1 (castQ s).2.2.2 = true
      · obtain ⟨A, B, C, D, _, _, _, _, a1, a2, a3, a4, hs⟩ := okB_im h ho
        have hm := swl_mem.2 ⟨a1, a2, a3, a4, hs⟩
        rw [e] at hm; cases hm
      · rw [if_neg ho] at hr; cases hr
/-- A variable cell's row and column are neither empty nor full. -/
theorem var_full {W n : Nat} {xs : List Int} (h : Im W n xs) {i j : Nat} (hi : i < n) (hj : j < W) (hv : varB xs W n i j = true) : 0 < (rsL xs W n).getD i 0 ∧ (rsL xs W n).getD i 0 < W := by
  rw [rs_cells _ _ _ _ hi]
  obtain ⟨zs, hz, hsz, hne⟩ := (var_ex h hi hj).1 hv
  obtain ⟨l, hl, hlj, hd⟩ := sum_first (f := cellOf zs i) (g := cellOf xs i) hj hne (hsz.cells.rows i hi).symm
  have es := hsz.cells.rows i hi
  have b1 := sum_bd (f := fun j => bI (cellOf xs i j)) (fun _ => bI_01 _) W
  have b2 := sum_bd (f := fun j => bI (cellOf zs i j)) (fun _ => bI_01 _) W
  have p1 := sum_at (f := fun j => bI (cellOf xs i j)) (k := W) (fun _ _ => (bI_01 _).1) hj
  have p2 := sum_at (f := fun j => bI (cellOf zs i j)) (k := W) (fun _ _ => (bI_01 _).1) hj
  have q1 := sum_at (f := fun j => 1 - bI (cellOf xs i j)) (k := W) (fun _ _ => by (try dsimp only); have := bI_01 (cellOf xs i j); rename_i a _; have := bI_01 (cellOf xs i a); omega) hj
  have q2 := sum_at (f := fun j => 1 - bI (cellOf zs i j)) (k := W) (fun _ _ => by (try dsimp only); rename_i a _; have := bI_01 (cellOf zs i a); omega) hj
  rw [sum_sub] at q1 q2
  (try dsimp only at p1 p2 q1 q2)
  cases e1 : cellOf xs i j <;> cases e2 : cellOf zs i j
  · rw [e1, e2] at hne; exact absurd rfl hne
  · rw [e1] at p1 q1; rw [e2] at p2 q2; simp only [bI] at p1 p2 q1 q2 es b1 b2 ⊢; simp at p1 p2 q1 q2; omega
  · rw [e1] at p1 q1; rw [e2] at p2 q2; simp only [bI] at p1 p2 q1 q2 es b1 b2 ⊢; simp at p1 p2 q1 q2; omega
  · rw [e1, e2] at hne; exact absurd rfl hne
theorem var_fullc {W n : Nat} {xs : List Int} (h : Im W n xs) {i j : Nat} (hi : i < n) (hj : j < W) (hv : varB xs W n i j = true) : 0 < (csL xs n W).getD j 0 ∧ (csL xs n W).getD j 0 < n := by
  have := var_full h.turn hj hi (by rw [var_turn h hi hj]; exact hv)
  rw [h.turn_rs] at this
  exact this
/-- For each place whether it is reached from the row i. -/
def rchB (xs : List Int) (W n i q : Nat) : Bool := decide (0 ≤ (parP xs W n i).getD q 0)
theorem rch_iff {xs : List Int} {W n i q : Nat} (hi : i < n + W) (hq : q < n + W) : rchB xs W n i q = true ↔ Rch (arC (cellOf xs) n) (n + W) i q := decide_eq_true_iff.trans ((par_tree xs hi).rch hq)
theorem rch_self {xs : List Int} {W n i : Nat} (hi : i < n + W) : rchB xs W n i i = true := (rch_iff hi hi).2 (Rch.refl _ _ _)
theorem rch_set {xs : List Int} {W n i k j : Nat} (hi : i < n + W) (hk : k < n) (hj : j < W) (hc : cellOf xs k j = true) (hr : rchB xs W n i k = true) : rchB xs W n i (n + j) = true :=
  (rch_iff hi (by omega)).2 (((rch_iff hi (by omega)).1 hr).snoc (by omega) (by omega) (by rw [arc_set hk]; exact hc))
theorem rch_not {xs : List Int} {W n i k j : Nat} (hi : i < n + W) (hk : k < n) (hj : j < W) (hc : cellOf xs k j = false) (hr : rchB xs W n i (n + j) = true) : rchB xs W n i k = true :=
  (rch_iff hi (by omega)).2 (((rch_iff hi (by omega)).1 hr).snoc (by omega) (by omega) (by rw [arc_not hk, hc]; rfl))
theorem rch_trans {xs : List Int} {W n i k q : Nat} (hi : i < n + W) (hk : k < n + W) (hq : q < n + W) (h1 : rchB xs W n i k = true) (h2 : rchB xs W n k q = true) : rchB xs W n i q = true :=
  (rch_iff hi hq).2 (((rch_iff hi hk).1 h1).trans ((rch_iff hk hq).1 h2))
theorem arc_oth {W n : Nat} {xs : List Int} (h : Im W n xs) {p q : Nat} (hp : p < n + W) (hq : q < n + W) : arC (cellOf (othL xs W n)) n p q = arC (cellOf xs) n q p := by
  by_cases e1 : p < n
  · by_cases e2 : q < n
    · unfold arC; rw [if_pos e1, if_pos e2, decide_eq_false (by omega), decide_eq_false (by omega)]; rfl
    · obtain ⟨l, rfl⟩ : ∃ l, q = n + l := ⟨q - n, by omega⟩
      rw [arc_set e1, arc_not e1, oth_cell h e1 (by omega)]
  · obtain ⟨l, rfl⟩ : ∃ l, p = n + l := ⟨p - n, by omega⟩
    by_cases e2 : q < n
    · rw [arc_set e2, arc_not e2, oth_cell h e2 (by omega), Bool.not_not]
    · unfold arC; rw [if_neg e1, if_neg e2, decide_eq_false e2, decide_eq_false e1]; rfl
theorem rch_oth {W n : Nat} {xs : List Int} (h : Im W n xs) {i k : Nat} (hi : i < n + W) (hk : k < n + W) : rchB (othL xs W n) W n i k = rchB xs W n k i := by
  rw [Bool.eq_iff_iff, rch_iff hi hk, rch_iff hk hi]
  exact ⟨fun hr => hr.rev fun p q hp hq => arc_oth h hp hq, fun hr => hr.rev fun p q hp hq => (arc_oth h hq hp).symm⟩
/-- The row and the column of a variable cell are in one group. -/
theorem var_reach {xs : List Int} {W n i j : Nat} (hi : i < n) (hj : j < W) (hv : varB xs W n i j = true) : rchB xs W n i (n + j) = true := by
  have := var_both (xs := xs) hi hj
  rw [hv, Bool.and_eq_true] at this
  exact this.1
end Go.Proofs.Ytnfkafaolelkbaa
