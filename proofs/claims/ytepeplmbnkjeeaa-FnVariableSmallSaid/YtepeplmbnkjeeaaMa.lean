/-
  Plain facts on places that are visited in the order in which they are reached along arrows: the tree of sources, what is reached, and that the order of the visits ends.
-/
import Derived.Test.YtepeplmbnkjeeaaA
namespace Go.Proofs.Ytepeplmbnkjeeaa
set_option maxRecDepth 100000

/-- One place after the other is asked: it is reached from f unless it was reached before. -/
def seeK (arr : Nat → Nat → Bool) (f : Nat) : Nat → List Int × List Int → List Int × List Int
  | 0, s => s
  | k + 1, s => if arr f k = true ∧ (seeK arr f k s).1.getD k 0 < 0 then ((seeK arr f k s).1.set k (f : Int), (seeK arr f k s).2 ++ [(k : Int)]) else seeK arr f k s
/-- One place after the other is visited. -/
def bfsK (arr : Nat → Nat → Bool) (m : Nat) (s : List Int × List Int) : Nat → List Int × List Int
  | 0 => s
  | a + 1 => if a < (bfsK arr m s a).2.length then seeK arr ((bfsK arr m s a).2.getD a 0).toNat m (bfsK arr m s a) else bfsK arr m s a
def bfs0 (m s : Nat) : List Int × List Int := ((List.replicate m (-1)).set s (s : Int), [(s : Int)])
/-- For each place the one from which it is reached. -/
def bfsP (arr : Nat → Nat → Bool) (m s : Nat) : List Int := (bfsK arr m (bfs0 m s) m).1
theorem set_get {P : List Int} {k q m : Nat} {v : Int} (hl : P.length = m) (hk : k < m) : (P.set k v).getD q 0 = if q = k then v else P.getD q 0 := by
  rw [List.getD_eq_getElem?_getD, List.getD_eq_getElem?_getD, List.getElem?_set]
  by_cases e : k = q
  · subst e; rw [if_pos rfl, if_pos rfl, if_pos (by omega)]; rfl
  · rw [if_neg e, if_neg (fun h => e h.symm)]
/-- What holds while places are visited: a of them are done. -/
structure Seen (arr : Nat → Nat → Bool) (m s a : Nat) (P Q : List Int) : Prop where
  len : P.length = m
  lt : s < m
  qm : ∀ x ∈ Q, ∃ k : Nat, x = k ∧ k < m ∧ 0 ≤ P.getD k 0
  nd : Q.Nodup
  pq : ∀ k, k < m → 0 ≤ P.getD k 0 → (k : Int) ∈ Q
  bd : ∀ k, k < m → -1 ≤ P.getD k 0 ∧ P.getD k 0 < m
  root : P.getD s 0 = s
  up : ∀ k, k < m → k ≠ s → 0 ≤ P.getD k 0 → ∃ f : Nat, P.getD k 0 = f ∧ f < m ∧ 0 ≤ P.getD f 0 ∧ arr f k = true ∧ Q.idxOf (f : Int) < Q.idxOf (k : Int)
  cl : ∀ i, i < a → i < Q.length → ∀ k, k < m → arr (Q.getD i 0).toNat k = true → 0 ≤ P.getD k 0
theorem Seen.at {arr : Nat → Nat → Bool} {m s a : Nat} {P Q : List Int} (h : Seen arr m s a P Q) {i : Nat} (hi : i < Q.length) : ∃ k : Nat, Q.getD i 0 = k ∧ k < m ∧ 0 ≤ P.getD k 0 :=
  h.qm _ (by rw [List.getD_eq_getElem?_getD, List.getElem?_eq_getElem hi]; exact List.getElem_mem hi)
theorem nodup_len {m : Nat} : ∀ {Q : List Int}, Q.Nodup → (∀ x ∈ Q, ∃ k : Nat, x = k ∧ k < m) → Q.length ≤ m := by
  induction m with
  | zero =>
    intro Q _ h
    cases Q with
    | nil => simp
    | cons x Q => obtain ⟨k, _, hk⟩ := h x (by simp); omega
  | succ m ih =>
    intro Q hn h
    have h1 := ih (Q := Q.erase (m : Int)) (hn.erase _) fun x hx => by
      have hx' := List.mem_of_mem_erase hx
      obtain ⟨k, rfl, hk⟩ := h x hx'
      refine ⟨k, rfl, ?_⟩
      have : (k : Int) ≠ (m : Int) := fun e => by
        rw [e] at hx
        exact (hn.mem_erase_iff.1 hx).1 rfl
      omega
    have h2 : Q.length ≤ (Q.erase (m : Int)).length + 1 := by rw [List.length_erase]; split <;> omega
    omega
theorem Seen.short {arr : Nat → Nat → Bool} {m s a : Nat} {P Q : List Int} (h : Seen arr m s a P Q) : Q.length ≤ m :=
  nodup_len h.nd fun x hx => by obtain ⟨k, e, hk, _⟩ := h.qm x hx; exact ⟨k, e, hk⟩
theorem seen_0 (arr : Nat → Nat → Bool) {m s : Nat} (hs : s < m) : Seen arr m s 0 (bfs0 m s).1 (bfs0 m s).2 := by
  have hl : (List.replicate m (-1 : Int)).length = m := List.length_replicate
  have g : ∀ k, k < m → (bfs0 m s).1.getD k 0 = if k = s then (s : Int) else -1 := fun k hk => by
    unfold bfs0
    rw [set_get hl hs]
    by_cases e : k = s
    · rw [if_pos e, if_pos e]
    · rw [if_neg e, if_neg e, List.getD_eq_getElem?_getD, List.getElem?_replicate, if_pos hk]; rfl
  refine ⟨by unfold bfs0; rw [List.length_set]; exact hl, hs, fun x hx => ⟨s, by simpa [bfs0] using hx, hs, by rw [g s hs, if_pos rfl]; omega⟩, by simp [bfs0], fun k hk h => ?_, fun k hk => ?_, by rw [g s hs, if_pos rfl], fun k hk hne h => ?_, fun i hi => absurd hi (Nat.not_lt_zero _)⟩
  · rw [g k hk] at h
    by_cases e : k = s
    · subst e; simp [bfs0]
    · rw [if_neg e] at h; omega
  · rw [g k hk]; by_cases e : k = s
    · rw [if_pos e]; omega
    · rw [if_neg e]; omega
  · rw [g k hk, if_neg hne] at h; omega
/-- While the place f, the next one to be visited, looks at places: k of them. -/
structure Look (arr : Nat → Nat → Bool) (m s a f k : Nat) (P Q : List Int) : Prop extends Seen arr m s a P Q where
  mem : (f : Int) ∈ Q
  qa : a < Q.length
  qf : Q.getD a 0 = f
  half : ∀ q, q < k → arr f q = true → 0 ≤ P.getD q 0
theorem look_step {arr : Nat → Nat → Bool} {m s a f k : Nat} {P Q : List Int} (h : Look arr m s a f k P Q) (hk : k < m) :
    (arr f k = true ∧ P.getD k 0 < 0 → Look arr m s a f (k + 1) (P.set k (f : Int)) (Q ++ [(k : Int)])) ∧ (¬ (arr f k = true ∧ P.getD k 0 < 0) → Look arr m s a f (k + 1) P Q) := by
  constructor
  · rintro ⟨ha, hp⟩
    have g : ∀ q, (P.set k (f : Int)).getD q 0 = if q = k then (f : Int) else P.getD q 0 := fun q => set_get h.len hk
    have pos : ∀ q, 0 ≤ P.getD q 0 → 0 ≤ (P.set k (f : Int)).getD q 0 := fun q hq => by
      rw [g]; by_cases e : q = k
      · rw [if_pos e]; omega
      · rw [if_neg e]; exact hq
    have nk : (k : Int) ∉ Q := fun hm => by obtain ⟨q, e, _, hq⟩ := h.qm _ hm; have : k = q := by omega
                                            subst this; omega
    have ks : k ≠ s := fun e => by have := h.root; subst e; omega
    obtain ⟨f', ef, hfm, hfp⟩ := h.qm _ h.mem
    have : f' = f := by omega
    subst this
    have idx : ∀ q : Nat, (q : Int) ∈ Q → (Q ++ [(k : Int)]).idxOf (q : Int) = Q.idxOf (q : Int) := fun q hq => by rw [List.idxOf_append, if_pos hq]
    have idk : (Q ++ [(k : Int)]).idxOf (k : Int) = Q.length := by rw [List.idxOf_append, if_neg nk]; simp
    refine ⟨⟨by rw [List.length_set]; exact h.len, h.lt, fun x hx => ?_, ?_, fun q hq h0 => ?_, fun q hq => ?_, by rw [g, if_neg (fun e => ks e.symm)]; exact h.root, fun q hq hne h0 => ?_, fun i hi hi2 q hq haq => ?_⟩, by rw [List.mem_append]; exact .inl h.mem, by rw [List.length_append]; have := h.qa; omega, ?_, fun q hq haq => ?_⟩
    · rw [List.mem_append, List.mem_singleton] at hx
      rcases hx with hx | rfl
      · obtain ⟨q, e, hq, h0⟩ := h.qm x hx
        exact ⟨q, e, hq, pos q h0⟩
      · exact ⟨k, rfl, hk, by rw [g, if_pos rfl]; omega⟩
    · rw [List.nodup_append]
      exact ⟨h.nd, by simp, fun x hx y hy => by rw [List.mem_singleton] at hy; subst hy; exact fun e => nk (e ▸ hx)⟩
    · rw [List.mem_append, List.mem_singleton]
      by_cases e : q = k
      · exact .inr (by rw [e])
      · rw [g, if_neg e] at h0; exact .inl (h.pq q hq h0)
    · rw [g]; by_cases e : q = k
      · rw [if_pos e]; omega
      · rw [if_neg e]; exact h.bd q hq
    · by_cases e : q = k
      · subst e
        exact ⟨f', by rw [g, if_pos rfl], hfm, pos _ hfp, ha, by rw [idk, idx f' h.mem]; exact List.idxOf_lt_length_of_mem h.mem⟩
      · rw [g, if_neg e] at h0
        obtain ⟨p, ep, hpm, hp0, hpa, hlt⟩ := h.up q hq hne h0
        exact ⟨p, by rw [g, if_neg e]; exact ep, hpm, pos _ hp0, hpa, by rw [idx p (h.pq p hpm hp0), idx q (h.pq q hq h0)]; exact hlt⟩
    · have hl : i < Q.length := by have := h.qa; omega
      refine pos q (h.cl i hi hl q hq ?_)
      rw [List.getD_eq_getElem?_getD, List.getElem?_append_left hl, ← List.getD_eq_getElem?_getD] at haq
      exact haq
    · have := h.qf
      rw [List.getD_eq_getElem?_getD, List.getElem?_append_left h.qa, ← List.getD_eq_getElem?_getD]; exact this
    · by_cases e : q = k
      · rw [g, if_pos e]; omega
      · exact pos q (h.half q (by omega) haq)
  · intro hno
    refine { h with half := fun q hq haq => ?_ }
    by_cases e : q = k
    · subst e
      exact Int.not_lt.1 fun hlt => hno ⟨haq, hlt⟩
    · exact h.half q (by omega) haq
theorem look_k {arr : Nat → Nat → Bool} {m s a f : Nat} {S : List Int × List Int} (h : Look arr m s a f 0 S.1 S.2) : ∀ k, k ≤ m → Look arr m s a f k (seeK arr f k S).1 (seeK arr f k S).2
  | 0, _ => h
  | k + 1, hk => by
    have ih := look_step (look_k h k (by omega)) (show k < m by omega)
    unfold seeK
    by_cases e : arr f k = true ∧ (seeK arr f k S).1.getD k 0 < 0
    · rw [if_pos e]; exact ih.1 e
    · rw [if_neg e]; exact ih.2 e
theorem seen_look {arr : Nat → Nat → Bool} {m s a f : Nat} {P Q : List Int} (h : Seen arr m s a P Q) (ha : a < Q.length) (hf : Q.getD a 0 = f) : Look arr m s a f 0 P Q :=
  ⟨h, by rw [← hf, List.getD_eq_getElem?_getD, List.getElem?_eq_getElem ha]; exact List.getElem_mem ha, ha, hf, fun _ hq => absurd hq (Nat.not_lt_zero _)⟩
theorem look_seen {arr : Nat → Nat → Bool} {m s a f : Nat} {P Q : List Int} (h : Look arr m s a f m P Q) : Seen arr m s (a + 1) P Q :=
  have hc : ∀ i, i < a + 1 → i < Q.length → ∀ k, k < m → arr (Q.getD i 0).toNat k = true → 0 ≤ P.getD k 0 := by
    intro i hi hi2 q hq haq
    by_cases e : i = a
    · subst e
      rw [h.qf] at haq
      exact h.half q hq haq
    · exact h.cl i (by omega) hi2 q hq haq
  { h.toSeen with cl := hc }
theorem seen_k (arr : Nat → Nat → Bool) {m s : Nat} (hs : s < m) : ∀ a, Seen arr m s a (bfsK arr m (bfs0 m s) a).1 (bfsK arr m (bfs0 m s) a).2
  | 0 => seen_0 arr hs
  | a + 1 => by
    have ih := seen_k arr hs a
    unfold bfsK
    by_cases e : a < (bfsK arr m (bfs0 m s) a).2.length
    · rw [if_pos e]
      obtain ⟨f, hf, _⟩ := ih.at e
      rw [hf, Int.toNat_natCast]
      exact look_seen (look_k (seen_look ih e hf) m (Nat.le_refl _))
    · rw [if_neg e]
      exact { ih with cl := fun i hi hi2 => ih.cl i (by omega) hi2 }
/-- When no place is left, nothing changes. -/
theorem bfs_end (arr : Nat → Nat → Bool) (m s : Nat) {a : Nat} (ha : (bfsK arr m (bfs0 m s) a).2.length ≤ a) : ∀ d, bfsK arr m (bfs0 m s) (a + d) = bfsK arr m (bfs0 m s) a
  | 0 => rfl
  | d + 1 => by
    rw [show a + (d + 1) = (a + d) + 1 from rfl, bfsK, bfs_end arr m s ha d, if_neg (by omega)]
theorem bfs_done (arr : Nat → Nat → Bool) {m s : Nat} {a : Nat} (ham : a ≤ m) (ha : (bfsK arr m (bfs0 m s) a).2.length ≤ a) : bfsP arr m s = (bfsK arr m (bfs0 m s) a).1 := by
  unfold bfsP
  rw [show m = a + (m - a) by omega, ← bfs_end arr (a + (m - a)) s (a := a) (by rw [← show m = a + (m - a) by omega]; exact ha) (m - a)]
/-- The tree of the places that are reached. -/
structure Tree (arr : Nat → Nat → Bool) (m s : Nat) (P : List Int) : Prop where
  len : P.length = m
  lt : s < m
  bd : ∀ k, k < m → -1 ≤ P.getD k 0 ∧ P.getD k 0 < m
  root : P.getD s 0 = s
  up : ∃ rk : Nat → Nat, (∀ k, rk k ≤ m) ∧ ∀ k, k < m → k ≠ s → 0 ≤ P.getD k 0 → ∃ f : Nat, P.getD k 0 = f ∧ f < m ∧ 0 ≤ P.getD f 0 ∧ arr f k = true ∧ rk f < rk k
  cl : ∀ k q, k < m → q < m → 0 ≤ P.getD k 0 → arr k q = true → 0 ≤ P.getD q 0
theorem bfs_tree (arr : Nat → Nat → Bool) {m s : Nat} (hs : s < m) : Tree arr m s (bfsP arr m s) := by
  have h := seen_k arr hs m
  refine ⟨h.len, hs, h.bd, h.root, ⟨fun k => (bfsK arr m (bfs0 m s) m).2.idxOf (k : Int), fun k => Nat.le_trans List.idxOf_le_length h.short, h.up⟩, fun k q hk hq h0 ha => ?_⟩
  have hm := h.pq k hk h0
  obtain ⟨i, hi, e⟩ := List.getElem_of_mem hm
  refine h.cl i (by have := h.short; omega) hi q hq ?_
  rw [List.getD_eq_getElem?_getD, List.getElem?_eq_getElem hi, e]
  exact ha
/-- A place is reached along arrows. -/
def Rch (arr : Nat → Nat → Bool) (m s k : Nat) : Prop := ∀ S : Nat → Prop, S s → (∀ p q, p < m → q < m → S p → arr p q = true → S q) → S k
theorem Rch.refl (arr : Nat → Nat → Bool) (m s : Nat) : Rch arr m s s := fun _ h _ => h
theorem Rch.snoc {arr : Nat → Nat → Bool} {m s k q : Nat} (h : Rch arr m s k) (hk : k < m) (hq : q < m) (ha : arr k q = true) : Rch arr m s q := fun S h0 hs => hs k q hk hq (h S h0 hs) ha
theorem Rch.trans {arr : Nat → Nat → Bool} {m s k q : Nat} (h : Rch arr m s k) (h' : Rch arr m k q) : Rch arr m s q := fun S h0 hs => h' S (h S h0 hs) hs
theorem Rch.rev {arr arr' : Nat → Nat → Bool} {m s k : Nat} (he : ∀ p q, p < m → q < m → arr p q = arr' q p) (h : Rch arr m s k) : Rch arr' m k s :=
  h (fun q => Rch arr' m q s) (Rch.refl _ _ _) fun p q hp hq hr ha => ((Rch.refl arr' m q).snoc hq hp (by rw [← he p q hp hq]; exact ha)).trans hr
theorem Rch.ext {arr arr' : Nat → Nat → Bool} {m s k : Nat} (he : ∀ p q, p < m → q < m → arr p q = true → arr' p q = true) (h : Rch arr m s k) : Rch arr' m s k :=
  fun S h0 hs => h S h0 fun p q hp hq hS ha => hs p q hp hq hS (he p q hp hq ha)
theorem Tree.rch {arr : Nat → Nat → Bool} {m s : Nat} {P : List Int} (h : Tree arr m s P) {k : Nat} (hk : k < m) : 0 ≤ P.getD k 0 ↔ Rch arr m s k := by
  constructor
  · obtain ⟨rk, _, hu⟩ := h.up
    have main : ∀ n k, rk k ≤ n → k < m → 0 ≤ P.getD k 0 → Rch arr m s k := by
      intro n
      induction n with
      | zero =>
        intro k hn hk h0
        by_cases e : k = s
        · subst e; exact Rch.refl _ _ _
        · obtain ⟨f, _, _, _, _, hlt⟩ := hu k hk e h0; omega
      | succ n ih =>
        intro k hn hk h0
        by_cases e : k = s
        · subst e; exact Rch.refl _ _ _
        · obtain ⟨f, _, hf, hf0, ha, hlt⟩ := hu k hk e h0
          exact (ih f (by omega) hf hf0).snoc hf hk ha
    exact main _ k (Nat.le_refl _) hk
  · intro hr
    exact (hr (fun q => q < m ∧ 0 ≤ P.getD q 0) ⟨h.lt, by rw [h.root]; omega⟩ fun p q hp hq hS ha => ⟨hq, h.cl p q hp hq hS.2 ha⟩).2
end Go.Proofs.Ytepeplmbnkjeeaa

