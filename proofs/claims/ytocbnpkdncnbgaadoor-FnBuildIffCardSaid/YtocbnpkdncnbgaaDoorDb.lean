/-
  Plain facts on a heap of lines: pairs of an index and of what is to come.
-/
import Derived.Test.YtocbnpkdncnbgaaDoorDa
namespace Go.Proofs.YtocbnpkdncnbgaaDoor
set_option maxRecDepth 100000
/-- A line of the heap: its index and what is to come. -/
abbrev PL := List (Int × Int)
def pget (L : PL) (i : Nat) : Int × Int := L.getD i (0, 0)
theorem pget_elem {L : PL} {i : Nat} (h : i < L.length) : pget L i = L[i] := by simp [pget, h]
theorem pget_set {L : PL} {k : Nat} {v : Int × Int} (hk : k < L.length) (i : Nat) : pget (L.set k v) i = if i = k then v else pget L i := by
  unfold pget
  by_cases e : i = k
  · subst e; rw [if_pos rfl, List.getD_eq_getElem?_getD, List.getElem?_set_self hk]; rfl
  · rw [if_neg e, List.getD_eq_getElem?_getD, List.getElem?_set_ne (by omega), ← List.getD_eq_getElem?_getD]
/-- p comes ahead of q. -/
def les (p q : Int × Int) : Prop := q.2 < p.2 ∨ (p.2 = q.2 ∧ p.1 < q.1)
instance (p q : Int × Int) : Decidable (les p q) := by unfold les; exact inferInstance
theorem les_asym {p q : Int × Int} (h : les p q) : ¬ les q p := by unfold les at *; omega
theorem les_irr {p : Int × Int} : ¬ les p p := by unfold les; omega
theorem les_trans {p q r : Int × Int} (h : les p q) (h' : les q r) : les p r := by unfold les at *; omega
theorem nles_trans {p q r : Int × Int} (h : ¬ les q p) (h' : ¬ les r q) : ¬ les r p := by unfold les at *; omega
def pswap (L : PL) (i j : Nat) : PL := (L.set i (pget L j)).set j (pget L i)
theorem pswap_len (L : PL) (i j : Nat) : (pswap L i j).length = L.length := by simp [pswap]
theorem pswap_get {L : PL} {i j : Nat} (hi : i < L.length) (hj : j < L.length) (k : Nat) : pget (pswap L i j) k = if k = j then pget L i else if k = i then pget L j else pget L k := by
  unfold pswap
  rw [pget_set (by simpa using hj), pget_set hi]
theorem pswap_perm {L : PL} {i j : Nat} (hi : i < L.length) (hj : j < L.length) : (pswap L i j).Perm L := by
  unfold pswap
  rw [pget_elem hi, pget_elem hj]
  by_cases e : i = j
  · subst e; simp
  · exact List.set_set_perm (i := i) (j := j) hi hj
/-- A line does not come ahead of its parent, for parents from lo on, among the first n. -/
def HP (L : PL) (n lo : Nat) : Prop := ∀ k, 0 < k → k < n → lo ≤ (k - 1) / 2 → ¬ les (pget L k) (pget L ((k - 1) / 2))
theorem HP.top {L : PL} {n : Nat} (h : HP L n 0) : ∀ k, k < n → ¬ les (pget L k) (pget L 0) := by
  intro k
  induction k using Nat.strongRecOn with
  | _ k ih =>
    intro hk
    by_cases e : k = 0
    · subst e; exact les_irr
    · exact nles_trans (ih ((k - 1) / 2) (by omega) (by omega)) (h k (by omega) hk (Nat.zero_le _))
theorem HP.start (L : PL) (n : Nat) {lo : Nat} (h : n / 2 ≤ lo) : HP L n lo := fun k hk hkn hl => by omega
theorem HP.less {L : PL} {n m lo : Nat} (h : HP L n lo) (hm : m ≤ n) : HP L m lo := fun k hk hkm hl => h k hk (by omega) hl
theorem HP.same {L M : PL} {n lo : Nat} (h : HP L n lo) (hM : ∀ k, k < n → lo ≤ k → pget M k = pget L k) : HP M n lo := fun k hk hkn hl => by
  rw [hM k hkn (by omega), hM _ (by omega) hl]; exact h k hk hkn hl
/-- .. but for the children of i, which may come ahead of it. -/
def HD (L : PL) (n lo i : Nat) : Prop :=
  (∀ k, 0 < k → k < n → lo ≤ (k - 1) / 2 → (k - 1) / 2 ≠ i → ¬ les (pget L k) (pget L ((k - 1) / 2))) ∧
  (lo < i → lo ≤ (i - 1) / 2 ∧ ∀ k, 0 < k → k < n → (k - 1) / 2 = i → ¬ les (pget L k) (pget L ((i - 1) / 2)))
theorem HD.start {L : PL} {n lo : Nat} (h : HP L n (lo + 1)) : HD L n lo lo :=
  ⟨fun k hk hkn hl hne => h k hk hkn (by omega), fun hh => by omega⟩
theorem HD.leaf {L : PL} {n lo i : Nat} (h : HD L n lo i) (hn : n ≤ 2 * i + 1) : HP L n lo := fun k hk hkn hl => h.1 k hk hkn hl (by omega)
theorem HD.stop {L : PL} {n lo i j : Nat} (h : HD L n lo i) (hj : ∀ k, 0 < k → k < n → (k - 1) / 2 = i → ¬ les (pget L k) (pget L j)) (hs : ¬ les (pget L j) (pget L i)) : HP L n lo := fun k hk hkn hl => by
  by_cases e : (k - 1) / 2 = i
  · rw [e]; exact nles_trans hs (hj k hk hkn e)
  · exact h.1 k hk hkn hl e
theorem HD.step {L : PL} {n lo i j : Nat} (h : HD L n lo i) (hl : lo ≤ i) (hnl : n ≤ L.length) (hj0 : 0 < j) (hjn : j < n) (hji : (j - 1) / 2 = i) (hj : ∀ k, 0 < k → k < n → (k - 1) / 2 = i → ¬ les (pget L k) (pget L j)) (hs : les (pget L j) (pget L i)) : HD (pswap L i j) n lo j := by
  have g := pswap_get (L := L) (i := i) (j := j) (by omega) (by omega)
  refine ⟨fun k hk hkn hlk hne => ?_, fun _ => ⟨by omega, fun k hk hkn hkj => ?_⟩⟩
  · rw [g, g, if_neg hne]
    by_cases e1 : (k - 1) / 2 = i
    · rw [if_pos e1]
      by_cases e2 : k = j
      · rw [if_pos e2]; exact les_asym hs
      · rw [if_neg e2, if_neg (by omega)]; exact hj k hk hkn e1
    · rw [if_neg e1, if_neg (by rintro rfl; omega)]
      by_cases e2 : k = i
      · subst e2
        rw [if_pos rfl]
        exact (h.2 (by omega)).2 j hj0 hjn hji
      · rw [if_neg e2]; exact h.1 k hk hkn hlk e1
  · rw [g, g, hji, if_neg (by omega), if_neg (by omega), if_neg (by omega), if_pos rfl]
    have := h.1 k hk hkn (by omega) (by omega)
    rwa [hkj] at this
/-- A line that may come ahead of its parent. -/
def HU (L : PL) (n j : Nat) : Prop :=
  (∀ k, 0 < k → k < n → k ≠ j → ¬ les (pget L k) (pget L ((k - 1) / 2))) ∧
  (∀ k, 0 < k → k < n → (k - 1) / 2 = j → 0 < j → ¬ les (pget L k) (pget L ((j - 1) / 2)))
theorem HU.start {L : PL} {n : Nat} (h : HP L n 0) : HU L (n + 1) n :=
  ⟨fun k hk hkn hne => h k hk (by omega) (Nat.zero_le _), fun k hk hkn hkj hj => by omega⟩
theorem HU.root {L : PL} {n : Nat} (h : HU L n 0) : HP L n 0 := fun k hk hkn _ => h.1 k hk hkn (by omega)
theorem HU.stop {L : PL} {n j : Nat} (h : HU L n j) (hs : ¬ les (pget L j) (pget L ((j - 1) / 2))) : HP L n 0 := fun k hk hkn _ => by
  by_cases e : k = j
  · subst e; exact hs
  · exact h.1 k hk hkn e
theorem HU.step {L : PL} {n j : Nat} (h : HU L n j) (hnl : n ≤ L.length) (hj0 : 0 < j) (hjn : j < n) (hs : les (pget L j) (pget L ((j - 1) / 2))) : HU (pswap L ((j - 1) / 2) j) n ((j - 1) / 2) := by
  have g := pswap_get (L := L) (i := (j - 1) / 2) (j := j) (by omega) (by omega)
  obtain ⟨i, hi⟩ : ∃ i, (j - 1) / 2 = i := ⟨_, rfl⟩
  rw [hi] at g hs ⊢
  refine ⟨fun k hk hkn hne => ?_, fun k hk hkn hki hi0 => ?_⟩
  · rw [g, g]
    by_cases e1 : k = j
    · subst e1
      rw [if_pos rfl, hi, if_neg (by omega), if_pos rfl]; exact les_asym hs
    · rw [if_neg e1, if_neg hne]
      by_cases e2 : (k - 1) / 2 = j
      · rw [if_pos e2]
        have := h.2 k hk hkn e2 hj0
        rwa [hi] at this
      · rw [if_neg e2]
        have h1 := h.1 k hk hkn e1
        by_cases e3 : (k - 1) / 2 = i
        · rw [if_pos e3]
          rw [e3] at h1
          exact fun hh => h1 (les_trans hh hs)
        · rw [if_neg e3]; exact h1
  · rw [g, g]
    have h1 := h.1 i hi0 (by omega) (by omega)
    rw [if_neg (by omega : ¬ (i - 1) / 2 = j), if_neg (by omega : ¬ (i - 1) / 2 = i)]
    by_cases e1 : k = j
    · rw [if_pos e1]; exact h1
    · rw [if_neg e1, if_neg (by omega)]
      have h2 := h.1 k hk hkn e1
      rw [hki] at h2
      exact nles_trans h1 h2

theorem perm_map_of {α β : Type} {f : α → β} {L M : List β} (h : L.Perm M) : ∀ xs : List α, M = xs.map f → ∃ ys : List α, ys.Perm xs ∧ ys.map f = L := by
  induction h with
  | nil => intro xs e; exact ⟨xs, .refl _, e.symm⟩
  | cons x _ ih =>
    intro xs e
    cases xs with
    | nil => simp at e
    | cons y r =>
      simp only [List.map_cons, List.cons.injEq] at e
      obtain ⟨zs, h1, h2⟩ := ih r e.2
      exact ⟨y :: zs, h1.cons _, by simp [h2, e.1]⟩
  | swap x y l =>
    intro xs e
    match xs, e with
    | a :: b :: r, e =>
      simp only [List.map_cons, List.cons.injEq] at e
      exact ⟨b :: a :: r, .swap _ _ _, by simp [e.1, e.2.1, e.2.2]⟩
  | trans _ _ h1 h2 =>
    intro xs e
    obtain ⟨ys, a1, a2⟩ := h2 xs e
    obtain ⟨zs, b1, b2⟩ := h1 ys a2.symm
    exact ⟨zs, b1.trans a1, b2⟩
/-- The line i with what is to come. -/
def pr (f : Nat → Int) (i : Nat) : Int × Int := ((i : Int), f i)
theorem les_pr {f : Nat → Int} {k i : Nat} : les (pr f k) (pr f i) ↔ bet f k i := by unfold les bet pr; dsimp only; omega
/-- The first line is taken off. -/
theorem pop_pr {f : Nat → Int} {J : List Nat} {L L' : PL} {x : Int × Int} (h : L.Perm (J.map (pr f))) (hx : (x :: L').Perm L) (hm : ∀ p ∈ L, ¬ les p x) :
    ∃ i J', (i :: J').Perm J ∧ x = pr f i ∧ L'.Perm (J'.map (pr f)) ∧ ∀ k ∈ J, k = i ∨ bet f i k := by
  obtain ⟨ys, h1, h2⟩ := perm_map_of (hx.trans h) J rfl
  cases ys with
  | nil => simp at h2
  | cons i J' =>
    simp only [List.map_cons, List.cons.injEq] at h2
    refine ⟨i, J', h1, h2.1.symm, by rw [h2.2], fun k hk => ?_⟩
    have h3 := hm (pr f k) (h.mem_iff.2 (List.mem_map.2 ⟨k, hk, rfl⟩))
    rw [← h2.1, les_pr] at h3
    by_cases e : k = i
    · left; exact e
    · right
      rcases bet_total (f := f) e with b | b
      · exact absurd b h3
      · exact b
/-- The lines I are taken, the lines J are left. -/
structure TS (f : Nat → Int) (n : Nat) (I J : List Nat) : Prop where
  perm : (I ++ J).Perm (List.range n)
  used : Used f n (fun k => decide (k ∈ I)) I.length
theorem TS.start {f : Nat → Int} {n : Nat} : TS f n [] (List.range n) := ⟨.refl _, Used.zero fun _ _ => by simp⟩
theorem TS.mem {f : Nat → Int} {n k : Nat} {I J : List Nat} (h : TS f n I J) : k < n ↔ k ∈ I ∨ k ∈ J := by
  rw [← List.mem_append, h.perm.mem_iff, List.mem_range]
theorem TS.nodup {f : Nat → Int} {n : Nat} {I J : List Nat} (h : TS f n I J) : (I ++ J).Nodup := h.perm.nodup_iff.2 List.nodup_range
theorem TS.step {f : Nat → Int} {n i : Nat} {I J J' : List Nat} (h : TS f n I J) (hp : (i :: J').Perm J) (hb : ∀ k ∈ J, k = i ∨ bet f i k) : TS f n (I ++ [i]) J' := by
  have hi : i ∈ J := hp.mem_iff.1 (List.mem_cons_self ..)
  have hn := h.nodup
  have hni : i ∉ I := fun hh => by
    rw [List.nodup_append] at hn
    exact hn.2.2 i hh i hi rfl
  have hbest : Best f n (fun k => decide (k ∈ I)) i := ⟨h.mem.2 (.inr hi), by simp [hni], fun k hk hu => hb k (by
    rcases h.mem.1 hk with e | e
    · simp [e] at hu
    · exact e)⟩
  refine ⟨?_, ?_⟩
  · rw [List.append_assoc]
    exact (List.Perm.append_left I hp).trans h.perm
  · have := h.used.next hbest (v := fun k => decide (k ∈ I ++ [i])) fun k _ => by
      rw [Bool.eq_iff_iff]; simp [List.mem_append]
    rwa [← show (I ++ [i]).length = I.length + 1 by simp] at this
theorem TS.ch {f : Nat → Int} {n k : Nat} {I J : List Nat} (h : TS f n I J) (hk : k < n) : k ∈ I ↔ chB f n I.length k = true := by
  rw [← h.used.ch hk, decide_eq_true_iff]
theorem TS.done {f : Nat → Int} {n : Nat} {I J : List Nat} {L : PL} (h : TS f n I J) (hL : L.Perm ((I.map fun k : Nat => ((k : Int), f k - 1)) ++ J.map (pr f))) : L.Perm ((List.range n).map (pr (fun i => f i - chI f n I.length i))) := by
  refine hL.trans ?_
  refine List.Perm.trans ?_ (h.perm.map _)
  rw [List.map_append]
  have e1 : I.map (fun k : Nat => ((k : Int), f k - 1)) = I.map (pr (fun i => f i - chI f n I.length i)) := List.map_congr_left fun k hk => by
    have : chI f n I.length k = 1 := if_pos ((h.ch (h.mem.2 (.inl hk))).1 hk)
    unfold pr; dsimp only; rw [this]
  have e2 : J.map (pr f) = J.map (pr (fun i => f i - chI f n I.length i)) := List.map_congr_left fun k hk => by
    have : chI f n I.length k = 0 := if_neg fun hh => by
      have h1 := (h.ch (h.mem.2 (.inr hk))).2 hh
      have hn := h.nodup
      rw [List.nodup_append] at hn
      exact hn.2.2 k h1 k hk rfl
    unfold pr; dsimp only; rw [this, Int.sub_zero]
  rw [e1, e2]
end Go.Proofs.YtocbnpkdncnbgaaDoor

