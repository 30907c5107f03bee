/-
  Plain facts on texts of images: what stands at each place; what is read back.
-/
import Derived.Test.YtiegonpgfbmidaaTx
import Derived.Test.YtiegonpgfbmidaaE
import Derived.Lib.Bytealg
namespace Go.Proofs.Ytiegonpgfbmidaa
open Go.RowKit

theorem marksT_get (x : Int) : ∀ (m j : Nat), j < m → (marksT x m)[j]? = some (markT (bitI x j)) := by
  intro m
  induction m with
  | zero => intro j h; omega
  | succ m ih =>
    intro j h
    have hl := marks_length x m
    simp only [marksT]
    by_cases e : j < m
    · rw [List.getElem?_append_left (by omega)]; exact ih j e
    · have : j = m := by omega
      subst this
      rw [List.getElem?_append_right (by omega), hl, Nat.sub_self]; rfl
theorem text_get (W : Nat) (xs : List Int) : ∀ (n k j : Nat), k < n → j < W → (textT W xs n)[k * (W + 1) + j]? = some (markT (bitI (xs.getD k 0) j)) := by
  intro n
  induction n with
  | zero => intro k j h; omega
  | succ n ih =>
    intro k j h hj
    have hl := text_length W xs n
    have hm := marks_length (xs.getD n 0) W
    simp only [textT]
    by_cases e : k < n
    · have : k * (W + 1) + (W + 1) ≤ n * (W + 1) := by
        have := Nat.mul_le_mul_right (W + 1) (show k + 1 ≤ n by omega); rwa [Nat.add_mul, Nat.one_mul] at this
      rw [List.append_assoc, List.getElem?_append_left (by omega)]; exact ih k j e hj
    · have : k = n := by omega
      subst this
      rw [List.append_assoc, List.getElem?_append_right (by omega), hl, show k * (W + 1) + j - k * (W + 1) = j by omega, List.getElem?_append_left (by omega)]
      exact marksT_get _ _ _ hj
theorem text_nl (W : Nat) (xs : List Int) : ∀ (n k : Nat), k < n → (textT W xs n)[k * (W + 1) + W]? = some 10 := by
  intro n
  induction n with
  | zero => intro k h; omega
  | succ n ih =>
    intro k h
    have hl := text_length W xs n
    have hm := marks_length (xs.getD n 0) W
    simp only [textT]
    by_cases e : k < n
    · have : k * (W + 1) + (W + 1) ≤ n * (W + 1) := by
        have := Nat.mul_le_mul_right (W + 1) (show k + 1 ≤ n by omega); rwa [Nat.add_mul, Nat.one_mul] at this
      rw [List.append_assoc, List.getElem?_append_left (by omega)]; exact ih k e
    · have : k = n := by omega
      subst this
      rw [List.append_assoc, List.getElem?_append_right (by omega), hl, show k * (W + 1) + W - k * (W + 1) = W by omega, List.getElem?_append_right (by omega), hm, Nat.sub_self]; rfl
theorem mark_ne (b : Int) : markT b ≠ 10 := by unfold markT; split <;> decide
theorem mark_cases (b : Int) : (b = 1 ∧ markT b = 35) ∨ (b ≠ 1 ∧ markT b = 46) := by unfold markT; split <;> simp_all

/-- The value of the first bytes of a line. -/
def rowV (l : List UInt8) : Nat → Int
  | 0 => 0
  | j + 1 => rowV l j + if l.getD j 0 = 35 then pw j else 0
theorem rowV_bd (l : List UInt8) (j : Nat) : 0 ≤ rowV l j ∧ rowV l j ≤ pw j - 1 := by
  induction j with
  | zero => simp [rowV, pw]
  | succ j ih => have := pw_pos j; simp only [rowV, pw_succ]; split <;> omega
theorem rowV_ext {l m : List UInt8} {k : Nat} (h : ∀ i, i < k → l.getD i 0 = m.getD i 0) : rowV l k = rowV m k := by
  induction k with
  | zero => rfl
  | succ k ih => simp only [rowV]; rw [ih (fun i hi => h i (by omega)), h k (by omega)]
theorem rowV_bin {l : List UInt8} {x : Int} {k : Nat} (h : ∀ i, i < k → l.getD i 0 = markT (bitI x i)) : rowV l k = binI x k := by
  induction k with
  | zero => rfl
  | succ k ih =>
    simp only [rowV, binI]; rw [ih (fun i hi => h i (by omega)), h k (by omega)]
    have := bit_01 x k
    rcases mark_cases (bitI x k) with ⟨e, h⟩ | ⟨e, h⟩
    · rw [h, if_pos rfl, e, Int.one_mul]
    · rw [h, if_neg (by decide), show bitI x k = 0 by omega, Int.zero_mul]
theorem bit_rowV : ∀ (k : Nat) (l : List UInt8), k ≤ 6 → ∀ i, i < k → bitI (rowV l k) i = if l.getD i 0 = 35 then 1 else 0 := by
  intro k
  induction k with
  | zero => intro l _ i h; omega
  | succ k ih =>
    intro l hk i hi
    have hb := rowV_bd l k
    have hp := pw_63 (show k ≤ 6 by omega)
    obtain ⟨c, hc⟩ := Int.eq_ofNat_of_zero_le hb.1
    have hn := badd_nat k (by omega) c (by omega) (by rw [← hc]; exact hb.2) i (by omega)
    simp only [rowV]
    rw [hc]
    by_cases e : i = k
    · subst e
      by_cases h35 : l.getD i 0 = 35
      · rw [if_pos h35, if_pos h35, hn.2, if_pos rfl]
      · rw [if_neg h35, if_neg h35, Int.add_zero, hn.1, if_neg (by omega)]
    · have hlt : i < k := by omega
      have hi' := ih l (by omega) i hlt
      rw [hc] at hi'
      by_cases h35 : l.getD k 0 = 35
      · rw [if_pos h35, hn.2, if_neg e]; exact hi'
      · rw [if_neg h35, Int.add_zero]; exact hi'
theorem mark_inj {x y : Int} {j : Nat} (h : markT (bitI x j) = markT (bitI y j)) : bitI x j = bitI y j := by
  have h1 := bit_01 x j
  have h2 := bit_01 y j
  rcases mark_cases (bitI x j) with ⟨e, k⟩ | ⟨e, k⟩ <;> rcases mark_cases (bitI y j) with ⟨e', k'⟩ | ⟨e', k'⟩
  · omega
  · rw [k, k'] at h; exact absurd h (by decide)
  · rw [k, k'] at h; exact absurd h (by decide)
  · omega
theorem index_at {c : UInt8} : ∀ (l : List UInt8) (m : Nat), l[m]? = some c → (∀ i, i < m → l[i]? ≠ some c) → Lib.indexByte l c = m := by
  intro l
  induction l with
  | nil => intro m h; simp at h
  | cons b l ih =>
    intro m h hn
    unfold Lib.indexByte
    cases m with
    | zero => simp only [List.getElem?_cons_zero, Option.some.injEq] at h; subst h; simp
    | succ m =>
      have h0 := hn 0 (by omega)
      simp only [List.getElem?_cons_zero, ne_eq, Option.some.injEq] at h0
      have e := ih m (by simpa using h) (fun i hi => by have := hn (i + 1) (by omega); simpa using this)
      rw [if_neg (by simpa using h0), e, if_neg (by simp only [beq_iff_eq]; omega)]; omega

/-- A text of an image. -/
def Txt (s : List UInt8) (W n : Nat) (xs : List Int) : Prop := Im W n xs ∧ textT W xs n = s
theorem Txt.len {s : List UInt8} {W n : Nat} {xs : List Int} (h : Txt s W n xs) : s.length = n * (W + 1) := by rw [← h.2]; exact text_length _ _ _
theorem Txt.mark {s : List UInt8} {W n : Nat} {xs : List Int} (h : Txt s W n xs) {k j : Nat} (hk : k < n) (hj : j < W) : s[k * (W + 1) + j]? = some (markT (bitI (xs.getD k 0) j)) := by rw [← h.2]; exact text_get _ _ _ _ _ hk hj
theorem Txt.nl {s : List UInt8} {W n : Nat} {xs : List Int} (h : Txt s W n xs) {k : Nat} (hk : k < n) : s[k * (W + 1) + W]? = some 10 := by rw [← h.2]; exact text_nl _ _ _ _ hk
theorem Txt.index {s : List UInt8} {W n : Nat} {xs : List Int} (h : Txt s W n xs) : Lib.indexByte s 10 = W := by
  refine index_at s W (by have := h.nl (k := 0) h.1.l1; simpa using this) fun i hi => ?_
  have := h.mark (k := 0) h.1.l1 hi
  rw [Nat.zero_mul, Nat.zero_add] at this
  rw [this]; intro e; exact mark_ne _ (Option.some.inj e)
theorem Txt.uniq {s : List UInt8} {W n W' n' : Nat} {xs xs' : List Int} (h : Txt s W n xs) (k : Txt s W' n' xs') : W = W' ∧ n = n' ∧ xs = xs' := by
  have e := h.index.symm.trans k.index
  have : W = W' := by omega
  subst this
  have e := h.len.symm.trans k.len
  have : n = n' := Nat.eq_of_mul_eq_mul_right (by omega) e
  subst this
  exact ⟨rfl, rfl, h.1.ext k.1 fun i j hi hj => mark_inj (Option.some.inj ((h.mark hi hj).symm.trans (k.mark hi hj)))⟩
theorem getD_some {s : List UInt8} {i : Nat} {c : UInt8} (h : s[i]? = some c) : s.getD i 0 = c := by rw [List.getD_eq_getElem?_getD, h]; rfl

def lineL (s : List UInt8) (w k : Nat) : List UInt8 := (s.drop (k * (w + 1))).take w
theorem line_get {s : List UInt8} {w k j : Nat} (hj : j < w) : (lineL s w k).getD j 0 = s.getD (k * (w + 1) + j) 0 := by
  rw [List.getD_eq_getElem?_getD, List.getD_eq_getElem?_getD, lineL, List.getElem?_take_of_lt hj, List.getElem?_drop]
def readL (s : List UInt8) (w k : Nat) : List Int := rowsL (fun i => rowV (lineL s w i) w) k
def goodL (s : List UInt8) (w k : Nat) : Prop := ∀ i, i < k → (∀ j, j < w → s.getD (i * (w + 1) + j) 0 = 35 ∨ s.getD (i * (w + 1) + j) 0 = 46) ∧ s.getD (i * (w + 1) + w) 0 = 10
theorem Txt.good {s : List UInt8} {W n : Nat} {xs : List Int} (h : Txt s W n xs) : goodL s W n := by
  intro i hi
  refine ⟨fun j hj => ?_, getD_some (h.nl hi)⟩
  rw [getD_some (h.mark hi hj)]
  rcases mark_cases (bitI (xs.getD i 0) j) with ⟨_, e⟩ | ⟨_, e⟩
  · exact .inl e
  · exact .inr e
theorem read_im {s : List UInt8} {w n : Nat} (h1 : 1 ≤ w) (h6 : w ≤ 6) (n1 : 1 ≤ n) (n6 : n ≤ 6) : Im w n (readL s w n) :=
  ⟨h1, h6, n1, n6, by simp [readL, rowsL], fun i hi => by rw [show (readL s w n).getD i 0 = rowV (lineL s w i) w from rows_get (fun i => rowV (lineL s w i) w) hi]; exact rowV_bd _ _⟩
theorem read_txt {s : List UInt8} {w n : Nat} (h1 : 1 ≤ w) (h6 : w ≤ 6) (n1 : 1 ≤ n) (n6 : n ≤ 6) (hl : s.length = n * (w + 1)) (hg : goodL s w n) : Txt s w n (readL s w n) := by
  refine ⟨read_im h1 h6 n1 n6, ?_⟩
  have tl := text_length w (readL s w n) n
  apply List.ext_getElem?
  intro p
  by_cases hp : p < n * (w + 1)
  · obtain ⟨k, j, hk, hj, rfl⟩ : ∃ k j, k < n ∧ j ≤ w ∧ p = k * (w + 1) + j :=
      ⟨p / (w + 1), p % (w + 1), Nat.div_lt_of_lt_mul (by rw [Nat.mul_comm]; exact hp), by have := Nat.mod_lt p (show 0 < w + 1 by omega); omega, by rw [Nat.mul_comm]; exact (Nat.div_add_mod p (w + 1)).symm⟩
    have hs : s[k * (w + 1) + j]? = some (s.getD (k * (w + 1) + j) 0) := by rw [List.getD_eq_getElem?_getD, List.getElem?_eq_getElem (by omega)]; rfl
    rw [hs]
    by_cases e : j < w
    · rw [text_get _ _ _ _ _ hk e, show (readL s w n).getD k 0 = rowV (lineL s w k) w from rows_get (fun i => rowV (lineL s w i) w) hk, bit_rowV w (lineL s w k) h6 j e, line_get e]
      rcases (hg k hk).1 j e with h | h
      · rw [h]; rfl
      · rw [h]; rfl
    · have : j = w := by omega
      subst this
      rw [text_nl _ _ _ _ hk, (hg k hk).2]
  · rw [List.getElem?_eq_none (by omega), List.getElem?_eq_none (by omega)]

/-- What the model has read of the first bytes: the width, where the line begins, the rows. -/
def parseS (s : List UInt8) : Nat → Nat × Nat × List Int
  | 0 => (0, 0, [])
  | i + 1 => if s.getD i 0 = 10 then (i - (parseS s i).2.1, i + 1, (parseS s i).2.2 ++ [rowV ((s.drop (parseS s i).2.1).take (i - (parseS s i).2.1)) (min (i - (parseS s i).2.1) 6)]) else parseS s i
theorem parse_bd (s : List UInt8) (i : Nat) : (parseS s i).1 ≤ i ∧ (parseS s i).2.1 ≤ i ∧ (parseS s i).2.2.length ≤ i := by
  induction i with
  | zero => simp [parseS]
  | succ i ih =>
    simp only [parseS]
    split
    · simp; omega
    · omega
theorem Txt.inside {s : List UInt8} {W n : Nat} {xs : List Int} (h : Txt s W n xs) {k : Nat} (hk : k < n) : ∀ j, j ≤ W → parseS s (k * (W + 1) + j) = parseS s (k * (W + 1)) := by
  intro j
  induction j with
  | zero => intro _; rfl
  | succ j ih =>
    intro hj
    rw [← Nat.add_assoc, parseS, getD_some (h.mark hk (by omega)), if_neg (mark_ne _)]
    exact ih (by omega)
theorem Txt.parse {s : List UInt8} {W n : Nat} {xs : List Int} (h : Txt s W n xs) : ∀ k, k ≤ n → parseS s (k * (W + 1)) = (if k = 0 then 0 else W, k * (W + 1), xs.take k) := by
  intro k
  induction k with
  | zero => intro _; simp [parseS]
  | succ k ih =>
    intro hk
    have hk' : k < n := by omega
    have i6 := h.1.w6
    have hr := h.1.row k hk'
    rw [Nat.add_mul, Nat.one_mul, ← Nat.add_assoc, parseS, getD_some (h.nl hk'), if_pos rfl, h.inside hk' W (Nat.le_refl _), ih (by omega)]
    simp only [Nat.add_sub_cancel_left, Nat.min_eq_left i6, if_neg (Nat.succ_ne_zero k), Prod.mk.injEq, true_and]
    have e : rowV ((s.drop (k * (W + 1))).take W) W = xs.getD k 0 := by
      rw [← bin_num i6 hr.1 hr.2]
      refine rowV_bin fun i hi => ?_
      rw [show ((s.drop (k * (W + 1))).take W).getD i 0 = s.getD (k * (W + 1) + i) 0 from line_get hi]
      exact getD_some (h.mark hk' hi)
    rw [e, getD_elem (by rw [h.1.hl]; exact hk')]
    exact (List.take_succ_eq_append_getElem (by rw [h.1.hl]; exact hk')).symm

/-- What reading a text gives. -/
def fromB (s : List UInt8) : Bool := decide (s ≠ [] ∧ textOf (parseS s s.length).1 (parseS s s.length).2.2 = s)
def fromOut (s : List UInt8) : Out := if fromB s = true then ⟨true, (parseS s s.length).1, (parseS s s.length).2.2⟩ else Out.no
theorem Txt.of {s : List UInt8} (h : fromB s = true) : Txt s (parseS s s.length).1 (parseS s s.length).2.2.length (parseS s s.length).2.2 := by
  obtain ⟨h1, h2⟩ := of_decide_eq_true h
  generalize parseS s s.length = p at *
  unfold textOf at h2
  split at h2
  · rename_i hv; exact ⟨Im.of hv rfl, by simpa using h2⟩
  · exact absurd h2.symm h1
theorem Txt.out {s : List UInt8} {W n : Nat} {xs : List Int} (h : Txt s W n xs) : fromOut s = ⟨true, W, xs⟩ := by
  have e := h.parse n (Nat.le_refl _)
  have l1 := h.1.l1
  rw [← h.len, if_neg (by omega), List.take_of_length_le (by rw [h.1.hl]; omega)] at e
  have hb : fromB s = true := by
    refine decide_eq_true ⟨fun e0 => ?_, ?_⟩
    · have h1 := h.len; have h2 := Nat.mul_pos (show 0 < n by omega) (show 0 < W + 1 by omega); rw [← h1, e0] at h2; exact absurd h2 (Nat.lt_irrefl 0)
    · rw [e]; unfold textOf; rw [if_pos h.1.valid, h.1.hl, Int.toNat_natCast]; exact h.2
  rw [fromOut, if_pos hb, e]
theorem from_no {s : List UInt8} (h : ∀ W n xs, ¬ Txt s W n xs) : fromOut s = Out.no := by
  rw [fromOut, if_neg fun hb => h _ _ _ (Txt.of hb)]
end Go.Proofs.Ytiegonpgfbmidaa

