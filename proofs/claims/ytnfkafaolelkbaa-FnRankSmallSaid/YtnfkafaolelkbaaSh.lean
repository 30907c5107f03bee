/-
  The writer of texts that this program uses: its contracts, taken from the library at this program's own numbers.
  The contracts of the functions that write an image as a text.
  The contract of the model's function that writes an image as a text.
  Plain facts on texts of images: what stands at each place; what is read back.
  Plain facts on the numbers of marks in texts of images.
  The contracts of the program's functions that read an image from a text.
  The contract of the program's function that reads an image from a text.
  The contract of the model's function that reads an image from a text.
  The contracts of the laws' drawing functions that draw an image and a cell.
  The contracts of the laws' drawing functions that draw an image with a cell, with a cell and a flag, or an image with more rows.
  The contract of the laws' drawing function that draws a text.
-/
import Derived.Shelf.Strings.Builder1
import Derived.Test.YtnfkafaolelkbaaA
import Derived.Test.YtnfkafaolelkbaaK
import Derived.Test.YtnfkafaolelkbaaHc
import Derived.Lib.Bytealg
import Derived.Shelf.Small.Strs
import Derived.Deep.AppendLies
import Derived.Deep.RegionLaw
import Derived.Deep.DeepCutAuto

namespace Go.Proofs.Ytnfkafaolelkbaa
set_option maxRecDepth 100000
open Go.RowKit Go.Shelf

end Go.Proofs.Ytnfkafaolelkbaa

namespace Go.Proofs.Ytnfkafaolelkbaa
set_option maxRecDepth 100000
open Go.RowKit

def markT (b : Int) : UInt8 := if b = 1 then 35 else 46
/-- The marks of the first cells of a row. -/
def marksT (x : Int) : Nat → List UInt8
  | 0 => []
  | j + 1 => marksT x j ++ [markT (bitI x j)]
/-- The lines of the first rows. -/
def textT (W : Nat) (xs : List Int) : Nat → List UInt8
  | 0 => []
  | k + 1 => textT W xs k ++ marksT (xs.getD k 0) W ++ [10]
def textOf (W : Int) (xs : List Int) : List UInt8 := if validB W xs = true then textT W.toNat xs xs.length else []
theorem marks_length (x : Int) (j : Nat) : (marksT x j).length = j := by
  induction j with
  | zero => rfl
  | succ j ih => simp [marksT, ih]
theorem text_length (W : Nat) (xs : List Int) (k : Nat) : (textT W xs k).length = k * (W + 1) := by
  induction k with
  | zero => simp [textT]
  | succ k ih => simp [textT, ih, marks_length, Nat.add_mul]
theorem cells_snoc (l : List UInt8) (c : UInt8) : Lib.byteCells l ++ [.int .u8 c.toNat] = Lib.byteCells (l ++ [c]) := by simp [Lib.byteCells]

end Go.Proofs.Ytnfkafaolelkbaa

namespace Go.Proofs.Ytnfkafaolelkbaa
set_option maxRecDepth 100000
open Go.RowKit

theorem str_app (l m : List UInt8) : (ByteArray.mk l.toArray) ++ (ByteArray.mk m.toArray) = ByteArray.mk (l ++ m).toArray := by
  apply ByteArray.ext; rw [ByteArray.data_append]; simp
theorem dot_ext : (ByteArray.mk #[46, 35]).extract 0 1 = ByteArray.mk [46].toArray := by decide +kernel
theorem num_ext : (ByteArray.mk #[46, 35]).extract 1 2 = ByteArray.mk [35].toArray := by decide +kernel
end Go.Proofs.Ytnfkafaolelkbaa

namespace Go.Proofs.Ytnfkafaolelkbaa
set_option maxRecDepth 100000
open Go.RowKit

theorem marksT_get (x : Int) : ∀ (m j : Nat), j < m → (marksT x m)[j]? = some (markT (bitI x j)) := by
  intro m
  induction m with
  | zero => intro j h; omega
  | succ m ih =>
    intro j h
    have hl := marks_length x m
    simp only [marksT]
    by_cases e : j < m
    · rw [List.getElem?_append_left (by omega)]; exact ih j e
    · have : j = m := by omega
      subst this
      rw [List.getElem?_append_right (by omega), hl, Nat.sub_self]; rfl
theorem text_get (W : Nat) (xs : List Int) : ∀ (n k j : Nat), k < n → j < W → (textT W xs n)[k * (W + 1) + j]? = some (markT (bitI (xs.getD k 0) j)) := by
  intro n
  induction n with
  | zero => intro k j h; omega
  | succ n ih =>
    intro k j h hj
    have hl := text_length W xs n
    have hm := marks_length (xs.getD n 0) W
    simp only [textT]
    by_cases e : k < n
    · have : k * (W + 1) + (W + 1) ≤ n * (W + 1) := by
        have := Nat.mul_le_mul_right (W + 1) (show k + 1 ≤ n by omega); rwa [Nat.add_mul, Nat.one_mul] at this
      rw [List.append_assoc, List.getElem?_append_left (by omega)]; exact ih k j e hj
    · have : k = n := by omega
      subst this
      rw [List.append_assoc, List.getElem?_append_right (by omega), hl, show k * (W + 1) + j - k * (W + 1) = j by omega, List.getElem?_append_left (by omega)]
      exact marksT_get _ _ _ hj
theorem text_nl (W : Nat) (xs : List Int) : ∀ (n k : Nat), k < n → (textT W xs n)[k * (W + 1) + W]? = some 10 := by
  intro n
  induction n with
  | zero => intro k h; omega
  | succ n ih =>
    intro k h
    have hl := text_length W xs n
    have hm := marks_length (xs.getD n 0) W
    simp only [textT]
    by_cases e : k < n
    · have : k * (W + 1) + (W + 1) ≤ n * (W + 1) := by
        have := Nat.mul_le_mul_right (W + 1) (show k + 1 ≤ n by omega); rwa [Nat.add_mul, Nat.one_mul] at this
      rw [List.append_assoc, List.getElem?_append_left (by omega)]; exact ih k e
    · have : k = n := by omega
      subst this
      rw [List.append_assoc, List.getElem?_append_right (by omega), hl, show k * (W + 1) + W - k * (W + 1) = W by omega, List.getElem?_append_right (by omega), hm, Nat.sub_self]; rfl
theorem mark_ne (b : Int) : markT b ≠ 10 := by unfold markT; split <;> decide
theorem mark_cases (b : Int) : (b = 1 ∧ markT b = 35) ∨ (b ≠ 1 ∧ markT b = 46) := by unfold markT; split <;> simp_all

/-- The value of the first bytes of a line. -/
def rowV (l : List UInt8) : Nat → Int
  | 0 => 0
  | j + 1 => rowV l j + if l.getD j 0 = 35 then pw j else 0
theorem rowV_bd (l : List UInt8) (j : Nat) : 0 ≤ rowV l j ∧ rowV l j ≤ pw j - 1 := by
  induction j with
  | zero => simp [rowV, pw]
  | succ j ih => have := pw_pos j; simp only [rowV, pw_succ]; split <;> omega
theorem rowV_ext {l m : List UInt8} {k : Nat} (h : ∀ i, i < k → l.getD i 0 = m.getD i 0) : rowV l k = rowV m k := by
  induction k with
  | zero => rfl
  | succ k ih => simp only [rowV]; rw [ih (fun i hi => h i (by omega)), h k (by omega)]
theorem rowV_bin {l : List UInt8} {x : Int} {k : Nat} (h : ∀ i, i < k → l.getD i 0 = markT (bitI x i)) : rowV l k = binI x k := by
  induction k with
  | zero => rfl
  | succ k ih =>
    simp only [rowV, binI]; rw [ih (fun i hi => h i (by omega)), h k (by omega)]
    have := bit_01 x k
    rcases mark_cases (bitI x k) with ⟨e, h⟩ | ⟨e, h⟩
    · rw [h, if_pos rfl, e, Int.one_mul]
    · rw [h, if_neg (by decide), show bitI x k = 0 by omega, Int.zero_mul]
theorem bit_rowV : ∀ (k : Nat) (l : List UInt8), k ≤ 6 → ∀ i, i < k → bitI (rowV l k) i = if l.getD i 0 = 35 then 1 else 0 := by
  intro k
  induction k with
  | zero => intro l _ i h; omega
  | succ k ih =>
    intro l hk i hi
    have hb := rowV_bd l k
    have hp := pw_63 (show k ≤ 6 by omega)
    obtain ⟨c, hc⟩ := Int.eq_ofNat_of_zero_le hb.1
    have hn := badd_nat k (by omega) c (by omega) (by rw [← hc]; exact hb.2) i (by omega)
    simp only [rowV]
    rw [hc]
    by_cases e : i = k
    · subst e
      by_cases h35 : l.getD i 0 = 35
      · rw [if_pos h35, if_pos h35, hn.2, if_pos rfl]
      · rw [if_neg h35, if_neg h35, Int.add_zero, hn.1, if_neg (by omega)]
    · have hlt : i < k := by omega
      have hi' := ih l (by omega) i hlt
      rw [hc] at hi'
      by_cases h35 : l.getD k 0 = 35
      · rw [if_pos h35, hn.2, if_neg e]; exact hi'
      · rw [if_neg h35, Int.add_zero]; exact hi'
theorem mark_inj {x y : Int} {j : Nat} (h : markT (bitI x j) = markT (bitI y j)) : bitI x j = bitI y j := by
  have h1 := bit_01 x j
  have h2 := bit_01 y j
  rcases mark_cases (bitI x j) with ⟨e, k⟩ | ⟨e, k⟩ <;> rcases mark_cases (bitI y j) with ⟨e', k'⟩ | ⟨e', k'⟩
  · omega
  · rw [k, k'] at h; exact absurd h (by decide)
  · rw [k, k'] at h; exact absurd h (by decide)
  · omega
theorem index_at {c : UInt8} : ∀ (l : List UInt8) (m : Nat), l[m]? = some c → (∀ i, i < m → l[i]? ≠ some c) → Lib.indexByte l c = m := by
  intro l
  induction l with
  | nil => intro m h; simp at h
  | cons b l ih =>
    intro m h hn
    unfold Lib.indexByte
    cases m with
    | zero => simp only [List.getElem?_cons_zero, Option.some.injEq] at h; subst h; simp
    | succ m =>
      have h0 := hn 0 (by omega)
      simp only [List.getElem?_cons_zero, ne_eq, Option.some.injEq] at h0
      have e := ih m (by simpa using h) (fun i hi => by have := hn (i + 1) (by omega); simpa using this)
      rw [if_neg (by simpa using h0), e, if_neg (by simp only [beq_iff_eq]; omega)]; omega

/-- A text of an image. -/
def Txt (s : List UInt8) (W n : Nat) (xs : List Int) : Prop := Im W n xs ∧ textT W xs n = s
theorem Txt.len {s : List UInt8} {W n : Nat} {xs : List Int} (h : Txt s W n xs) : s.length = n * (W + 1) := by rw [← h.2]; exact text_length _ _ _
theorem Txt.mark {s : List UInt8} {W n : Nat} {xs : List Int} (h : Txt s W n xs) {k j : Nat} (hk : k < n) (hj : j < W) : s[k * (W + 1) + j]? = some (markT (bitI (xs.getD k 0) j)) := by rw [← h.2]; exact text_get _ _ _ _ _ hk hj
theorem Txt.nl {s : List UInt8} {W n : Nat} {xs : List Int} (h : Txt s W n xs) {k : Nat} (hk : k < n) : s[k * (W + 1) + W]? = some 10 := by rw [← h.2]; exact text_nl _ _ _ _ hk
theorem Txt.index {s : List UInt8} {W n : Nat} {xs : List Int} (h : Txt s W n xs) : Lib.indexByte s 10 = W := by
  refine index_at s W (by have := h.nl (k := 0) h.1.l1; simpa using this) fun i hi => ?_
  have := h.mark (k := 0) h.1.l1 hi
  rw [Nat.zero_mul, Nat.zero_add] at this
  rw [this]; intro e; exact mark_ne _ (Option.some.inj e)
theorem Txt.uniq {s : List UInt8} {W n W' n' : Nat} {xs xs' : List Int} (h : Txt s W n xs) (k : Txt s W' n' xs') : W = W' ∧ n = n' ∧ xs = xs' := by
  have e := h.index.symm.trans k.index
  have : W = W' := by omega
  subst this
  have e := h.len.symm.trans k.len
  have : n = n' := Nat.eq_of_mul_eq_mul_right (by omega) e
  subst this
  exact ⟨rfl, rfl, h.1.ext k.1 fun i j hi hj => mark_inj (Option.some.inj ((h.mark hi hj).symm.trans (k.mark hi hj)))⟩
theorem getD_some {s : List UInt8} {i : Nat} {c : UInt8} (h : s[i]? = some c) : s.getD i 0 = c := by rw [List.getD_eq_getElem?_getD, h]; rfl

def lineL (s : List UInt8) (w k : Nat) : List UInt8 := (s.drop (k * (w + 1))).take w
theorem line_get {s : List UInt8} {w k j : Nat} (hj : j < w) : (lineL s w k).getD j 0 = s.getD (k * (w + 1) + j) 0 := by
  rw [List.getD_eq_getElem?_getD, List.getD_eq_getElem?_getD, lineL, List.getElem?_take_of_lt hj, List.getElem?_drop]
def readL (s : List UInt8) (w k : Nat) : List Int := rowsL (fun i => rowV (lineL s w i) w) k
def goodL (s : List UInt8) (w k : Nat) : Prop := ∀ i, i < k → (∀ j, j < w → s.getD (i * (w + 1) + j) 0 = 35 ∨ s.getD (i * (w + 1) + j) 0 = 46) ∧ s.getD (i * (w + 1) + w) 0 = 10
theorem Txt.good {s : List UInt8} {W n : Nat} {xs : List Int} (h : Txt s W n xs) : goodL s W n := by
  intro i hi
  refine ⟨fun j hj => ?_, getD_some (h.nl hi)⟩
  rw [getD_some (h.mark hi hj)]
  rcases mark_cases (bitI (xs.getD i 0) j) with ⟨_, e⟩ | ⟨_, e⟩
  · exact .inl e
  · exact .inr e
theorem read_im {s : List UInt8} {w n : Nat} (h1 : 1 ≤ w) (h6 : w ≤ 6) (n1 : 1 ≤ n) (n6 : n ≤ 6) : Im w n (readL s w n) :=
  ⟨h1, h6, n1, n6, by simp [readL, rowsL], fun i hi => by rw [show (readL s w n).getD i 0 = rowV (lineL s w i) w from rows_get (fun i => rowV (lineL s w i) w) hi]; exact rowV_bd _ _⟩
theorem read_txt {s : List UInt8} {w n : Nat} (h1 : 1 ≤ w) (h6 : w ≤ 6) (n1 : 1 ≤ n) (n6 : n ≤ 6) (hl : s.length = n * (w + 1)) (hg : goodL s w n) : Txt s w n (readL s w n) := by
  refine ⟨read_im h1 h6 n1 n6, ?_⟩
  have tl := text_length w (readL s w n) n
  apply List.ext_getElem?
  intro p
  by_cases hp : p < n * (w + 1)
  · obtain ⟨k, j, hk, hj, rfl⟩ : ∃ k j, k < n ∧ j ≤ w ∧ p = k * (w + 1) + j :=
      ⟨p / (w + 1), p % (w + 1), Nat.div_lt_of_lt_mul (by rw [Nat.mul_comm]; exact hp), by have := Nat.mod_lt p (show 0 < w + 1 by omega); omega, by rw [Nat.mul_comm]; exact (Nat.div_add_mod p (w + 1)).symm⟩
    have hs : s[k * (w + 1) + j]? = some (s.getD (k * (w + 1) + j) 0) := by rw [List.getD_eq_getElem?_getD, List.getElem?_eq_getElem (by omega)]; rfl
    rw [hs]
    by_cases e : j < w
    · rw [text_get _ _ _ _ _ hk e, show (readL s w n).getD k 0 = rowV (lineL s w k) w from rows_get (fun i => rowV (lineL s w i) w) hk, bit_rowV w (lineL s w k) h6 j e, line_get e]
      rcases (hg k hk).1 j e with h | h
      · rw [h]; rfl
      · rw [h]; rfl
    · have : j = w := by omega
      subst this
      rw [text_nl _ _ _ _ hk, (hg k hk).2]
  · rw [List.getElem?_eq_none (by omega), List.getElem?_eq_none (by omega)]

/-- What the model has read of the first bytes: the width, where the line begins, the rows. -/
def parseS (s : List UInt8) : Nat → Nat × Nat × List Int
  | 0 => (0, 0, [])
  | i + 1 => if s.getD i 0 = 10 then (i - (parseS s i).2.1, i + 1, (parseS s i).2.2 ++ [rowV ((s.drop (parseS s i).2.1).take (i - (parseS s i).2.1)) (min (i - (parseS s i).2.1) 6)]) else parseS s i
theorem parse_bd (s : List UInt8) (i : Nat) : (parseS s i).1 ≤ i ∧ (parseS s i).2.1 ≤ i ∧ (parseS s i).2.2.length ≤ i := by
  induction i with
  | zero => simp [parseS]
  | succ i ih =>
    simp only [parseS]
    split
    · simp; omega
    · omega
theorem Txt.inside {s : List UInt8} {W n : Nat} {xs : List Int} (h : Txt s W n xs) {k : Nat} (hk : k < n) : ∀ j, j ≤ W → parseS s (k * (W + 1) + j) = parseS s (k * (W + 1)) := by
  intro j
  induction j with
  | zero => intro _; rfl
  | succ j ih =>
    intro hj
    rw [← Nat.add_assoc, parseS, getD_some (h.mark hk (by omega)), if_neg (mark_ne _)]
    exact ih (by omega)
theorem Txt.parse {s : List UInt8} {W n : Nat} {xs : List Int} (h : Txt s W n xs) : ∀ k, k ≤ n → parseS s (k * (W + 1)) = (if k = 0 then 0 else W, k * (W + 1), xs.take k) := by
  intro k
  induction k with
  | zero => intro _; simp [parseS]
  | succ k ih =>
    intro hk
    have hk' : k < n := by omega
    have i6 := h.1.w6
    have hr := h.1.row k hk'
    rw [Nat.add_mul, Nat.one_mul, ← Nat.add_assoc, parseS, getD_some (h.nl hk'), if_pos rfl, h.inside hk' W (Nat.le_refl _), ih (by omega)]
    simp only [Nat.add_sub_cancel_left, Nat.min_eq_left i6, if_neg (Nat.succ_ne_zero k), Prod.mk.injEq, true_and]
    have e : rowV ((s.drop (k * (W + 1))).take W) W = xs.getD k 0 := by
      rw [← bin_num i6 hr.1 hr.2]
      refine rowV_bin fun i hi => ?_
      rw [show ((s.drop (k * (W + 1))).take W).getD i 0 = s.getD (k * (W + 1) + i) 0 from line_get hi]
      exact getD_some (h.mark hk' hi)
    rw [e, getD_elem (by rw [h.1.hl]; exact hk')]
    exact (List.take_succ_eq_append_getElem (by rw [h.1.hl]; exact hk')).symm

/-- What reading a text gives. -/
def fromB (s : List UInt8) : Bool := decide (s ≠ [] ∧ textOf (parseS s s.length).1 (parseS s s.length).2.2 = s)
def fromOut (s : List UInt8) : Out := if fromB s = true then ⟨true, (parseS s s.length).1, (parseS s s.length).2.2⟩ else Out.no
theorem Txt.of {s : List UInt8} (h : fromB s = true) : Txt s (parseS s s.length).1 (parseS s s.length).2.2.length (parseS s s.length).2.2 := by
  obtain ⟨h1, h2⟩ := of_decide_eq_true h
  generalize parseS s s.length = p at *
  unfold textOf at h2
  split at h2
  · rename_i hv; exact ⟨Im.of hv rfl, by simpa using h2⟩
  · exact absurd h2.symm h1
theorem Txt.out {s : List UInt8} {W n : Nat} {xs : List Int} (h : Txt s W n xs) : fromOut s = ⟨true, W, xs⟩ := by
  have e := h.parse n (Nat.le_refl _)
  have l1 := h.1.l1
  rw [← h.len, if_neg (by omega), List.take_of_length_le (by rw [h.1.hl]; omega)] at e
  have hb : fromB s = true := by
    refine decide_eq_true ⟨fun e0 => ?_, ?_⟩
    · have h1 := h.len; have h2 := Nat.mul_pos (show 0 < n by omega) (show 0 < W + 1 by omega); rw [← h1, e0] at h2; exact absurd h2 (Nat.lt_irrefl 0)
    · rw [e]; unfold textOf; rw [if_pos h.1.valid, h.1.hl, Int.toNat_natCast]; exact h.2
  rw [fromOut, if_pos hb, e]
theorem from_no {s : List UInt8} (h : ∀ W n xs, ¬ Txt s W n xs) : fromOut s = Out.no := by
  rw [fromOut, if_neg fun hb => h _ _ _ (Txt.of hb)]
end Go.Proofs.Ytnfkafaolelkbaa

namespace Go.Proofs.Ytnfkafaolelkbaa
set_option maxRecDepth 100000
open Go.RowKit

def cntB (l : List UInt8) (c : UInt8) : Nat → Int
  | 0 => 0
  | i + 1 => cntB l c i + if l.getD i 0 = c then 1 else 0
theorem cntB_bd (l : List UInt8) (c : UInt8) (i : Nat) : 0 ≤ cntB l c i ∧ cntB l c i ≤ i := by
  induction i with
  | zero => simp [cntB]
  | succ i ih => simp only [cntB]; split <;> omega
theorem cntB_yes {l : List UInt8} {c : UInt8} {i : Nat} (h : l.getD i 0 = c) : cntB l c (i + 1) = cntB l c i + 1 := by simp only [cntB]; rw [if_pos h]
theorem cntB_no {l : List UInt8} {c : UInt8} {i : Nat} (h : l.getD i 0 ≠ c) : cntB l c (i + 1) = cntB l c i := by simp only [cntB]; rw [if_neg h, Int.add_zero]
theorem Txt.countIn {s : List UInt8} {W n : Nat} {xs : List Int} (h : Txt s W n xs) {k : Nat} (hk : k < n) : ∀ j, j ≤ W →
    cntB s 35 (k * (W + 1) + j) = cntB s 35 (k * (W + 1)) + cntI (xs.getD k 0) j ∧ cntB s 46 (k * (W + 1) + j) = cntB s 46 (k * (W + 1)) + (j - cntI (xs.getD k 0) j) := by
  intro j
  induction j with
  | zero => intro _; simp [cntI]
  | succ j ih =>
    intro hj
    have ih := ih (by omega)
    have hm := getD_some (h.mark hk (show j < W by omega))
    have hb := bit_01 (xs.getD k 0) j
    rw [← Nat.add_assoc]
    rcases mark_cases (bitI (xs.getD k 0) j) with ⟨e, hmk⟩ | ⟨e, hmk⟩
    · rw [hmk] at hm
      rw [cntB_yes hm, cntB_no (by rw [hm]; decide), ih.1, ih.2]
      simp only [cntI]; omega
    · rw [hmk] at hm
      rw [cntB_no (by rw [hm]; decide), cntB_yes hm, ih.1, ih.2]
      simp only [cntI]; omega
theorem Txt.count {s : List UInt8} {W n : Nat} {xs : List Int} (h : Txt s W n xs) : ∀ k, k ≤ n → cntB s 35 (k * (W + 1)) = manyI W xs k ∧ cntB s 46 (k * (W + 1)) = (k : Int) * W - manyI W xs k := by
  intro k
  induction k with
  | zero => intro _; simp [cntB, manyI]
  | succ k ih =>
    intro hk
    have ih := ih (by omega)
    have hi := h.countIn (show k < n by omega) W (Nat.le_refl _)
    have hm := getD_some (h.nl (show k < n by omega))
    rw [Nat.add_mul, Nat.one_mul, ← Nat.add_assoc, cntB_no (by rw [hm]; decide), cntB_no (by rw [hm]; decide), hi.1, hi.2, ih.1, ih.2]
    simp only [manyI]
    rw [Int.natCast_add, Int.natCast_one, Int.add_mul, Int.one_mul]
    generalize (k : Int) * W = q
    exact ⟨trivial, by omega⟩
theorem text_txt {W n : Nat} {xs : List Int} (h : Im W n xs) : Txt (textOf W xs) W n xs :=
  ⟨h, by unfold textOf; rw [if_pos h.valid, h.hl, Int.toNat_natCast]⟩
theorem Txt.ne {s : List UInt8} {W n : Nat} {xs : List Int} (h : Txt s W n xs) : s ≠ [] := by
  intro e
  have h1 := h.len
  have h2 := Nat.mul_pos (show 0 < n by have := h.1.l1; omega) (show 0 < W + 1 by omega)
  rw [← h1, e] at h2; exact absurd h2 (Nat.lt_irrefl 0)
theorem text_ext {W n : Nat} {xs ys : List Int} (h : ∀ i, i < n → xs.getD i 0 = ys.getD i 0) : textT W xs n = textT W ys n := by
  induction n with
  | zero => rfl
  | succ n ih => simp only [textT]; rw [ih (fun i hi => h i (by omega)), h n (by omega)]
theorem text_cut (W : Nat) (xs : List Int) (k m : Nat) : textT W xs (k + m) = textT W xs k ++ textT W (xs.drop k) m := by
  induction m with
  | zero => simp [textT]
  | succ m ih =>
    rw [← Nat.add_assoc]; simp only [textT]
    rw [ih, show (xs.drop k).getD m 0 = xs.getD (k + m) 0 by rw [List.getD_eq_getElem?_getD, List.getD_eq_getElem?_getD, List.getElem?_drop]]
    simp only [List.append_assoc]
theorem take_get {xs : List Int} {k i : Nat} (h : i < k) : (xs.take k).getD i 0 = xs.getD i 0 := by
  rw [List.getD_eq_getElem?_getD, List.getD_eq_getElem?_getD, List.getElem?_take_of_lt h]
theorem drop_get {xs : List Int} {k i : Nat} : (xs.drop k).getD i 0 = xs.getD (k + i) 0 := by
  rw [List.getD_eq_getElem?_getD, List.getD_eq_getElem?_getD, List.getElem?_drop]
theorem Im.take {W n : Nat} {xs : List Int} (h : Im W n xs) {k : Nat} (h1 : 1 ≤ k) (hk : k ≤ n) : Im W k (xs.take k) :=
  ⟨h.w1, h.w6, h1, by have := h.l6; omega, by rw [List.length_take, h.hl]; omega, fun i hi => by rw [take_get hi]; exact h.row i (by omega)⟩
theorem Im.drop {W n : Nat} {xs : List Int} (h : Im W n xs) {k : Nat} (hk : k < n) : Im W (n - k) (xs.drop k) :=
  ⟨h.w1, h.w6, by omega, by have := h.l6; omega, by rw [List.length_drop, h.hl], fun i hi => by rw [drop_get]; exact h.row _ (by omega)⟩
theorem Im.text {W n : Nat} {xs : List Int} (h : Im W n xs) : textOf W xs = textT W xs n := by
  unfold textOf; rw [if_pos h.valid, h.hl, Int.toNat_natCast]
theorem Im.text_parts {W n : Nat} {xs : List Int} (h : Im W n xs) {k : Nat} (h1 : 1 ≤ k) (hk : k < n) : textOf W (xs.take k) ++ textOf W (xs.drop k) = textOf W xs := by
  rw [(h.take h1 (by omega)).text, (h.drop hk).text, h.text, text_ext (xs := xs.take k) (ys := xs) (fun i hi => take_get hi)]
  have e := text_cut W xs k (n - k)
  rw [show k + (n - k) = n by omega] at e
  exact e.symm
theorem Row.part {w : World} {b off n : Nat} {xs : List Int} (h : Row w (some ⟨b, off, none⟩) n xs) {k : Nat} (hk : k ≤ n) : Row w (some ⟨b, off, none⟩) k (xs.take k) := by
  obtain ⟨h1, h2⟩ := h
  refine ⟨by rw [List.length_take, h1]; omega, ?_⟩
  by_cases h0 : k = 0
  · exact .inl h0
  · obtain ⟨b', off', e, hc⟩ := h2.resolve_left (by omega)
    cases e
    exact .inr ⟨b, off, rfl, fun i hi => by rw [take_get hi]; exact hc i (by omega)⟩
theorem Row.rest {w : World} {b off n : Nat} {xs : List Int} (h : Row w (some ⟨b, off, none⟩) n xs) {k : Nat} (hk : k ≤ n) : Row w (some ⟨b, off + k, none⟩) (n - k) (xs.drop k) := by
  obtain ⟨h1, h2⟩ := h
  refine ⟨by rw [List.length_drop, h1], ?_⟩
  by_cases h0 : n - k = 0
  · exact .inl h0
  · obtain ⟨b', off', e, hc⟩ := h2.resolve_left (by omega)
    cases e
    exact .inr ⟨b, off + k, rfl, fun i hi => by rw [drop_get, Nat.add_assoc]; exact hc _ (by omega)⟩
theorem Txt.last {s : List UInt8} {W n : Nat} {xs : List Int} (h : Txt s W n xs) : s[s.length - 1]? = some 10 := by
  have h1 := h.1.l1
  have e := h.nl (show n - 1 < n by omega)
  rw [h.len, show n * (W + 1) - 1 = (n - 1) * (W + 1) + W by rw [Nat.sub_mul]; have : 1 * (W + 1) ≤ n * (W + 1) := Nat.mul_le_mul_right _ h1; omega]
  exact e
theorem Txt.two {s : List UInt8} {W n : Nat} {xs : List Int} (h : Txt s W n xs) : 2 ≤ s.length := by
  have h1 := h.1.l1
  have h2 := h.1.w1
  have : 1 * (W + 1) ≤ n * (W + 1) := Nat.mul_le_mul_right _ h1
  rw [h.len]; omega
theorem Txt.cut {s : List UInt8} {W n : Nat} {xs : List Int} (h : Txt s W n xs) : fromOut (s.take (s.length - 1)) = Out.no := from_no fun W' n' xs' k => by
  have h1 := h.1.l1
  have h2 := h.1.w1
  have hlen := h.len
  have e1 := k.last
  have e2 := k.two
  have h3 : 1 * (W + 1) ≤ n * (W + 1) := Nat.mul_le_mul_right _ h1
  rw [List.length_take] at e1 e2
  rw [List.getElem?_take_of_lt (by omega)] at e1
  have hm := h.mark (show n - 1 < n by omega) (show W - 1 < W by omega)
  have e3 : (n - 1) * (W + 1) = n * (W + 1) - (W + 1) := by rw [Nat.sub_mul, Nat.one_mul]
  rw [show (n - 1) * (W + 1) + (W - 1) = min (s.length - 1) s.length - 1 by rw [e3]; omega, e1] at hm
  exact mark_ne _ (Option.some.inj hm).symm
theorem Txt.more {s : List UInt8} : fromOut (s ++ [32]) = Out.no := from_no fun W' n' xs' k => by
  have e1 := k.last
  rw [List.length_append, List.length_singleton, Nat.add_sub_cancel, List.getElem?_append_right (Nat.le_refl _), Nat.sub_self] at e1
  simp at e1
theorem area_wrap {n W t : Nat} (h : t = n * (W + 1)) (hb : t ≤ 42) : wrap64 ((n : Int) * ((W : Int) + 1)) = t := by
  have e : (n : Int) * ((W : Int) + 1) = (t : Int) := by rw [h]; simp
  rw [e]; unfold wrap64; omega
end Go.Proofs.Ytnfkafaolelkbaa

namespace Go.Proofs.Ytnfkafaolelkbaa
set_option maxRecDepth 100000
open Go.RowKit

def okL (l : List UInt8) : Nat → Bool
  | 0 => true
  | k + 1 => okL l k && (l.getD k 0 == 35 || l.getD k 0 == 46)
theorem okL_iff {l : List UInt8} {k : Nat} : okL l k = true ↔ ∀ j, j < k → l.getD j 0 = 35 ∨ l.getD j 0 = 46 := by
  induction k with
  | zero => simp [okL]
  | succ k ih =>
    simp only [okL, Bool.and_eq_true, Bool.or_eq_true, beq_iff_eq, ih]
    constructor
    · rintro ⟨h1, h2⟩ j hj
      by_cases e : j = k
      · subst e; exact h2
      · exact h1 j (by omega)
    · intro h; exact ⟨fun j hj => h j (by omega), h k (by omega)⟩
theorem okL_no {l : List UInt8} {k n : Nat} (hk : k < n) (h1 : l.getD k 0 ≠ 35) (h2 : l.getD k 0 ≠ 46) : okL l n = false := by
  rw [Bool.eq_false_iff]; intro h
  rcases okL_iff.1 h k hk with e | e
  · exact h1 e
  · exact h2 e
theorem byte_get {s : ByteArray} {k : Nat} (h : k < s.size) : s.data.toList.getD k 0 = s[k] := by
  rw [List.getD_eq_getElem?_getD, List.getElem?_eq_getElem (by simpa using h)]; rfl
theorem orsh_nat : ∀ j, j < 6 → ∀ n, n < 64 → ((n : Nat) : Int) ≤ pw j - 1 → bits BinOp.or IntKind.i64 ((n : Nat) : Int) (wrap64 (2 ^ j)) = (n : Int) + pw j := by decide +kernel
theorem orsh_num {j : Nat} {x : Int} (hj : j < 6) (h0 : 0 ≤ x) (h1 : x ≤ pw j - 1) : bits BinOp.or IntKind.i64 x (wrap64 (2 ^ j)) = x + pw j := by
  have := pw_63 (show j ≤ 6 by omega)
  obtain ⟨n, rfl⟩ := Int.eq_ofNat_of_zero_le h0
  exact orsh_nat j hj n (by omega) h1

theorem u8_eq {c m : UInt8} (h : ((c.toNat : Int) == (m.toNat : Int)) = true) : c = m := by
  rw [beq_iff_eq] at h; exact UInt8.toNat_inj.1 (by omega)
theorem u8_ne {c m : UInt8} (h : ((c.toNat : Int) == (m.toNat : Int)) = false) : c ≠ m := by
  intro e; subst e; simp at h
def rowRes (l : List UInt8) (k : Nat) : Int := if okL l k = true then rowV l k else 0
theorem rowRes_no {l : List UInt8} {k : Nat} (h : okL l k = false) : rowRes l k = 0 := by simp [rowRes, h]

end Go.Proofs.Ytnfkafaolelkbaa

namespace Go.Proofs.Ytnfkafaolelkbaa
set_option maxRecDepth 100000
open Go.RowKit

theorem len_of (s : ByteArray) : s.data.toList.length = s.size := by simp
theorem txt_div {l : List UInt8} {W n : Nat} {xs : List Int} (h : Txt l W n xs) : Lib.indexByte l 10 = W ∧ 1 ≤ W ∧ W ≤ 6 ∧ l.length = n * (W + 1) ∧ 1 ≤ n ∧ n ≤ 6 := ⟨h.index, h.1.w1, h.1.w6, h.len, h.1.l1, h.1.l6⟩

theorem ext_line (s : ByteArray) (q w : Nat) : (s.extract q (q + w)).data.toList = (s.data.toList.drop q).take w := by
  rw [ByteArray.data_extract, Array.toList_extract]
  simp [List.extract_eq_take_drop]
theorem ext_size {s : ByteArray} {q w : Nat} (h : q + w ≤ s.size) : (s.extract q (q + w)).size = w := by rw [ByteArray.size_extract]; omega
theorem good_step {l : List UInt8} {w k q : Nat} (hq : k * (w + 1) = q) (hg : goodL l w k) (ho : okL (lineL l w k) w = true) (hn : l.getD (q + w) 0 = 10) : goodL l w (k + 1) := by
  intro i hi
  by_cases e : i = k
  · subst e; rw [hq]; exact ⟨fun j hj => by have := okL_iff.1 ho j hj; rwa [line_get hj, hq] at this, hn⟩
  · exact hg i (by omega)
theorem good_bad {l : List UInt8} {w k n q : Nat} (hq : k * (w + 1) = q) (hk : k < n) (h : okL (lineL l w k) w = false ∨ l.getD (q + w) 0 ≠ 10) : ¬ goodL l w n := by
  intro hg
  have hg := hg k hk
  rcases h with h | h
  · have : okL (lineL l w k) w = true := okL_iff.2 fun j hj => by rw [line_get hj]; exact hg.1 j hj
    rw [this] at h; cases h
  · rw [hq] at hg; exact h hg.2
theorem read_snoc (l : List UInt8) (w k : Nat) : readL l w (k + 1) = readL l w k ++ [rowV (lineL l w k) w] := by
  simp [readL, rowsL, List.range_succ]

/-- The middle of the walk: the result's box, the image's box with the rows so far. -/
structure Fs (B : Nat) (w wr : World) (W : Int) (a : Option Addr) (k cap : Nat) (xs : List Int) : Prop where
  c0 : wr.cell? ⟨B, 0, none⟩ = some (.int .i64 0)
  c1 : wr.cell? ⟨B, 1, none⟩ = some (.slice none 0 0)
  cf : ∀ o, wr.frozen? ⟨B, o, none⟩ = false
  d0 : wr.cell? ⟨B + 1, 0, none⟩ = some (.int .i64 W)
  d1 : wr.cell? ⟨B + 1, 1, none⟩ = some (.slice a k cap)
  df : ∀ o, wr.frozen? ⟨B + 1, o, none⟩ = false
  own : OwnI wr (B + 2) a k cap xs
  bel : Below B w wr

theorem Fs.blk {B : Nat} {w wr w1 : World} {W : Int} {a : Option Addr} {k cap : Nat} {xs : List Int} {o : Obj} (h : Fs B w wr W a k cap xs) (hg : (wr.alloc o).grownBy w1 (Value.slice a k cap).ownBlock) {b : Nat} (hb : b < B + 2) (hs : b < wr.heap.size) : w1.heap[b]? = wr.heap[b]? := by
  rw [hg.block b (by simp; omega) ?_, ((Below.refl _ _).alloc (Nat.le_refl _) o).block b hs]
  rcases h.own.cases with ⟨rfl, _, _⟩ | ⟨g, rfl, h2, _⟩
  · simp [Value.ownBlock]
  · simp [Value.ownBlock]; omega
theorem Fs.cell {B : Nat} {w wr w1 : World} {W : Int} {a : Option Addr} {k cap : Nat} {xs : List Int} {o : Obj} (h : Fs B w wr W a k cap xs) (hg : (wr.alloc o).grownBy w1 (Value.slice a k cap).ownBlock) {b i : Nat} {v : Value} (hb : b < B + 2) (hv : wr.cell? ⟨b, i, none⟩ = some v) : w1.cell? ⟨b, i, none⟩ = some v := by
  rw [World.cell?_of_block (h.blk hg hb (block_lt hv))]; exact hv
theorem Fs.froz {B : Nat} {w wr w1 : World} {W : Int} {a : Option Addr} {k cap : Nat} {xs : List Int} {o : Obj} (h : Fs B w wr W a k cap xs) (hg : (wr.alloc o).grownBy w1 (Value.slice a k cap).ownBlock) {b : Nat} (hb : b < B + 2) (hs : b < wr.heap.size) (hv : ∀ i, wr.frozen? ⟨b, i, none⟩ = false) : ∀ i, w1.frozen? ⟨b, i, none⟩ = false := fun i => by
  rw [World.frozen?_of_block (h.blk hg hb hs)]; exact hv i
theorem Fs.app {B : Nat} {w wr w1 : World} {W : Int} {a a' : Option Addr} {k cap cap' : Nat} {xs ys : List Int} {o : Obj} (h : Fs B w wr W a k cap xs) (hg : (wr.alloc o).grownBy w1 (Value.slice a k cap).ownBlock) (ho : OwnI w1 (B + 2) a' (k + 1) cap' ys) :
    Fs B w (w1.setCell ⟨B + 1, 1, none⟩ (.slice a' (k + 1) cap')) W a' (k + 1) cap' ys := by
  have hs1 : B + 1 < wr.heap.size := block_lt h.d0
  have hs0 : B < wr.heap.size := by omega
  have c0 := h.cell hg (by omega) h.c0
  have c1 := h.cell hg (by omega) h.c1
  have d0 := h.cell hg (by omega) h.d0
  have d1 := h.cell hg (by omega) h.d1
  have cf := h.froz hg (b := B) (by omega) hs0 h.cf
  have df := h.froz hg (b := B + 1) (by omega) hs1 h.df
  have hb : Below B w w1 := (h.bel.alloc (by omega) o).grown hg (by simp; omega) (fun g hg => by
    rcases h.own.cases with ⟨rfl, _, _⟩ | ⟨g', rfl, h2, _⟩
    · cases hg
    · simp [Value.ownBlock] at hg; omega)
  exact ⟨by go_simp, by go_simp, fun i => by rw [World.frozen?_setCell]; exact cf i, by go_simp, by go_simp, fun i => by rw [World.frozen?_setCell]; exact df i, ho.store (by simp) _, hb.setCell (by simp) _⟩

end Go.Proofs.Ytnfkafaolelkbaa

namespace Go.Proofs.Ytnfkafaolelkbaa
set_option maxRecDepth 100000
open Go.RowKit

theorem wpList_append_lies {P : Program} {w : World} {ops : Array Oper} {rest : List Oper} {o : Oper} {a : Act} {Q : Exit → Act → World → Prop} (hgd : o.guard = none) (s x : Operand) (t : TypeId)
    (ho : o.op = .call { callee := .builtin .append, args := #[s, x], argTypes := #[t, t] })
    (base : Nat) (e : TypeId) (i : TypeInfo) (z : Value) (size bytes : Nat) (ht : P.underlying t = some (.slice e)) (hi : P.info? e = some i) (hz : i.zero = some z)
    (hsize : i.size = size) (hby : i.bytes = bytes) (hzs : z.cells.size = size) (hsz : 0 < size)
    (v : Value) (n : Nat) (xs : List Value) (hs : a.eval s = v) (hown : w.ownsRow base e size v n xs)
    (ad : Addr) (m c : Nat) (news : List Value) (hx : a.eval x = .slice (some ad) m c) (hl : news.length = m * size) (hnews : ∀ j u, news[j]? = some u → w.cell? (ad.add j) = some u) (h1 : ∀ u ∈ news, u.oneCell' = true)
    (hm : 0 < m) (h63 : n + m ≤ maxLen) (hbytes : (n + m) * bytes ≤ 140737488355328) (hbase : base ≤ w.heap.size)
    (h : ∀ g cap w', w'.ownsRow base e size (.slice (some ⟨g, 0, none⟩) (n + m) cap) (n + m) (xs ++ news) → w.grownBy w' v.ownBlock → (v.ownBlock = some g ∨ g = w.heap.size) → wpList P ops Q rest (a.put o.dst (.slice (some ⟨g, 0, none⟩) (n + m) cap)) w') : wpList P ops Q (o :: rest) a w :=
  wpList_plain hgd fun _ hK => wp_append_lies w s x t ho base e i z size bytes ht hi hz hsize hby hzs hsz v n xs hs hown ad m c news hx hl hnews h1 hm h63 hbytes hbase w.heap.size rfl fun g cap w' h2 h3 h4 _ => hK _ _ (h g cap w' h2 h3 h4)

/-- The middle of the walk: the result's box, the image's box with the rows so far. -/
structure Fq (B : Nat) (w wr : World) (W : Int) (g k cap : Nat) (xs : List Int) : Prop where
  c0 : wr.cell? ⟨B, 0, none⟩ = some (.int .i64 0)
  c1 : wr.cell? ⟨B, 1, none⟩ = some (.slice none 0 0)
  cf : ∀ o, wr.frozen? ⟨B, o, none⟩ = false
  d0 : wr.cell? ⟨B + 2, 0, none⟩ = some (.int .i64 W)
  d1 : wr.cell? ⟨B + 2, 1, none⟩ = some (.slice (some ⟨g, 0, none⟩) k cap)
  df : ∀ o, wr.frozen? ⟨B + 2, o, none⟩ = false
  own : OwnI wr (B + 1) (some ⟨g, 0, none⟩) k cap xs
  ne : g ≠ B + 2
  bel : Below B w wr
theorem Fq.ge {B : Nat} {w wr : World} {W : Int} {g k cap : Nat} {xs : List Int} (h : Fq B w wr W g k cap xs) : B + 1 ≤ g := by
  rcases h.own.cases with ⟨e, _⟩ | ⟨g', e, h2, _⟩
  · cases e
  · simp only [Option.some.injEq, Addr.mk.injEq, and_true] at e; omega
theorem Fq.same {B : Nat} {w wr w1 : World} {W : Int} {g k cap : Nat} {xs : List Int} (h : Fq B w wr W g k cap xs) (hg : wr.grownBy w1 (some g)) {b : Nat} (hb : b = B ∨ b = B + 2) : (∀ i v, wr.cell? ⟨b, i, none⟩ = some v → w1.cell? ⟨b, i, none⟩ = some v) ∧ ∀ i, wr.frozen? ⟨b, i, none⟩ = false → w1.frozen? ⟨b, i, none⟩ = false := by
  have hs : b < wr.heap.size := by
    have h1 : B < wr.heap.size := block_lt h.c0
    have h2 : B + 2 < wr.heap.size := block_lt h.d0
    omega
  have hge := h.ge
  have hne := h.ne
  have e : w1.heap[b]? = wr.heap[b]? := hg.block b hs (by simp; omega)
  exact ⟨fun i v hv => by rw [World.cell?_of_block e]; exact hv, fun i hv => by rw [World.frozen?_of_block e]; exact hv⟩
theorem Fq.app {B : Nat} {w wr w1 : World} {W : Int} {g g' k cap cap' : Nat} {xs ys : List Int} (h : Fq B w wr W g k cap xs) (hg : wr.grownBy w1 (some g)) (ho : OwnI w1 (B + 1) (some ⟨g', 0, none⟩) (k + 1) cap' ys) (hn : g' ≠ B + 2) :
    Fq B w (w1.setCell ⟨B + 2, 1, none⟩ (.slice (some ⟨g', 0, none⟩) (k + 1) cap')) W g' (k + 1) cap' ys := by
  have c0 := (h.same hg (.inl rfl)).1 _ _ h.c0
  have c1 := (h.same hg (.inl rfl)).1 _ _ h.c1
  have d0 := (h.same hg (.inr rfl)).1 _ _ h.d0
  have d1 := (h.same hg (.inr rfl)).1 _ _ h.d1
  have cf := fun i => (h.same hg (.inl rfl)).2 i (h.cf i)
  have df := fun i => (h.same hg (.inr rfl)).2 i (h.df i)
  have hge := h.ge
  have hs : B + 2 < wr.heap.size := block_lt h.d0
  have hb : Below B w w1 := h.bel.grown hg (by omega) (fun k hk => by cases hk; omega)
  refine ⟨?_, ?_, fun i => by rw [World.frozen?_setCell]; exact cf i, ?_, ?_, fun i => by rw [World.frozen?_setCell]; exact df i, ?_, hn, hb.setCell (by simp) _⟩
  · rw [World.cell?_setCell_other _ _ _ _ (by simp)]; exact c0
  · rw [World.cell?_setCell_other _ _ _ _ (by simp)]; exact c1
  · rw [World.cell?_setCell_other _ _ _ _ (by simp)]; exact d0
  · exact World.cell?_setCell_same _ _ _ d1
  · refine World.ownsRow.kept ho (row := some (B + 2)) ⟨rfl, rfl, rfl, by simp [World.setCell], fun k _ hk => Below.heap_setCell _ _ _ _ (fun e => hk (by rw [e]))⟩ ?_
    right; simp [Value.ownBlock]; exact hn
theorem Fq.setW {B : Nat} {w wr : World} {W : Int} {g k cap : Nat} {xs : List Int} (h : Fq B w wr W g k cap xs) (W' : Int) : Fq B w (wr.setCell ⟨B + 2, 0, none⟩ (.int .i64 W')) W' g k cap xs := by
  refine ⟨?_, ?_, fun i => by rw [World.frozen?_setCell]; exact h.cf i, ?_, ?_, fun i => by rw [World.frozen?_setCell]; exact h.df i, ?_, h.ne, h.bel.setCell (by simp) _⟩
  · rw [World.cell?_setCell_other _ _ _ _ (by simp)]; exact h.c0
  · rw [World.cell?_setCell_other _ _ _ _ (by simp)]; exact h.c1
  · exact World.cell?_setCell_same _ _ _ h.d0
  · rw [World.cell?_setCell_other _ _ _ _ (by simp)]; exact h.d1
  · refine World.ownsRow.kept h.own (row := some (B + 2)) ⟨rfl, rfl, rfl, by simp [World.setCell], fun k _ hk => Below.heap_setCell _ _ _ _ (fun e => hk (by rw [e]))⟩ ?_
    right; simp [Value.ownBlock]; exact h.ne
theorem Fq.move {B : Nat} {w wr w1 : World} {W : Int} {g k cap : Nat} {xs : List Int} (h : Fq B w wr W g k cap xs) (hb : Below wr.heap.size wr w1) : Fq B w w1 W g k cap xs := by
  have hg := below_grown hb (some g)
  have hs : B + 2 < wr.heap.size := block_lt h.d0
  exact ⟨(h.same hg (.inl rfl)).1 _ _ h.c0, (h.same hg (.inl rfl)).1 _ _ h.c1, fun i => (h.same hg (.inl rfl)).2 i (h.cf i), (h.same hg (.inr rfl)).1 _ _ h.d0, (h.same hg (.inr rfl)).1 _ _ h.d1, fun i => (h.same hg (.inr rfl)).2 i (h.df i), h.own.bel hb, h.ne, h.bel.trans (hb.mono (by omega))⟩

theorem news_one (w : World) (v : Value) (N : Nat) (hN : w.heap.size = N) : ∀ j u, [v][j]? = some u → (w.alloc (.cells #[v] 3)).cell? ((⟨N, 0, none⟩ : Addr).add j) = some u := by
  intro j u hj
  subst hN
  cases j with
  | zero => simp at hj; subst hj; simp [Addr.add]
  | succ j => simp at hj

theorem one_int (x : Int) : ∀ u ∈ [Value.int .i64 x], u.oneCell' = true := by intro u hu; simp at hu; subst hu; rfl
theorem ext_list (s : ByteArray) (q k : Nat) : (s.extract q k).data.toList = (s.data.toList.drop q).take (k - q) := by
  rw [ByteArray.data_extract, Array.toList_extract]
theorem Fq.behind {B : Nat} {w W0 w1 : World} {W x : Int} {g g' k cap cap' : Nat} {xs : List Int} {o : Obj} (h : Fq B w W0 W g k cap xs) (hown1 : w1.ownsRow (B + 1) 3 1 (.slice (some ⟨g', 0, none⟩) (k + 1) cap') (k + 1) (xs.map (Value.int .i64) ++ [.int .i64 x]))
    (hgrow : (W0.drew.alloc o).grownBy w1 (Value.slice (some ⟨g, 0, none⟩) k cap).ownBlock) (hat : (Value.slice (some ⟨g, 0, none⟩) k cap).ownBlock = some g' ∨ g' = W0.heap.size + 1) :
    w1.cell? ⟨B + 2, 1, none⟩ = some (.slice (some ⟨g, 0, none⟩) k cap) ∧ (∀ o, w1.frozen? ⟨B + 2, o, none⟩ = false) ∧ Hid (Fq B w (w1.setCell ⟨B + 2, 1, none⟩ (.slice (some ⟨g', 0, none⟩) (k + 1) cap')) W g' (k + 1) cap' (xs ++ [x])) := by
  have hm := h.move ((Below.refl _ _).drew.alloc (by simp) o)
  have hs : B + 2 < W0.heap.size := block_lt h.d0
  have hne := h.ne
  refine ⟨(hm.same hgrow (.inr rfl)).1 _ _ hm.d1, fun i => (hm.same hgrow (.inr rfl)).2 i (hm.df i), hm.app hgrow ?_ ?_⟩
  · show w1.ownsRow _ _ _ _ _ ((xs ++ [x]).map _); rw [List.map_append]; exact hown1
  · rcases hat with e | e
    · simp only [Value.ownBlock, Option.some.injEq] at e; omega
    · omega

theorem from_yes {l : List UInt8} {n p1 p2 : Nat} {p3 : List Int} (hn : l.length = n) (hp : parseS l n = (p1, p2, p3)) (he : l ≠ []) (ht : textOf p1 p3 = l) : fromOut l = ⟨true, p1, p3⟩ := by
  subst hn; simp [fromOut, fromB, hp, he, ht]
theorem from_not {l : List UInt8} {n p1 p2 : Nat} {p3 : List Int} (hn : l.length = n) (hp : parseS l n = (p1, p2, p3)) (ht : textOf p1 p3 ≠ l) : fromOut l = Out.no := by
  subst hn; simp [fromOut, fromB, hp, ht]

end Go.Proofs.Ytnfkafaolelkbaa

namespace Go.Proofs.Ytnfkafaolelkbaa
set_option maxRecDepth 100000
open Go.RowKit

/-- What l91At leaves. -/
def DrawsA (w : World) (r : Nat) (a : Option Addr) (len cap : Nat) (zs : List Int) (p : Nat) (e : Ending) (w' : World) : Prop :=
  ∃ (W : Int) (s : Option Addr) (n cg : Nat) (xs : List Int) (i j : Int), e = .returned (.tuple #[.agg #[.int .i64 W, .slice s n cg], .int .i64 i, .int .i64 j]) ∧ Row w' s n xs ∧ (n ≤ 6 ∧ n ≤ cg) ∧ w.grownBy w' (some r) ∧ (∀ b off, s = some ⟨b, off, none⟩ → 0 < n → w.heap.size ≤ b) ∧ ∃ p', p' ≤ p + 40 ∧ Rd w' r a len cap zs p'

/-- The middle of the walk: the result's box, the image's box, the reader. -/
structure At (w wr : World) (kb r : Nat) (W : Int) (s : Option Addr) (n cg : Nat) (xs : List Int) (a : Option Addr) (len cap : Nat) (zs : List Int) (p : Nat) : Prop where
  zb : Box wr w.heap.size (.int .i64 0) (.slice none 0 0)
  bo : Box wr kb (.int .i64 W) (.slice s n cg)
  row : Row wr s n xs
  rd : Rd wr r a len cap zs p
  gr : w.grownBy wr (some r)
  src : ∀ b off, s = some ⟨b, off, none⟩ → 0 < n → w.heap.size < b
  hk : w.heap.size < kb
  hr : r < w.heap.size
  far : ∀ b off, a = some ⟨b, off, none⟩ → 0 < len → b < w.heap.size
theorem At.pick {w wr w1 : World} {kb r : Nat} {W : Int} {s : Option Addr} {n cg : Nat} {xs : List Int} {a : Option Addr} {len cap : Nat} {zs : List Int} {p p' : Nat} (h : At w wr kb r W s n cg xs a len cap zs p) (hr : Rd w1 r a len cap zs p') (hg : wr.grownBy w1 (some r)) : At w w1 kb r W s n cg xs a len cap zs p' := by
  have n1 := h.hr
  have n2 := h.hk
  exact ⟨h.zb.grown hg (by omega), h.bo.grown hg (by omega), h.row.apart hg (fun b off e hl => by have := h.src b off e hl; simp; omega), hr, grown_trans h.gr hg, h.src, h.hk, h.hr, h.far⟩
theorem At.bel {w wr w1 : World} {kb r : Nat} {W : Int} {s : Option Addr} {n cg : Nat} {xs : List Int} {a : Option Addr} {len cap : Nat} {zs : List Int} {p : Nat} (h : At w wr kb r W s n cg xs a len cap zs p) (hb : Below wr.heap.size wr w1) : At w w1 kb r W s n cg xs a len cap zs p :=
  ⟨h.zb.bel hb, h.bo.bel hb, h.row.bel hb, h.rd.bel hb, grown_trans h.gr (below_grown hb _), h.src, h.hk, h.hr, h.far⟩
theorem At.out {w wr : World} {kb r : Nat} {W : Int} {s : Option Addr} {n cg : Nat} {xs : List Int} {a : Option Addr} {len cap : Nat} {zs : List Int} {p p0 : Nat} {v0 v1 : Value} (h : At w wr kb r W s n cg xs a len cap zs p) (hn : n ≤ 6 ∧ n ≤ cg) (hp : p ≤ p0 + 40) (i j : Int) :
    DrawsA w r a len cap zs p0 (.returned (.tuple #[.agg #[.int .i64 W, .slice s n cg], .int .i64 i, .int .i64 j])) ((wr.setCell ⟨w.heap.size, 0, none⟩ v0).setCell ⟨w.heap.size, 1, none⟩ v1) := by
  have n1 := h.hr
  refine ⟨W, s, n, cg, xs, i, j, rfl, h.row.apart (grown_set (grown_set (World.grownBy.refl _ (some w.heap.size)))) (fun b off e hl => by have := h.src b off e hl; simp; omega), hn, grown_then h.gr (((Below.refl _ _).setCell (by simp) _).setCell (by simp) _), fun b off e hl => by have := h.src b off e hl; omega, p, hp, ?_⟩
  exact (h.rd.apart (grown_set (World.grownBy.refl _ _)) (by omega) (fun b off e hl => by have := h.far b off e hl; omega)).apart (grown_set (World.grownBy.refl _ _)) (by omega) (fun b off e hl => by have := h.far b off e hl; omega)

theorem DrawsA.bel {w w1 w2 : World} {r : Nat} {a : Option Addr} {len cap : Nat} {zs : List Int} {p : Nat} {e : Ending} (h : DrawsA w r a len cap zs p e w1) (hb : Below w1.heap.size w1 w2) : DrawsA w r a len cap zs p e w2 := by
  obtain ⟨W, s, n, cg, xs, i, j, rfl, h1, h2, h3, h4, q, h5, h6⟩ := h
  exact ⟨W, s, n, cg, xs, i, j, rfl, h1.bel hb, h2, grown_trans h3 (below_grown hb _), h4, q, h5, h6.bel hb⟩
theorem pickV_bd {w : World} {r : Nat} {a : Option Addr} {len cap : Nat} {zs : List Int} {p : Nat} {n : Int} (h : Rd w r a len cap zs p) (hp : p ≤ 100000) : 0 ≤ pickV zs len p n ∧ (pickV zs len p n < n ∨ pickV zs len p n = 0) := by
  unfold pickV
  by_cases h1 : n < 1
  · rw [if_pos h1]; omega
  by_cases h2 : len = 0
  · rw [if_neg h1, if_pos h2]; omega
  rw [if_neg h1, if_neg h2]
  by_cases h3 : p < len
  · rw [if_pos h3]
    exact ⟨Int.emod_nonneg _ (by omega), .inl (Int.emod_lt_of_pos _ (by omega))⟩
  rw [if_neg h3]
  have small := h.small
  rcases h.bys with h0 | ⟨b, off, _, hc⟩
  · exact absurd h0 h2
  obtain ⟨_, hx0, hx1⟩ := hc (p % len) (Nat.mod_lt _ (by omega))
  obtain ⟨_, hy0, hy1⟩ := hc ((p * 7 + 3) % len) (Nat.mod_lt _ (by omega))
  have hq : p / len ≤ p := Nat.div_le_self _ _
  generalize zs.getD (p % len) 0 = x at *
  generalize zs.getD ((p * 7 + 3) % len) 0 = y at *
  generalize p / len = d at *
  have b1 : 0 ≤ x * 131 + y * 1117 + (p : Int) * 29 + (d : Int) * 53 := by omega
  have b2 : x * 131 + y * 1117 + (p : Int) * 29 + (d : Int) * 53 ≤ 1000000000 := by omega
  have hxp := xor_pos b1 b2
  rw [Int.tmod_eq_emod_of_nonneg hxp]
  exact ⟨Int.emod_nonneg _ (by omega), .inl (Int.emod_lt_of_pos _ (by omega))⟩

end Go.Proofs.Ytnfkafaolelkbaa

namespace Go.Proofs.Ytnfkafaolelkbaa
set_option maxRecDepth 100000
open Go.RowKit

def DrawnA (w : World) (e : Ending) (w' : World) : Prop :=
  ∃ (W : Int) (s : Option Addr) (n cg : Nat) (xs : List Int) (i j : Int), e = .returned (.tuple #[.agg #[.int .i64 W, .slice s n cg], .int .i64 i, .int .i64 j]) ∧ Row w' s n xs ∧ (n ≤ 6 ∧ n ≤ cg) ∧ Below w.heap.size w w'
def DrawnP (w : World) (e : Ending) (w' : World) : Prop :=
  ∃ (W : Int) (s : Option Addr) (n cg : Nat) (xs : List Int) (i j : Int) (set : Bool), e = .returned (.tuple #[.agg #[.int .i64 W, .slice s n cg], .int .i64 i, .int .i64 j, .bool set]) ∧ Row w' s n xs ∧ (n ≤ 6 ∧ n ≤ cg) ∧ Below w.heap.size w w'

def DrawnV (w : World) (e : Ending) (w' : World) : Prop :=
  ∃ (W : Int) (s : Option Addr) (n cg : Nat) (xs : List Int), e = .returned (.agg #[.int .i64 W, .slice s n cg]) ∧ Row w' s n xs ∧ (n ≤ 10 ∧ n ≤ cg) ∧ Below w.heap.size w w'
theorem own_ne {w : World} {B n c k : Nat} {s : Option Addr} {xs : List Int} (h : OwnI w B s n c xs) (hk : k < B ∨ w.heap.size ≤ k) : some k ≠ (Value.slice s n c).ownBlock := by
  rcases h.cases with ⟨rfl, _⟩ | ⟨g, rfl, h1, h2⟩
  · simp [Value.ownBlock]
  · simp [Value.ownBlock]; omega

end Go.Proofs.Ytnfkafaolelkbaa

namespace Go.Proofs.Ytnfkafaolelkbaa
set_option maxRecDepth 100000
open Go.RowKit

def SmallS (w : World) (b n : Nat) : Prop := ∀ i, i < n → ∃ s : ByteArray, w.cell? ⟨b, i, none⟩ = some (.string s) ∧ s.size ≤ 100
def PicksS (w : World) (r : Nat) (a : Option Addr) (len cap : Nat) (zs : List Int) (p : Nat) (e : Ending) (w' : World) : Prop :=
  ∃ s : ByteArray, e = .returned (.string s) ∧ s.size ≤ 100 ∧ Rd w' r a len cap zs (p + 1) ∧ w.grownBy w' (some r)
def DrawnTx (w : World) (e : Ending) (w' : World) : Prop := ∃ s : ByteArray, e = .returned (.string s) ∧ s.size ≤ 1000 ∧ Below w.heap.size w w'

end Go.Proofs.Ytnfkafaolelkbaa
