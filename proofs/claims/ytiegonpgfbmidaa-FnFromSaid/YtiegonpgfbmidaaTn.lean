/-
  Plain facts on the numbers of marks in texts of images.
-/
import Derived.Test.YtiegonpgfbmidaaTm
namespace Go.Proofs.Ytiegonpgfbmidaa
open Go.RowKit

def cntB (l : List UInt8) (c : UInt8) : Nat → Int
  | 0 => 0
  | i + 1 => cntB l c i + if l.getD i 0 = c then 1 else 0
theorem cntB_bd (l : List UInt8) (c : UInt8) (i : Nat) : 0 ≤ cntB l c i ∧ cntB l c i ≤ i := by
  induction i with
  | zero => simp [cntB]
  | succ i ih => simp only [cntB]; split <;> omega
theorem cntB_yes {l : List UInt8} {c : UInt8} {i : Nat} (h : l.getD i 0 = c) : cntB l c (i + 1) = cntB l c i + 1 := by simp only [cntB]; rw [if_pos h]
theorem cntB_no {l : List UInt8} {c : UInt8} {i : Nat} (h : l.getD i 0 ≠ c) : cntB l c (i + 1) = cntB l c i := by simp only [cntB]; rw [if_neg h, Int.add_zero]
theorem Txt.countIn {s : List UInt8} {W n : Nat} {xs : List Int} (h : Txt s W n xs) {k : Nat} (hk : k < n) : ∀ j, j ≤ W →
    cntB s 35 (k * (W + 1) + j) = cntB s 35 (k * (W + 1)) + cntI (xs.getD k 0) j ∧ cntB s 46 (k * (W + 1) + j) = cntB s 46 (k * (W + 1)) + (j - cntI (xs.getD k 0) j) := by
  intro j
  induction j with
  | zero => intro _; simp [cntI]
  | succ j ih =>
    intro hj
    have ih := ih (by omega)
    have hm := getD_some (h.mark hk (show j < W by omega))
    have hb := bit_01 (xs.getD k 0) j
    rw [← Nat.add_assoc]
    rcases mark_cases (bitI (xs.getD k 0) j) with ⟨e, hmk⟩ | ⟨e, hmk⟩
    · rw [hmk] at hm
      rw [cntB_yes hm, cntB_no (by rw [hm]; decide), ih.1, ih.2]
      simp only [cntI]; omega
    · rw [hmk] at hm
      rw [cntB_no (by rw [hm]; decide), cntB_yes hm, ih.1, ih.2]
      simp only [cntI]; omega
theorem Txt.count {s : List UInt8} {W n : Nat} {xs : List Int} (h : Txt s W n xs) : ∀ k, k ≤ n → cntB s 35 (k * (W + 1)) = manyI W xs k ∧ cntB s 46 (k * (W + 1)) = (k : Int) * W - manyI W xs k := by
  intro k
  induction k with
  | zero => intro _; simp [cntB, manyI]
  | succ k ih =>
    intro hk
    have ih := ih (by omega)
    have hi := h.countIn (show k < n by omega) W (Nat.le_refl _)
    have hm := getD_some (h.nl (show k < n by omega))
    rw [Nat.add_mul, Nat.one_mul, ← Nat.add_assoc, cntB_no (by rw [hm]; decide), cntB_no (by rw [hm]; decide), hi.1, hi.2, ih.1, ih.2]
    simp only [manyI]
    rw [Int.natCast_add, Int.natCast_one, Int.add_mul, Int.one_mul]
    generalize (k : Int) * W = q
    exact ⟨trivial, by omega⟩
theorem text_txt {W n : Nat} {xs : List Int} (h : Im W n xs) : Txt (textOf W xs) W n xs :=
  ⟨h, by unfold textOf; rw [if_pos h.valid, h.hl, Int.toNat_natCast]⟩
theorem Txt.ne {s : List UInt8} {W n : Nat} {xs : List Int} (h : Txt s W n xs) : s ≠ [] := by
  intro e
  have h1 := h.len
  have h2 := Nat.mul_pos (show 0 < n by have := h.1.l1; omega) (show 0 < W + 1 by omega)
  rw [← h1, e] at h2; exact absurd h2 (Nat.lt_irrefl 0)
theorem text_ext {W n : Nat} {xs ys : List Int} (h : ∀ i, i < n → xs.getD i 0 = ys.getD i 0) : textT W xs n = textT W ys n := by
  induction n with
  | zero => rfl
  | succ n ih => simp only [textT]; rw [ih (fun i hi => h i (by omega)), h n (by omega)]
theorem text_cut (W : Nat) (xs : List Int) (k m : Nat) : textT W xs (k + m) = textT W xs k ++ textT W (xs.drop k) m := by
  induction m with
  | zero => simp [textT]
  | succ m ih =>
    rw [← Nat.add_assoc]; simp only [textT]
    rw [ih, show (xs.drop k).getD m 0 = xs.getD (k + m) 0 by rw [List.getD_eq_getElem?_getD, List.getD_eq_getElem?_getD, List.getElem?_drop]]
    simp only [List.append_assoc]
theorem take_get {xs : List Int} {k i : Nat} (h : i < k) : (xs.take k).getD i 0 = xs.getD i 0 := by
  rw [List.getD_eq_getElem?_getD, List.getD_eq_getElem?_getD, List.getElem?_take_of_lt h]
theorem drop_get {xs : List Int} {k i : Nat} : (xs.drop k).getD i 0 = xs.getD (k + i) 0 := by
  rw [List.getD_eq_getElem?_getD, List.getD_eq_getElem?_getD, List.getElem?_drop]
theorem Im.take {W n : Nat} {xs : List Int} (h : Im W n xs) {k : Nat} (h1 : 1 ≤ k) (hk : k ≤ n) : Im W k (xs.take k) :=
  ⟨h.w1, h.w6, h1, by have := h.l6; omega, by rw [List.length_take, h.hl]; omega, fun i hi => by rw [take_get hi]; exact h.row i (by omega)⟩
theorem Im.drop {W n : Nat} {xs : List Int} (h : Im W n xs) {k : Nat} (hk : k < n) : Im W (n - k) (xs.drop k) :=
  ⟨h.w1, h.w6, by omega, by have := h.l6; omega, by rw [List.length_drop, h.hl], fun i hi => by rw [drop_get]; exact h.row _ (by omega)⟩
theorem Im.text {W n : Nat} {xs : List Int} (h : Im W n xs) : textOf W xs = textT W xs n := by
  unfold textOf; rw [if_pos h.valid, h.hl, Int.toNat_natCast]
theorem Im.text_parts {W n : Nat} {xs : List Int} (h : Im W n xs) {k : Nat} (h1 : 1 ≤ k) (hk : k < n) : textOf W (xs.take k) ++ textOf W (xs.drop k) = textOf W xs := by
  rw [(h.take h1 (by omega)).text, (h.drop hk).text, h.text, text_ext (xs := xs.take k) (ys := xs) (fun i hi => take_get hi)]
  have e := text_cut W xs k (n - k)
  rw [show k + (n - k) = n by omega] at e
  exact e.symm
theorem Row.part {w : World} {b off n : Nat} {xs : List Int} (h : Row w (some ⟨b, off, none⟩) n xs) {k : Nat} (hk : k ≤ n) : Row w (some ⟨b, off, none⟩) k (xs.take k) := by
  obtain ⟨h1, h2⟩ := h
  refine ⟨by rw [List.length_take, h1]; omega, ?_⟩
  by_cases h0 : k = 0
  · exact .inl h0
  · obtain ⟨b', off', e, hc⟩ := h2.resolve_left (by omega)
    cases e
    exact .inr ⟨b, off, rfl, fun i hi => by rw [take_get hi]; exact hc i (by omega)⟩
theorem Row.rest {w : World} {b off n : Nat} {xs : List Int} (h : Row w (some ⟨b, off, none⟩) n xs) {k : Nat} (hk : k ≤ n) : Row w (some ⟨b, off + k, none⟩) (n - k) (xs.drop k) := by
  obtain ⟨h1, h2⟩ := h
  refine ⟨by rw [List.length_drop, h1], ?_⟩
  by_cases h0 : n - k = 0
  · exact .inl h0
  · obtain ⟨b', off', e, hc⟩ := h2.resolve_left (by omega)
    cases e
    exact .inr ⟨b, off + k, rfl, fun i hi => by rw [drop_get, Nat.add_assoc]; exact hc _ (by omega)⟩
theorem Txt.last {s : List UInt8} {W n : Nat} {xs : List Int} (h : Txt s W n xs) : s[s.length - 1]? = some 10 := by
  have h1 := h.1.l1
  have e := h.nl (show n - 1 < n by omega)
  rw [h.len, show n * (W + 1) - 1 = (n - 1) * (W + 1) + W by rw [Nat.sub_mul]; have : 1 * (W + 1) ≤ n * (W + 1) := Nat.mul_le_mul_right _ h1; omega]
  exact e
theorem Txt.two {s : List UInt8} {W n : Nat} {xs : List Int} (h : Txt s W n xs) : 2 ≤ s.length := by
  have h1 := h.1.l1
  have h2 := h.1.w1
  have : 1 * (W + 1) ≤ n * (W + 1) := Nat.mul_le_mul_right _ h1
  rw [h.len]; omega
theorem Txt.cut {s : List UInt8} {W n : Nat} {xs : List Int} (h : Txt s W n xs) : fromOut (s.take (s.length - 1)) = Out.no := from_no fun W' n' xs' k => by
  have h1 := h.1.l1
  have h2 := h.1.w1
  have hlen := h.len
  have e1 := k.last
  have e2 := k.two
  have h3 : 1 * (W + 1) ≤ n * (W + 1) := Nat.mul_le_mul_right _ h1
  rw [List.length_take] at e1 e2
  rw [List.getElem?_take_of_lt (by omega)] at e1
  have hm := h.mark (show n - 1 < n by omega) (show W - 1 < W by omega)
  have e3 : (n - 1) * (W + 1) = n * (W + 1) - (W + 1) := by rw [Nat.sub_mul, Nat.one_mul]
  rw [show (n - 1) * (W + 1) + (W - 1) = min (s.length - 1) s.length - 1 by rw [e3]; omega, e1] at hm
  exact mark_ne _ (Option.some.inj hm).symm
theorem Txt.more {s : List UInt8} : fromOut (s ++ [32]) = Out.no := from_no fun W' n' xs' k => by
  have e1 := k.last
  rw [List.length_append, List.length_singleton, Nat.add_sub_cancel, List.getElem?_append_right (Nat.le_refl _), Nat.sub_self] at e1
  simp at e1
theorem area_wrap {n W t : Nat} (h : t = n * (W + 1)) (hb : t ≤ 42) : wrap64 ((n : Int) * ((W : Int) + 1)) = t := by
  have e : (n : Int) * ((W : Int) + 1) = (t : Int) := by rw [h]; simp
  rw [e]; unfold wrap64; omega
end Go.Proofs.Ytiegonpgfbmidaa

