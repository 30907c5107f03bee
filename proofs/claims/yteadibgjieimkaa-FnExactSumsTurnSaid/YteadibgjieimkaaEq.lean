/-
  Plain facts on images with a cell put; putting at valid images and at others; the laws' own bit.
-/
import Derived.Test.YteadibgjieimkaaEp
namespace Go.Proofs.Yteadibgjieimkaa
set_option maxRecDepth 100000
open Go.RowKit

theorem putr_nat : ∀ W, W < 7 → ∀ j, j < W → ∀ n, n < 64 → ((n : Nat) : Int) ≤ pw W - 1 → 0 ≤ putI ((n : Nat) : Int) j false ∧ putI ((n : Nat) : Int) j false ≤ pw W - 1 := by decide +kernel
theorem putb_yes : ∀ j, j < 6 → ∀ l, l < 6 → ∀ n, n < 64 → bitI (putI ((n : Nat) : Int) j true) l = if l = j then 1 else bitI ((n : Nat) : Int) l := by decide +kernel
theorem putb_not : ∀ j, j < 6 → ∀ l, l < 6 → ∀ n, n < 64 → bitI (putI ((n : Nat) : Int) j false) l = if l = j then 0 else bitI ((n : Nat) : Int) l := by decide +kernel
theorem putb_nat (W : Nat) (hW : W < 7) (j : Nat) (hj : j < W) (n : Nat) (hn : n < 64) (hb : ((n : Nat) : Int) ≤ pw W - 1) (set : Bool) : 0 ≤ putI ((n : Nat) : Int) j set ∧ putI ((n : Nat) : Int) j set ≤ pw W - 1 ∧ ∀ l, l < W → bitI (putI ((n : Nat) : Int) j set) l = if l = j then (if set = true then 1 else 0) else bitI ((n : Nat) : Int) l := by
  have h := putin_nat W hW j hj n hn hb
  have h' := putr_nat W hW j hj n hn hb
  cases set
  · exact ⟨h'.1, h'.2, fun l hl => putb_not j (by omega) l (by omega) n hn⟩
  · exact ⟨h.1, h.2, fun l hl => putb_yes j (by omega) l (by omega) n hn⟩
theorem put_get {xs : List Int} {i j k n : Nat} {set : Bool} (hl : xs.length = n) (hk : k < n) : (putL xs i j set).getD k 0 = if k = i then putI (xs.getD i 0) j set else xs.getD k 0 := by
  unfold putL
  by_cases e : k = i
  · subst e; rw [if_pos rfl, List.getD_eq_getElem?_getD, List.getElem?_set_self (by omega)]; rfl
  · rw [if_neg e, List.getD_eq_getElem?_getD, List.getElem?_set_ne (by omega), ← List.getD_eq_getElem?_getD]
theorem Im.put {W n : Nat} {xs : List Int} (h : Im W n xs) {i j : Nat} (hi : i < n) (hj : j < W) (set : Bool) : Im W n (putL xs i j set) :=
  ⟨h.w1, h.w6, h.l1, h.l6, by unfold putL; rw [List.length_set]; exact h.hl, fun k hk => by
    rw [put_get h.hl hk]
    obtain ⟨m, hm, hm64⟩ := h.nat hi
    have hb := (h.row i hi).2
    have hp := putb_nat W (by have := h.w6; omega) j hj m hm64 (by rw [← hm]; exact hb) set
    rw [hm]
    split
    · exact ⟨hp.1, hp.2.1⟩
    · exact h.row k hk⟩
theorem Im.put_bit {W n : Nat} {xs : List Int} (h : Im W n xs) {i j k l : Nat} (hi : i < n) (hj : j < W) (hk : k < n) (hl : l < W) (set : Bool) : bitI ((putL xs i j set).getD k 0) l = if k = i ∧ l = j then (if set = true then 1 else 0) else bitI (xs.getD k 0) l := by
  rw [put_get h.hl hk]
  obtain ⟨m, hm, hm64⟩ := h.nat hi
  have hb := (h.row i hi).2
  have hp := (putb_nat W (by have := h.w6; omega) j hj m hm64 (by rw [← hm]; exact hb) set).2.2 l hl
  by_cases e : k = i
  · subst e
    rw [if_pos rfl, hm, hp]
    by_cases e2 : l = j
    · simp only [e2, and_self]
    · simp only [e2, and_false]
  · rw [if_neg e, if_neg (fun h => e h.1)]
theorem Im.put_has {W n : Nat} {xs : List Int} (h : Im W n xs) {i j k l : Nat} (hi : i < n) (hj : j < W) (hk : k < n) (hl : l < W) (set : Bool) : hasB W (putL xs i j set) k l = if k = i ∧ l = j then set else hasB W xs k l := by
  rw [(h.put hi hj set).has hk hl, h.has hk hl, h.put_bit hi hj hk hl]
  split
  · cases set <;> rfl
  · rfl
theorem Im.put_put {W n : Nat} {xs : List Int} (h : Im W n xs) {i j : Nat} (hi : i < n) (hj : j < W) (s t : Bool) : putL (putL xs i j s) i j t = putL xs i j t :=
  ((h.put hi hj s).put hi hj t).ext (h.put hi hj t) fun k l hk hl => by
    rw [(h.put hi hj s).put_bit hi hj hk hl, h.put_bit hi hj hk hl, h.put_bit hi hj hk hl]
    split <;> rfl
theorem Im.put_self {W n : Nat} {xs : List Int} (h : Im W n xs) {i j : Nat} (hi : i < n) (hj : j < W) : putL xs i j (hasB W xs i j) = xs :=
  (h.put hi hj _).ext h fun k l hk hl => by
    rw [h.put_bit hi hj hk hl]
    split
    · rename_i e; obtain ⟨rfl, rfl⟩ := e
      rw [h.has hi hj]
      have := bit_01 (xs.getD k 0) l
      rcases (show bitI (xs.getD k 0) l = 0 ∨ bitI (xs.getD k 0) l = 1 by omega) with e | e <;> rw [e] <;> rfl
    · rfl
theorem Im.put_comm {W n : Nat} {xs : List Int} (h : Im W n xs) {i j k l : Nat} (hi : i < n) (hj : j < W) (hk : k < n) (hl : l < W) (hne : ¬ (k = i ∧ l = j)) (s t : Bool) : putL (putL xs i j s) k l t = putL (putL xs k l t) i j s :=
  ((h.put hi hj s).put hk hl t).ext ((h.put hk hl t).put hi hj s) fun a b ha hb => by
    rw [(h.put hi hj s).put_bit hk hl ha hb, h.put_bit hi hj ha hb, (h.put hk hl t).put_bit hi hj ha hb, h.put_bit hk hl ha hb]
    by_cases e1 : a = k ∧ b = l
    · have e2 : ¬ (a = i ∧ b = j) := by rintro ⟨r1, r2⟩; exact hne ⟨by omega, by omega⟩
      simp only [e1, and_self, if_true]
      obtain ⟨rfl, rfl⟩ := e1
      simp only [e2, if_false]
    · simp only [e1, if_false]

def GivesN (w : World) (e : Ending) (w' : World) : Prop :=
  (∃ a cap, e = .returned (.tuple #[.agg #[.int .i64 0, .slice a 0 cap], .bool false]) ∧ OwnI w' w.heap.size a 0 cap []) ∧ Below w.heap.size w w'
end Go.Proofs.Yteadibgjieimkaa

