/-
  Plain facts on sums with one image: exactly those whose column sums, sorted, are the conjugate of the row sums.
-/
import Derived.Test.YtnfkafaolelkbaaNa
import Derived.Test.YtnfkafaolelkbaaDe
namespace Go.Proofs.Ytnfkafaolelkbaa
set_option maxRecDepth 100000

theorem sort_nest {xs : List Int} {W n : Nat} (h : Im W n xs) : nestB (sortL (rsL xs W n)) W = true := by
  have hs := sorti_im h
  have el := (sums_el h.sumsV).1
  have hl : (sortL (rsL xs W n)).length = n := by rw [sort_len el, rs_len]
  unfold nestB
  rw [hl, inB_yes (by have := h.l1; omega) (by have := h.l6; omega), inB_yes (by have := h.w1; omega) (by have := h.w6; omega)]
  simp only [Bool.true_and]
  rw [allIn_iff]
  intro i hi
  rw [hl] at hi
  rw [← sorti_rs h]
  exact hs.rs_bd hi
/-- An image has no switch just if its column sums, sorted, are the conjugate of its row sums. -/
theorem uniq_conj {xs : List Int} {W n : Nat} (h : Im W n xs) : swL (cellOf xs) W n = [] ↔ sortL (csL xs n W) = conjL (sortL (rsL xs W n)) W := by
  have el := (sums_el h.sumsV).1
  have hl : (sortL (rsL xs W n)).length = n := by rw [sort_len el, rs_len]
  have e1 := nest_rs (sort_nest h)
  have e2 := nest_cs (sort_nest h)
  rw [hl] at e1 e2
  constructor
  · intro hu
    have e := sorti_nest h hu
    rw [sorti_rs h] at e
    rw [← sorti_cs h, e]; exact e2
  · intro hc
    rw [← sorti_unique h]
    have him : Im W n (nestL (sortL (rsL xs W n)) W) := by
      have := cells_im (fun i j => decide ((j : Int) < (sortL (rsL xs W n)).getD i 0)) h.w1 h.w6 h.l1 h.l6
      unfold nestL; rw [hl]; exact this
    refine (uniq_both him (sorti_im h) ⟨?_, ?_⟩).1 ((uniq_many _).2 (many_nest h.w6 hl))
    · rw [e1, sorti_rs h]
    · rw [e2, sorti_cs h, hc]
/-- What SumsUnique says. -/
def uniqS (rows cols : List Int) : Bool := conB rows cols && decide (sortL cols = conjL (sortL rows) cols.length)
theorem uniqs_con {rows cols : List Int} (h : uniqS rows cols = true) : conB rows cols = true := by
  unfold uniqS at h; rw [Bool.and_eq_true] at h; exact h.1
theorem uniqs_im {xs : List Int} {W n : Nat} (h : Im W n xs) : uniqS (rsL xs W n) (csL xs n W) = true ↔ swL (cellOf xs) W n = [] := by
  unfold uniqS
  rw [h.con, Bool.true_and, decide_eq_true_iff, cs_len]
  exact (uniq_conj h).symm
theorem uniqs_build {rows cols : List Int} (hc : conB rows cols = true) : uniqS rows cols = true ↔ swL (cellOf (buildL rows cols)) cols.length rows.length = [] := by
  have h := build_im (conB_valid hc)
  have := uniqs_im h
  rw [build_rs hc, build_cs (conB_valid hc)] at this
  exact this
theorem uniq_turn {xs : List Int} {W n : Nat} (h : Im W n xs) : swL (cellOf (turnL xs W n)) n W = [] ↔ swL (cellOf xs) W n = [] := by
  rw [uniq_many, uniq_many, manyc_turn h]
theorem uniq_oth {xs : List Int} {W n : Nat} (h : Im W n xs) : swL (cellOf (othL xs W n)) W n = [] ↔ swL (cellOf xs) W n = [] := by
  rw [uniq_many, uniq_many, manyc_oth h]
/-- It holds for both lists exchanged. -/
theorem uniqs_swap {rows cols : List Int} (hu : uniqS rows cols = true) : uniqS cols rows = true := by
  have hc := uniqs_con hu
  have h := build_im (conB_valid hc)
  have hs := (uniqs_build hc).1 hu
  have := (uniqs_im h.turn).2 ((uniq_turn h).2 hs)
  rw [h.turn_rs, h.turn_cs, build_rs hc, build_cs (conB_valid hc)] at this
  exact this
/-- Of any image with such sums: it is what BuildImage gives. -/
theorem uniqs_one {xs : List Int} {W n : Nat} (h : Im W n xs) (hu : swL (cellOf xs) W n = []) : buildL (rsL xs W n) (csL xs n W) = xs := by
  have hc : conB (rsL xs W n) (csL xs n W) = true := h.con
  have hb := build_im (conB_valid hc)
  have e1 := build_rs hc
  have e2 := build_cs (conB_valid hc)
  rw [rs_len, cs_len] at hb e1 e2
  exact (uniq_same h hb hu ⟨e1.symm, e2.symm⟩).symm
/-- Sums in another order: the same answer. -/
theorem uniqs_perm {rows cols rows' cols' : List Int} (h1 : sortL rows' = sortL rows) (h2 : sortL cols' = sortL cols) (hl : cols'.length = cols.length) (hv : sumsB rows' cols' = sumsB rows cols) : uniqS rows' cols' = uniqS rows cols := by
  unfold uniqS conB
  rw [h1, h2, hl, hv]
/-- The conjugate of the row sums are the sorted column sums (P111). -/
theorem uniqs_nest {rows cols : List Int} (hu : uniqS rows cols = true) : conjL rows cols.length = sortL cols := by
  have el := (sums_el (conB_valid (uniqs_con hu))).1
  unfold uniqS at hu
  rw [Bool.and_eq_true, decide_eq_true_iff] at hu
  rw [hu.2, conj_sort el]
end Go.Proofs.Ytnfkafaolelkbaa

