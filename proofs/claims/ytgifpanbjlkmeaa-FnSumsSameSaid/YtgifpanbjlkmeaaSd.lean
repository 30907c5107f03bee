/-
  The contracts of SumsSame of both sides.
-/
import Derived.Test.YtgifpanbjlkmeaaSc
import Derived.Deep.RegionLaw
namespace Go.Proofs.Ytgifpanbjlkmeaa
open Go.RowKit

/-- Two images have the same sums. -/
def sameB (V : Int) (xs : List Int) (W : Int) (ys : List Int) : Bool := fitB W ys (rsOut V xs) (csOut V xs)
theorem rsOut_yes {W : Int} {xs : List Int} (h : validB W xs = true) : rsOut W xs = rsL xs W.toNat xs.length := if_pos h
theorem csOut_yes {W : Int} {xs : List Int} (h : validB W xs = true) : csOut W xs = csL xs xs.length W.toNat := if_pos h
theorem rsOut_no {W : Int} {xs : List Int} (h : validB W xs = false) : rsOut W xs = [] := if_neg (by rw [h]; exact Bool.false_ne_true)
theorem csOut_no {W : Int} {xs : List Int} (h : validB W xs = false) : csOut W xs = [] := if_neg (by rw [h]; exact Bool.false_ne_true)
theorem rsOut_ne {W : Int} {xs : List Int} (h : validB W xs = true) : rsOut W xs ≠ [] := by
  intro e
  have := congrArg List.length e
  rw [rsOut_yes h, rs_len, List.length_nil] at this
  have h2 := validB_len h
  omega
theorem same_flip (V : Int) (xs : List Int) (W : Int) (ys : List Int) : (validB W ys && fitB V xs (rsOut W ys) (csOut W ys)) = sameB V xs W ys := by
  unfold sameB fitB
  by_cases h1 : validB W ys = true
  · by_cases h2 : validB V xs = true
    · rw [h1, h2]; simp only [Bool.true_and]
      congr 1 <;> exact decide_eq_decide.2 ⟨Eq.symm, Eq.symm⟩
    · have h2 : validB V xs = false := by simpa using h2
      rw [h1, h2, rsOut_no h2, decide_eq_false (rsOut_ne h1)]; simp
  · have h1 : validB W ys = false := by simpa using h1
    rw [h1]; simp

set_option maxHeartbeats 1000000 in
theorem same_impl (V W : Int) (a b : Option Addr) (n m c d : Nat) (xs ys : List Int) (w : World) (h : Row w a n xs) (h' : Row w b m ys) (hm : n ≤ 9223372036854775807) (hm' : m ≤ 9223372036854775807) :
    Calls Try.prog 36 #[.agg #[.int .i64 V, .slice a n c], .agg #[.int .i64 W, .slice b m d]] w fun e w' => e = .returned (.bool (sameB V xs W ys)) ∧ Below w.heap.size w w' := by
  obtain ⟨R, hR⟩ : ∃ R, sameB V xs W ys = R := ⟨_, rfl⟩
  rw [hR]
  have hR := Lib.hid hR
  have hl := h.1
  obtain ⟨W0, hW0⟩ : ∃ W0, W0 = (w.alloc (.cells #[.int .i64 V, .slice a n c] 25)).alloc (.cells #[.int .i64 W, .slice b m d] 25) := ⟨_, rfl⟩
  have b0 : Below w.heap.size w W0 := by subst hW0; exact ((Below.refl _ _).alloc (Nat.le_refl _) _).alloc (by simp) _
  have x0 : W0.cell? ⟨w.heap.size, 0, none⟩ = some (.int .i64 V) := by subst hW0; go_simp
  have x1 : W0.cell? ⟨w.heap.size, 1, none⟩ = some (.slice a n c) := by subst hW0; go_simp
  have y0 : W0.cell? ⟨w.heap.size + 1, 0, none⟩ = some (.int .i64 W) := by subst hW0; go_simp
  have y1 : W0.cell? ⟨w.heap.size + 1, 1, none⟩ = some (.slice b m d) := by subst hW0; go_simp
  have hxl : (rsOut V xs).length ≤ 9223372036854775807 := by have := rsOut_len V xs; omega
  have hyl : (csOut V xs).length ≤ 9223372036854775807 := by have := csOut_len V xs; omega
  have hs0 : w.heap.size + 1 < W0.heap.size := block_lt y0
  have b0 := Lib.hid (b0.drew)
  have hsy : w.heap.size + 1 < W0.drew.heap.size := hs0
  have hsx : w.heap.size < W0.drew.heap.size := Nat.lt_of_succ_lt hs0
  have h := Lib.hid h
  have h' := Lib.hid h'
  have r0 := Lib.hid (h.out.bel b0.out)
  go_enter Try.func36, Try.ntmps36
  go_wp2_with fail
  rw [← hW0]
  clear hW0
  go_region_law (first | ((go_simp; go_at_call 19; (with_reducible refine (rsums_impl V a n c xs _ r0.out hm).mono ?_); rintro e w1 ⟨⟨s1, c1, rfl, ho1⟩, hb1⟩; have x0 := kept hb1 hsx (show W0.drew.cell? _ = _ from x0); have x1 := kept hb1 hsx (show W0.drew.cell? _ = _ from x1); have y0 := kept hb1 hsy (show W0.drew.cell? _ = _ from y0); have y1 := kept hb1 hsy (show W0.drew.cell? _ = _ from y1); have l1 : w.heap.size + 1 < w1.heap.size := block_lt y0; have b1 := Lib.hid (b0.out.trans (hb1.mono b0.out.size)); have ho1 := Lib.hid ho1.row; have r1 := Lib.hid (h.out.bel b1.out); clear hb1)) | ((go_simp; go_at_call 25; (with_reducible refine (csums_impl V a n c xs _ r1.out hm).mono ?_); rintro e w2 ⟨⟨s2, c2, rfl, ho2⟩, hb2⟩; have x0 := kept hb2 (Nat.lt_of_succ_lt l1) x0; have x1 := kept hb2 (Nat.lt_of_succ_lt l1) x1; have y0 := kept hb2 l1 y0; have y1 := kept hb2 l1 y1; have l2 : w.heap.size + 1 < w2.heap.size := block_lt y0; have b2 := Lib.hid (b1.out.trans (hb2.mono b1.out.size)); have ho1 := Lib.hid (ho1.out.bel hb2); have ho2 := Lib.hid ho2.row; have r2 := Lib.hid (h'.out.bel b2.out); clear hb2)) | ((go_simp; go_at_call 33; (with_reducible refine (fit_impl W b s1 s2 m _ _ d c1 c2 ys (rsOut V xs) (csOut V xs) _ r2.out ho1.out ho2.out hm' hxl hyl).mono ?_); rintro e w3 ⟨rfl, hb3⟩; have b3 := Lib.hid (b2.out.trans (hb3.mono b2.out.size)); clear hb3)))
  all_goals
    go_wp2_with fail
    go_ret
    exact ⟨by rw [← hR.out]; rfl, b3.out⟩

set_option maxHeartbeats 1000000 in
theorem same_spec2 (V W : Int) (a b : Option Addr) (n m c d : Nat) (xs ys : List Int) (w : World) (h : Row w a n xs) (h' : Row w b m ys) (hm : n ≤ 9223372036854775807) (hm' : m ≤ 9223372036854775807) :
    Calls Try.prog 37 #[.agg #[.int .i64 V, .slice a n c], .agg #[.int .i64 W, .slice b m d]] w fun e w' => e = .returned (.bool (sameB V xs W ys)) ∧ Below w.heap.size w w' := by
  obtain ⟨R, hR⟩ : ∃ R, sameB V xs W ys = R := ⟨_, rfl⟩
  rw [hR]
  have hR := Lib.hid hR
  have hl := h.1
  obtain ⟨W0, hW0⟩ : ∃ W0, W0 = (w.alloc (.cells #[.int .i64 V, .slice a n c] 25)).alloc (.cells #[.int .i64 W, .slice b m d] 25) := ⟨_, rfl⟩
  have b0 : Below w.heap.size w W0 := by subst hW0; exact ((Below.refl _ _).alloc (Nat.le_refl _) _).alloc (by simp) _
  have x0 : W0.cell? ⟨w.heap.size, 0, none⟩ = some (.int .i64 V) := by subst hW0; go_simp
  have x1 : W0.cell? ⟨w.heap.size, 1, none⟩ = some (.slice a n c) := by subst hW0; go_simp
  have y0 : W0.cell? ⟨w.heap.size + 1, 0, none⟩ = some (.int .i64 W) := by subst hW0; go_simp
  have y1 : W0.cell? ⟨w.heap.size + 1, 1, none⟩ = some (.slice b m d) := by subst hW0; go_simp
  have hl' := h'.1
  have hxl : (rsOut W ys).length ≤ 9223372036854775807 := by have := rsOut_len W ys; omega
  have hyl : (csOut W ys).length ≤ 9223372036854775807 := by have := csOut_len W ys; omega
  have hs0 : w.heap.size + 1 < W0.heap.size := block_lt y0
  have b0 := Lib.hid (b0.drew)
  have hsy : w.heap.size + 1 < W0.drew.heap.size := hs0
  have hsx : w.heap.size < W0.drew.heap.size := Nat.lt_of_succ_lt hs0
  have h := Lib.hid h
  have h' := Lib.hid h'
  have r0 := Lib.hid (h'.out.bel b0.out)
  by_cases hv : validB W ys = true
  case neg =>
    have hv : validB W ys = false := by simpa using hv
    have hR2 : R = false := by rw [← hR.out, ← same_flip, hv]; rfl
    go_enter Try.func37, Try.ntmps37
    go_wp2_with fail
    rw [← hW0]
    clear hW0
    go_region_law (first | ((go_simp; go_at_call 54; (with_reducible refine (valid_spec W b m d ys _ r0.out hm').mono ?_); rintro e w1 ⟨rfl, hb1⟩; rw [hv]; have b1 := Lib.hid (b0.out.trans (hb1.mono b0.out.size)); clear hb1)))
    all_goals
      go_wp2_with fail
      go_ret
      exact ⟨by rw [hR2]; rfl, b1.out⟩
  have hR2 : R = fitB V xs (rsOut W ys) (csOut W ys) := by rw [← hR.out, ← same_flip, hv]; rfl
  have hR2 := Lib.hid hR2
  go_enter Try.func37, Try.ntmps37
  go_wp2_with fail
  rw [← hW0]
  clear hW0
  go_region_law (first | ((go_simp; go_at_call 54; (with_reducible refine (valid_spec W b m d ys _ r0.out hm').mono ?_); rintro e w1 ⟨rfl, hb1⟩; rw [hv]; have x0 := kept hb1 hsx (show W0.drew.cell? _ = _ from x0); have x1 := kept hb1 hsx (show W0.drew.cell? _ = _ from x1); have y0 := kept hb1 hsy (show W0.drew.cell? _ = _ from y0); have y1 := kept hb1 hsy (show W0.drew.cell? _ = _ from y1); have l1 : w.heap.size + 1 < w1.heap.size := block_lt y0; have b1 := Lib.hid (b0.out.trans (hb1.mono b0.out.size)); have r1 := Lib.hid (h'.out.bel b1.out); clear hb1)) | ((go_simp; go_at_call 20; (with_reducible refine (rsums_spec W b m d ys _ r1.out hm').mono ?_); rintro e w2 ⟨⟨s1, c1, rfl, ho1⟩, hb2⟩; have x0 := kept hb2 (Nat.lt_of_succ_lt l1) x0; have x1 := kept hb2 (Nat.lt_of_succ_lt l1) x1; have y0 := kept hb2 l1 y0; have y1 := kept hb2 l1 y1; have l2 : w.heap.size + 1 < w2.heap.size := block_lt y0; have b2 := Lib.hid (b1.out.trans (hb2.mono b1.out.size)); have ho1 := Lib.hid ho1.row; have r2 := Lib.hid (h'.out.bel b2.out); clear hb2)) | ((go_simp; go_at_call 27; (with_reducible refine (csums_spec W b m d ys _ r2.out hm').mono ?_); rintro e w3 ⟨⟨s2, c2, rfl, ho2⟩, hb3⟩; have x0 := kept hb3 (Nat.lt_of_succ_lt l2) x0; have x1 := kept hb3 (Nat.lt_of_succ_lt l2) x1; have y0 := kept hb3 l2 y0; have y1 := kept hb3 l2 y1; have b3 := Lib.hid (b2.out.trans (hb3.mono b2.out.size)); have ho1 := Lib.hid (ho1.out.bel hb3); have ho2 := Lib.hid ho2.row; have r3 := Lib.hid (h.out.bel b3.out); clear hb3)) | ((go_simp; go_at_call 34; (with_reducible refine (fit_spec V a s1 s2 n _ _ c c1 c2 xs (rsOut W ys) (csOut W ys) _ r3.out ho1.out ho2.out hm hxl hyl).mono ?_); rintro e w4 ⟨rfl, hb4⟩; have b4 := Lib.hid (b3.out.trans (hb4.mono b3.out.size)); clear hb4)))
  all_goals
    go_wp2_with fail
    go_ret
    exact ⟨by rw [hR2.out]; rfl, b4.out⟩
end Go.Proofs.Ytgifpanbjlkmeaa

