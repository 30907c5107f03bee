/-
  The contracts of PartConj, of the program and of the model.
-/
import Derived.Test.YteadibgjieimkaaPg
namespace Go.Proofs.Yteadibgjieimkaa
set_option maxRecDepth 100000
open Go.RowKit

/-- Whether PartConj succeeds, and what it gives. -/
def conjB (xs : List Int) (n : Int) : Bool := partB xs && (inB n 0 6 && allIn xs 0 n)
def conjOf (xs : List Int) (n : Int) : List Int := if conjB xs n = true then conjL xs n.toNat else []
theorem conjB_1 {xs : List Int} {n : Int} (h : partB xs = false) : conjB xs n = false := by rw [conjB, h]; rfl
theorem conjB_2 {xs : List Int} {n : Int} (h : inB n 0 6 = false) : conjB xs n = false := by rw [conjB, h, Bool.false_and, Bool.and_false]
theorem conjB_3 {xs : List Int} {n : Int} (h : allIn xs 0 n = false) : conjB xs n = false := by rw [conjB, h, Bool.and_false, Bool.and_false]
theorem conjB_yes {xs : List Int} {n : Int} (h1 : partB xs = true) (h2 : inB n 0 6 = true) (h3 : allIn xs 0 n = true) : conjB xs n = true := by rw [conjB, h1, h2, h3]; rfl
theorem conjB_parts {xs : List Int} {n : Int} (h : conjB xs n = true) : Par xs ∧ (0 ≤ n ∧ n ≤ 6) ∧ ∀ i, i < xs.length → xs.getD i 0 ≤ n := by
  simp only [conjB, Bool.and_eq_true] at h
  exact ⟨.of h.1, inB_iff.1 h.2.1, fun i hi => (allIn_iff.1 h.2.2 i hi).2⟩
theorem conjOf_yes {xs : List Int} {n : Int} (h : conjB xs n = true) : conjOf xs n = conjL xs n.toNat := if_pos h
theorem conjOf_no {xs : List Int} {n : Int} (h : conjB xs n = false) : conjOf xs n = [] := by rw [conjOf, h]; rfl
theorem conjOf_len (xs : List Int) (n : Int) : (conjOf xs n).length ≤ 6 := by
  by_cases h : conjB xs n = true
  · rw [conjOf_yes h, conj_len]; have := (conjB_parts h).2.1; omega
  · rw [conjOf_no (by simpa using h)]; simp

theorem givesK_B {w w' : World} {n : Nat} {L : List Int} {a : Option Addr} {c : Nat} (hl : L.length = n) (h : OwnI w' w.heap.size a n c L) (hb : Below w.heap.size w w') (ok : Bool) : GivesB w L ok (.returned (.tuple #[.slice a n c, .bool ok])) w' := by
  subst hl; exact ⟨⟨a, c, rfl, h⟩, hb⟩

end Go.Proofs.Yteadibgjieimkaa

