/-
  The contracts of PartValid and PartOf, of the program and of the model.
-/
import Derived.Test.YteadibgjieimkaaPc
namespace Go.Proofs.Yteadibgjieimkaa
set_option maxRecDepth 100000
open Go.RowKit

theorem el_impl (a : Option Addr) (n cap : Nat) (xs : List Int) (w : World) (h : Row w a n xs) (hm : n ≤ 9223372036854775807) :
    Calls Try.prog 62 #[.slice a n cap] w fun e w' => e = .returned (.bool (elB xs)) ∧ w = w' := by
  have hl := h.1
  by_cases h6 : n ≤ 6
  · have e := Lib.hid (el_in (xs := xs) (by omega))
    have hc := within_impl a n cap xs 6 w h hm
    generalize allIn xs 0 6 = B at e hc
    have h6' : ((n : Int) ≤ 6) := by omega
    clear h
    go_enter Try.func62, Try.ntmps62
    go_wp2_with fail
    refine hc.mono ?_
    rintro e w1 ⟨rfl, rfl⟩
    go_wp2_with fail
    go_ret
    exact ⟨by rw [e.out]; first | rfl | (cases B <;> rfl), rfl⟩
  · have e := Lib.hid (el_len (xs := xs) (by omega))
    clear h
    go_enter Try.func62, Try.ntmps62
    go_wp2_with fail
    go_ret
    exact ⟨by rw [e.out]; rfl, rfl⟩

theorem meth_impl (a : Option Addr) (n cap : Nat) (xs : List Int) (w : World) (h : Row w a n xs) (hm : n ≤ 9223372036854775807) :
    Calls Try.prog 64 #[.slice a n cap] w fun e w' => e = .returned (.bool (partB xs)) ∧ Below w.heap.size w w' := by
  have hl := h.1
  have h := Lib.hid h
  go_enter Try.func64, Try.ntmps64
  go_wp2_with fail
  refine (el_impl a n cap xs _ h.out hm).mono ?_
  rintro e w1 ⟨rfl, rfl⟩
  by_cases he : elB xs = true
  case neg =>
    have he : elB xs = false := by simpa using he
    rw [he]
    go_wp2_with fail
    go_ret
    exact ⟨by rw [part_el he]; rfl, Below.refl _ _⟩
  have h6 := (el_parts he).1
  rw [he]
  have he := Lib.hid he
  go_wp2_with fail
  refine (sorted_lib a n cap xs _ h.out (by omega)).mono ?_
  rintro e w1 ⟨rfl, hb⟩
  obtain ⟨B, hB⟩ : ∃ B, descB xs = B := ⟨_, rfl⟩
  rw [hB]
  have e := Lib.hid (show partB xs = B by rw [partB, he.out, hB]; rfl)
  clear hB
  have hb := Lib.hid hb
  go_wp2_with fail
  go_ret
  exact ⟨by rw [e.out]; first | rfl | (cases B <;> rfl), hb.out⟩

theorem pvalid_impl (a : Option Addr) (n cap : Nat) (xs : List Int) (w : World) (h : Row w a n xs) (hm : n ≤ 9223372036854775807) :
    Calls Try.prog 28 #[.slice a n cap] w fun e w' => e = .returned (.bool (partB xs)) ∧ Below w.heap.size w w' := by
  have hc := meth_impl a n cap xs w h hm
  clear h
  go_enter Try.func28, Try.ntmps28
  go_wp2_with fail
  refine hc.mono ?_
  rintro e w1 ⟨rfl, hb⟩
  have hb := Lib.hid hb
  go_wp2_with fail
  go_ret
  exact ⟨rfl, hb.out⟩

end Go.Proofs.Yteadibgjieimkaa

