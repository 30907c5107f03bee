/-
  The contracts of PartValid and PartOf, of the program and of the model.
-/
import Derived.Test.YthllfkgceoenbaaPc
namespace Go.Proofs.Ythllfkgceoenbaa
open Go.RowKit

theorem el_impl (a : Option Addr) (n cap : Nat) (xs : List Int) (w : World) (h : Row w a n xs) (hm : n ≤ 9223372036854775807) :
    Calls Try.prog 42 #[.slice a n cap] w fun e w' => e = .returned (.bool (elB xs)) ∧ w = w' := by
  have hl := h.1
  by_cases h6 : n ≤ 6
  · have e := Lib.hid (el_in (xs := xs) (by omega))
    have hc := within_impl a n cap xs 6 w h hm
    generalize allIn xs 0 6 = B at e hc
    have h6' : ((n : Int) ≤ 6) := by omega
    clear h
    go_enter Try.func42, Try.ntmps42
    go_wp2_with fail
    refine hc.mono ?_
    rintro e w1 ⟨rfl, rfl⟩
    go_wp2_with fail
    go_ret
    exact ⟨by rw [e.out]; first | rfl | (cases B <;> rfl), rfl⟩
  · have e := Lib.hid (el_len (xs := xs) (by omega))
    clear h
    go_enter Try.func42, Try.ntmps42
    go_wp2_with fail
    go_ret
    exact ⟨by rw [e.out]; rfl, rfl⟩

theorem meth_impl (a : Option Addr) (n cap : Nat) (xs : List Int) (w : World) (h : Row w a n xs) (hm : n ≤ 9223372036854775807) :
    Calls Try.prog 47 #[.slice a n cap] w fun e w' => e = .returned (.bool (partB xs)) ∧ Below w.heap.size w w' := by
  have hl := h.1
  have h := Lib.hid h
  go_enter Try.func47, Try.ntmps47
  go_wp2_with fail
  refine (el_impl a n cap xs _ h.out hm).mono ?_
  rintro e w1 ⟨rfl, rfl⟩
  by_cases he : elB xs = true
  case neg =>
    have he : elB xs = false := by simpa using he
    rw [he]
    go_wp2_with fail
    go_ret
    exact ⟨by rw [part_el he]; rfl, Below.refl _ _⟩
  have h6 := (el_parts he).1
  rw [he]
  have he := Lib.hid he
  go_wp2_with fail
  refine (sorted_lib a n cap xs _ h.out (by omega)).mono ?_
  rintro e w1 ⟨rfl, hb⟩
  obtain ⟨B, hB⟩ : ∃ B, descB xs = B := ⟨_, rfl⟩
  rw [hB]
  have e := Lib.hid (show partB xs = B by rw [partB, he.out, hB]; rfl)
  clear hB
  have hb := Lib.hid hb
  go_wp2_with fail
  go_ret
  exact ⟨by rw [e.out]; first | rfl | (cases B <;> rfl), hb.out⟩

theorem pvalid_impl (a : Option Addr) (n cap : Nat) (xs : List Int) (w : World) (h : Row w a n xs) (hm : n ≤ 9223372036854775807) :
    Calls Try.prog 24 #[.slice a n cap] w fun e w' => e = .returned (.bool (partB xs)) ∧ Below w.heap.size w w' := by
  have hc := meth_impl a n cap xs w h hm
  clear h
  go_enter Try.func24, Try.ntmps24
  go_wp2_with fail
  refine hc.mono ?_
  rintro e w1 ⟨rfl, hb⟩
  have hb := Lib.hid hb
  go_wp2_with fail
  go_ret
  exact ⟨rfl, hb.out⟩

set_option maxHeartbeats 800000 in
theorem pvalid_spec (a : Option Addr) (n cap : Nat) (xs : List Int) (w : World) (h : Row w a n xs) (hm : n ≤ 9223372036854775807) :
    Calls Try.prog 35 #[.slice a n cap] w fun e w' => e = .returned (.bool (partB xs)) ∧ Below w.heap.size w w' := by
  have hl := h.1
  have hR := Lib.hid h
  clear h
  go_enter Try.func35, Try.ntmps35
  go_wp2_with fail
  go_loopw [3] (fun i wr => ∃ k : Nat, 1 ≤ k ∧ (k ≤ n ∨ k = 1) ∧ i = .int .i64 k ∧ Hid (∀ j : Nat, j + 1 < k → xs.getD (j + 1) 0 ≤ xs.getD j 0) ∧ Below w.heap.size w wr) (fun i _ => n + 1 - (intOf i).toNat)
  case atStart => exact ⟨1, by omega, by omega, rfl, fun j hj => absurd hj (by omega), Below.refl _ _⟩
  case round =>
    obtain ⟨k, hk1, hk2, rfl, he, hbel⟩ := hrel
    by_cases hlt : k < n
    · obtain ⟨j, rfl⟩ : ∃ j : Nat, k = j + 1 := ⟨k - 1, by omega⟩
      obtain ⟨b, off, rfl, hc⟩ := row_at hR.out (show j + 1 < n by omega)
      obtain ⟨b', off', e', hc'⟩ := row_at hR.out (show j < n by omega)
      cases e'
      have hc := kept hbel (block_lt hc) hc
      have hc' := kept hbel (block_lt hc') hc'
      obtain ⟨x, hx⟩ : ∃ x, xs.getD (j + 1) 0 = x := ⟨_, rfl⟩
      obtain ⟨y, hy⟩ : ∃ y, xs.getD j 0 = y := ⟨_, rfl⟩
      rw [hx] at hc
      rw [hy] at hc'
      have i1 : IntKind.i64.wrap ((j : Int) + 1 - 1) = (j : Int) := by rw [IntKind.wrap_i64]; omega
      have i2 : ((j : Int) + 1).toNat = j + 1 := by omega
      by_cases hyx : y < x
      · have hno := Lib.hid (part_desc (desc_no (xs := xs) (i := j) (by omega) (by omega)))
        have ht : decide (y < x) = true := decide_eq_true hyx
        clear hx hy
        go_wp2_with fail
        go_quiet (fail)
        go_wp2_with fail
        go_ret
        exact ⟨by rw [hno.out]; rfl, below_drewN hbel _⟩
      · have he' : Hid (∀ i : Nat, i + 1 < j + 1 + 1 → xs.getD (i + 1) 0 ≤ xs.getD i 0) := fun i hi => by
          by_cases e : i = j
          · subst e; omega
          · exact he.out i (by omega)
        have ht : decide (y < x) = false := decide_eq_false hyx
        clear hx hy
        go_wp2_with fail
        go_quiet (fail)
        go_wp2_with fail
        exact ⟨⟨j + 1 + 1, by omega, by omega, by go_num, he', below_drewN hbel _⟩, by simp [intOf]; omega⟩
    · have hd := part_of (desc_iff.2 (fun i hi => he.out i (by omega)) : descB xs = true)
      by_cases h6 : n ≤ 6
      · have e := Lib.hid (hd.trans (el_in (xs := xs) (by omega)))
        have h6' : ((n : Int) ≤ 6) := by omega
        clear hd
        go_wp2_with fail
        refine (each_spec a n cap xs 0 6 _ (hR.out.bel hbel) hm).mono ?_
        rintro e w1 ⟨rfl, rfl⟩
        generalize allIn xs 0 6 = B at e
        go_wp2_with fail
        go_ret
        exact ⟨by rw [e.out]; first | rfl | (cases B <;> rfl), hbel⟩
      · have e := Lib.hid (hd.trans (el_len (xs := xs) (by omega)))
        clear hd
        go_wp2_with fail
        go_ret
        exact ⟨by rw [e.out]; rfl, hbel⟩
end Go.Proofs.Ythllfkgceoenbaa

