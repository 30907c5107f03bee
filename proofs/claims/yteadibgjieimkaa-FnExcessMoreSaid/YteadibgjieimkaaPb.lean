/-
  The contracts of the library's functions that the program sorts with: cmp.Compare, slices.IsSortedFunc, slices.SortFunc at short lists; PartValid of the program and of the model.
-/
import Derived.Test.YteadibgjieimkaaPt
import Derived.RegionTactic
import Derived.ChangeAlike
namespace Go.Proofs.Yteadibgjieimkaa
set_option maxRecDepth 100000
open Go.RowKit

theorem nan_any (x : Int) (w : World) : Calls Try.prog 98 #[.int .i64 x] w fun e w' => e = .returned (.bool false) ∧ w = w' := by
  go_enter Try.func98, Try.ntmps98
  go_wp2
  go_ret
  exact ⟨by simp, rfl⟩
def cmpI (x y : Int) : Int := if x < y then -1 else if y < x then 1 else 0
theorem cmp_any (x y : Int) (w : World) : Calls Try.prog 84 #[.int .i64 x, .int .i64 y] w fun e w' => e = .returned (.int .i64 (cmpI x y)) ∧ w = w' := by
  by_cases h1 : x < y
  · rw [show cmpI x y = -1 from if_pos h1]
    go_enter Try.func84, Try.ntmps84
    go_wp2_with (go_at_call 98; refine (nan_any _ _).mono ?_; rintro e w' ⟨rfl, rfl⟩)
    go_ret
    exact ⟨rfl, rfl⟩
  by_cases h2 : y < x
  · rw [show cmpI x y = 1 by unfold cmpI; rw [if_neg h1, if_pos h2]]
    go_enter Try.func84, Try.ntmps84
    go_wp2_with (go_at_call 98; refine (nan_any _ _).mono ?_; rintro e w' ⟨rfl, rfl⟩)
    go_ret
    exact ⟨rfl, rfl⟩
  · rw [show cmpI x y = 0 by unfold cmpI; rw [if_neg h1, if_neg h2]]
    go_enter Try.func84, Try.ntmps84
    go_wp2_with (go_at_call 98; refine (nan_any _ _).mono ?_; rintro e w' ⟨rfl, rfl⟩)
    go_ret
    exact ⟨rfl, rfl⟩
theorem desc_any (x y : Int) (w : World) : Calls Try.prog 78 #[.int .i64 x, .int .i64 y] w fun e w' => e = .returned (.int .i64 (cmpI y x)) ∧ w = w' := by
  go_enter Try.func78, Try.ntmps78
  go_wp2_with fail
  refine (cmp_any _ _ _).mono ?_
  rintro e w' ⟨rfl, rfl⟩
  go_wp2_with fail
  go_ret
  exact ⟨rfl, rfl⟩
theorem cmpI_neg {x y : Int} : (cmpI x y < 0) ↔ x < y := by
  unfold cmpI; split
  · simp_all
  · split <;> omega
theorem cmpI_yes {x y : Int} (h : x < y) : decide (cmpI x y < 0) = true := decide_eq_true (cmpI_neg.2 h)
theorem cmpI_no {x y : Int} (h : ¬ x < y) : decide (cmpI x y < 0) = false := decide_eq_false (fun e => h (cmpI_neg.1 e))

set_option maxHeartbeats 800000 in
theorem sorted_lib (a : Option Addr) (n cap : Nat) (xs : List Int) (w : World) (h : Row w a n xs) (hm : n ≤ 1048576) :
    Calls Try.prog 79 #[.slice a n cap, .func (.func 78) #[] #[]] w fun e w' => e = .returned (.bool (descB xs)) ∧ Below w.heap.size w w' := by
  have hl := h.1
  have hR := Lib.hid h
  clear h
  go_enter Try.func79, Try.ntmps79
  go_wp2
  go_loopw [5] (fun i wr => ∃ k : Int, -1 ≤ k ∧ k ≤ (n : Int) - 1 ∧ i = .int .i64 k ∧ Hid (∀ j : Nat, k ≤ j → j + 1 < n → xs.getD (j + 1) 0 ≤ xs.getD j 0) ∧ Below w.heap.size w wr) (fun i _ => (intOf i + 1).toNat)
  case atStart => exact ⟨(n : Int) - 1, by omega, by omega, rfl, fun j hj h2 => absurd h2 (by omega), Below.refl _ _⟩
  case round =>
    obtain ⟨k, hk1, hk2, rfl, he, hbel⟩ := hrel
    by_cases hlt : 0 < k
    · obtain ⟨j, rfl⟩ : ∃ j : Nat, k = (j : Int) + 1 := ⟨(k - 1).toNat, by omega⟩
      obtain ⟨b, off, rfl, hc⟩ := row_at hR.out (show j + 1 < n by omega)
      obtain ⟨b', off', e', hc'⟩ := row_at hR.out (show j < n by omega)
      cases e'
      have hc := kept hbel (block_lt hc) hc
      have hc' := kept hbel (block_lt hc') hc'
      obtain ⟨x, hx⟩ : ∃ x, xs.getD (j + 1) 0 = x := ⟨_, rfl⟩
      obtain ⟨y, hy⟩ : ∃ y, xs.getD j 0 = y := ⟨_, rfl⟩
      rw [hx] at hc
      rw [hy] at hc'
      have i1 : IntKind.i64.wrap ((j : Int) + 1 - 1) = (j : Int) := by rw [IntKind.wrap_i64]; omega
      have i2 : ((j : Int) + 1).toNat = j + 1 := by omega
      by_cases hyx : y < x
      · have hno := Lib.hid (desc_no (xs := xs) (i := j) (by omega) (by omega))
        have ht := cmpI_yes hyx
        clear hx hy hyx
        go_wp2_with fail
        go_quiet ((go_at_call 78; exact Calls.quiet_of_same (st (desc_any _ _ _))))
        go_wp2_with fail
        go_ret
        exact ⟨by rw [hno.out]; rfl, below_drewN hbel _⟩
      · have he' : Hid (∀ i : Nat, (j : Int) ≤ i → i + 1 < n → xs.getD (i + 1) 0 ≤ xs.getD i 0) := fun i hi h2 => by
          by_cases e : i = j
          · subst e; omega
          · exact he.out i (by omega) h2
        have ht := cmpI_no hyx
        clear hx hy hyx
        go_wp2_with fail
        go_quiet ((go_at_call 78; exact Calls.quiet_of_same (st (desc_any _ _ _))))
        go_wp2_with fail
        exact ⟨⟨(j : Int), by omega, by omega, by go_num, he', below_drewN hbel _⟩, by simp [intOf]; omega⟩
    · go_wp2_with fail
      go_ret
      exact ⟨by rw [desc_iff.2 (fun i hi => he.out i (by omega) (by omega))]; rfl, hbel⟩
end Go.Proofs.Yteadibgjieimkaa

