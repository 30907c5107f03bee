/-
  The contracts of PartSum and PartBelow, of the program and of the model.
-/
import Derived.Test.YteadibgjieimkaaPe
namespace Go.Proofs.Yteadibgjieimkaa
set_option maxRecDepth 100000
open Go.RowKit

set_option maxHeartbeats 800000 in
theorem msum_impl (a : Option Addr) (n cap : Nat) (xs : List Int) (k : Int) (w : World) (h : Row w a n xs) (hc : n ≤ cap) (hP : Par xs) (hk : 0 ≤ k) :
    Calls Try.prog 65 #[.slice a n cap, .int .i64 k] w fun e w' => e = .returned (.int .i64 (psum xs k.toNat)) ∧ w = w' := by
  have hl := h.1
  have hn := hP.l
  rw [hl] at hn
  obtain ⟨m, hm⟩ : ∃ m : Nat, min k.toNat n = m := ⟨_, rfl⟩
  have hmn : m ≤ n := by omega
  have hmk : min k (n : Int) = (m : Int) := by omega
  rw [psum_min, hl, hm]
  have hsm : Hid (∀ j, 0 ≤ psum xs j ∧ psum xs j ≤ 36) := hP.psum_36
  have hR := Lib.hid h
  have hb := Lib.hid hP.bd'
  clear h hm
  go_enter Try.func65, Try.ntmps65
  go_wp2_with fail
  go_loop [5, 15] (fun o i => ∃ j : Nat, j ≤ m ∧ i = .int .i64 j ∧ o = .int .i64 (psum xs j)) (fun _ i => m - (intOf i).toNat)
  case atStart => exact ⟨0, Nat.zero_le _, rfl, rfl⟩
  case round =>
    obtain ⟨j, hj, rfl, rfl⟩ := hrel
    have hs := hsm.out j
    by_cases hlt : j < m
    · obtain ⟨b, off, rfl, hc⟩ := row_at hR.out (show j < n by omega)
      have hx := hb.out j
      have hsn : psum xs (j + 1) = psum xs j + xs.getD j 0 := rfl
      generalize psum xs j = q at hs hsn
      generalize xs.getD j 0 = x at hc hx hsn
      have hsn := Lib.hid hsn
      go_wp2_with fail
      exact ⟨⟨j + 1, by omega, by go_num, by rw [hsn.out]⟩, by simp [intOf]; omega⟩
    · have : j = m := by omega
      subst this
      go_wp2_with fail
      go_ret
      exact ⟨rfl, rfl⟩

set_option maxHeartbeats 800000 in
theorem l3sum_spec (a : Option Addr) (n cap : Nat) (xs : List Int) (k : Int) (w : World) (h : Row w a n xs) (hP : Par xs) (hk : 0 ≤ k) :
    Calls Try.prog 67 #[.slice a n cap, .int .i64 k] w fun e w' => e = .returned (.int .i64 (psum xs k.toNat)) ∧ w = w' := by
  have hl := h.1
  have hn := hP.l
  rw [hl] at hn
  obtain ⟨m, hm⟩ : ∃ m : Nat, min k.toNat n = m := ⟨_, rfl⟩
  have hmn : m ≤ n := by omega
  have hmk : (m : Int) ≤ k := by omega
  have hend : m < n → k = (m : Int) := by omega
  rw [psum_min, hl, hm]
  have hsm : Hid (∀ j, 0 ≤ psum xs j ∧ psum xs j ≤ 36) := hP.psum_36
  have hR := Lib.hid h
  have hb := Lib.hid hP.bd'
  clear h hm
  go_enter Try.func67, Try.ntmps67
  go_wp2_with fail
  go_loop [5, 6] (fun o i => ∃ j : Nat, j ≤ m ∧ i = .int .i64 j ∧ o = .int .i64 (psum xs j)) (fun _ i => m - (intOf i).toNat)
  case atStart => exact ⟨0, Nat.zero_le _, rfl, rfl⟩
  case round =>
    obtain ⟨j, hj, rfl, rfl⟩ := hrel
    have hs := hsm.out j
    by_cases hlt : j < m
    · obtain ⟨b, off, rfl, hc⟩ := row_at hR.out (show j < n by omega)
      have hx := hb.out j
      have hsn : psum xs (j + 1) = psum xs j + xs.getD j 0 := rfl
      have h1 : j < n := by omega
      have h2 : (j : Int) < k := by omega
      clear hend
      generalize psum xs j = q at hs hsn
      generalize xs.getD j 0 = x at hc hx hsn
      have hsn := Lib.hid hsn
      go_wp2_with fail
      exact ⟨⟨j + 1, by omega, by go_num, by rw [hsn.out]⟩, by simp [intOf]; omega⟩
    · have : j = m := by omega
      subst this
      by_cases h1 : j < n
      · have h2 : ¬ (j : Int) < k := by have := hend h1; omega
        clear hend
        go_wp2_with fail
        go_ret
        exact ⟨rfl, rfl⟩
      · clear hend
        go_wp2_with fail
        go_ret
        exact ⟨rfl, rfl⟩

/-- What PartSum gives. -/
def psumOf (xs : List Int) (k : Int) : Int := if partB xs = true ∧ 0 ≤ k then psum xs k.toNat else -1
theorem psumOf_yes {xs : List Int} {k : Int} (h : Par xs) (hk : 0 ≤ k) : psumOf xs k = psum xs k.toNat := if_pos ⟨h.valid, hk⟩
theorem psumOf_inv {xs : List Int} {k : Int} (h : partB xs = false) : psumOf xs k = -1 := if_neg (by rw [h]; simp)
theorem psumOf_neg {xs : List Int} {k : Int} (h : k < 0) : psumOf xs k = -1 := if_neg (by omega)

end Go.Proofs.Yteadibgjieimkaa

