/-
  The laws' sum of more than six numbers; the greater one of two numbers.
-/
import Derived.Test.YtemmfnlnhekclaaZi
namespace Go.Proofs.Ytemmfnlnhekclaa
set_option maxRecDepth 100000
open Go.RowKit

set_option maxHeartbeats 400000 in
theorem sumOf_wide (a : Option Addr) (n cap : Nat) (xs : List Int) (w : World) (h : Row w a n xs) (hn : n ≤ 64) (hb : ∀ i, i < n → -1000000 ≤ xs.getD i 0 ∧ xs.getD i 0 ≤ 1000000) (q : Int) (hq : sumI (fun i => xs.getD i 0) n = q) :
    Calls Try.prog 30 #[.slice a n cap] w fun e w' => e = .returned (.int .i64 q) ∧ Below w.heap.size w w' := by
  subst hq
  have hR := Lib.hid h
  have hsm : Hid (∀ k, k ≤ n → -((k : Int) * 1000000) ≤ sumI (fun i => xs.getD i 0) k ∧ sumI (fun i => xs.getD i 0) k ≤ (k : Int) * 1000000) := fun k hk => sum_abs fun i hi => hb i (by omega)
  have hb := Lib.hid hb
  clear h
  go_enter Try.func30, Try.ntmps30
  go_wp2
  go_loop [3, 4] (fun o i => ∃ k : Nat, k ≤ n ∧ i = .int .i64 k ∧ o = .int .i64 (sumI (fun i => xs.getD i 0) k)) (fun _ i => n - (intOf i).toNat)
  case atStart => exact ⟨0, Nat.zero_le _, rfl, rfl⟩
  case round =>
    obtain ⟨k, hk, rfl, rfl⟩ := hrel
    have hs := hsm.out k hk
    by_cases hlt : k < n
    · obtain ⟨b, off, rfl, hc⟩ := row_at hR.out hlt
      have hx := hb.out k hlt
      have hsn : sumI (fun i => xs.getD i 0) (k + 1) = sumI (fun i => xs.getD i 0) k + xs.getD k 0 := rfl
      generalize sumI (fun i => xs.getD i 0) k = q at hs hsn
      generalize xs.getD k 0 = x at hc hx hsn
      have hsn := Lib.hid hsn
      go_wp2
      exact ⟨⟨k + 1, by omega, by go_num, by rw [hsn.out]⟩, by simp [intOf]; omega⟩
    · have : k = n := by omega
      subst this
      go_wp2
      go_ret
      exact ⟨rfl, Below.refl _ _⟩
theorem ds_bd {W n : Nat} {xs : List Int} (hI : Im W n xs) {d k : Nat} (hd : d < 8) (hk : k < numN d n W) : 0 ≤ (dsL d xs W n).getD k 0 ∧ (dsL d xs W n).getD k 0 ≤ 6 := by
  have h1 := ds_nn (xs := xs) hk
  have h2 := ds_short (xs := xs) hd hk
  have := hI.w6
  have := hI.l6
  omega
end Go.Proofs.Ytemmfnlnhekclaa

