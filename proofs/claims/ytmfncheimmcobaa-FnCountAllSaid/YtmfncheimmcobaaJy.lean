/-
  The model's l15Choose and CountAll.
-/
import Derived.Test.YtmfncheimmcobaaJu
namespace Go.Proofs.Ytmfncheimmcobaa
set_option maxRecDepth 100000
open Go.RowKit

set_option maxHeartbeats 800000 in
theorem choose_spec (W k : Nat) (hW : W ≤ 6) (hk : k ≤ W) (w : World) :
    Calls Try.prog 66 #[.int .i64 W, .int .i64 k] w fun e w' => e = .returned (.int .i64 (choI W k)) ∧ w = w' := by
  have hcf := Lib.hid (fun i (hi : i ≤ W) => (cho_few W (by omega) i (by omega)).2)
  have hnx := Lib.hid (fun i : Nat => show choI W (i + 1) = choI W i * ((W : Int) - i) / ((i : Int) + 1) from rfl)
  go_enter Try.func66, Try.ntmps66
  go_wp2_with fail
  go_loop [5, 6] (fun o i => ∃ j : Nat, j ≤ k ∧ i = .int .i64 j ∧ o = .int .i64 (choI W j)) (fun _ i => k - (intOf i).toNat)
  case atStart => exact ⟨0, Nat.zero_le _, rfl, rfl⟩
  case round =>
    obtain ⟨j, hj, rfl, rfl⟩ := hrel
    by_cases hlt : j < k
    · have h1 := hcf.out j (by omega)
      have h2 := hnx.out j
      obtain ⟨C, hC⟩ : ∃ C, choI W j = C := ⟨_, rfl⟩
      rw [hC] at h1 h2 ⊢
      obtain ⟨D, hD⟩ : ∃ D, choI W (j + 1) = D := ⟨_, rfl⟩
      rw [hD] at h2
      have h3 := hcf.out (j + 1) (by omega)
      rw [hD] at h3
      obtain ⟨M, hM⟩ : ∃ M, C * ((W : Int) - j) = M := ⟨_, rfl⟩
      have hMb : 0 ≤ M ∧ M ≤ 120 := by
        have a1 : 0 ≤ C * ((W : Int) - j) := Int.mul_nonneg (by omega) (by omega)
        have a2 : C * ((W : Int) - j) ≤ 20 * ((W : Int) - j) := Int.mul_le_mul_of_nonneg_right h1.2 (by omega)
        omega
      rw [hM] at h2
      have ht : M.tdiv ((j : Int) + 1) = D := by rw [Int.tdiv_eq_ediv_of_nonneg hMb.1]; exact h2.symm
      have hz : ((j : Int) + 1 == 0) = false := by rw [beq_eq_false_iff_ne]; omega
      have hz2 : ¬ (j : Int) + 1 = 0 := by omega
      have w1 : IntKind.i64.wrap ((W : Int) - j) = (W : Int) - j := IntWalk.i64_in _ ⟨by omega, by omega⟩
      have w2 : IntKind.i64.wrap (C * ((W : Int) - j)) = M := by rw [hM]; exact IntWalk.i64_in _ ⟨by omega, by omega⟩
      have w2' : wrap64 (C * ((W : Int) - j)) = M := by rw [hM]; exact IntWalk.wrap64_in _ ⟨by omega, by omega⟩
      have w3 : IntKind.i64.wrap ((j : Int) + 1) = (j : Int) + 1 := IntWalk.i64_in _ ⟨by omega, by omega⟩
      have w4 : IntKind.i64.wrap (M.tdiv ((j : Int) + 1)) = D := by rw [ht]; exact IntWalk.i64_in _ ⟨by omega, by omega⟩
      have w4' : wrap64 (M.tdiv ((j : Int) + 1)) = D := by rw [ht]; exact IntWalk.wrap64_in _ ⟨by omega, by omega⟩
      replace hC := Lib.hid hC
      replace hD := Lib.hid hD
      replace hM := Lib.hid hM
      replace h2 := Lib.hid h2
      replace ht := Lib.hid ht
      go_wp2_with fail
      exact ⟨⟨j + 1, by omega, by go_num, by rw [hD.out]⟩, by simp [intOf]; omega⟩
    · obtain rfl : j = k := by omega
      go_wp2_with fail
      go_ret
      exact ⟨rfl, rfl⟩
set_option maxHeartbeats 3200000 in
theorem ca_spec (a : Option Addr) (n cap : Nat) (xs : List Int) (e : Int) (w : World) (h : Row w a n xs) (hm : n ≤ 1048576) :
    Calls Try.prog 33 #[.slice a n cap, .int .i64 e] w fun e' w' => e' = .returned (.int .i64 (caO xs e)) ∧ Below w.heap.size w w' := by
  have hl := h.1
  have hb := bn_spec a n cap xs e w h (by omega)
  have hR := Lib.hid h
  unfold caO
  clear h
  by_cases hs : nestB xs e = true
  case neg =>
    rw [if_neg hs]
    rw [nestOut_no (by simpa using hs)] at hb
    go_enter Try.func33, Try.ntmps33
    go_wp2_with fail
    refine hb.mono ?_
    rintro e' w1 ⟨⟨ab, cb, rfl, _⟩, hb⟩
    have bb := Lib.hid (hb.alloc hb.size (.cells #[.int .i64 0, .slice ab 0 cb] 32))
    clear hb
    go_wp2_with fail
    go_ret
    exact ⟨rfl, bb.out⟩
  rw [if_pos hs]
  have he := inB_iff.1 (by unfold nestB at hs; rw [Bool.and_eq_true, Bool.and_eq_true] at hs; exact hs.2.1 : inB e 1 6 = true)
  obtain ⟨W, rfl⟩ := Int.eq_ofNat_of_zero_le (by omega : 0 ≤ e)
  have hp := nestB_parts hs
  rw [hl] at hp
  have hn6 := hp.1.2
  have hW6 := hp.2.1.2
  rw [show nestOut xs W = ⟨true, W, nestL xs W⟩ from by unfold nestOut; rw [if_pos hs, Int.toNat_natCast]] at hb
  have hsm := Lib.hid (all_small (rows := xs) hW6 (by omega) (by rw [hl]; exact hp.2.2))
  have hbd := Lib.hid hp.2.2
  rw [allC_prod, hl]
  rw [hl] at hsm
  have hpr := Lib.hid (fun k => show prodI (fun i => choI W (xs.getD i 0).toNat) (k + 1) = prodI (fun i => choI W (xs.getD i 0).toNat) k * choI W (xs.getD k 0).toNat from rfl)
  obtain ⟨PR, hPR⟩ : ∃ PR, prodI (fun i => choI W (xs.getD i 0).toNat) = PR := ⟨_, rfl⟩
  rw [hPR] at hsm ⊢
  have hP0 : PR 0 = 1 := by rw [← hPR]; rfl
  simp only [hPR] at hpr
  replace hPR := Lib.hid hPR
  replace hP0 := Lib.hid hP0
  clear hp hs
  go_enter Try.func33, Try.ntmps33
  go_wp2_with fail
  refine hb.mono ?_
  rintro e' w1 ⟨⟨ab, cb, rfl, _⟩, hb⟩
  obtain ⟨W1, hW1⟩ : ∃ W1, W1 = w1.alloc (.cells #[.int .i64 W, .slice ab (nestL xs W).length cb] 32) := ⟨_, rfl⟩
  have hb1 : Below w1.heap.size w1 W1 := by rw [hW1]; exact (Below.refl _ _).alloc (Nat.le_refl _) _
  have bb := Lib.hid (hb.trans (hb1.mono hb.size))
  have hR1 := Lib.hid (hR.out.bel bb.out)
  clear hb hb1
  go_upto_region 2 with fail
  rw [← hW1]
  clear hW1
  go_wp2_with fail
  go_loopw [7, 8] (fun o i wr => ∃ k : Nat, k ≤ n ∧ i = .int .i64 k ∧ o = .int .i64 (PR k) ∧ Hid (W1 = wr)) (fun _ i _ => n - (intOf i).toNat)
  case atStart => exact ⟨0, Nat.zero_le _, rfl, by rw [hP0.out], by first | exact Lib.hid rfl | exact Lib.hid trivial⟩
  case round =>
    obtain ⟨k, hk, rfl, rfl, hw⟩ := hrel
    obtain rfl := hw.out
    clear hw
    by_cases hlt : k < n
    · obtain ⟨b2, o2, rfl, hc⟩ := row_at hR1.out hlt
      have hx := hbd.out k hlt
      have hnx := hpr.out k
      obtain ⟨r, hr⟩ := Int.eq_ofNat_of_zero_le hx.1
      rw [hr] at hc hx hnx
      rw [Int.toNat_natCast] at hnx
      have cc := choose_spec W r hW6 (by omega) W1
      have s1 := hsm.out k hk
      have s2 := hsm.out (k + 1) (by omega)
      obtain ⟨V, hV⟩ : ∃ V, PR k = V := ⟨_, rfl⟩
      rw [hV] at hnx s1 ⊢
      obtain ⟨V2, hV2⟩ : ∃ V2, PR (k + 1) = V2 := ⟨_, rfl⟩
      rw [hV2] at hnx s2
      obtain ⟨C, hC⟩ : ∃ C, choI W r = C := ⟨_, rfl⟩
      rw [hC] at hnx cc
      have i1 : IntKind.i64.wrap (V * C) = V2 := by rw [← hnx]; exact IntWalk.i64_in _ ⟨by omega, by omega⟩
      have i2 : wrap64 (V * C) = V2 := by rw [← hnx]; exact IntWalk.wrap64_in _ ⟨by omega, by omega⟩
      replace hV := Lib.hid hV
      replace hV2 := Lib.hid hV2
      replace hC := Lib.hid hC
      replace hr := Lib.hid hr
      replace hnx := Lib.hid hnx
      go_wp2_with fail
      refine cc.mono ?_
      rintro e1 w2 ⟨rfl, rfl⟩
      go_wp2_with fail
      exact ⟨⟨k + 1, by omega, by go_num, by rw [hV2.out], by first | exact Lib.hid rfl | exact Lib.hid trivial⟩, by simp [intOf]; omega⟩
    · obtain rfl : k = n := by omega
      go_wp2_with fail
      go_ret
      exact ⟨rfl, bb.out⟩
end Go.Proofs.Ytmfncheimmcobaa

