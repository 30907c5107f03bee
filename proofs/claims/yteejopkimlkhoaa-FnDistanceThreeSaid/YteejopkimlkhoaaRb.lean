/-
  The contracts of the program's small functions of chapter 11: the row of two columns, whether two rows cross there, and whether an image has a switch.
-/
import Derived.Test.YteejopkimlkhoaaEc
import Derived.Test.YteejopkimlkhoaaK
namespace Go.Proofs.Yteejopkimlkhoaa
set_option maxRecDepth 100000
open Go.RowKit

set_option maxHeartbeats 400000 in
theorem columns_any (A B : Int) (C D : Nat) (w : World) (h1 : C < D) (h2 : D < 6) :
    Calls Try.prog 76 #[.agg #[.int .i64 A, .int .i64 B, .int .i64 C, .int .i64 D]] w fun e w' => e = .returned (.int .i64 (mskI C D)) ∧ Below w.heap.size w w' := by
  have H := Lib.hid (msk_num D h2 C h1)
  obtain ⟨W0, hW0⟩ : ∃ W0, W0 = w.alloc (.cells #[.int .i64 A, .int .i64 B, .int .i64 C, .int .i64 D] 37) := ⟨_, rfl⟩
  have bb : Hid (Below w.heap.size w W0) := by subst hW0; exact (Below.refl _ _).alloc (Nat.le_refl _) _
  have s2 : W0.cell? ⟨w.heap.size, 2, none⟩ = some (.int .i64 C) := by subst hW0; go_simp
  have s3 : W0.cell? ⟨w.heap.size, 3, none⟩ = some (.int .i64 D) := by subst hW0; go_simp
  go_enter Try.func76, Try.ntmps76
  go_wp2_with fail
  rw [← hW0]
  clear hW0
  go_quiet (fail)
  go_wp2_with fail
  go_ret
  exact ⟨by rw [← H.out]; rfl, below_drewN bb.out _⟩

set_option maxHeartbeats 1000000 in
theorem crosses_any (W : Nat) (a : Option Addr) (n cap : Nat) (xs : List Int) (A B C D : Nat) (w : World) (h : Row w a n xs) (hv : Im W n xs) (hA : A < n) (hB : B < n) (hC : C < D) (hD : D < W) :
    Calls Try.prog 109 #[.agg #[.int .i64 A, .int .i64 B, .int .i64 C, .int .i64 D], .agg #[.int .i64 W, .slice a n cap]] w fun e w' => e = .returned (.bool (swC (cellOf xs) A B C D)) ∧ Below w.heap.size w w' := by
  have hw6 := hv.w6
  have hn6 := hv.l6
  have hD6 : D < 6 := by omega
  have hsw := Lib.hid (cross_row hv hA hB hC hD)
  obtain ⟨W0, hW0⟩ : ∃ W0, W0 = (w.alloc (.cells #[.int .i64 A, .int .i64 B, .int .i64 C, .int .i64 D] 37)).alloc (.cells #[.int .i64 W, .slice a n cap] 25) := ⟨_, rfl⟩
  have bb : Hid (Below w.heap.size w W0) := by subst hW0; exact ((Below.refl _ _).alloc (Nat.le_refl _) _).alloc (by simp) _
  have s0 : W0.cell? ⟨w.heap.size, 0, none⟩ = some (.int .i64 A) := by subst hW0; go_simp
  have s1 : W0.cell? ⟨w.heap.size, 1, none⟩ = some (.int .i64 B) := by subst hW0; go_simp
  have s2 : W0.cell? ⟨w.heap.size, 2, none⟩ = some (.int .i64 C) := by subst hW0; go_simp
  have s3 : W0.cell? ⟨w.heap.size, 3, none⟩ = some (.int .i64 D) := by subst hW0; go_simp
  have x1 : W0.cell? ⟨w.heap.size + 1, 1, none⟩ = some (.slice a n cap) := by subst hW0; go_simp
  have r := h.bel bb.out
  obtain ⟨b, off, rfl, cA⟩ := row_at r hA
  obtain ⟨b', off', e, cB⟩ := row_at r hB
  cases e
  obtain ⟨x, ex, hx⟩ := hv.nat hA
  obtain ⟨y, ey, hy⟩ := hv.nat hB
  rw [ex] at cA hsw
  rw [ey] at cB hsw
  have ax := and_63 D hD6 C hC x hx
  have ay := and_63 D hD6 C hC y hy
  clear h r hv ex ey
  have f0 := fun p : Bw W0 => bw_cell s0 p
  have f1 := fun p : Bw W0 => bw_cell s1 p
  have f2 := fun p : Bw W0 => bw_cell s2 p
  have f3 := fun p : Bw W0 => bw_cell s3 p
  have g1 := fun p : Bw W0 => bw_cell x1 p
  have gA := fun p : Bw W0 => bw_cell cA p
  have gB := fun p : Bw W0 => bw_cell cB p
  have cc : ∀ p : Bw W0, Calls Try.prog 76 #[.agg #[.int .i64 A, .int .i64 B, .int .i64 C, .int .i64 D]] p.v (fun e w' => e = .returned (.int .i64 (mskI C D)) ∧ ∃ q : Bw W0, w' = q.v) := fun p =>
    bw_of (columns_any _ _ C D _ hC hD6)
  replace cc := Lib.hid cc
  go_enter Try.func109, Try.ntmps109
  go_wp2_with fail
  rw [← hW0]
  clear hW0
  refine wp_region_bw (by kernel_rfl) (by kernel_rfl) ?_
  repeat (go_big_quiet_step (with_reducible exact cc.out _))
  refine wpQuiet_nil ?_
  intro _ hw'
  obtain ⟨pq, rfl⟩ := hw'
  have k0 := f0 pq
  have k1 := f1 pq
  have k2 := f2 pq
  have k3 := f3 pq
  have bq := Lib.hid (bb.out.trans (pq.h.mono bb.out.size))
  clear f0 f1 f2 f3 g1 gA gB cc s0 s1 s2 s3 x1 cA cB bb
  generalize pq.v = W1 at k0 k1 k2 k3 bq ⊢
  clear pq
  generalize hu : bits BinOp.and IntKind.i64 (x : Int) (mskI C D) = u at *
  generalize hq : bits BinOp.and IntKind.i64 (y : Int) (mskI C D) = v at *
  clear hu hq
  have hwu : IntKind.u64.wrap u = u := IntWalk.u64_in u ⟨by omega, by omega⟩
  go_wp2_with fail
  refine (ones_any u _ ax.1 ax.2).mono ?_
  rintro e w2 ⟨rfl, rfl⟩
  obtain ⟨t, ht⟩ : ∃ t, cntI u 6 = t := ⟨_, rfl⟩
  rw [ht] at hsw ⊢
  replace ht := Lib.hid ht
  by_cases h1 : t = 1
  case neg =>
    have e1 : (t == 1) = false := by rw [beq_eq_false_iff_ne]; exact h1
    have e2 : decide (t = 1) = false := decide_eq_false h1
    rw [e1, Bool.false_and] at hsw
    go_wp2_with fail
    go_ret
    exact ⟨by rw [← hsw.out]; rfl, bq.out⟩
  subst h1
  go_wp2_with fail
  refine (columns_any _ _ C D _ hC hD6).mono ?_
  rintro e w3 ⟨rfl, hb⟩
  replace bq := Lib.hid (bq.out.trans (hb.mono bq.out.size))
  clear hb
  rw [show ((1 : Int) == 1) = true from rfl, Bool.true_and] at hsw
  go_wp2_with fail
  go_ret
  exact ⟨by rw [← hsw.out]; rfl, bq.out⟩
end Go.Proofs.Yteejopkimlkhoaa

