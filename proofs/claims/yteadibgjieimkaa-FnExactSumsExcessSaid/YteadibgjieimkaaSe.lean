/-
  Plain facts on row sums and column sums: turned, mirrored, other cells; the laws' sum of a list.
-/
import Derived.Test.YteadibgjieimkaaSc
import Derived.Test.YteadibgjieimkaaEo
import Derived.Test.YteadibgjieimkaaEp
import Derived.Test.YteadibgjieimkaaQ
namespace Go.Proofs.Yteadibgjieimkaa
set_option maxRecDepth 100000
open Go.RowKit

theorem rs_get {xs : List Int} {W n i : Nat} (hi : i < n) : (rsL xs W n).getD i 0 = cntI (xs.getD i 0) W := rows_get (fun i => cntI (xs.getD i 0) W) hi
theorem cs_get {xs : List Int} {W n j : Nat} (hj : j < W) : (csL xs n W).getD j 0 = csI xs j n := rows_get (fun j => csI xs j n) hj
theorem Im.rs {W n : Nat} {xs : List Int} (h : Im W n xs) : rsOut W xs = rsL xs W n := by
  rw [rsOut, if_pos h.valid, h.hl, Int.toNat_natCast]
theorem Im.cs {W n : Nat} {xs : List Int} (h : Im W n xs) : csOut W xs = csL xs n W := by
  rw [csOut, if_pos h.valid, h.hl, Int.toNat_natCast]
theorem rs_total (xs : List Int) (W n : Nat) : sumI (fun i => (rsL xs W n).getD i 0) n = manyI W xs n := by
  rw [many_sum]
  exact sum_ext fun _ hi => by rw [rs_get hi, cnt_sum]
theorem cs_total (xs : List Int) (W n : Nat) : sumI (fun j => (csL xs n W).getD j 0) W = manyI W xs n := by
  rw [many_sum, sum_swap]
  exact sum_ext fun _ hj => cs_get hj
theorem Im.turn_cs {W n : Nat} {xs : List Int} (h : Im W n xs) : csL (turnL xs W n) W n = rsL xs W n :=
  rows_ext fun _ hi => by
    rw [cnt_sum]
    exact sum_ext fun _ hj => h.turn_bit hi hj
theorem Im.turn_rs {W n : Nat} {xs : List Int} (h : Im W n xs) : rsL (turnL xs W n) n W = csL xs n W :=
  rows_ext fun _ hj => by
    rw [cnt_sum]
    exact sum_ext fun _ hi => h.turn_bit hi hj
theorem Im.mir_rs {W n : Nat} {xs : List Int} (h : Im W n xs) : rsL (mirL xs W n) W n = rsL xs W n :=
  rows_ext fun i hi => by
    rw [show (mirL xs W n).getD i 0 = mirI W (xs.getD i 0) W from rows_get (fun i => mirI W (xs.getD i 0) W) hi]
    obtain ⟨m, e, hm⟩ := h.nat hi
    rw [e]
    exact (mirb_nat W (by have := h.w6; omega) m hm).2.2.1
theorem Im.mir_csI {W n : Nat} {xs : List Int} (h : Im W n xs) {j : Nat} (hj : j < W) : csI (mirL xs W n) j n = csI xs (W - 1 - j) n :=
  sum_ext fun _ hi => h.mir_bit' hi hj
theorem Im.mir_cs {W n : Nat} {xs : List Int} (h : Im W n xs) {j : Nat} (hj : j < W) : (csL (mirL xs W n) n W).getD j 0 = (csL xs n W).getD (W - 1 - j) 0 := by
  rw [cs_get hj, cs_get (by omega), h.mir_csI hj]
theorem Im.oth_rs {W n : Nat} {xs : List Int} (h : Im W n xs) : rsL (othL xs W n) W n = rowsL (fun i => W - (rsL xs W n).getD i 0) n :=
  rows_ext fun i hi => by
    obtain ⟨m, hm, hm64⟩ := h.nat hi
    have := (h.row i hi).2
    rw [rs_get hi, oth_get hi, hm]
    exact (othb_nat W (by have := h.w6; omega) m hm64 (by rw [← hm]; exact this)).2.1
theorem sum_sub (f : Nat → Int) (k : Nat) : sumI (fun i => 1 - f i) k = k - sumI f k := by
  induction k with
  | zero => rfl
  | succ k ih => simp only [sumI]; rw [ih]; omega
theorem Im.oth_cs {W n : Nat} {xs : List Int} (h : Im W n xs) : csL (othL xs W n) n W = rowsL (fun j => n - (csL xs n W).getD j 0) W :=
  rows_ext fun j hj => by
    rw [cs_get hj]
    unfold csI
    rw [← sum_sub]
    exact sum_ext fun _ hi => h.oth_bit hi hj

theorem Im.ok {W n : Nat} {xs : List Int} (h : Im W n xs) : n ≤ 9223372036854775807 ∧ W ≤ 9223372036854775807 := by have := h.l6; have := h.w6; omega
theorem Im.rs_bd {W n : Nat} {xs : List Int} (_ : Im W n xs) {i : Nat} (hi : i < n) : 0 ≤ (rsL xs W n).getD i 0 ∧ (rsL xs W n).getD i 0 ≤ W := by rw [rs_get hi]; exact cnt_bd _ _
theorem Im.cs_bd {W n : Nat} {xs : List Int} (_ : Im W n xs) {j : Nat} (hj : j < W) : 0 ≤ (csL xs n W).getD j 0 ∧ (csL xs n W).getD j 0 ≤ n := by rw [cs_get hj]; exact csI_bd _ _ _
theorem Im.sumsV {W n : Nat} {xs : List Int} (h : Im W n xs) : sumsB (rsL xs W n) (csL xs n W) = true := by
  have := h.w1; have := h.w6; have := h.l1; have := h.l6
  refine sumsB_5 (by rw [rs_len]; exact inB_yes (by omega) (by omega)) (by rw [cs_len]; exact inB_yes (by omega) (by omega)) (allIn_iff.2 fun i hi => ?_) (allIn_iff.2 fun i hi => ?_)
  · rw [rs_len] at hi; rw [cs_len]; exact h.rs_bd hi
  · rw [cs_len] at hi; rw [rs_len]; exact h.cs_bd hi

theorem sum_small {f : Nat → Int} {k : Nat} (h : ∀ i, i < k → 0 ≤ f i ∧ f i ≤ 6) : 0 ≤ sumI f k ∧ sumI f k ≤ 6 * k := by
  induction k with
  | zero => simp [sumI]
  | succ k ih => have := ih fun i hi => h i (by omega); have := h k (by omega); simp only [sumI]; omega

set_option maxHeartbeats 400000 in
theorem sumOf_any (a : Option Addr) (n cap : Nat) (xs : List Int) (w : World) (h : Row w a n xs) (hn : n ≤ 6) (hb : ∀ i, i < n → 0 ≤ xs.getD i 0 ∧ xs.getD i 0 ≤ 6) :
    Calls Try.prog 29 #[.slice a n cap] w fun e w' => e = .returned (.int .i64 (sumI (fun i => xs.getD i 0) n)) ∧ w = w' := by
  have hR := Lib.hid h
  have hsm : Hid (∀ k, k ≤ n → 0 ≤ sumI (fun i => xs.getD i 0) k ∧ sumI (fun i => xs.getD i 0) k ≤ 6 * k) := fun k hk => sum_small fun i hi => hb i (by omega)
  have hb := Lib.hid hb
  clear h
  go_enter Try.func29, Try.ntmps29
  go_wp2
  go_loop [3, 4] (fun o i => ∃ k : Nat, k ≤ n ∧ i = .int .i64 k ∧ o = .int .i64 (sumI (fun i => xs.getD i 0) k)) (fun _ i => n - (intOf i).toNat)
  case atStart => exact ⟨0, Nat.zero_le _, rfl, rfl⟩
  case round =>
    obtain ⟨k, hk, rfl, rfl⟩ := hrel
    have hs := hsm.out k hk
    by_cases hlt : k < n
    · obtain ⟨b, off, rfl, hc⟩ := row_at hR.out hlt
      have hx := hb.out k hlt
      have hsn : sumI (fun i => xs.getD i 0) (k + 1) = sumI (fun i => xs.getD i 0) k + xs.getD k 0 := rfl
      generalize sumI (fun i => xs.getD i 0) k = q at hs hsn
      generalize xs.getD k 0 = x at hc hx hsn
      have hsn := Lib.hid hsn
      go_wp2
      exact ⟨⟨k + 1, by omega, by go_num, by rw [hsn.out]⟩, by simp [intOf]; omega⟩
    · have : k = n := by omega
      subst this
      go_wp2
      go_ret
      exact ⟨rfl, rfl⟩

/-- What a function that gives a list of so many numbers leaves. -/
def GivesK (w : World) (k : Nat) (L : List Int) (e : Ending) (w' : World) : Prop :=
  (∃ a cap, e = .returned (.slice a k cap) ∧ OwnI w' w.heap.size a k cap L) ∧ Below w.heap.size w w'
theorem GivesL.k {w w' : World} {L M : List Int} {e : Ending} {k : Nat} (h : GivesL w L e w') (hl : L.length = k) (hM : L = M) : GivesK w k M e w' := by subst hl; subst hM; exact h
theorem sumOf_bel (a : Option Addr) (n cap : Nat) (xs : List Int) (w : World) (h : Row w a n xs) (hn : n ≤ 6) (hb : ∀ i, i < n → 0 ≤ xs.getD i 0 ∧ xs.getD i 0 ≤ 6) (q : Int) (hq : sumI (fun i => xs.getD i 0) n = q) :
    Calls Try.prog 29 #[.slice a n cap] w fun e w' => e = .returned (.int .i64 q) ∧ Below w.heap.size w w' := by
  subst hq; exact (sumOf_any a n cap xs w h hn hb).mono fun _ _ h => ⟨h.1, h.2 ▸ Below.refl _ _⟩
theorem rs_ok {W n : Nat} {xs : List Int} (h : Im W n xs) (s : Option Addr) (cg : Nat) (w : World) (hR : Row w s n xs) :
    Calls Try.prog 23 #[.agg #[.int .i64 W, .slice s n cg]] w (GivesK w n (rsL xs W n)) :=
  (rsums_impl W s n cg xs w hR h.ok.1).mono fun _ _ hg => hg.k (by rw [h.rs, rs_len]) h.rs
theorem cs_ok {W n : Nat} {xs : List Int} (h : Im W n xs) (s : Option Addr) (cg : Nat) (w : World) (hR : Row w s n xs) :
    Calls Try.prog 24 #[.agg #[.int .i64 W, .slice s n cg]] w (GivesK w W (csL xs n W)) :=
  (csums_impl W s n cg xs w hR h.ok.1).mono fun _ _ hg => hg.k (by rw [h.cs, cs_len]) h.cs
theorem rs_sok {W n : Nat} {xs : List Int} (h : Im W n xs) (s : Option Addr) (cg : Nat) (w : World) (hR : Row w s n xs) :
    Calls Try.prog 52 #[.agg #[.int .i64 W, .slice s n cg]] w (GivesK w n (rsL xs W n)) :=
  (rsums_spec W s n cg xs w hR h.ok.1).mono fun _ _ hg => hg.k (by rw [h.rs, rs_len]) h.rs
theorem cs_sok {W n : Nat} {xs : List Int} (h : Im W n xs) (s : Option Addr) (cg : Nat) (w : World) (hR : Row w s n xs) :
    Calls Try.prog 53 #[.agg #[.int .i64 W, .slice s n cg]] w (GivesK w W (csL xs n W)) :=
  (csums_spec W s n cg xs w hR h.ok.1).mono fun _ _ hg => hg.k (by rw [h.cs, cs_len]) h.cs
theorem rs_no {W : Int} {n : Nat} {xs : List Int} (h : validB W xs = false) (hn : n ≤ 6) (s : Option Addr) (cg : Nat) (w : World) (hR : Row w s n xs) :
    Calls Try.prog 23 #[.agg #[.int .i64 W, .slice s n cg]] w (GivesK w 0 []) :=
  (rsums_impl W s n cg xs w hR (by omega)).mono fun _ _ hg => hg.k (by rw [rsOut, h]; rfl) (by rw [rsOut, h]; rfl)
theorem cs_no {W : Int} {n : Nat} {xs : List Int} (h : validB W xs = false) (hn : n ≤ 6) (s : Option Addr) (cg : Nat) (w : World) (hR : Row w s n xs) :
    Calls Try.prog 24 #[.agg #[.int .i64 W, .slice s n cg]] w (GivesK w 0 []) :=
  (csums_impl W s n cg xs w hR (by omega)).mono fun _ _ hg => hg.k (by rw [csOut, h]; rfl) (by rw [csOut, h]; rfl)
theorem rs_sno {W : Int} {n : Nat} {xs : List Int} (h : validB W xs = false) (hn : n ≤ 6) (s : Option Addr) (cg : Nat) (w : World) (hR : Row w s n xs) :
    Calls Try.prog 52 #[.agg #[.int .i64 W, .slice s n cg]] w (GivesK w 0 []) :=
  (rsums_spec W s n cg xs w hR (by omega)).mono fun _ _ hg => hg.k (by rw [rsOut, h]; rfl) (by rw [rsOut, h]; rfl)
theorem cs_sno {W : Int} {n : Nat} {xs : List Int} (h : validB W xs = false) (hn : n ≤ 6) (s : Option Addr) (cg : Nat) (w : World) (hR : Row w s n xs) :
    Calls Try.prog 53 #[.agg #[.int .i64 W, .slice s n cg]] w (GivesK w 0 []) :=
  (csums_spec W s n cg xs w hR (by omega)).mono fun _ _ hg => hg.k (by rw [csOut, h]; rfl) (by rw [csOut, h]; rfl)
end Go.Proofs.Yteadibgjieimkaa

