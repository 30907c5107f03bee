/-
  The contracts of chapter 13's functions in the forms that the laws ask for.
-/
import Derived.Test.YtepeplmbnkjeeaaMl
import Derived.Test.YtepeplmbnkjeeaaMi
import Derived.Test.YtepeplmbnkjeeaaWg
import Derived.Test.YtepeplmbnkjeeaaKh
namespace Go.Proofs.Ytepeplmbnkjeeaa
set_option maxRecDepth 100000
open Go.RowKit

variable {W n : Nat} {V : Int} {xs ys : List Int} {i j : Nat}
theorem has_ok (hI : Im W n xs) (hi : i < n) (hj : j < W) {b : Bool} (hb : cellOf xs i j = b) (s : Option Addr) (cg : Nat) (w : World) (hR : Row w s n xs) :
    Calls Try.prog 28 #[.agg #[.int .i64 W, .slice s n cg], .int .i64 i, .int .i64 j] w fun e w' => e = .returned (.bool b) ∧ Below w.heap.size w w' :=
  (has_impl W s n cg xs i j w hR (by have := hI.l6; omega)).mono fun e w' hh => ⟨by rw [hh.1, has_cell hI hi hj, hb], hh.2⟩
theorem sums_ok (hI : Im W n xs) (hJ : Im W n ys) (hs : SumE xs ys W n) (s t : Option Addr) (cg ch : Nat) (w : World) (hR : Row w s n xs) (hR' : Row w t n ys) :
    Calls Try.prog 33 #[.agg #[.int .i64 W, .slice s n cg], .agg #[.int .i64 W, .slice t n ch]] w fun e w' => e = .returned (.bool true) ∧ Below w.heap.size w w' :=
  (same_impl (W : Int) W s t n n cg ch xs ys w hR hR' (by have := hI.l6; omega) (by have := hI.l6; omega)).mono fun e w' hh => ⟨by rw [hh.1, hI.same hJ hs.1 hs.2], hh.2⟩
theorem var_ok (hI : Im W n xs) (hi : i < n) (hj : j < W) {b : Bool} (hb : varB xs W n i j = b) (s : Option Addr) (cg : Nat) (w : World) (hR : Row w s n xs) :
    Calls Try.prog 30 #[.agg #[.int .i64 W, .slice s n cg], .int .i64 i, .int .i64 j] w fun e w' => e = .returned (.bool b) ∧ Below w.heap.size w w' :=
  (var_impl W s n cg xs i j w hR (by have := hI.l6; omega)).mono fun e w' hh => ⟨by rw [hh.1, varO_nat hI hi hj, hb], hh.2⟩
theorem var_io {i j : Int} {b : Bool} (hb : varO V xs i j = b) (hn : n ≤ 6) (s : Option Addr) (cg : Nat) (w : World) (hR : Row w s n xs) :
    Calls Try.prog 30 #[.agg #[.int .i64 V, .slice s n cg], .int .i64 i, .int .i64 j] w fun e w' => e = .returned (.bool b) ∧ Below w.heap.size w w' :=
  (var_impl V s n cg xs i j w hR (by omega)).mono fun e w' hh => ⟨by rw [hh.1, hb], hh.2⟩
theorem var_so {i j : Int} {b : Bool} (hb : varO V xs i j = b) (hn : n ≤ 6) (s : Option Addr) (cg : Nat) (w : World) (hR : Row w s n xs) :
    Calls Try.prog 31 #[.agg #[.int .i64 V, .slice s n cg], .int .i64 i, .int .i64 j] w fun e w' => e = .returned (.bool b) ∧ Below w.heap.size w w' :=
  (var_spec V s n cg xs i j w hR (by omega)).mono fun e w' hh => ⟨by rw [hh.1, hb], hh.2⟩
theorem vars_out (hI : Im W n xs) : varsO W xs = ⟨true, W, varL xs W n⟩ := by
  unfold varsO; rw [if_pos hI.valid, hI.hl, Int.toNat_natCast]
theorem vars_ok (hI : Im W n xs) {L : List Int} (hL : varL xs W n = L) (s : Option Addr) (cg : Nat) (w : World) (hR : Row w s n xs) :
    Calls Try.prog 35 #[.agg #[.int .i64 W, .slice s n cg]] w (GivesI w W n L) := by
  have h := vars_impl (W : Int) s n cg xs w hR (by have := hI.l6; omega)
  rw [vars_out hI, hL] at h
  exact h.mono fun _ _ hh => hh.ok (by rw [← hL]; exact (varl_im hI).hl)
theorem vars_sok (hI : Im W n xs) {L : List Int} (hL : varL xs W n = L) (s : Option Addr) (cg : Nat) (w : World) (hR : Row w s n xs) :
    Calls Try.prog 36 #[.agg #[.int .i64 W, .slice s n cg]] w (GivesI w W n L) := by
  have h := vars_spec (W : Int) s n cg xs w hR (by have := hI.l6; omega)
  rw [vars_out hI, hL] at h
  exact h.mono fun _ _ hh => hh.ok (by rw [← hL]; exact (varl_im hI).hl)
theorem vars_no (hv : validB V xs = false) (hn : n ≤ 6) (s : Option Addr) (cg : Nat) (w : World) (hR : Row w s n xs) :
    Calls Try.prog 35 #[.agg #[.int .i64 V, .slice s n cg]] w (GivesN w) := by
  have h := vars_impl V s n cg xs w hR (by omega)
  rw [show varsO V xs = .no from if_neg (by rw [hv]; simp)] at h
  exact h
theorem vars_sno (hv : validB V xs = false) (hn : n ≤ 6) (s : Option Addr) (cg : Nat) (w : World) (hR : Row w s n xs) :
    Calls Try.prog 36 #[.agg #[.int .i64 V, .slice s n cg]] w (GivesN w) := by
  have h := vars_spec V s n cg xs w hR (by omega)
  rw [show varsO V xs = .no from if_neg (by rw [hv]; simp)] at h
  exact h
theorem flip_out (hI : Im W n xs) (hi : i < n) (hj : j < W) (hv : varB xs W n i j = true) : flipO W xs i j = ⟨true, W, flipL xs W n i j⟩ := by
  unfold flipO; rw [if_pos (by rw [varO_nat hI hi hj]; exact hv), hI.hl, Int.toNat_natCast, Int.toNat_natCast, Int.toNat_natCast]
theorem flip_ok (hI : Im W n xs) (hi : i < n) (hj : j < W) (hv : varB xs W n i j = true) {L : List Int} (hL : flipL xs W n i j = L) (s : Option Addr) (cg : Nat) (w : World) (hR : Row w s n xs) :
    Calls Try.prog 32 #[.agg #[.int .i64 W, .slice s n cg], .int .i64 i, .int .i64 j] w (GivesI w W n L) := by
  have h := flip_impl (W : Int) s n cg xs i j w hR (by have := hI.l6; omega)
  rw [flip_out hI hi hj hv, hL] at h
  exact h.mono fun _ _ hh => hh.ok (by rw [← hL]; exact (flip_all hI hi hj hv).1.hl)
theorem flip_sok (hI : Im W n xs) (hi : i < n) (hj : j < W) (hv : varB xs W n i j = true) {L : List Int} (hL : flipL xs W n i j = L) (s : Option Addr) (cg : Nat) (w : World) (hR : Row w s n xs) :
    Calls Try.prog 52 #[.agg #[.int .i64 W, .slice s n cg], .int .i64 i, .int .i64 j] w (GivesI w W n L) := by
  have h := flip_spec (W : Int) s n cg xs i j w hR (by have := hI.l6; omega)
  rw [flip_out hI hi hj hv, hL] at h
  exact h.mono fun _ _ hh => hh.ok (by rw [← hL]; exact (flip_all hI hi hj hv).1.hl)
theorem flip_no {i j : Int} (hv : varO V xs i j = false) (hn : n ≤ 6) (s : Option Addr) (cg : Nat) (w : World) (hR : Row w s n xs) :
    Calls Try.prog 32 #[.agg #[.int .i64 V, .slice s n cg], .int .i64 i, .int .i64 j] w (GivesN w) := by
  have h := flip_impl V s n cg xs i j w hR (by omega)
  rw [show flipO V xs i j = .no from if_neg (by rw [hv]; simp)] at h
  exact h
theorem flip_sno {i j : Int} (hv : varO V xs i j = false) (hn : n ≤ 6) (s : Option Addr) (cg : Nat) (w : World) (hR : Row w s n xs) :
    Calls Try.prog 52 #[.agg #[.int .i64 V, .slice s n cg], .int .i64 i, .int .i64 j] w (GivesN w) := by
  have h := flip_spec V s n cg xs i j w hR (by omega)
  rw [show flipO V xs i j = .no from if_neg (by rw [hv]; simp)] at h
  exact h
/-- A list of flags in new memory. -/
def GivesG (w : World) (M : Nat) (u : Nat → Bool) (e : Ending) (w' : World) : Prop := (∃ s c, e = .returned (.slice s M c) ∧ RowG w' s M u) ∧ Below w.heap.size w w'
theorem reach_ok (hI : Im W n xs) (hi : i < n) {M : Nat} (hM : n + W = M) {u : Nat → Bool} (hu : rchB xs W n i = u) (s : Option Addr) (cg : Nat) (w : World) (hR : Row w s n xs) :
    Calls Try.prog 25 #[.agg #[.int .i64 W, .slice s n cg], .int .i64 i] w (GivesG w M u) :=
  (reach_impl (W : Int) s n cg xs i w hR (by have := hI.l6; omega)).mono fun e w' ⟨⟨t, c, he, ho⟩, hb⟩ => by
    have hN := rchN_yes hI hi
    rw [hN.1, hM] at he ho
    rw [hN.2, hu] at ho
    exact ⟨⟨t, c, he, ho.row⟩, hb⟩
theorem reach_sok (hI : Im W n xs) (hi : i < n) {M : Nat} (hM : n + W = M) {u : Nat → Bool} (hu : rchB xs W n i = u) (s : Option Addr) (cg : Nat) (w : World) (hR : Row w s n xs) :
    Calls Try.prog 26 #[.agg #[.int .i64 W, .slice s n cg], .int .i64 i] w (GivesG w M u) :=
  (reach_spec (W : Int) s n cg xs i w hR (by have := hI.l6; omega)).mono fun e w' ⟨⟨t, c, he, ho⟩, hb⟩ => by
    have hN := rchN_yes hI hi
    rw [hN.1, hM] at he ho
    rw [hN.2, hu] at ho
    exact ⟨⟨t, c, he, ho.row⟩, hb⟩
theorem reach_no {i : Int} (h0 : rchN V xs i = 0) (hn : n ≤ 6) (s : Option Addr) (cg : Nat) (w : World) (hR : Row w s n xs) :
    Calls Try.prog 25 #[.agg #[.int .i64 V, .slice s n cg], .int .i64 i] w (GivesG w 0 (fun _ => false)) :=
  (reach_impl V s n cg xs i w hR (by omega)).mono fun e w' ⟨⟨t, c, he, ho⟩, hb⟩ => by
    rw [h0] at he ho
    exact ⟨⟨t, c, he, .inl rfl⟩, hb⟩
theorem reach_sno {i : Int} (h0 : rchN V xs i = 0) (hn : n ≤ 6) (s : Option Addr) (cg : Nat) (w : World) (hR : Row w s n xs) :
    Calls Try.prog 26 #[.agg #[.int .i64 V, .slice s n cg], .int .i64 i] w (GivesG w 0 (fun _ => false)) :=
  (reach_spec V s n cg xs i w hR (by omega)).mono fun e w' ⟨⟨t, c, he, ho⟩, hb⟩ => by
    rw [h0] at he ho
    exact ⟨⟨t, c, he, .inl rfl⟩, hb⟩
theorem reach_ways (V : Int) {xs : List Int} {n : Nat} (hl : xs.length = n) (i : Int) : rchN V xs i = 0 ∨ ∃ (W k : Nat), V = W ∧ i = k ∧ Im W n xs ∧ k < n := by
  by_cases hv : validB V xs = true ∧ inB i 0 ((xs.length : Int) - 1) = true
  · right
    have hW := validB_W hv.1
    have hc := inB_iff.1 hv.2
    obtain ⟨W, rfl⟩ := Int.eq_ofNat_of_zero_le (by omega : 0 ≤ V)
    obtain ⟨k, rfl⟩ := Int.eq_ofNat_of_zero_le hc.1
    exact ⟨W, k, rfl, rfl, Im.of hv.1 hl, by omega⟩
  · exact .inl (rchN_no hv)
end Go.Proofs.Ytepeplmbnkjeeaa

