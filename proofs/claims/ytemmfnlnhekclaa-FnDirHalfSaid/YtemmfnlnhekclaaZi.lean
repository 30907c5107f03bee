/-
  Contracts of DirSums of both sides in the laws' forms.
-/
import Derived.Test.YtemmfnlnhekclaaZd
import Derived.Test.YtemmfnlnhekclaaZg
namespace Go.Proofs.Ytemmfnlnhekclaa
set_option maxRecDepth 100000
open Go.RowKit

/-- The line sums of any image, valid or not, in any direction, if there is one. -/
def dsOut (d W : Int) (xs : List Int) : List Int := if (0 ≤ d ∧ d ≤ 7) ∧ validB W xs = true then dsL d.toNat xs W.toNat xs.length else []
theorem dso_yes {d W n : Nat} {xs : List Int} (hd : d < 8) (hI : Im W n xs) : dsOut d W xs = dsL d xs W n := by
  unfold dsOut
  rw [if_pos ⟨by omega, hI.valid⟩, hI.hl]; rfl
theorem dso_len (d W : Int) (xs : List Int) : (dsOut d W xs).length ≤ 16 := by
  unfold dsOut
  split
  · rename_i h
    have hI0 := validB_W h.2
    obtain ⟨V, rfl⟩ := Int.eq_ofNat_of_zero_le (by omega : 0 ≤ W)
    have hI : Im V xs.length xs := Im.of h.2 rfl
    rw [ds_len]
    exact (nmN_bd (by omega) hI.l1 hI.l6 hI.w1 hI.w6).2
  · simp
theorem dsums_impl (W : Int) (a : Option Addr) (len cap : Nat) (xs : List Int) (d : Int) (w : World) (h : Row w a len xs) (hm : len ≤ 9223372036854775807) :
    Calls Try.prog 27 #[.agg #[.int .i64 W, .slice a len cap], .int .i64 d] w (GivesL w (dsOut d W xs)) := by
  by_cases hh : (0 ≤ d ∧ d ≤ 7) ∧ validB W xs = true
  · have hI0 := validB_W hh.2
    obtain ⟨V, rfl⟩ := Int.eq_ofNat_of_zero_le (by omega : 0 ≤ W)
    obtain ⟨e, rfl⟩ := Int.eq_ofNat_of_zero_le hh.1.1
    have hI : Im V len xs := Im.of hh.2 h.1
    rw [dso_yes (by omega) hI]
    exact dsums_ok (by omega) hI a cap w h
  · rw [show dsOut d W xs = [] from if_neg hh]
    exact dsums_no hh a cap w h hm
theorem dsums_spec (W : Int) (a : Option Addr) (len cap : Nat) (xs : List Int) (d : Int) (w : World) (h : Row w a len xs) (hm : len ≤ 9223372036854775807) :
    Calls Try.prog 28 #[.agg #[.int .i64 W, .slice a len cap], .int .i64 d] w (GivesL w (dsOut d W xs)) := by
  by_cases hh : (0 ≤ d ∧ d ≤ 7) ∧ validB W xs = true
  · have hI0 := validB_W hh.2
    obtain ⟨V, rfl⟩ := Int.eq_ofNat_of_zero_le (by omega : 0 ≤ W)
    obtain ⟨e, rfl⟩ := Int.eq_ofNat_of_zero_le hh.1.1
    have hI : Im V len xs := Im.of hh.2 h.1
    rw [dso_yes (by omega) hI]
    exact sdsums_ok (by omega) hI a cap w h
  · rw [show dsOut d W xs = [] from if_neg hh]
    exact sdsums_no hh a cap w h hm
theorem ds_no {W d : Int} {n : Nat} {xs : List Int} (hh : ¬ ((0 ≤ d ∧ d ≤ 7) ∧ validB W xs = true)) (hn : n ≤ 6) (s : Option Addr) (cg : Nat) (w : World) (hR : Row w s n xs) :
    Calls Try.prog 27 #[.agg #[.int .i64 W, .slice s n cg], .int .i64 d] w (GivesK w 0 []) :=
  (dsums_no hh s cg w hR (by omega)).mono fun _ _ hh => hh.k rfl rfl
theorem ds_sno {W d : Int} {n : Nat} {xs : List Int} (hh : ¬ ((0 ≤ d ∧ d ≤ 7) ∧ validB W xs = true)) (hn : n ≤ 6) (s : Option Addr) (cg : Nat) (w : World) (hR : Row w s n xs) :
    Calls Try.prog 28 #[.agg #[.int .i64 W, .slice s n cg], .int .i64 d] w (GivesK w 0 []) :=
  (sdsums_no hh s cg w hR (by omega)).mono fun _ _ hh => hh.k rfl rfl
theorem ds_ok {W n d N : Nat} {D : Int} {xs L : List Int} (hI : Im W n xs) (hd : d < 8) (hD : (d : Int) = D) (hL : dsL d xs W n = L) (hN : numN d n W = N) (s : Option Addr) (cg : Nat) (w : World) (hR : Row w s n xs) :
    Calls Try.prog 27 #[.agg #[.int .i64 W, .slice s n cg], .int .i64 D] w (GivesK w N L) := by
  subst hD; exact (dsums_ok hd hI s cg w hR).mono fun _ _ hh => hh.k (by rw [ds_len, hN]) hL
theorem ds_sok {W n d N : Nat} {D : Int} {xs L : List Int} (hI : Im W n xs) (hd : d < 8) (hD : (d : Int) = D) (hL : dsL d xs W n = L) (hN : numN d n W = N) (s : Option Addr) (cg : Nat) (w : World) (hR : Row w s n xs) :
    Calls Try.prog 28 #[.agg #[.int .i64 W, .slice s n cg], .int .i64 D] w (GivesK w N L) := by
  subst hD; exact (sdsums_ok hd hI s cg w hR).mono fun _ _ hh => hh.k (by rw [ds_len, hN]) hL
end Go.Proofs.Ytemmfnlnhekclaa

