/-
  The contracts of ImageUnique, of the program and of the model.
-/
import Derived.Test.YtnfkafaolelkbaaNa
import Derived.Test.YtnfkafaolelkbaaKc
namespace Go.Proofs.Ytnfkafaolelkbaa
set_option maxRecDepth 100000
open Go.RowKit

/-- What ImageUnique says. -/
def uniB (xs : List Int) (W n : Nat) : Bool := decide (swL (cellOf xs) W n = [])
def uniO (V : Int) (xs : List Int) : Bool := validB V xs && uniB xs V.toNat xs.length
theorem unio_im {W n : Nat} {xs : List Int} (h : Im W n xs) : uniO W xs = uniB xs W n := by
  unfold uniO; rw [h.valid, Bool.true_and, h.hl, Int.toNat_natCast]
theorem unio_no {V : Int} {xs : List Int} (h : validB V xs = false) : uniO V xs = false := by unfold uniO; rw [h]; rfl
theorem many_uni (V : Int) (xs : List Int) : (manyS V xs == 0) = uniO V xs := by
  unfold manyS
  by_cases hv : validB V xs = true
  · rw [if_pos hv]
    unfold uniO uniB
    rw [hv, Bool.true_and, Bool.eq_iff_iff, beq_iff_eq, decide_eq_true_iff]
    exact (uniq_many _).symm
  · rw [if_neg hv]
    have hv : validB V xs = false := by simpa using hv
    rw [unio_no hv]; rfl
theorem list_uni {V : Int} {xs : List Int} (hv : validB V xs = true) : (((listS V xs).length : Int) == 0) = uniO V xs := by
  unfold listS uniO uniB
  rw [if_pos hv, hv, Bool.true_and, Bool.eq_iff_iff, beq_iff_eq, decide_eq_true_iff]
  constructor
  · intro e; exact List.eq_nil_of_length_eq_zero (by omega)
  · intro e; rw [e]; rfl
theorem many_bd135 (V : Int) (xs : List Int) : -1 ≤ manyS V xs ∧ manyS V xs ≤ 135 := by
  unfold manyS
  by_cases hv : validB V xs = true
  · rw [if_pos hv]
    have h1 := validB_W hv
    obtain ⟨W, rfl⟩ := Int.eq_ofNat_of_zero_le (by omega : 0 ≤ V)
    have hI := Im.of hv rfl
    have h6 := hI.w6
    have n6 := hI.l6
    have := swl_135 (cellOf xs) (W := W) (n := xs.length) (by omega) (by omega)
    have e := swl_len (cellOf xs) W xs.length
    rw [Int.toNat_natCast]
    omega
  · rw [if_neg hv]; omega
set_option maxHeartbeats 800000 in
theorem uni_impl (V : Int) (a : Option Addr) (n cap : Nat) (xs : List Int) (w : World) (h : Row w a n xs) (hm : n ≤ 9223372036854775807) :
    Calls Try.prog 43 #[.agg #[.int .i64 V, .slice a n cap]] w fun e w' => e = .returned (.bool (uniO V xs)) ∧ Below w.heap.size w w' := by
  have hu := many_uni V xs
  obtain ⟨W0, hW0⟩ : ∃ W0, W0 = (w.alloc (.cells #[.int .i64 V, .slice a n cap] 30)) := ⟨_, rfl⟩
  have bb : Hid (Below w.heap.size w W0) := by subst hW0; exact (Below.refl _ _).alloc (Nat.le_refl _) _
  have x0 : W0.cell? ⟨w.heap.size, 0, none⟩ = some (.int .i64 V) := by subst hW0; go_simp
  have x1 : W0.cell? ⟨w.heap.size, 1, none⟩ = some (.slice a n cap) := by subst hW0; go_simp
  have r := Lib.hid (h.bel bb.out)
  have hc := manysw_impl V a n cap xs W0 r.out hm
  obtain ⟨M, hM⟩ : ∃ M, manyS V xs = M := ⟨_, rfl⟩
  rw [hM] at hu hc
  replace hM := Lib.hid hM
  clear h
  go_enter Try.func43, Try.ntmps43
  go_wp2_with fail
  rw [← hW0]
  clear hW0
  refine (hc).mono ?_
  rintro e v1 ⟨rfl, hb⟩
  have szv1 := hb.size
  replace x0 := kept hb (block_lt x0) x0
  replace x1 := kept hb (block_lt x1) x1
  replace r := Lib.hid (r.out.bel hb)
  replace bb := Lib.hid (bb.out.trans (hb.mono bb.out.size))
  clear hb
  go_wp2_with fail
  go_ret
  exact ⟨by first | rw [hu] | (rw [← hu]; rfl), bb.out⟩
end Go.Proofs.Ytnfkafaolelkbaa

