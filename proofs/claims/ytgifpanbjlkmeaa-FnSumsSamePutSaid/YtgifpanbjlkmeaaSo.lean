/-
  The contract of DrawSumsSame.
-/
import Derived.Test.YtgifpanbjlkmeaaSn
import Derived.Test.YtgifpanbjlkmeaaSd
namespace Go.Proofs.Ytgifpanbjlkmeaa
open Go.RowKit

theorem same_parts {V W : Int} {xs ys : List Int} (h : sameB V xs W ys = true) : validB V xs = true ∧ validB W ys = true ∧ rsOut V xs = rsOut W ys ∧ csOut V xs = csOut W ys := by
  have h' := h
  rw [← same_flip] at h'
  unfold sameB fitB at h
  unfold fitB at h'
  simp only [Bool.and_eq_true, decide_eq_true_eq] at h h'
  exact ⟨h'.2.1, h.1, h.2.1.symm, h.2.2.symm⟩
/-- What a function that draws two images leaves. -/
def DrawnT (w : World) (e : Ending) (w' : World) : Prop :=
  ∃ (V : Int) (s : Option Addr) (n c : Nat) (xs : List Int) (V' : Int) (t : Option Addr) (m c' : Nat) (ys : List Int), e = .returned (.tuple #[.agg #[.int .i64 V, .slice s n c], .agg #[.int .i64 V', .slice t m c']]) ∧ Row w' s n xs ∧ Row w' t m ys ∧ (n ≤ 6 ∧ m ≤ 6) ∧ Below w.heap.size w w'

set_option maxHeartbeats 400000 in
theorem draw_DrawSumsSame (a : Option Addr) (len cap : Nat) (zs : List Int) (w : World) (h : Bys w a len zs) (hl : len ≤ cap) (hm : cap ≤ 9223372036854775807) :
    Calls Try.prog 35 #[.slice a len cap] w (DrawnT w) := by
  obtain ⟨W0, hW0⟩ : ∃ W0, W0 = (w.alloc (.cells #[.int .i64 0, .slice none 0 0] 25)).alloc (.cells #[.int .i64 0, .slice none 0 0] 25) := ⟨_, rfl⟩
  have b0 : Below w.heap.size w W0 := by subst hW0; exact ((Below.refl _ _).alloc (Nat.le_refl _) _).alloc (by simp) _
  have z4 : Box W0 w.heap.size (.int .i64 0) (.slice none 0 0) := by subst hW0; exact ⟨by go_simp, by go_simp, fun o => by go_simp⟩
  have z5 : Box W0 (w.heap.size + 1) (.int .i64 0) (.slice none 0 0) := by subst hW0; exact ⟨by go_simp, by go_simp, fun o => by go_simp⟩
  have l0 : w.heap.size + 1 < W0.heap.size := block_lt z5.c0
  have h0 := h.bel b0
  clear h
  go_enter Try.func35, Try.ntmps35
  go_wp2_with fail
  rw [← hW0]
  clear hW0
  refine (open_any a len cap zs _ h0 hl hm).mono ?_
  rintro e w1 ⟨a1, l1, c1, rfl, hr, hb⟩
  have s1 := hb.size
  have bb := Lib.hid (b0.trans (hb.mono b0.size))
  have z4 := z4.bel hb
  have z5 := z5.bel hb
  clear hb h0 b0
  go_wp2_with fail
  refine (two_any _ a1 l1 c1 zs 0 w1 hr (by omega)).mono ?_
  rintro e w2 ⟨V, s, n, c, xs, V', t, m, c', ys, p', rfl, hX, hY, hnm, hg, _, _, hs, ht⟩
  have z4 := z4.grown hg (by omega)
  have z5 := z5.grown hg (by omega)
  have bb := Lib.hid (grown_cut bb.out hg (by omega) (by omega))
  have a0 := z4.c0
  have a1 := z4.c1
  have af := z4.fz
  have c0 := z5.c0
  have c1 := z5.c1
  have cf := z5.fz
  have hX := Lib.hid hX
  have hY := Lib.hid hY
  clear hg hr z4 z5
  go_wp2_with fail
  refine bodyPost_ret (v := .tuple #[.agg #[.int .i64 V, .slice s n c], .agg #[.int .i64 V', .slice t m c']]) (by simp [results, Try.results35, go_sem, a0, a1, c0, c1]) rfl ?_
  exact ⟨V, s, n, c, xs, V', t, m, c', ys, rfl, set2_row (set2_row hX.out fun b off e hl => by have := hs b off e hl; omega) fun b off e hl => by have := hs b off e hl; omega, set2_row (set2_row hY.out fun b off e hl => by have := ht b off e hl; omega) fun b off e hl => by have := ht b off e hl; omega, hnm, set2_bel (set2_bel bb.out (Nat.le_refl _)) (by omega)⟩
end Go.Proofs.Ytgifpanbjlkmeaa

