/-
  The contract of DrawCellCount.
-/
import Derived.Test.YtmfncheimmcobaaJn
namespace Go.Proofs.Ytmfncheimmcobaa
set_option maxRecDepth 100000
open Go.RowKit

/-- What a function that draws two lists and a cell leaves. -/
def DrawnC (w : World) (e : Ending) (w' : World) : Prop :=
  ∃ (aR : Option Addr) (n c : Nat) (xs : List Int) (aC : Option Addr) (m c' : Nat) (ys : List Int) (i j : Int), e = .returned (.tuple #[.slice aR n c, .slice aC m c', .int .i64 i, .int .i64 j]) ∧ OwnI w' w.heap.size aR n c xs ∧ OwnI w' w.heap.size aC m c' ys ∧ (n ≤ 6 ∧ 1 ≤ m ∧ m ≤ 12) ∧ (n ≤ c ∧ m ≤ c') ∧ (-1 ≤ i ∧ i ≤ 12 ∧ 0 ≤ j ∧ j ≤ 12) ∧ Below w.heap.size w w'
set_option maxHeartbeats 1600000 in
theorem draw_DrawCellCount (a : Option Addr) (len cap : Nat) (zs : List Int) (w : World) (h : Bys w a len zs) (hl : len ≤ cap) (hm : cap ≤ 9223372036854775807) :
    Calls Try.prog 28 #[.slice a len cap] w (DrawnC w) := by
  go_enter Try.func28, Try.ntmps28
  go_wp2_with fail
  refine (open_any a len cap zs _ h hl hm).mono ?_
  rintro e w1 ⟨a1, l1, c1, rfl, hr, hb⟩
  have hlt := Opens.lt hr
  have bb := Lib.hid hb
  have hs := hb.size
  clear hb h
  go_wp2_with fail
  refine (sumsW_c 16 (by omega) (by omega) _ a1 l1 c1 zs 0 w1 hr (by omega)).mono ?_
  rintro e w2 ⟨aR, n, c, xs, aC, m, c', ys, p', rfl, hoR, hoC, _, hrd, hg, hp', hnm, _, _⟩
  clear hr
  have k1 := own_cap hoR
  have k2 := own_cap hoC
  go_wp2_with fail
  refine (pick_any _ a1 l1 c1 zs p' _ _ hrd (by omega) (by omega)).mono ?_
  rintro e w3 ⟨i, rfl, hi0, hi1, hrd, hg3⟩
  replace hoR := hoR.other hg3 hlt.1
  replace hoC := hoC.other hg3 hlt.1
  replace hg := grown_trans hg hg3
  clear hg3
  go_wp2_with fail
  refine (pick_any _ a1 l1 c1 zs _ _ _ hrd (by omega) (by omega)).mono ?_
  rintro e w4 ⟨j, rfl, hj0, hj1, hrd, hg3⟩
  replace hoR := hoR.other hg3 hlt.1
  replace hoC := hoC.other hg3 hlt.1
  replace hg := grown_trans hg hg3
  clear hg3
  have hj12 : j ≤ 12 := by omega
  have hi12 : i ≤ 12 := by omega
  clear hi1 hj1
  go_wp2_with fail
  refine (pick_any _ a1 l1 c1 zs _ 20 _ hrd (by omega) (by omega)).mono ?_
  rintro e w5 ⟨v, rfl, hv0, hv1, hrd, hg3⟩
  replace hoR := hoR.other hg3 hlt.1
  replace hoC := hoC.other hg3 hlt.1
  replace hg := grown_trans hg hg3
  clear hg3
  by_cases e0 : v = 0
  · subst e0
    have hal : Below w5.heap.size w5 (w5.alloc (.cells #[.int .i64 (-1), .int .i64 (n : Int)] 3)) := (Below.refl _ _).alloc (Nat.le_refl _) _
    have hrd2 := hrd.bel hal
    have hrl : w.heap.size < w5.heap.size := block_lt hrd.c0
    go_wp2_with fail
    refine (pick_any _ a1 l1 c1 zs _ 2 _ hrd2 (by omega) (by omega)).mono ?_
    rintro e w6 ⟨u, rfl, hu0, hu1, _, hg3⟩
    replace hoR := (hoR.bel hal).other hg3 hlt.1
    replace hoC := (hoC.bel hal).other hg3 hlt.1
    replace hg := grown_trans (grown_trans hg (below_grown hal _)) hg3
    have q0 : w6.cell? ⟨w5.heap.size, 0, none⟩ = some (.int .i64 (-1)) := hg3.cell (by simp) (by simp; omega)
    have q1 : w6.cell? ⟨w5.heap.size, 1, none⟩ = some (.int .i64 (n : Int)) := hg3.cell (by simp) (by simp; omega)
    have b2 := Lib.hid (grown_cut bb.out hg (Nat.le_refl _) hs)
    have hR := Lib.hid (hoR.mono hs)
    have hC := Lib.hid (hoC.mono hs)
    have hu : u = 0 ∨ u = 1 := by omega
    clear hoR hoC hg hrd hrd2 hg3 hal hu0 hu1
    rcases hu with rfl | rfl
    · go_wp2_with fail
      refine bodyPost_ret (v := .tuple #[.slice aR n c, .slice aC m c', .int .i64 (-1), .int .i64 j]) (by simp [results, Try.results28, go_sem]) rfl ?_
      exact ⟨aR, n, c, xs, aC, m, c', ys, -1, j, rfl, hR.out, hC.out, hnm, ⟨k1, k2⟩, by omega, b2.out⟩
    · go_wp2_with fail
      refine bodyPost_ret (v := .tuple #[.slice aR n c, .slice aC m c', .int .i64 n, .int .i64 j]) (by simp [results, Try.results28, go_sem]) rfl ?_
      exact ⟨aR, n, c, xs, aC, m, c', ys, n, j, rfl, hR.out, hC.out, hnm, ⟨k1, k2⟩, by omega, b2.out⟩
  · have hv2 : (v == 0) = false := by simpa using e0
    have b2 := Lib.hid (grown_cut bb.out hg (Nat.le_refl _) hs)
    have hR := Lib.hid (hoR.mono hs)
    have hC := Lib.hid (hoC.mono hs)
    clear hoR hoC hg hrd e0
    go_wp2_with fail
    refine bodyPost_ret (v := .tuple #[.slice aR n c, .slice aC m c', .int .i64 i, .int .i64 j]) (by simp [results, Try.results28, go_sem]) rfl ?_
    exact ⟨aR, n, c, xs, aC, m, c', ys, i, j, rfl, hR.out, hC.out, hnm, ⟨k1, k2⟩, by omega, b2.out⟩
end Go.Proofs.Ytmfncheimmcobaa

