/-
  The contract of DrawImageNext.
-/
import Derived.Test.YtnfkafaolelkbaaK
import Derived.Test.YtnfkafaolelkbaaKd
import Derived.Test.YtnfkafaolelkbaaKc
namespace Go.Proofs.Ytnfkafaolelkbaa
set_option maxRecDepth 100000
open Go.RowKit

theorem two_row (w : World) : Row (w.alloc (.cells #[.int .i64 1, .int .i64 2] 3)) (some ⟨w.heap.size, 0, none⟩) 2 [1, 2] :=
  ⟨rfl, .inr ⟨w.heap.size, 0, rfl, fun i hi => by match i, hi with | 0, _ => simp | 1, _ => simp⟩⟩
set_option maxHeartbeats 1600000 in
theorem draw_DrawImageNext (a : Option Addr) (len cap : Nat) (zs : List Int) (w : World) (h : Bys w a len zs) (hl : len ≤ cap) (hm : cap ≤ 9223372036854775807) :
    Calls Try.prog 35 #[.slice a len cap] w (Drawn w) := by
  have h0 := h.bel ((Below.refl _ _).alloc (Nat.le_refl _) (.cells #[.int .i64 0, .slice none 0 0] 30))
  clear h
  go_enter Try.func35, Try.ntmps35
  go_wp2_with fail
  refine (open_any a len cap zs _ h0 hl hm).mono ?_
  rintro e w1 ⟨a1, l1, c1, rfl, hr, hb⟩
  have hs1 := hb.size
  have bb := ((Below.refl _ _).alloc (Nat.le_refl _) (.cells #[.int .i64 0, .slice none 0 0] 30)).trans (hb.mono (by simp))
  have zb := (Box.bel (wr := w.alloc (.cells #[.int .i64 0, .slice none 0 0] 30)) (b := w.heap.size) (v0 := .int .i64 0) (v1 := .slice none 0 0) ⟨by simp, by simp, fun o => by simp⟩ hb)
  simp only [World.size_alloc] at hr hs1
  have zb := Lib.hid zb
  have bb := Lib.hid bb
  clear hb
  go_wp2_with fail
  refine (wrong_c 16 (by omega) (by omega) _ a1 l1 c1 zs 0 w1 hr (by omega)).mono ?_
  rintro e w2 ⟨W, s, n, cg, xs, rfl, hR, hn, hg, hf, q', hq', hrd⟩
  have hR := hR.row
  have hr1 : w.heap.size + 1 < w1.heap.size := block_lt hr.c0
  replace zb := zb.out.grown hg (by omega)
  have bb2 := grown_cut bb.out hg (by omega) (by omega)
  obtain ⟨W1, hW1⟩ : ∃ W1, w2.alloc (.cells #[.int .i64 W, .slice s n cg] 30) = W1 := ⟨_, rfl⟩
  have hb1 : Below w2.heap.size w2 W1 := by rw [← hW1]; exact (Below.refl _ _).alloc (Nat.le_refl _) _
  have x0 : W1.cell? ⟨w2.heap.size, 0, none⟩ = some (.int .i64 W) := by rw [← hW1]; simp
  have x1 : W1.cell? ⟨w2.heap.size, 1, none⟩ = some (.slice s n cg) := by rw [← hW1]; simp
  have hgs := hg.size
  have hw2 : w.heap.size < w2.heap.size := block_lt zb.c0
  have hr2 : w1.heap.size ≤ w2.heap.size := hgs
  have hrr : w.heap.size + 1 < w2.heap.size := block_lt hrd.c0
  replace zb := Lib.hid (zb.bel hb1)
  replace hrd := Lib.hid (hrd.bel hb1)
  replace hR := Lib.hid (hR.bel hb1)
  replace bb2 := Lib.hid (bb2.trans (hb1.mono (by omega)))
  replace hf := Lib.hid hf
  have hsl := swlist_spec W s n cg xs W1 hR.out (by omega)
  unfold GivesO at hsl
  obtain ⟨ln, hln⟩ : ∃ k, (listS W xs).length = k := ⟨_, rfl⟩
  rw [hln] at hsl
  replace hsl := Lib.hid hsl
  clear hg hgs hb1 hr bb hln
  go_upto_region 3 with fail
  (try rw [hW1])
  clear hW1
  go_wp2_with fail
  refine hsl.out.mono ?_
  rintro e w3 ⟨⟨sl, cl, rfl, _⟩, hb⟩
  replace zb := Lib.hid (zb.out.bel hb)
  replace hrd := Lib.hid (hrd.out.bel hb)
  replace hR := Lib.hid (hR.out.bel hb)
  have hs3 := hb.size
  replace bb2 := Lib.hid (bb2.out.trans (hb.mono bb2.out.size))
  replace x0 := kept hb (block_lt x0) x0
  replace x1 := kept hb (block_lt x1) x1
  have hx3 : w2.heap.size < w3.heap.size := block_lt x0
  clear hb hsl
  by_cases h0 : ln = 0
  · subst h0
    go_wp2_with fail
    refine (pick_any _ a1 l1 c1 zs q' 3 w3 hrd.out (by omega) (by omega)).mono ?_
    rintro e w4 ⟨v, rfl, hv0, hv1, hr4, hg4⟩
    replace zb := zb.out.grown hg4 (by omega)
    replace bb2 := grown_cut bb2.out hg4 (by omega) (by omega)
    replace x0 := hg4.cell x0 (by simp; omega)
    replace x1 := hg4.cell x1 (by simp; omega)
    replace hR := hR.out.apart hg4 (fun b off e hl => by have := hf.out b off e hl; simp; omega)
    have z0 := zb.c0
    have z1 := zb.c1
    have zf := zb.fz
    have hw4 := hg4.size
    by_cases hv : 0 < v
    · obtain ⟨W5, hW5⟩ : ∃ W5, w4.alloc (.cells #[.int .i64 1, .int .i64 2] 3) = W5 := ⟨_, rfl⟩
      have hb5 : Below w4.heap.size w4 W5 := by rw [← hW5]; exact (Below.refl _ _).alloc (Nat.le_refl _) _
      have zb5 := zb.bel hb5
      replace z0 := zb5.c0
      replace z1 := zb5.c1
      replace zf := zb5.fz
      obtain ⟨q5, hq5⟩ : ∃ q, w4.heap.size = q := ⟨_, rfl⟩
      have hqw : w.heap.size < q5 := by omega
      have hR2 := two_row w4
      rw [hW5, hq5] at hR2
      replace hR2 := Lib.hid hR2
      have bb3 := Lib.hid (bb2.trans (hb5.mono (by omega)))
      replace hq5 := Lib.hid hq5
      clear zb bb2 hR hr4 hrd x0 x1 zb5 hb5
      go_upto_region 4 with fail
      go_wp2_with fail
      (try rw [hW5])
      refine bodyPost_ret (v := .agg #[.int .i64 2, .slice (some ⟨q5, 0, none⟩) 2 2]) (by simp [results, Try.results35, go_sem, z0, z1, hq5.out]) rfl ?_
      exact ⟨2, some ⟨q5, 0, none⟩, 2, 2, [1, 2], rfl, hR2.out.apart (grown_set (grown_set (World.grownBy.refl _ (some w.heap.size)))) (fun b off e hl => by cases e; simp; omega), by omega, (bb3.out.setCell (by simp) _).setCell (by simp) _⟩
    · replace bb2 := Lib.hid bb2
      replace hR := Lib.hid hR
      clear zb hr4 hrd
      go_wp2_with fail
      refine bodyPost_ret (v := .agg #[.int .i64 W, .slice s n cg]) (by simp [results, Try.results35, go_sem, z0, z1]) rfl ?_
      exact ⟨W, s, n, cg, xs, rfl, hR.out.apart (grown_set (grown_set (World.grownBy.refl _ (some w.heap.size)))) (fun b off e hl => by have := hf.out b off e hl; simp; omega), hn, (bb2.out.setCell (by simp) _).setCell (by simp) _⟩
  · have h0' : ((ln : Int) == 0) = false := by rw [beq_eq_false_iff_ne]; omega
    have z0 := zb.out.c0
    have z1 := zb.out.c1
    have zf := zb.out.fz
    clear zb hrd
    go_wp2_with fail
    refine bodyPost_ret (v := .agg #[.int .i64 W, .slice s n cg]) (by simp [results, Try.results35, go_sem, z0, z1]) rfl ?_
    exact ⟨W, s, n, cg, xs, rfl, hR.out.apart (grown_set (grown_set (World.grownBy.refl _ (some w.heap.size)))) (fun b off e hl => by have := hf.out b off e hl; simp; omega), hn, (bb2.out.setCell (by simp) _).setCell (by simp) _⟩
end Go.Proofs.Ytnfkafaolelkbaa

