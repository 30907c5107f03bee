/-
  The contracts of the drawing functions of chapter 16's laws: an image.
-/
import Derived.Test.YtnfkafaolelkbaaK
import Derived.Test.YtnfkafaolelkbaaKd
namespace Go.Proofs.Ytnfkafaolelkbaa
set_option maxRecDepth 100000
open Go.RowKit

set_option maxHeartbeats 400000 in
theorem draw_DrawImageRank (a : Option Addr) (len cap : Nat) (zs : List Int) (w : World) (h : Bys w a len zs) (hl : len ≤ cap) (hm : cap ≤ 9223372036854775807) :
    Calls Try.prog 24 #[.slice a len cap] w (Drawn w) := by
  have h0 := h.bel ((Below.refl _ _).alloc (Nat.le_refl _) (.cells #[.int .i64 0, .slice none 0 0] 30))
  clear h
  go_enter Try.func24, Try.ntmps24
  go_wp2_with fail
  refine (open_any a len cap zs _ h0 hl hm).mono ?_
  rintro e w1 ⟨a1, l1, c1, rfl, hr, hb⟩
  have hs1 := hb.size
  have bb := ((Below.refl _ _).alloc (Nat.le_refl _) (.cells #[.int .i64 0, .slice none 0 0] 30)).trans (hb.mono (by simp))
  have zb := (Box.bel (wr := w.alloc (.cells #[.int .i64 0, .slice none 0 0] 30)) (b := w.heap.size) (v0 := .int .i64 0) (v1 := .slice none 0 0) ⟨by simp, by simp, fun o => by simp⟩ hb)
  simp only [World.size_alloc] at hr hs1
  have zb := Lib.hid zb
  have bb := Lib.hid bb
  clear hb
  go_wp2_with fail
  refine (pick_any _ a1 l1 c1 zs 0 20 w1 hr (by omega) (by omega)).mono ?_
  rintro e w3 ⟨v, rfl, hv0, hv1, hr3, hg3⟩
  have zb := Lib.hid (zb.out.grown hg3 (by omega))
  have bb := Lib.hid (grown_cut bb.out hg3 (by omega) (by omega))
  have hs3 := hg3.size
  clear hr hg3
  by_cases ev : v = 0
  case pos =>
    subst ev
    go_wp2_with fail
    refine (wrong_c 36 (by omega) (by omega) _ a1 l1 c1 zs 1 w3 hr3 (by omega)).mono ?_
    rintro e w2 ⟨W, s, n, cg, xs, rfl, hR, hn, hg, hf, _⟩
    have hR := hR.row
    have zb := zb.out.grown hg (by omega)
    have bb2 := grown_cut bb.out hg (by omega) (by omega)
    have z0 := zb.c0
    have z1 := zb.c1
    have zf := zb.fz
    have bb2 := Lib.hid bb2
    have hR := Lib.hid hR
    clear zb bb hr3 hg
    go_wp2_with fail
    refine bodyPost_ret (v := .agg #[.int .i64 W, .slice s n cg]) (by simp [results, Try.results24, go_sem, z0, z1]) rfl ?_
    exact ⟨W, s, n, cg, xs, rfl, hR.out.apart (grown_set (grown_set (World.grownBy.refl _ (some w.heap.size)))) (fun b off e hl => by have := hf b off e hl; simp; omega), hn, (bb2.out.setCell (by simp) _).setCell (by simp) _⟩
  go_wp2_with fail
  refine (wrong_c 16 (by omega) (by omega) _ a1 l1 c1 zs 1 w3 hr3 (by omega)).mono ?_
  rintro e w2 ⟨W, s, n, cg, xs, rfl, hR, hn, hg, hf, _⟩
  have hR := hR.row
  have zb := zb.out.grown hg (by omega)
  have bb2 := grown_cut bb.out hg (by omega) (by omega)
  have z0 := zb.c0
  have z1 := zb.c1
  have zf := zb.fz
  have bb2 := Lib.hid bb2
  have hR := Lib.hid hR
  clear zb bb hr3 hg
  go_wp2_with fail
  refine bodyPost_ret (v := .agg #[.int .i64 W, .slice s n cg]) (by simp [results, Try.results24, go_sem, z0, z1]) rfl ?_
  exact ⟨W, s, n, cg, xs, rfl, hR.out.apart (grown_set (grown_set (World.grownBy.refl _ (some w.heap.size)))) (fun b off e hl => by have := hf b off e hl; simp; omega), hn, (bb2.out.setCell (by simp) _).setCell (by simp) _⟩
end Go.Proofs.Ytnfkafaolelkbaa

