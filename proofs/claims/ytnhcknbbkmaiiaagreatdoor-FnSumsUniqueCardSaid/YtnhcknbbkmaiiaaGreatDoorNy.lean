/-
  The contract of the drawing of sums that are often unique.
-/
import Derived.Test.YtnhcknbbkmaiiaaGreatDoorCa
import Derived.Deep.RegionHeld3
namespace Go.Proofs.YtnhcknbbkmaiiaaGreatDoor
set_option maxRecDepth 100000
open Go.RowKit

set_option maxHeartbeats 1000000 in
theorem draw_DrawSumsUnique (a : Option Addr) (len cap : Nat) (zs : List Int) (w : World) (h : Bys w a len zs) (hl : len ≤ cap) (hm : cap ≤ 9223372036854775807) :
    Calls Tryz.prog 22 #[.slice a len cap] w (DrawnX w) := by
  go_enter Tryz.func22, Tryz.ntmps22
  go_wp2_with fail
  refine (open_any a len cap zs _ h hl hm).mono ?_
  rintro e w1 ⟨a1, l1, c1, rfl, hr, hb⟩
  have bb := Lib.hid hb
  have hs := hb.size
  clear hb h
  go_wp2_with fail
  refine (pick_any _ a1 l1 c1 zs 0 2 w1 hr (by omega) (by omega)).mono ?_
  rintro e w3 ⟨v, rfl, hv0, hv1, hr3, hg3⟩
  have bb := Lib.hid (grown_cut bb.out hg3 (by omega) (by omega))
  have hs3 := hg3.size
  clear hr hg3
  by_cases ev : v = 0
  case pos =>
    subst ev
    go_wp2_with fail
    refine (nested_any _ a1 l1 c1 zs 1 w3 hr3 (by omega)).mono ?_
    rintro e w4 ⟨W, n, xs, g, cg, p1, rfl, hO, hI, _, _, hg⟩
    have hW1 := hI.w1
    have hW6 := hI.w6
    have hn6 := hI.l6
    have bb := Lib.hid (grown_cut bb.out hg (by omega) (by omega))
    have hs4 := hg.size
    obtain ⟨w5, hw5⟩ : ∃ w5, w5 = w4.alloc (.cells #[.int .i64 W, .slice (some ⟨g, 0, none⟩) n cg] 25) := ⟨_, rfl⟩
    have hb : Below w4.heap.size w4 w5 := by rw [hw5]; exact (Below.refl _ _).alloc (Nat.le_refl _) _
    have y0 : w5.cell? ⟨w4.heap.size, 0, none⟩ = some (.int .i64 W) := by subst hw5; go_simp
    have y1 : w5.cell? ⟨w4.heap.size, 1, none⟩ = some (.slice (some ⟨g, 0, none⟩) n cg) := by subst hw5; go_simp
    have row := Lib.hid (hO.row.bel hb)
    replace bb := Lib.hid (bb.out.trans (hb.mono bb.out.size))
    replace hI := Lib.hid hI
    have l5 := hb.size
    clear hO hb hr3 hg
    have tok0 : True := trivial
    go_upto_region 4 with fail
    rw [← hw5]
    clear hw5
    go_region_held3 (fun W' => W'.cell? ⟨w4.heap.size, 0, none⟩ = some (.int .i64 W) ∧ W'.cell? ⟨w4.heap.size, 1, none⟩ = some (.slice (some ⟨g, 0, none⟩) n cg))
      (first | exact ⟨y0, y1⟩ | go_keep)
      (first | (go_at_call 9; have _t := tok0; refine (rs_sok hI.out _ _ _ (row.out.bel ((Below.refl _ _).drew))).mono ?_; rintro e w6 ⟨⟨aR, c, rfl, hoR⟩, hb⟩; have hb := ((Below.refl w5.heap.size w5).drew).trans (hb.mono (Nat.le_refl _)); (replace y0 := kept hb (block_lt y0) y0); (replace y1 := kept hb (block_lt y1) y1); (replace row := Lib.hid (row.out.bel hb)); (replace bb := Lib.hid (bb.out.trans (hb.mono bb.out.size))); (have l6 := hb.size); (have oR := Lib.hid hoR); clear hb tok0 _t hoR; have tok1 : True := trivial) | (go_at_call 52; have _t := tok1; refine (cs_sok hI.out _ _ _ row.out).mono ?_; rintro e w7 ⟨⟨aC, c', rfl, hoC⟩, hb⟩; (replace y0 := kept hb (block_lt y0) y0); (replace y1 := kept hb (block_lt y1) y1); (replace oR := Lib.hid (oR.out.bel hb)); (replace bb := Lib.hid (bb.out.trans (hb.mono bb.out.size))); (have l7 := hb.size); (have oC := Lib.hid hoC); clear hb tok1 _t hoC row))
    all_goals
      have k1 := oR.out.cap
      have k2 := oC.out.cap
      have hz := bb.out.size
      go_wp2_with fail
      refine bodyPost_ret (v := .tuple #[.slice aR n c, .slice aC W c']) (by simp [results, Tryz.results22, go_sem]) rfl ?_
      exact ⟨aR, n, c, _, aC, W, c', _, rfl, oR.out.mono (by show w.heap.size ≤ w5.heap.size; omega), oC.out.mono (by omega), ⟨hn6, hW1, by omega⟩, ⟨k1, k2⟩, bb.out⟩
  go_wp2_with fail
  refine (sumsW_any _ a1 l1 c1 zs 1 w3 hr3 (by omega)).mono ?_
  rintro e w2 ⟨aR, n, c, xs, aC, m, c', ys, p', rfl, hoR, hoC, _, _, hg, _, hnm, _, _⟩
  have b2 := Lib.hid (grown_cut bb.out hg (by omega) (by omega))
  have hR := Lib.hid (hoR.mono (B' := w.heap.size) (by omega))
  have hC := Lib.hid (hoC.mono (B' := w.heap.size) (by omega))
  have c1 := own_cap hoR
  have c2 := own_cap hoC
  clear hoR hoC hg hr3
  go_wp2_with fail
  refine bodyPost_ret (v := .tuple #[.slice aR n c, .slice aC m c']) (by simp [results, Tryz.results22, go_sem]) rfl ?_
  exact ⟨aR, n, c, xs, aC, m, c', ys, rfl, hR.out, hC.out, hnm, ⟨c1, c2⟩, b2.out⟩

end Go.Proofs.YtnhcknbbkmaiiaaGreatDoor

