/-
  The contract of DrawSumsCount.
-/
import Derived.Test.YtnfkafaolelkbaaJm
import Derived.Test.YtnfkafaolelkbaaCa
namespace Go.Proofs.Ytnfkafaolelkbaa
set_option maxRecDepth 100000
open Go.RowKit

set_option maxHeartbeats 800000 in
theorem draw_DrawSumsCount (a : Option Addr) (len cap : Nat) (zs : List Int) (w : World) (h : Bys w a len zs) (hl : len ≤ cap) (hm : cap ≤ 9223372036854775807) :
    Calls Try.prog 20 #[.slice a len cap] w (DrawnX w) := by
  go_enter Try.func20, Try.ntmps20
  go_wp2_with fail
  refine (open_any a len cap zs _ h hl hm).mono ?_
  rintro e w1 ⟨a1, l1, c1, rfl, hr, hb⟩
  have hlt := Opens.lt hr
  have bb := Lib.hid hb
  have hs := hb.size
  clear hb h
  go_wp2_with fail
  refine (pick_any _ a1 l1 c1 zs 0 20 w1 hr (by omega) (by omega)).mono ?_
  rintro e w3 ⟨v, rfl, hv0, hv1, hrd, hg3⟩
  have hs3 := hg3.size
  replace bb := Lib.hid (grown_cut bb.out hg3 (Nat.le_refl _) hs)
  clear hr hg3
  by_cases e0 : v = 0
  · subst e0
    go_wp2_with fail
    refine (sumsW_c 36 (by omega) (by omega) _ a1 l1 c1 zs _ w3 hrd (by omega)).mono ?_
    rintro e w2 ⟨aR, n, c, xs, aC, m, c', ys, p', rfl, hoR, hoC, _, _, hg, _, hnm, _, _⟩
    have b2 := Lib.hid (grown_cut bb.out hg (Nat.le_refl _) (by omega))
    have hR := Lib.hid (hoR.mono (by omega : w.heap.size ≤ w3.heap.size))
    have hC := Lib.hid (hoC.mono (by omega : w.heap.size ≤ w3.heap.size))
    have k1 := own_cap hoR
    have k2 := own_cap hoC
    clear hoR hoC hg hrd
    go_wp2_with fail
    refine bodyPost_ret (v := .tuple #[.slice aR n c, .slice aC m c']) (by simp [results, Try.results20, go_sem]) rfl ?_
    exact ⟨aR, n, c, xs, aC, m, c', ys, rfl, hR.out, hC.out, hnm, ⟨k1, k2⟩, b2.out⟩
  · have hv2 : (v == 0) = false := by simpa using e0
    go_wp2_with fail
    refine (sumsW_c 16 (by omega) (by omega) _ a1 l1 c1 zs _ w3 hrd (by omega)).mono ?_
    rintro e w2 ⟨aR, n, c, xs, aC, m, c', ys, p', rfl, hoR, hoC, _, _, hg, _, hnm, _, _⟩
    have b2 := Lib.hid (grown_cut bb.out hg (Nat.le_refl _) (by omega))
    have hR := Lib.hid (hoR.mono (by omega : w.heap.size ≤ w3.heap.size))
    have hC := Lib.hid (hoC.mono (by omega : w.heap.size ≤ w3.heap.size))
    have k1 := own_cap hoR
    have k2 := own_cap hoC
    clear hoR hoC hg hrd
    go_wp2_with fail
    refine bodyPost_ret (v := .tuple #[.slice aR n c, .slice aC m c']) (by simp [results, Try.results20, go_sem]) rfl ?_
    exact ⟨aR, n, c, xs, aC, m, c', ys, rfl, hR.out, hC.out, hnm, ⟨k1, k2⟩, b2.out⟩
end Go.Proofs.Ytnfkafaolelkbaa

