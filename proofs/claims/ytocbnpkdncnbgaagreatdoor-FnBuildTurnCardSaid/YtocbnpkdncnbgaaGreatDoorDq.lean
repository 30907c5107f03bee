/-
  The contracts of the laws' drawing functions of chapter 5.
-/
import Derived.Test.YtocbnpkdncnbgaaGreatDoorCa
namespace Go.Proofs.YtocbnpkdncnbgaaGreatDoor
set_option maxRecDepth 100000
open Go.RowKit

set_option maxHeartbeats 400000 in
theorem draw_DrawBuildImage (a : Option Addr) (len cap : Nat) (zs : List Int) (w : World) (h : Bys w a len zs) (hl : len ≤ cap) (hm : cap ≤ 9223372036854775807) :
    Calls Tryz.prog 7 #[.slice a len cap] w (DrawnX w) := by
  go_enter Tryz.func7, Tryz.ntmps7
  go_wp2_with fail
  refine (open_any a len cap zs _ h hl hm).mono ?_
  rintro e w1 ⟨a1, l1, c1, rfl, hr, hb⟩
  have bb := Lib.hid hb
  have hs := hb.size
  clear hb h
  go_wp2_with fail
  refine (sumsW_any _ a1 l1 c1 zs 0 w1 hr (by omega)).mono ?_
  rintro e w2 ⟨aR, n, c, xs, aC, m, c', ys, p', rfl, hoR, hoC, _, _, hg, _, hnm, _, _⟩
  have b2 := Lib.hid (grown_cut bb.out hg (Nat.le_refl _) hs)
  have hR := Lib.hid (hoR.mono hs)
  have hC := Lib.hid (hoC.mono hs)
  have c1 := own_cap hoR
  have c2 := own_cap hoC
  clear hoR hoC hg hr
  go_wp2_with fail
  refine bodyPost_ret (v := .tuple #[.slice aR n c, .slice aC m c']) (by simp [results, Tryz.results7, go_sem]) rfl ?_
  exact ⟨aR, n, c, xs, aC, m, c', ys, rfl, hR.out, hC.out, hnm, ⟨c1, c2⟩, b2.out⟩

set_option maxHeartbeats 400000 in
theorem draw_DrawBuildRow (a : Option Addr) (len cap : Nat) (zs : List Int) (w : World) (h : Bys w a len zs) (hl : len ≤ cap) (hm : cap ≤ 9223372036854775807) :
    Calls Tryz.prog 12 #[.slice a len cap] w (DrawnX w) := by
  go_enter Tryz.func12, Tryz.ntmps12
  go_wp2_with fail
  refine (open_any a len cap zs _ h hl hm).mono ?_
  rintro e w1 ⟨a1, l1, c1, rfl, hr, hb⟩
  have bb := Lib.hid hb
  have hs := hb.size
  clear hb h
  go_wp2_with fail
  refine (sumsW_any _ a1 l1 c1 zs 0 w1 hr (by omega)).mono ?_
  rintro e w2 ⟨aR, n, c, xs, aC, m, c', ys, p', rfl, hoR, hoC, _, _, hg, _, hnm, _, _⟩
  have b2 := Lib.hid (grown_cut bb.out hg (Nat.le_refl _) hs)
  have hR := Lib.hid (hoR.mono hs)
  have hC := Lib.hid (hoC.mono hs)
  have c1 := own_cap hoR
  have c2 := own_cap hoC
  clear hoR hoC hg hr
  go_wp2_with fail
  refine bodyPost_ret (v := .tuple #[.slice aR n c, .slice aC m c']) (by simp [results, Tryz.results12, go_sem]) rfl ?_
  exact ⟨aR, n, c, xs, aC, m, c', ys, rfl, hR.out, hC.out, hnm, ⟨c1, c2⟩, b2.out⟩

/-- What a function that draws row sums and a number of columns leaves. -/
def DrawnN (w : World) (e : Ending) (w' : World) : Prop :=
  ∃ (aR : Option Addr) (n c : Nat) (xs : List Int) (v : Int), e = .returned (.tuple #[.slice aR n c, .int .i64 v]) ∧ OwnI w' w.heap.size aR n c xs ∧ n ≤ 6 ∧ n ≤ c ∧ (0 ≤ v ∧ v ≤ 12) ∧ Below w.heap.size w w'
def pick3 (u : Nat) : Int := if u = 0 then 0 else if u = 1 then 7 else 1
theorem pick3_cell (w : World) {u : Nat} (hu : u < 3) : (w.alloc (.cells #[.int .i64 0, .int .i64 7, .int .i64 1] 3)).cell? ⟨w.heap.size, u, none⟩ = some (.int .i64 (pick3 u)) := by
  rcases (show u = 0 ∨ u = 1 ∨ u = 2 by omega) with rfl | rfl | rfl <;> simp [pick3]
theorem pick3_bd (u : Nat) : 0 ≤ pick3 u ∧ pick3 u ≤ 12 := by unfold pick3; split <;> (try split) <;> omega
end Go.Proofs.YtocbnpkdncnbgaaGreatDoor

