/-
  The contracts of the laws' drawing functions of chapter 5.
-/
import Derived.Test.YtmfncheimmcobaaCa
namespace Go.Proofs.Ytmfncheimmcobaa
set_option maxRecDepth 100000
open Go.RowKit

/-- What a function that draws row sums and a number of columns leaves. -/
def DrawnN (w : World) (e : Ending) (w' : World) : Prop :=
  ∃ (aR : Option Addr) (n c : Nat) (xs : List Int) (v : Int), e = .returned (.tuple #[.slice aR n c, .int .i64 v]) ∧ OwnI w' w.heap.size aR n c xs ∧ n ≤ 6 ∧ n ≤ c ∧ (0 ≤ v ∧ v ≤ 12) ∧ Below w.heap.size w w'
def pick3 (u : Nat) : Int := if u = 0 then 0 else if u = 1 then 7 else 1
theorem pick3_cell (w : World) {u : Nat} (hu : u < 3) : (w.alloc (.cells #[.int .i64 0, .int .i64 7, .int .i64 1] 3)).cell? ⟨w.heap.size, u, none⟩ = some (.int .i64 (pick3 u)) := by
  rcases (show u = 0 ∨ u = 1 ∨ u = 2 by omega) with rfl | rfl | rfl <;> simp [pick3]
theorem pick3_bd (u : Nat) : 0 ≤ pick3 u ∧ pick3 u ≤ 12 := by unfold pick3; split <;> (try split) <;> omega
set_option maxHeartbeats 1600000 in
theorem draw_DrawBuildNested (a : Option Addr) (len cap : Nat) (zs : List Int) (w : World) (h : Bys w a len zs) (hl : len ≤ cap) (hm : cap ≤ 9223372036854775807) :
    Calls Try.prog 63 #[.slice a len cap] w (DrawnN w) := by
  go_enter Try.func63, Try.ntmps63
  go_wp2_with fail
  refine (open_any a len cap zs _ h hl hm).mono ?_
  rintro e w1 ⟨a1, l1, c1, rfl, hr, hb⟩
  have hlt := Opens.lt hr
  have bb := Lib.hid hb
  have hs := hb.size
  clear hb h
  go_wp2_with fail
  refine (sumsW_any _ a1 l1 c1 zs 0 w1 hr (by omega)).mono ?_
  rintro e w2 ⟨aR, n, c, xs, aC, m, c', ys, p', rfl, hoR, hoC, hne, hrd, hg, hp', hnm, bR, _⟩
  clear hr hoC hne
  go_wp2_with fail
  refine (pick_any _ a1 l1 c1 zs p' 16 _ hrd (by omega) (by omega)).mono ?_
  rintro e w3 ⟨v, rfl, hv0, hv1, hrd, hg3⟩
  replace hoR := hoR.other hg3 hlt.1
  replace hg := grown_trans hg hg3
  have k1 := own_cap hoR
  clear hg3
  by_cases e0 : v = 0
  · subst e0
    have hB1 : Hid (Below w3.heap.size w3 (w3.alloc (.cells #[.int .i64 0, .int .i64 7, .int .i64 1] 3)).drew) := ((Below.refl _ _).alloc (Nat.le_refl _) _).drew
    have hB2 : Hid (Below w3.heap.size w3 w3.drew) := (Below.refl _ _).drew
    replace hoR := Lib.hid hoR
    replace hg := Lib.hid hg
    replace hrd := Lib.hid hrd
    have hz3 : w.heap.size < w3.heap.size := block_lt hrd.out.c0
    go_wp2_with fail
    go_region_law (first | ((go_simp; go_at_call 38; refine (pick_any _ a1 l1 c1 zs (p' + 1) 3 _ (by first | exact hrd.out.bel hB1.out | exact hrd.out.bel hB2.out) (by omega) (by omega)).mono ?_; rintro e w4 ⟨v, rfl, hu0, hu1, hrd4, hg4⟩; obtain ⟨u, rfl⟩ := Int.eq_ofNat_of_zero_le hu0; have hu3 : u < 3 := (by omega); have hu4 : (u : Int) < 3 := (by omega); (first | have hgt : Hid (w3.grownBy w4 (some w.heap.size)) := grown_trans (below_grown hB1.out _) hg4 | have hgt : Hid (w3.grownBy w4 (some w.heap.size)) := grown_trans (below_grown hB2.out _) hg4); (first | have hcell : w4.cell? ⟨w3.heap.size, u, none⟩ = some (.int .i64 (pick3 u)) := hg4.cell (pick3_cell w3 hu3) (by simp; omega) | have hcell := pick3_cell w4 hu3))))
    all_goals
      go_wp2_with fail
      refine bodyPost_ret (v := .tuple #[.slice aR n c, .int .i64 (pick3 u)]) (by simp [results, Try.results63, go_sem]) rfl ?_
      have hR4 := (hoR.out.other hgt.out hlt.1).mono hs
      have b4 := grown_cut bb.out (grown_trans hg.out hgt.out) (Nat.le_refl _) hs
      first | exact ⟨aR, n, c, xs, pick3 u, rfl, hR4, hnm.1, k1, pick3_bd u, b4⟩ | exact ⟨aR, n, c, xs, pick3 u, rfl, hR4.bel ((Below.refl _ _).alloc (Nat.le_refl _) _), hnm.1, k1, pick3_bd u, b4.alloc b4.size _⟩
  · have hv2 : (v == 0) = false := by simpa using e0
    have b2 := Lib.hid (grown_cut bb.out hg (Nat.le_refl _) hs)
    have hR := Lib.hid (hoR.mono hs)
    clear hoR hg hrd e0
    go_wp2_with fail
    refine bodyPost_ret (v := .tuple #[.slice aR n c, .int .i64 m]) (by simp [results, Try.results63, go_sem]) rfl ?_
    exact ⟨aR, n, c, xs, m, rfl, hR.out, hnm.1, k1, by omega, b2.out⟩
end Go.Proofs.Ytmfncheimmcobaa

