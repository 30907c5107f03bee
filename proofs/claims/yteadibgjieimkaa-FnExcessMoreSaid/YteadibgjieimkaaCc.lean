/-
  The contracts of the laws' drawing functions of chapter 4.
-/
import Derived.Test.YteadibgjieimkaaPj
import Derived.Test.YteadibgjieimkaaSi
namespace Go.Proofs.Yteadibgjieimkaa
set_option maxRecDepth 100000
open Go.RowKit

/-- What a function that draws two lists leaves. -/
def DrawnX (w : World) (e : Ending) (w' : World) : Prop :=
  ∃ (aR : Option Addr) (n c : Nat) (xs : List Int) (aC : Option Addr) (m c' : Nat) (ys : List Int), e = .returned (.tuple #[.slice aR n c, .slice aC m c']) ∧ Row w' aR n xs ∧ Row w' aC m ys ∧ (n ≤ 6 ∧ 1 ≤ m ∧ m ≤ 12) ∧ (n ≤ c ∧ m ≤ c') ∧ Below w.heap.size w w'

set_option maxHeartbeats 400000 in
theorem draw_DrawSumsTurn (a : Option Addr) (len cap : Nat) (zs : List Int) (w : World) (h : Bys w a len zs) (hl : len ≤ cap) (hm : cap ≤ 9223372036854775807) :
    Calls Try.prog 33 #[.slice a len cap] w (DrawnX w) := by
  go_enter Try.func33, Try.ntmps33
  go_wp2_with fail
  refine (open_any a len cap zs _ h hl hm).mono ?_
  rintro e w1 ⟨a1, l1, c1, rfl, hr, hb⟩
  have bb := Lib.hid hb
  have hs := hb.size
  clear hb h
  go_wp2_with fail
  refine (sumsW_any _ a1 l1 c1 zs 0 w1 hr (by omega)).mono ?_
  rintro e w2 ⟨aR, n, c, xs, aC, m, c', ys, p', rfl, hoR, hoC, _, _, hg, _, hnm, _, _⟩
  have b2 := Lib.hid (grown_cut bb.out hg (Nat.le_refl _) hs)
  have hR := Lib.hid hoR.row
  have hC := Lib.hid hoC.row
  have c1 := own_cap hoR
  have c2 := own_cap hoC
  clear hoR hoC hg hr
  go_wp2_with fail
  refine bodyPost_ret (v := .tuple #[.slice aR n c, .slice aC m c']) (by simp [results, Try.results33, go_sem]) rfl ?_
  exact ⟨aR, n, c, xs, aC, m, c', ys, rfl, hR.out, hC.out, hnm, ⟨c1, c2⟩, b2.out⟩

set_option maxHeartbeats 1600000 in
theorem draw_DrawSumsExcess (a : Option Addr) (len cap : Nat) (zs : List Int) (w : World) (h : Bys w a len zs) (hl : len ≤ cap) (hm : cap ≤ 9223372036854775807) :
    Calls Try.prog 30 #[.slice a len cap] w (DrawnX w) := by
  go_enter Try.func30, Try.ntmps30
  go_wp2_with fail
  refine (open_any a len cap zs _ h hl hm).mono ?_
  rintro e w1 ⟨a1, l1, c1, rfl, hr, hb⟩
  have hlt := Opens.lt hr
  have bb := Lib.hid hb
  have hs := hb.size
  clear hb h
  go_wp2_with fail
  refine (sumsW_any _ a1 l1 c1 zs 0 w1 hr (by omega)).mono ?_
  rintro e w2 ⟨aR, n, c, xs, aC, m, c', ys, p', rfl, hoR, hoC, hne, hrd, hg, hp', hnm, bR, _⟩
  clear hr
  go_wp2_with fail
  refine (pick_any _ a1 l1 c1 zs p' 3 _ hrd (by omega) (by omega)).mono ?_
  rintro e w3 ⟨v, rfl, hv0, hv1, hrd, hg3⟩
  have hoR := hoR.other hg3 hlt.1
  have hoC := hoC.other hg3 hlt.1
  have hg := grown_trans hg hg3
  clear hg3
  by_cases e0 : v = 0 ∨ n = 0
  · have b2 := Lib.hid (grown_cut bb.out hg (Nat.le_refl _) hs)
    have hR := Lib.hid hoR.row
    have hC := Lib.hid hoC.row
    have k1 := own_cap hoR
    have k2 := own_cap hoC
    clear hoR hoC hg hrd hne
    rcases e0 with e0 | e0
    · subst e0
      go_wp2_with fail
      refine bodyPost_ret (v := .tuple #[.slice aR n c, .slice aC m c']) (by simp [results, Try.results30, go_sem]) rfl ?_
      exact ⟨aR, n, c, xs, aC, m, c', ys, rfl, hR.out, hC.out, hnm, ⟨k1, k2⟩, b2.out⟩
    · subst e0
      by_cases e1 : v = 0
      · subst e1
        go_wp2_with fail
        refine bodyPost_ret (v := .tuple #[.slice aR 0 c, .slice aC m c']) (by simp [results, Try.results30, go_sem]) rfl ?_
        exact ⟨aR, 0, c, xs, aC, m, c', ys, rfl, hR.out, hC.out, hnm, ⟨k1, k2⟩, b2.out⟩
      · have hv2 : decide (0 < v) = true := decide_eq_true (by omega)
        have hm2 : decide (0 < (m : Int)) = true := decide_eq_true (by omega)
        go_wp2_with fail
        refine bodyPost_ret (v := .tuple #[.slice aR 0 c, .slice aC m c']) (by simp [results, Try.results30, go_sem]) rfl ?_
        exact ⟨aR, 0, c, xs, aC, m, c', ys, rfl, hR.out, hC.out, hnm, ⟨k1, k2⟩, b2.out⟩
  have hv2 : decide (0 < v) = true := decide_eq_true (by omega)
  have hm2 : decide (0 < (m : Int)) = true := decide_eq_true (by omega)
  have hn2 : decide (0 < (n : Int)) = true := decide_eq_true (by omega)
  obtain ⟨gR, rfl⟩ : ∃ g, aR = some ⟨g, 0, none⟩ := by
    rcases hoR.cases with ⟨_, h, _⟩ | ⟨g, h, _⟩
    · omega
    · exact ⟨g, h⟩
  obtain ⟨gC, rfl⟩ : ∃ g, aC = some ⟨g, 0, none⟩ := by
    rcases hoC.cases with ⟨_, h, _⟩ | ⟨g, h, _⟩
    · omega
    · exact ⟨g, h⟩
  have S : SS w1 w3 w.heap.size a1 l1 c1 zs (p' + 1) gR n c xs gC m c' ys := ⟨hoR, hoC, hne _ _ rfl rfl, hrd, hg, hlt.1, hlt.2⟩
  have S := Lib.hid S
  have k1 := own_cap hoR
  have k2 := own_cap hoC
  have hx0 := bR 0 (by omega)
  have lx := hoR.len
  clear hoR hoC hg hrd hne hlt
  go_wp2_with fail
  refine (pick_any _ a1 l1 c1 zs (p' + 1) m _ S.out.rd (by omega) (by omega)).mono ?_
  rintro e w4 ⟨u, rfl, hu0, hu1, hr, hg⟩
  replace S := Lib.hid (S.out.pick hr hg)
  clear hr hg
  obtain ⟨k, rfl⟩ := Int.eq_ofNat_of_zero_le hu0
  have hkm : k < m := by omega
  have c1 := own_cell S.out.oC hkm
  have f1 := S.out.oC.frozen k
  have S1 := Lib.hid (S.out.setC k 0)
  have c2 := own_cell S1.out.oR (i := 0) (by omega)
  have f2 := S1.out.oR.frozen 0
  obtain ⟨x, hx⟩ : ∃ x, xs.getD 0 0 = x := ⟨_, rfl⟩
  rw [hx] at c2 hx0
  clear hx
  go_wp2_with fail
  refine bodyPost_ret (v := .tuple #[.slice (some ⟨gR, 0, none⟩) n c, .slice (some ⟨gC, 0, none⟩) m c']) (by simp [results, Try.results30, go_sem]) rfl ?_
  have S2 := S1.out.setR 0 (max 0 (min (x + 1) (m : Int)))
  exact ⟨_, n, c, _, _, m, c', _, rfl, S2.oR.row, S2.oC.row, hnm, ⟨k1, k2⟩, grown_cut bb.out S2.gr (Nat.le_refl _) hs⟩
end Go.Proofs.Yteadibgjieimkaa

