/-
  The contracts of the drawing functions of chapter 16's laws: sums and a rank.
-/
import Derived.Test.YtnfkafaolelkbaaJm
import Derived.Test.YtnfkafaolelkbaaJw
import Derived.Test.YtnfkafaolelkbaaJf
namespace Go.Proofs.Ytnfkafaolelkbaa
set_option maxRecDepth 100000
open Go.RowKit


/-- What a function that draws two lists and a rank leaves. -/
def DrawnK (w : World) (e : Ending) (w' : World) : Prop :=
  ∃ (aR : Option Addr) (n c : Nat) (xs : List Int) (aC : Option Addr) (m c' : Nat) (ys : List Int) (k : Int), e = .returned (.tuple #[.slice aR n c, .slice aC m c', .int .i64 k]) ∧ OwnI w' w.heap.size aR n c xs ∧ OwnI w' w.heap.size aC m c' ys ∧ (n ≤ 6 ∧ 1 ≤ m ∧ m ≤ 12) ∧ (n ≤ c ∧ m ≤ c') ∧ (-1 ≤ k ∧ k ≤ 65536) ∧ Below w.heap.size w w'
theorem sco_16 (xs ys : List Int) : -1 ≤ scO xs ys ∧ scO xs ys ≤ 65536 := by
  unfold scO
  split
  · rename_i hc; have := cnt_16 (ctdB_parts hc).2; omega
  · omega
set_option maxHeartbeats 1600000 in
theorem draw_DrawImageNth (a : Option Addr) (len cap : Nat) (zs : List Int) (w : World) (h : Bys w a len zs) (hl : len ≤ cap) (hm : cap ≤ 9223372036854775807) :
    Calls Try.prog 32 #[.slice a len cap] w (DrawnK w) := by
  go_enter Try.func32, Try.ntmps32
  go_wp2_with fail
  refine (open_any a len cap zs _ h hl hm).mono ?_
  rintro e w1 ⟨a1, l1, c1, rfl, hr, hb⟩
  have hlt := Opens.lt hr
  have bb := Lib.hid hb
  have hs := hb.size
  clear hb h
  go_wp2_with fail
  refine (sumsW_c 16 (by omega) (by omega) _ a1 l1 c1 zs 0 w1 hr (by omega)).mono ?_
  rintro e w2 ⟨aR, n, c, xs, aC, m, c', ys, p', rfl, hoR, hoC, _, hrd, hg, hp', hnm, _, _⟩
  clear hr
  have k1 := own_cap hoR
  have k2 := own_cap hoC
  have hSb := sco_16 xs ys
  have csc := sc_spec aR n c aC m c' xs ys w2 hoR.row hoC.row (by omega) (by omega) k1
  obtain ⟨S, hS⟩ : ∃ S, scO xs ys = S := ⟨_, rfl⟩
  rw [hS] at csc hSb
  replace hS := Lib.hid hS
  go_wp2_with fail
  refine csc.mono ?_
  rintro e w3 ⟨rfl, hb⟩
  replace hoR := hoR.bel hb
  replace hoC := hoC.bel hb
  replace hrd := hrd.bel hb
  replace hg := grown_trans hg (below_grown hb _)
  clear hb csc
  by_cases hS0 : 0 < S
  · go_wp2_with fail
    refine (pick_any _ a1 l1 c1 zs p' 12 _ hrd (by omega) (by omega)).mono ?_
    rintro e w4 ⟨v, rfl, hv0, hv1, hrd, hg3⟩
    replace hoR := hoR.other hg3 hlt.1
    replace hoC := hoC.other hg3 hlt.1
    replace hg := grown_trans hg hg3
    clear hg3
    by_cases hv : 0 < v
    · go_wp2_with fail
      refine (pick_any _ a1 l1 c1 zs _ S _ hrd (by omega) (by omega)).mono ?_
      rintro e w5 ⟨u, rfl, hu0, hu1, hrd, hg3⟩
      replace hoR := hoR.other hg3 hlt.1
      replace hoC := hoC.other hg3 hlt.1
      replace hg := grown_trans hg hg3
      have b2 := Lib.hid (grown_cut bb.out hg (Nat.le_refl _) hs)
      have hR := Lib.hid (hoR.mono hs)
      have hC := Lib.hid (hoC.mono hs)
      clear hoR hoC hg hrd hg3
      go_wp2_with fail
      refine bodyPost_ret (v := .tuple #[.slice aR n c, .slice aC m c', .int .i64 u]) (by simp [results, Try.results32, go_sem]) rfl ?_
      exact ⟨aR, n, c, xs, aC, m, c', ys, u, rfl, hR.out, hC.out, hnm, ⟨k1, k2⟩, by omega, b2.out⟩
    · go_wp2_with fail
      refine (pick_any _ a1 l1 c1 zs _ 5 _ hrd (by omega) (by omega)).mono ?_
      rintro e w5 ⟨u, rfl, hu0, hu1, hrd, hg3⟩
      replace hoR := hoR.other hg3 hlt.1
      replace hoC := hoC.other hg3 hlt.1
      replace hg := grown_trans hg hg3
      have b2 := Lib.hid (grown_cut bb.out hg (Nat.le_refl _) hs)
      have hR := Lib.hid (hoR.mono hs)
      have hC := Lib.hid (hoC.mono hs)
      have hiu : IntKind.i64.wrap (u - 1) = u - 1 := IntWalk.i64_in _ ⟨by omega, by omega⟩
      clear hoR hoC hg hrd hg3
      go_wp2_with fail
      refine bodyPost_ret (v := .tuple #[.slice aR n c, .slice aC m c', .int .i64 (u - 1)]) (by simp [results, Try.results32, go_sem]) rfl ?_
      exact ⟨aR, n, c, xs, aC, m, c', ys, u - 1, rfl, hR.out, hC.out, hnm, ⟨k1, k2⟩, by omega, b2.out⟩
  · go_wp2_with fail
    refine (pick_any _ a1 l1 c1 zs _ 5 _ hrd (by omega) (by omega)).mono ?_
    rintro e w5 ⟨u, rfl, hu0, hu1, hrd, hg3⟩
    replace hoR := hoR.other hg3 hlt.1
    replace hoC := hoC.other hg3 hlt.1
    replace hg := grown_trans hg hg3
    have b2 := Lib.hid (grown_cut bb.out hg (Nat.le_refl _) hs)
    have hR := Lib.hid (hoR.mono hs)
    have hC := Lib.hid (hoC.mono hs)
    have hiu : IntKind.i64.wrap (u - 1) = u - 1 := IntWalk.i64_in _ ⟨by omega, by omega⟩
    clear hoR hoC hg hrd hg3
    go_wp2_with fail
    refine bodyPost_ret (v := .tuple #[.slice aR n c, .slice aC m c', .int .i64 (u - 1)]) (by simp [results, Try.results32, go_sem]) rfl ?_
    exact ⟨aR, n, c, xs, aC, m, c', ys, u - 1, rfl, hR.out, hC.out, hnm, ⟨k1, k2⟩, by omega, b2.out⟩
end Go.Proofs.Ytnfkafaolelkbaa

