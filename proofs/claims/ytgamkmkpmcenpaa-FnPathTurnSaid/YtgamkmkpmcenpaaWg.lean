/-
  Two images drawn at any number of cells.
  The contracts of the functions that do switches one after the other, of the program and the model.
  The contract of DrawSwitchRun: an image and up to four switches.
  The contracts of distances, of switches that help, of paths and of runs, in the form in which the laws want them.
-/
import Derived.Test.YtgamkmkpmcenpaaSk
import Derived.Test.YtgamkmkpmcenpaaKd
import Derived.Test.YtgamkmkpmcenpaaQl
import Derived.Test.YtgamkmkpmcenpaaHc
import Derived.Test.YtgamkmkpmcenpaaRa
import Derived.Deep.RegionLaw
import Derived.Test.YtgamkmkpmcenpaaWd
import Derived.Test.YtgamkmkpmcenpaaKc
import Derived.Test.YtgamkmkpmcenpaaWm
import Derived.Test.YtgamkmkpmcenpaaEp

namespace Go.Proofs.Ytgamkmkpmcenpaa
set_option maxRecDepth 100000
open Go.RowKit

set_option maxHeartbeats 2000000 in
set_option maxRecDepth 100000 in
theorem two_c (cc0 : Nat) (hcc1 : 1 ≤ cc0) (hcc : cc0 ≤ 36) (r : Nat) (a : Option Addr) (len cap : Nat) (zs : List Int) (p : Nat) (w : World) (h : Rd w r a len cap zs p) (hp : p ≤ 500) :
    Calls Try.prog 54 #[.pointer (some ⟨r, 0, none⟩), .int .i64 (cc0 : Int)] w (TwoD w r a len cap zs p) := by
  have hrw : r < w.heap.size := block_lt h.c0
  have far := Lib.hid h.src
  obtain ⟨W0, hW0⟩ : ∃ W0, W0 = (w.alloc (.cells #[.int .i64 0, .slice none 0 0] 25)).alloc (.cells #[.int .i64 0, .slice none 0 0] 25) := ⟨_, rfl⟩
  have b0 : Below w.heap.size w W0 := by subst hW0; exact ((Below.refl _ _).alloc (Nat.le_refl _) _).alloc (by simp) _
  have z4 : Box W0 w.heap.size (.int .i64 0) (.slice none 0 0) := by subst hW0; exact ⟨by go_simp, by go_simp, fun o => by go_simp⟩
  have z5 : Box W0 (w.heap.size + 1) (.int .i64 0) (.slice none 0 0) := by subst hW0; exact ⟨by go_simp, by go_simp, fun o => by go_simp⟩
  have l0 : w.heap.size + 1 < W0.heap.size := block_lt z5.c0
  have hr0 := h.bel b0
  clear h
  go_enter Try.func54, Try.ntmps54
  go_wp2_with fail
  rw [← hW0]
  clear hW0
  refine (wrong_c cc0 hcc1 hcc r a len cap zs p _ hr0 (by omega)).mono ?_
  rintro e w1 ⟨V, s, n, cg, xs, rfl, hR, hn, hg, hf, q, hq, hrd⟩
  have s1 := hg.size
  have ba : Below w1.heap.size w1 (w1.alloc (.cells #[.int .i64 V, .slice s n cg] 25)) := (Below.refl _ _).alloc (Nat.le_refl _) _
  have hT : TSn w (w1.alloc (.cells #[.int .i64 V, .slice s n cg] 25)) r a len cap zs q w1.heap.size V s n cg xs :=
    ⟨(z4.grown hg (by omega)).bel ba, (z5.grown hg (by omega)).bel ba, ⟨by simp, by simp, fun o => by simp⟩, hR.row.bel ba, hrd.bel ba, grown_trans (grown_trans (below_grown b0 _) hg) (below_grown ba _), hrw, by omega, far.out, fun b off e hl => by have := hf b off e hl; omega⟩
  have hT := Lib.hid hT
  clear z4 z5 hR hg hf hrd ba b0 hr0
  go_wp2_with fail
  refine (pick_any r a len cap zs q 5 _ hT.out.rd (by omega) (by omega)).mono ?_
  rintro e w2 ⟨v, rfl, hv0, hv1, hr, hg⟩
  replace hT := Lib.hid (hT.out.pick hr hg)
  clear hr hg
  have y0 := hT.out.ib.c0
  have y1 := hT.out.ib.c1
  by_cases e0 : 0 < v
  · have hD := Lib.hid (hT.out.bel ((Below.refl _ _).drew))
    have s2 : w1.heap.size < w2.heap.size := block_lt y0
    go_wp2_with fail
    go_region_law (first | ((go_simp; go_at_call 91; (with_reducible refine (oth_any r a len cap zs (q + 1) V s n cg xs _ hD.out.rd (by omega) hD.out.row hn.1 (fun b off e hl => by have := hD.out.sr b off e hl; omega)).mono ?_); rintro e w3 ⟨t, c, ys, p', rfl, hY, hg, hrd, hp', ht⟩; have hO := Lib.hid (hD.out.pick hrd hg); have y0 := hO.out.ib.c0; have y1 := hO.out.ib.c1; have a0 := hO.out.z4.c0; have a1 := hO.out.z4.c1; have af := hO.out.z4.fz; have c0 := hO.out.z5.c0; have c1 := hO.out.z5.c1; have cf := hO.out.z5.fz; have hY := Lib.hid hY; clear hg hrd)))
    all_goals
      go_wp2_with fail
      refine bodyPost_ret (v := .tuple #[.agg #[.int .i64 V, .slice s n cg], .agg #[.int .i64 V, .slice t n c]]) (by simp [results, Try.results54, go_sem, a0, a1, c0, c1]) rfl ?_
      exact hO.out.fin hY.out (fun b off e hl => by
        rcases ht b off e hl with h | h
        · rw [h] at e; exact hO.out.sr b off e hl
        · have : w2.heap.size ≤ b := h
          omega) hn.1 hn.1 (by omega)
  · go_wp2_with fail
    refine (pick_any r a len cap zs _ 2 _ hT.out.rd (by omega) (by omega)).mono ?_
    rintro e w3 ⟨v2, rfl, hu0, hu1, hr, hg⟩
    replace hT := Lib.hid (hT.out.pick hr hg)
    clear hr hg y0 y1
    by_cases e1 : v2 = 0
    case neg =>
      have hD := Lib.hid (hT.out.bel ((Below.refl _ _).drew))
      have y0 := hT.out.ib.c0
      have y1 := hT.out.ib.c1
      have sX : w1.heap.size < w3.heap.size := block_lt y0
      go_wp2_with fail
      go_region_law (first | ((go_simp; go_at_call 82; (with_reducible refine (wrong_c cc0 hcc1 hcc r a len cap zs (q + 1 + 1) _ hD.out.rd (by omega)).mono ?_); rintro e w9 ⟨V', t, m, c', ys, rfl, hY, hm, hg, hf, q', hq', hrd⟩; have hO := Lib.hid (hD.out.pick hrd hg); have y0 := hO.out.ib.c0; have y1 := hO.out.ib.c1; have a0 := hO.out.z4.c0; have a1 := hO.out.z4.c1; have af := hO.out.z4.fz; have c0 := hO.out.z5.c0; have c1 := hO.out.z5.c1; have cf := hO.out.z5.fz; have hY := Lib.hid hY.row; clear hg hrd)))
      all_goals
        go_wp2_with fail
        refine bodyPost_ret (v := .tuple #[.agg #[.int .i64 V, .slice s n cg], .agg #[.int .i64 V', .slice t m c']]) (by simp [results, Try.results54, go_sem, a0, a1, c0, c1]) rfl ?_
        exact hO.out.fin hY.out (fun b off e hl => by
          have : w3.heap.size ≤ b := hf b off e hl
          omega) hn.1 hm.1 (by omega)
    subst e1
    have y0 := hT.out.ib.c0
    have y1 := hT.out.ib.c1
    go_wp2_with fail
    refine (valid_spec _ _ _ _ xs _ hT.out.row (by omega)).mono ?_
    rintro e w4 ⟨rfl, hb⟩
    replace hT := Lib.hid (hT.out.bel hb)
    clear hb y0 y1
    by_cases hv : validB V xs = true
    case neg =>
      have hv : validB V xs = false := by simpa using hv
      rw [hv]
      have hD := Lib.hid (hT.out.bel ((Below.refl _ _).drew))
      have y0 := hT.out.ib.c0
      have y1 := hT.out.ib.c1
      have sX : w1.heap.size < w4.heap.size := block_lt y0
      go_wp2_with fail
      go_region_law (first | ((go_simp; go_at_call 82; (with_reducible refine (wrong_c cc0 hcc1 hcc r a len cap zs (q + 1 + 1) _ hD.out.rd (by omega)).mono ?_); rintro e w9 ⟨V', t, m, c', ys, rfl, hY, hm, hg, hf, q', hq', hrd⟩; have hO := Lib.hid (hD.out.pick hrd hg); have y0 := hO.out.ib.c0; have y1 := hO.out.ib.c1; have a0 := hO.out.z4.c0; have a1 := hO.out.z4.c1; have af := hO.out.z4.fz; have c0 := hO.out.z5.c0; have c1 := hO.out.z5.c1; have cf := hO.out.z5.fz; have hY := Lib.hid hY.row; clear hg hrd)))
      all_goals
        go_wp2_with fail
        refine bodyPost_ret (v := .tuple #[.agg #[.int .i64 V, .slice s n cg], .agg #[.int .i64 V', .slice t m c']]) (by simp [results, Try.results54, go_sem, a0, a1, c0, c1]) rfl ?_
        exact hO.out.fin hY.out (fun b off e hl => by
          have : w4.heap.size ≤ b := hf b off e hl
          omega) hn.1 hm.1 (by omega)
    rw [hv]
    have hV := validB_W hv
    obtain ⟨W, rfl⟩ := Int.eq_ofNat_of_zero_le (by omega : 0 ≤ V)
    have hp6 := pw_63 (show W ≤ 6 by omega)
    have hpp := pw_pos W
    clear hv
    have y0 := hT.out.ib.c0
    have y1 := hT.out.ib.c1
    have s4 : w1.heap.size < w4.heap.size := block_lt y0
    have hsl := Lib.hid (row_lt hT.out.row)
    go_wp2_with fail
    refine (blank_spec W n _ (by omega)).mono ?_
    rintro e w5 ⟨⟨g, rfl, hg4, ho⟩, hb⟩
    have s5 := hb.size
    have hg5 := (own_ge ho).2
    have ba : Below w5.heap.size w5 (w5.alloc (.cells #[.int .i64 W, .slice (some ⟨g, 0, none⟩) n n] 25)) := (Below.refl _ _).alloc (Nat.le_refl _) _
    replace hT := Lib.hid ((hT.out.bel hb).bel ba)
    have ib2 : Hid (Box (w5.alloc (.cells #[.int .i64 W, .slice (some ⟨g, 0, none⟩) n n] 25)) w5.heap.size (.int .i64 W) (.slice (some ⟨g, 0, none⟩) n n)) := ⟨by simp, by simp, fun o => by simp⟩
    replace ho := Lib.hid (ho.bel ba)
    clear hb ba y0 y1
    go_wp2_with fail
    go_loopw [8] (fun i wr => ∃ (k q' : Nat) (ys : List Int), k ≤ n ∧ i = .int .i64 k ∧ q' ≤ q + 2 + k ∧ Hid (TSn w wr r a len cap zs q' w1.heap.size W s n cg xs) ∧ Hid (Box wr w5.heap.size (.int .i64 W) (.slice (some ⟨g, 0, none⟩) n n)) ∧ Hid (OwnI wr w4.heap.size (some ⟨g, 0, none⟩) n n ys)) (fun i _ => n - (intOf i).toNat)
    case atStart => exact ⟨0, q + 1 + 1, _, Nat.zero_le _, rfl, by omega, hT, ib2, ho⟩
    case round =>
      obtain ⟨k, q', ys, hk, rfl, hq', hT2, hB2, hO2⟩ := hrel
      clear hT ib2 ho
      have y0 := hT2.out.ib.c0
      have y1 := hT2.out.ib.c1
      have u0 := hB2.out.c0
      have u1 := hB2.out.c1
      by_cases hlt : k < n
      · have hD := Lib.hid (hT2.out.bel ((Below.refl _ _).drew))
        have hBD := Lib.hid (hB2.out.bel ((Below.refl _ _).drew))
        have hOD := Lib.hid (hO2.out.bel ((Below.refl _ _).drew))
        go_wp2_with fail
        go_region_law (first | ((go_simp; go_at_call 93; (with_reducible refine (power_any W _ (by omega)).mono ?_); rintro e w6 ⟨rfl, rfl⟩)) | ((go_simp; go_at_call 83; (with_reducible refine (pick_any r a len cap zs q' (pw W) _ hD.out.rd (by omega) (by omega)).mono ?_); rintro e w7 ⟨vv, rfl, hvv0, hvv1, hr, hg⟩; have hT3 := Lib.hid (hD.out.pick hr hg); have hB3 := Lib.hid (hBD.out.grown hg (by omega)); have hO3 := Lib.hid (hOD.out.other hg (by omega)); have y0 := hT3.out.ib.c0; have y1 := hT3.out.ib.c1; have u0 := hB3.out.c0; have u1 := hB3.out.c1; have cc := own_cell hO3.out hlt; have cf := hO3.out.frozen; clear hr hg)))
        all_goals
          go_wp2_with fail
          exact ⟨⟨k + 1, q' + 1, _, by omega, by go_num, by omega, hT3.out.other (grown_set (World.grownBy.refl _ _)) (by omega) (by omega) (fun b off e hl => by have := hsl.out b off e hl; omega), hB3.out.store (by omega), hO3.out.set k vv⟩, by simp [intOf]; omega⟩
      · have : k = n := by omega
        subst this
        have a0 := hT2.out.z4.c0
        have a1 := hT2.out.z4.c1
        have af := hT2.out.z4.fz
        have c0 := hT2.out.z5.c0
        have c1 := hT2.out.z5.c1
        have cf := hT2.out.z5.fz
        go_wp2_with fail
        go_region
        all_goals
          go_wp2_with fail
          refine bodyPost_ret (v := .tuple #[.agg #[.int .i64 W, .slice s k cg], .agg #[.int .i64 W, .slice (some ⟨g, 0, none⟩) k k]]) (by simp [results, Try.results54, go_sem, a0, a1, c0, c1]) rfl ?_
          exact (hT2.out.bel ((Below.refl _ _).drew)).fin (hO2.out.bel ((Below.refl _ _).drew)).row (fun b off e hl => by
            have := own_far hO2.out (show w.heap.size + 1 < w4.heap.size by omega) b off e hl
            cases e
            omega) hn.1 hn.1 (by omega)
set_option maxHeartbeats 400000 in
theorem draw_DrawImageDistance (a : Option Addr) (len cap : Nat) (zs : List Int) (w : World) (h : Bys w a len zs) (hl : len ≤ cap) (hm : cap ≤ 9223372036854775807) :
    Calls Try.prog 22 #[.slice a len cap] w (DrawnT w) := by
  obtain ⟨W0, hW0⟩ : ∃ W0, W0 = (w.alloc (.cells #[.int .i64 0, .slice none 0 0] 25)).alloc (.cells #[.int .i64 0, .slice none 0 0] 25) := ⟨_, rfl⟩
  have b0 : Below w.heap.size w W0 := by subst hW0; exact ((Below.refl _ _).alloc (Nat.le_refl _) _).alloc (by simp) _
  have z4 : Box W0 w.heap.size (.int .i64 0) (.slice none 0 0) := by subst hW0; exact ⟨by go_simp, by go_simp, fun o => by go_simp⟩
  have z5 : Box W0 (w.heap.size + 1) (.int .i64 0) (.slice none 0 0) := by subst hW0; exact ⟨by go_simp, by go_simp, fun o => by go_simp⟩
  have l0 : w.heap.size + 1 < W0.heap.size := block_lt z5.c0
  have h0 := h.bel b0
  clear h
  go_enter Try.func22, Try.ntmps22
  go_wp2_with fail
  rw [← hW0]
  clear hW0
  refine (open_any a len cap zs _ h0 hl hm).mono ?_
  rintro e w1 ⟨a1, l1, c1, rfl, hr, hb⟩
  have s1 := hb.size
  have bb := Lib.hid (b0.trans (hb.mono b0.size))
  have z4 := z4.bel hb
  have z5 := z5.bel hb
  clear hb h0 b0
  go_wp2_with fail
  refine (two_c 36 (by omega) (by omega) _ a1 l1 c1 zs 0 w1 hr (by omega)).mono ?_
  rintro e w2 ⟨V, s, n, c, xs, V', t, m, c', ys, p', rfl, hX, hY, hnm, hg, _, _, hs, ht⟩
  have z4 := z4.grown hg (by omega)
  have z5 := z5.grown hg (by omega)
  have bb := Lib.hid (grown_cut bb.out hg (by omega) (by omega))
  have a0 := z4.c0
  have a1 := z4.c1
  have af := z4.fz
  have c0 := z5.c0
  have c1 := z5.c1
  have cf := z5.fz
  have hX := Lib.hid hX
  have hY := Lib.hid hY
  clear hg hr z4 z5
  go_wp2_with fail
  refine bodyPost_ret (v := .tuple #[.agg #[.int .i64 V, .slice s n c], .agg #[.int .i64 V', .slice t m c']]) (by simp [results, Try.results22, go_sem, a0, a1, c0, c1]) rfl ?_
  exact ⟨V, s, n, c, xs, V', t, m, c', ys, rfl, set2_row (set2_row hX.out fun b off e hl => by have := hs b off e hl; omega) fun b off e hl => by have := hs b off e hl; omega, set2_row (set2_row hY.out fun b off e hl => by have := ht b off e hl; omega) fun b off e hl => by have := ht b off e hl; omega, hnm, set2_bel (set2_bel bb.out (Nat.le_refl _)) (by omega)⟩

set_option maxHeartbeats 400000 in
theorem draw_DrawSwitchToward (a : Option Addr) (len cap : Nat) (zs : List Int) (w : World) (h : Bys w a len zs) (hl : len ≤ cap) (hm : cap ≤ 9223372036854775807) :
    Calls Try.prog 30 #[.slice a len cap] w (DrawnT w) := by
  obtain ⟨W0, hW0⟩ : ∃ W0, W0 = (w.alloc (.cells #[.int .i64 0, .slice none 0 0] 25)).alloc (.cells #[.int .i64 0, .slice none 0 0] 25) := ⟨_, rfl⟩
  have b0 : Below w.heap.size w W0 := by subst hW0; exact ((Below.refl _ _).alloc (Nat.le_refl _) _).alloc (by simp) _
  have z4 : Box W0 w.heap.size (.int .i64 0) (.slice none 0 0) := by subst hW0; exact ⟨by go_simp, by go_simp, fun o => by go_simp⟩
  have z5 : Box W0 (w.heap.size + 1) (.int .i64 0) (.slice none 0 0) := by subst hW0; exact ⟨by go_simp, by go_simp, fun o => by go_simp⟩
  have l0 : w.heap.size + 1 < W0.heap.size := block_lt z5.c0
  have h0 := h.bel b0
  clear h
  go_enter Try.func30, Try.ntmps30
  go_wp2_with fail
  rw [← hW0]
  clear hW0
  refine (open_any a len cap zs _ h0 hl hm).mono ?_
  rintro e w1 ⟨a1, l1, c1, rfl, hr, hb⟩
  have s1 := hb.size
  have bb := Lib.hid (b0.trans (hb.mono b0.size))
  have z4 := z4.bel hb
  have z5 := z5.bel hb
  clear hb h0 b0
  go_wp2_with fail
  refine (two_c 30 (by omega) (by omega) _ a1 l1 c1 zs 0 w1 hr (by omega)).mono ?_
  rintro e w2 ⟨V, s, n, c, xs, V', t, m, c', ys, p', rfl, hX, hY, hnm, hg, _, _, hs, ht⟩
  have z4 := z4.grown hg (by omega)
  have z5 := z5.grown hg (by omega)
  have bb := Lib.hid (grown_cut bb.out hg (by omega) (by omega))
  have a0 := z4.c0
  have a1 := z4.c1
  have af := z4.fz
  have c0 := z5.c0
  have c1 := z5.c1
  have cf := z5.fz
  have hX := Lib.hid hX
  have hY := Lib.hid hY
  clear hg hr z4 z5
  go_wp2_with fail
  refine bodyPost_ret (v := .tuple #[.agg #[.int .i64 V, .slice s n c], .agg #[.int .i64 V', .slice t m c']]) (by simp [results, Try.results30, go_sem, a0, a1, c0, c1]) rfl ?_
  exact ⟨V, s, n, c, xs, V', t, m, c', ys, rfl, set2_row (set2_row hX.out fun b off e hl => by have := hs b off e hl; omega) fun b off e hl => by have := hs b off e hl; omega, set2_row (set2_row hY.out fun b off e hl => by have := ht b off e hl; omega) fun b off e hl => by have := ht b off e hl; omega, hnm, set2_bel (set2_bel bb.out (Nat.le_refl _)) (by omega)⟩

set_option maxHeartbeats 400000 in
theorem draw_DrawSwitchPath (a : Option Addr) (len cap : Nat) (zs : List Int) (w : World) (h : Bys w a len zs) (hl : len ≤ cap) (hm : cap ≤ 9223372036854775807) :
    Calls Try.prog 37 #[.slice a len cap] w (DrawnT w) := by
  obtain ⟨W0, hW0⟩ : ∃ W0, W0 = (w.alloc (.cells #[.int .i64 0, .slice none 0 0] 25)).alloc (.cells #[.int .i64 0, .slice none 0 0] 25) := ⟨_, rfl⟩
  have b0 : Below w.heap.size w W0 := by subst hW0; exact ((Below.refl _ _).alloc (Nat.le_refl _) _).alloc (by simp) _
  have z4 : Box W0 w.heap.size (.int .i64 0) (.slice none 0 0) := by subst hW0; exact ⟨by go_simp, by go_simp, fun o => by go_simp⟩
  have z5 : Box W0 (w.heap.size + 1) (.int .i64 0) (.slice none 0 0) := by subst hW0; exact ⟨by go_simp, by go_simp, fun o => by go_simp⟩
  have l0 : w.heap.size + 1 < W0.heap.size := block_lt z5.c0
  have h0 := h.bel b0
  clear h
  go_enter Try.func37, Try.ntmps37
  go_wp2_with fail
  rw [← hW0]
  clear hW0
  refine (open_any a len cap zs _ h0 hl hm).mono ?_
  rintro e w1 ⟨a1, l1, c1, rfl, hr, hb⟩
  have s1 := hb.size
  have bb := Lib.hid (b0.trans (hb.mono b0.size))
  have z4 := z4.bel hb
  have z5 := z5.bel hb
  clear hb h0 b0
  go_wp2_with fail
  refine (two_c 25 (by omega) (by omega) _ a1 l1 c1 zs 0 w1 hr (by omega)).mono ?_
  rintro e w2 ⟨V, s, n, c, xs, V', t, m, c', ys, p', rfl, hX, hY, hnm, hg, _, _, hs, ht⟩
  have z4 := z4.grown hg (by omega)
  have z5 := z5.grown hg (by omega)
  have bb := Lib.hid (grown_cut bb.out hg (by omega) (by omega))
  have a0 := z4.c0
  have a1 := z4.c1
  have af := z4.fz
  have c0 := z5.c0
  have c1 := z5.c1
  have cf := z5.fz
  have hX := Lib.hid hX
  have hY := Lib.hid hY
  clear hg hr z4 z5
  go_wp2_with fail
  refine bodyPost_ret (v := .tuple #[.agg #[.int .i64 V, .slice s n c], .agg #[.int .i64 V', .slice t m c']]) (by simp [results, Try.results37, go_sem, a0, a1, c0, c1]) rfl ?_
  exact ⟨V, s, n, c, xs, V', t, m, c', ys, rfl, set2_row (set2_row hX.out fun b off e hl => by have := hs b off e hl; omega) fun b off e hl => by have := hs b off e hl; omega, set2_row (set2_row hY.out fun b off e hl => by have := ht b off e hl; omega) fun b off e hl => by have := ht b off e hl; omega, hnm, set2_bel (set2_bel bb.out (Nat.le_refl _)) (by omega)⟩

end Go.Proofs.Ytgamkmkpmcenpaa

namespace Go.Proofs.Ytgamkmkpmcenpaa
set_option maxRecDepth 100000
open Go.RowKit

/-- What SwitchRun gives. -/
def runOut (V : Int) (xs : List Int) (L : List SwQ) : Out := if validB V xs = true then (match runL V xs L with
  | some ys => ⟨true, V, ys⟩
  | none => .no) else .no
theorem runOut_no {V : Int} {xs : List Int} {L : List SwQ} (h : validB V xs = false) : runOut V xs L = .no := if_neg (by rw [h]; simp)
theorem runOut_stop {K n : Nat} {xs : List Int} {L : List SwQ} (h : Im K n xs) (hr : runL K xs L = none) : runOut K xs L = .no := by
  unfold runOut; rw [if_pos h.valid, hr]
theorem runOut_yes {K n : Nat} {xs ys : List Int} {L : List SwQ} (h : Im K n xs) (hr : runL K xs L = some ys) : runOut K xs L = ⟨true, K, ys⟩ := by
  unfold runOut; rw [if_pos h.valid, hr]
theorem run_next {K n : Nat} {xs X : List Int} {L : List SwQ} {k : Nat} (hX : Im K n X) (h : runL K xs (L.take k) = some X) {A B C D : Int} (hk : k < L.length) (e : L[k]'hk = (A, B, C, D)) :
    runL K xs (L.take (k + 1)) = if okB K X A B C D = true then some (flL X K n A.toNat B.toNat C.toNat D.toNat) else none := by
  rw [List.take_succ_eq_append_getElem hk, e, run_snoc h, hX.hl, Int.toNat_natCast]
theorem run_end {K : Nat} {xs : List Int} {L : List SwQ} {k : Nat} (h : runL K xs (L.take k) = none) : runL K xs L = none := by
  rw [← List.take_append_drop k L]; exact run_stop h _

/-- Within a run: the boxes of the result and of the image so far, and the list. -/
structure RS (w wr : World) (K n kd : Nat) (sd : Option Addr) (cd : Nat) (X : List Int) (al : Option Addr) (N : Nat) (L : List SwQ) : Prop where
  z0 : wr.cell? ⟨w.heap.size + 1, 0, none⟩ = some (.int .i64 0)
  z1 : wr.cell? ⟨w.heap.size + 1, 1, none⟩ = some (.slice none 0 0)
  zf : ∀ o, wr.frozen? ⟨w.heap.size + 1, o, none⟩ = false
  d0 : wr.cell? ⟨kd, 0, none⟩ = some (.int .i64 K)
  d1 : wr.cell? ⟨kd, 1, none⟩ = some (.slice sd n cd)
  df : ∀ o, wr.frozen? ⟨kd, o, none⟩ = false
  pd : OwnI wr (w.heap.size + 2) sd n cd X
  q : QRow wr al N L
  bel : Below w.heap.size w wr
  hk : w.heap.size + 1 < kd
  nd : ∀ b off, sd = some ⟨b, off, none⟩ → 0 < n → b ≠ kd
  nl : ∀ b off, al = some ⟨b, off, none⟩ → 0 < N → b < w.heap.size
theorem RS.move {w wr w1 : World} {K n kd : Nat} {sd : Option Addr} {cd : Nat} {X : List Int} {al : Option Addr} {N : Nat} {L : List SwQ} (h : RS w wr K n kd sd cd X al N L) (hb : Below wr.heap.size wr w1) : RS w w1 K n kd sd cd X al N L :=
  ⟨kept hb (block_lt h.z0) h.z0, kept hb (block_lt h.z1) h.z1, fun o => (hb.frozen (p := ⟨w.heap.size + 1, o, none⟩) (show w.heap.size + 1 < wr.heap.size from block_lt h.z0)).trans (h.zf o), kept hb (block_lt h.d0) h.d0, kept hb (block_lt h.d1) h.d1, fun o => (hb.frozen (p := ⟨kd, o, none⟩) (show kd < wr.heap.size from block_lt h.d0)).trans (h.df o),
    h.pd.bel hb, h.q.bel hb, h.bel.trans (hb.mono h.bel.size), h.hk, h.nd, h.nl⟩
/-- The box takes another image. -/
theorem RS.setd {w wr w1 : World} {K n kd : Nat} {sd : Option Addr} {cd : Nat} {X : List Int} {al : Option Addr} {N : Nat} {L : List SwQ} (h : RS w wr K n kd sd cd X al N L) (hb : Below wr.heap.size wr w1) {s' : Option Addr} {c' : Nat} {X' : List Int} (ho : OwnI w1 wr.heap.size s' n c' X') :
    RS w ((w1.setCell ⟨kd, 0, none⟩ (.int .i64 K)).setCell ⟨kd, 1, none⟩ (.slice s' n c')) K n kd s' c' X' al N L := by
  have h' := h.move hb
  have lk : kd < wr.heap.size := block_lt h.d0
  have hg : w1.grownBy ((w1.setCell ⟨kd, 0, none⟩ (.int .i64 K)).setCell ⟨kd, 1, none⟩ (.slice s' n c')) (some kd) := grown_set (grown_set (World.grownBy.refl _ _))
  have e1 : (w1.setCell ⟨kd, 0, none⟩ (.int .i64 K)).cell? ⟨kd, 1, none⟩ = some (.slice sd n cd) := by rw [World.cell?_setCell_other _ _ _ _ (by simp)]; exact h'.d1
  have hk := h.hk
  have hz := h.bel.size
  refine ⟨hg.cell h'.z0 (by simp; omega), hg.cell h'.z1 (by simp; omega), fun o => ?_, ?_, World.cell?_setCell_same _ _ _ e1, fun o => ?_, ((ho.store (show kd < wr.heap.size from lk) _).store (show kd < wr.heap.size from lk) _).mono (by omega), h'.q.apart hg (fun b off e hn => by have := h.nl b off e hn; omega), (h'.bel.setCell (by simp; omega) _).setCell (by simp; omega) _, hk, fun b off e hn => ?_, h.nl⟩
  · rw [World.frozen?_setCell, World.frozen?_setCell]; exact h'.zf o
  · rw [World.cell?_setCell_other _ _ _ _ (by simp)]; exact World.cell?_setCell_same _ _ _ h'.d0
  · rw [World.frozen?_setCell, World.frozen?_setCell]; exact h'.df o
  · rcases ho.cases with ⟨e2, _⟩ | ⟨g, e2, hg2, _⟩
    · rw [e2] at e; cases e
    · rw [e2] at e; cases e; omega

set_option maxHeartbeats 4000000 in
theorem run_impl (V : Int) (a al : Option Addr) (n c N cl : Nat) (xs : List Int) (L : List SwQ) (w : World) (h : Row w a n xs) (hq : QRow w al N L) (hm : n ≤ 9223372036854775807) (hN : N ≤ 1048576) :
    Calls Try.prog 41 #[.agg #[.int .i64 V, .slice a n c], .slice al N cl] w (Gives w (runOut V xs L)) := by
  have hl := Lib.hid h.1
  have hql := Lib.hid hq.1
  have hnl : Hid (∀ b off, al = some ⟨b, off, none⟩ → 0 < N → b < w.heap.size) := Lib.hid (fun b off e hn => by
    obtain ⟨b', off', e', hc⟩ := hq.2.resolve_left (by omega)
    rw [e] at e'; cases e'
    exact block_lt (hc 0 (by have := hq.1; omega)).1)
  obtain ⟨W0, hW0⟩ : ∃ W0, W0 = (w.alloc (.cells #[.int .i64 V, .slice a n c] 25)).alloc (.cells #[.int .i64 0, .slice none 0 0] 25) := ⟨_, rfl⟩
  have bb : Hid (Below w.heap.size w W0) := by subst hW0; exact ((Below.refl _ _).alloc (Nat.le_refl _) _).alloc (by simp) _
  have x0 : W0.cell? ⟨w.heap.size, 0, none⟩ = some (.int .i64 V) := by subst hW0; go_simp
  have x1 : W0.cell? ⟨w.heap.size, 1, none⟩ = some (.slice a n c) := by subst hW0; go_simp
  have z0 : W0.cell? ⟨w.heap.size + 1, 0, none⟩ = some (.int .i64 0) := by subst hW0; go_simp
  have z1 : W0.cell? ⟨w.heap.size + 1, 1, none⟩ = some (.slice none 0 0) := by subst hW0; go_simp
  have zf : ∀ o, W0.frozen? ⟨w.heap.size + 1, o, none⟩ = false := fun o => by subst hW0; go_simp
  have hz : w.heap.size + 1 < W0.heap.size := block_lt z0
  have r := Lib.hid (h.bel bb.out)
  have q := Lib.hid (hq.bel bb.out)
  clear h hq
  by_cases hv : validB V xs = true
  case neg =>
    have hv : validB V xs = false := by simpa using hv
    rw [runOut_no hv]
    go_enter Try.func41, Try.ntmps41
    go_wp2_with fail
    rw [← hW0]
    clear hW0
    refine (valid_impl _ _ _ _ xs _ r.out hm).mono ?_
    rintro e w1 ⟨rfl, hb⟩
    rw [hv]
    replace zf : ∀ o, w1.frozen? ⟨w.heap.size + 1, o, none⟩ = false := fun o => (hb.frozen (p := ⟨w.heap.size + 1, o, none⟩) hz).trans (zf o)
    replace x0 := kept hb (block_lt x0) x0
    replace x1 := kept hb (block_lt x1) x1
    replace z0 := kept hb (block_lt z0) z0
    replace z1 := kept hb (block_lt z1) z1
    have szw1 := hb.size
    replace r := Lib.hid (r.out.bel hb)
    replace q := Lib.hid (q.out.bel hb)
    replace bb := Lib.hid (bb.out.trans (hb.mono bb.out.size))
    clear hb
    go_wp2_with fail
    refine bodyPost_ret (v := .tuple #[.agg #[.int .i64 0, .slice none 0 0], .bool false]) (by simp [results, Try.results41, go_sem, z0, z1]) rfl ?_
    exact ⟨⟨none, 0, rfl, own_nil _ _⟩, (bb.out.setCell (by simp) _).setCell (by simp) _⟩
  have hI0 := validB_W hv
  obtain ⟨K, rfl⟩ := Int.eq_ofNat_of_zero_le (by omega : 0 ≤ V)
  have hI : Im K n xs := Im.of hv hl.out
  have hn1 := hI.l1
  have hn6 := hI.l6
  replace hI := Lib.hid hI
  clear hI0
  go_enter Try.func41, Try.ntmps41
  go_wp2_with fail
  rw [← hW0]
  clear hW0
  refine (valid_impl _ _ _ _ xs _ r.out hm).mono ?_
  rintro e w1 ⟨rfl, hb⟩
  rw [hv]
  replace zf : ∀ o, w1.frozen? ⟨w.heap.size + 1, o, none⟩ = false := fun o => (hb.frozen (p := ⟨w.heap.size + 1, o, none⟩) hz).trans (zf o)
  replace x0 := kept hb (block_lt x0) x0
  replace x1 := kept hb (block_lt x1) x1
  replace z0 := kept hb (block_lt z0) z0
  replace z1 := kept hb (block_lt z1) z1
  have szw1 := hb.size
  replace r := Lib.hid (r.out.bel hb)
  replace q := Lib.hid (q.out.bel hb)
  replace bb := Lib.hid (bb.out.trans (hb.mono bb.out.size))
  clear hb
  clear hv
  go_wp2_with fail
  refine (icopy_any (K : Int) a n c xs _ r.out (by omega) (by omega)).mono ?_
  rintro e w2 ⟨⟨sd, cd, rfl, ho⟩, hb⟩
  have sz2 := hb.size
  have hbx : Below w1.heap.size w1 (w2.alloc (.cells #[.int .i64 K, .slice sd n cd] 25)) := hb.alloc sz2 _
  have hS : Hid (RS w (w2.alloc (.cells #[.int .i64 K, .slice sd n cd] 25)) K n w2.heap.size sd cd xs al N L) := by
    refine ⟨kept hbx (by simp; omega) z0, kept hbx (by simp; omega) z1, fun o => (hbx.frozen (p := ⟨w.heap.size + 1, o, none⟩) (by simp; omega)).trans (zf o), by simp, by simp, fun o => by simp, (ho.bel ((Below.refl _ _).alloc (Nat.le_refl _) _)).mono (by omega), q.out.bel hbx, bb.out.trans (hbx.mono bb.out.size), by omega, fun b off e hn => ?_, hnl.out⟩
    rcases ho.cases with ⟨e2, _⟩ | ⟨g, e2, _, hg⟩
    · rw [e2] at e; cases e
    · rw [e2] at e; cases e; omega
  clear x0 x1 z0 z1 zf r q bb hb hbx ho hnl sz2 szw1 hz
  go_wp2_with fail
  go_loopw [18] (fun i wr => ∃ (k : Nat) (sd : Option Addr) (cd : Nat) (X : List Int), k ≤ N ∧ i = .int .i64 k ∧ Hid (RS w wr K n w2.heap.size sd cd X al N L) ∧ Hid (runL K xs (L.take k) = some X) ∧ Hid (Im K n X)) (fun i _ => N - (intOf i).toNat)
  case atStart => exact ⟨0, sd, cd, xs, Nat.zero_le _, rfl, hS, Lib.hid rfl, hI⟩
  case round =>
    clear hS
    obtain ⟨k, sd, cd, X, hk, rfl, hS, hrun, hX⟩ := hrel
    obtain ⟨wi, rfl⟩ : ∃ wi : World, wi = wr := ⟨_, rfl⟩
    by_cases hlt : k < N
    · obtain ⟨⟨A, B, C, D⟩, he⟩ : ∃ t, L[k]'(by rw [hql.out]; exact hlt) = t := ⟨_, rfl⟩
      obtain ⟨bl, ol, rfl, c0, c1, c2, c3⟩ := hS.out.q.at hlt he
      have hnx := Lib.hid (run_next hX.out hrun.out (by rw [hql.out]; exact hlt) he)
      have k0 : (0 : Int) ≤ (k : Int) := Int.natCast_nonneg _
      have kn : (k : Int) < (N : Int) := by omega
      replace he := Lib.hid he
      have hbs : Below wi.heap.size wi (wi.alloc (.cells #[.int .i64 A, .int .i64 B, .int .i64 C, .int .i64 D] 37)) := (Below.refl _ _).alloc (Nat.le_refl _) _
      have hS1 := Lib.hid (hS.out.move hbs)
      have d0 := hS1.out.d0
      have d1 := hS1.out.d1
      have df := hS1.out.df
      by_cases ho : okB K X A B C D = true
      · rw [if_pos ho] at hnx
        have hc := swdo_impl (K : Int) sd n cd X A B C D _ hS1.out.pd.row (by omega)
        rw [show doOut K X A B C D = ⟨true, K, flL X K n A.toNat B.toNat C.toNat D.toNat⟩ by unfold doOut; rw [if_pos ho, hX.out.hl, Int.toNat_natCast]] at hc
        have hIR : Hid (Im K n (flL X K n A.toNat B.toNat C.toNat D.toNat)) := Lib.hid (fl_im hX.out _ _ _ _)
        obtain ⟨R, hR⟩ : ∃ R, flL X K n A.toNat B.toNat C.toNat D.toNat = R := ⟨_, rfl⟩
        rw [hR] at hc hIR hnx
        have hc2 := Lib.hid (hc.mono fun e w' hg => hg.ok hIR.out.hl)
        clear hc hR ho hbs
        go_wp2_with fail
        refine hc2.out.mono ?_
        rintro e w5 ⟨⟨ag, cg, rfl, hown⟩, hb⟩
        have hz5 : w2.heap.size < w5.heap.size := Nat.lt_of_lt_of_le (show w2.heap.size < _ from block_lt hS1.out.d0) hb.size
        have hS2 := Lib.hid (hS1.out.setd hb hown)
        have hS3 := hS1.out.move hb
        replace d0 := hS3.d0
        replace d1 := hS3.d1
        replace df := hS3.df
        clear hc2 hb hown hS hS1 hS3 c0 c1 c2 c3
        go_wp2_with fail
        exact ⟨⟨k + 1, ag, cg, R, by omega, by go_num, hS2, hnx, hIR⟩, by simp [intOf]; omega⟩
      · have ho : okB K X A B C D = false := by simpa using ho
        rw [if_neg (by rw [ho]; simp)] at hnx
        have hc := swdo_impl (K : Int) sd n cd X A B C D _ hS1.out.pd.row (by omega)
        rw [doOut_no ho] at hc
        replace hc := Lib.hid hc
        have hno := Lib.hid (runOut_stop hI.out (run_end hnx.out))
        clear ho hbs
        go_wp2_with fail
        refine hc.out.mono ?_
        rintro e w5 ⟨⟨ag, cg, rfl, hown⟩, hb⟩
        have hS3 := hS1.out.move hb
        have bb := Lib.hid hS3.bel
        have z0 := hS3.z0
        have z1 := hS3.z1
        have zf := hS3.zf
        replace d0 := hS3.d0
        replace d1 := hS3.d1
        replace df := hS3.df
        have hkd := hS3.hk
        have nk : w2.heap.size ≠ w.heap.size + 1 := by omega
        clear hc hb hown hS hS1 hS3 c0 c1 c2 c3
        go_wp2_with fail
        refine bodyPost_ret (v := .tuple #[.agg #[.int .i64 0, .slice none 0 0], .bool false]) (by simp [results, Try.results41, go_sem, z0, z1]) rfl ?_
        rw [hno.out]
        exact ⟨⟨none, 0, rfl, own_nil _ _⟩, (((bb.out.setCell (by simp; omega) _).setCell (by simp; omega) _).setCell (by simp) _).setCell (by simp) _⟩
    · have : k = N := by omega
      subst this
      have hyes := Lib.hid (runOut_yes hI.out (show runL K xs L = some X by have e := hrun.out; rwa [← hql.out, List.take_length] at e))
      have z0 := hS.out.z0
      have z1 := hS.out.z1
      have d0 := hS.out.d0
      have d1 := hS.out.d1
      have zf := hS.out.zf
      have df := hS.out.df
      have pd := Lib.hid hS.out.pd
      have bb := Lib.hid hS.out.bel
      have hkd := hS.out.hk
      clear hS
      go_wp2_with fail
      refine bodyPost_ret (v := .tuple #[.agg #[.int .i64 K, .slice sd n cd], .bool true]) (by simp [results, Try.results41, go_sem, z0, z1]) rfl ?_
      rw [hyes.out]
      refine ⟨⟨sd, cd, by rw [hX.out.hl], ?_⟩, (bb.out.setCell (by simp) _).setCell (by simp) _⟩
      show OwnI _ _ _ X.length _ X
      rw [hX.out.hl]
      exact ((pd.out.store (show w.heap.size + 1 < w.heap.size + 2 by omega) _).store (show w.heap.size + 1 < w.heap.size + 2 by omega) _).mono (by omega)

theorem okx_int (K : Nat) (a : Option Addr) (n cap : Nat) (xs : List Int) (A B C D : Int) (w : World) (h : Row w a n xs) (hv : Im K n xs) :
    Calls Try.prog 86 #[.agg #[.int .i64 K, .slice a n cap], .agg #[.int .i64 A, .int .i64 B, .int .i64 C, .int .i64 D]] w fun e w' => e = .returned (.bool (okB K xs A B C D)) ∧ Below w.heap.size w w' := by
  by_cases hp : placeB K n A B C D = true
  · have g := placeB_iff.1 hp
    obtain ⟨A, rfl⟩ := Int.eq_ofNat_of_zero_le (show 0 ≤ A by omega)
    obtain ⟨B, rfl⟩ := Int.eq_ofNat_of_zero_le (show 0 ≤ B by omega)
    obtain ⟨C, rfl⟩ := Int.eq_ofNat_of_zero_le (show 0 ≤ C by omega)
    obtain ⟨D, rfl⟩ := Int.eq_ofNat_of_zero_le (show 0 ≤ D by omega)
    rw [okB_yes hv (by omega) (by omega) (by omega) (by omega)]
    exact okx_any K a n cap xs A B C D w h hv (by omega) (by omega) (by omega) (by omega)
  · have hp : placeB K n A B C D = false := by simpa using hp
    rw [okB_no2 (by rw [hv.hl]; exact hp)]
    exact okx_no K a n cap xs A B C D w h hv hp

set_option maxHeartbeats 4000000 in
theorem run_spec (V : Int) (a al : Option Addr) (n c N cl : Nat) (xs : List Int) (L : List SwQ) (w : World) (h : Row w a n xs) (hq : QRow w al N L) (hm : n ≤ 9223372036854775807) (hN : N ≤ 1048576) :
    Calls Try.prog 43 #[.agg #[.int .i64 V, .slice a n c], .slice al N cl] w (Gives w (runOut V xs L)) := by
  have hl := Lib.hid h.1
  have hql := Lib.hid hq.1
  have hnl : Hid (∀ b off, al = some ⟨b, off, none⟩ → 0 < N → b < w.heap.size) := Lib.hid (fun b off e hn => by
    obtain ⟨b', off', e', hc⟩ := hq.2.resolve_left (by omega)
    rw [e] at e'; cases e'
    exact block_lt (hc 0 (by have := hq.1; omega)).1)
  obtain ⟨W0, hW0⟩ : ∃ W0, W0 = (w.alloc (.cells #[.int .i64 V, .slice a n c] 25)).alloc (.cells #[.int .i64 0, .slice none 0 0] 25) := ⟨_, rfl⟩
  have bb : Hid (Below w.heap.size w W0) := by subst hW0; exact ((Below.refl _ _).alloc (Nat.le_refl _) _).alloc (by simp) _
  have x0 : W0.cell? ⟨w.heap.size, 0, none⟩ = some (.int .i64 V) := by subst hW0; go_simp
  have x1 : W0.cell? ⟨w.heap.size, 1, none⟩ = some (.slice a n c) := by subst hW0; go_simp
  have z0 : W0.cell? ⟨w.heap.size + 1, 0, none⟩ = some (.int .i64 0) := by subst hW0; go_simp
  have z1 : W0.cell? ⟨w.heap.size + 1, 1, none⟩ = some (.slice none 0 0) := by subst hW0; go_simp
  have zf : ∀ o, W0.frozen? ⟨w.heap.size + 1, o, none⟩ = false := fun o => by subst hW0; go_simp
  have hz : w.heap.size + 1 < W0.heap.size := block_lt z0
  have r := Lib.hid (h.bel bb.out)
  have q := Lib.hid (hq.bel bb.out)
  clear h hq
  by_cases hv : validB V xs = true
  case neg =>
    have hv : validB V xs = false := by simpa using hv
    rw [runOut_no hv]
    go_enter Try.func43, Try.ntmps43
    go_wp2_with fail
    rw [← hW0]
    clear hW0
    refine (valid_spec _ _ _ _ xs _ r.out hm).mono ?_
    rintro e w1 ⟨rfl, hb⟩
    rw [hv]
    replace zf : ∀ o, w1.frozen? ⟨w.heap.size + 1, o, none⟩ = false := fun o => (hb.frozen (p := ⟨w.heap.size + 1, o, none⟩) hz).trans (zf o)
    replace x0 := kept hb (block_lt x0) x0
    replace x1 := kept hb (block_lt x1) x1
    replace z0 := kept hb (block_lt z0) z0
    replace z1 := kept hb (block_lt z1) z1
    have szw1 := hb.size
    replace r := Lib.hid (r.out.bel hb)
    replace q := Lib.hid (q.out.bel hb)
    replace bb := Lib.hid (bb.out.trans (hb.mono bb.out.size))
    clear hb
    go_wp2_with fail
    refine bodyPost_ret (v := .tuple #[.agg #[.int .i64 0, .slice none 0 0], .bool false]) (by simp [results, Try.results43, go_sem, z0, z1]) rfl ?_
    exact ⟨⟨none, 0, rfl, own_nil _ _⟩, (bb.out.setCell (by simp) _).setCell (by simp) _⟩
  have hI0 := validB_W hv
  obtain ⟨K, rfl⟩ := Int.eq_ofNat_of_zero_le (by omega : 0 ≤ V)
  have hI : Im K n xs := Im.of hv hl.out
  have hn1 := hI.l1
  have hn6 := hI.l6
  replace hI := Lib.hid hI
  clear hI0
  obtain ⟨ba, oa, rfl, _⟩ := r.out.2.resolve_left (by omega)
  have cp := Lib.hid fun (wx : World) (hr : Row wx (some ⟨ba, oa, none⟩) n xs) => copy_spec (K : Int) ba oa n c xs wx hr.1 (by obtain ⟨_, _, e, hc⟩ := hr.2.resolve_left (by omega); cases e; exact hc) (by omega) (by omega)
  go_enter Try.func43, Try.ntmps43
  go_wp2_with fail
  rw [← hW0]
  clear hW0
  refine (valid_spec _ _ _ _ xs _ r.out hm).mono ?_
  rintro e w1 ⟨rfl, hb⟩
  rw [hv]
  replace zf : ∀ o, w1.frozen? ⟨w.heap.size + 1, o, none⟩ = false := fun o => (hb.frozen (p := ⟨w.heap.size + 1, o, none⟩) hz).trans (zf o)
  replace x0 := kept hb (block_lt x0) x0
  replace x1 := kept hb (block_lt x1) x1
  replace z0 := kept hb (block_lt z0) z0
  replace z1 := kept hb (block_lt z1) z1
  have szw1 := hb.size
  replace r := Lib.hid (r.out.bel hb)
  replace q := Lib.hid (q.out.bel hb)
  replace bb := Lib.hid (bb.out.trans (hb.mono bb.out.size))
  clear hb
  clear hv
  go_wp2_with fail
  refine (cp.out _ r.out).mono ?_
  rintro e w2 ⟨⟨sd, cd, rfl, ho⟩, hb⟩
  have sz2 := hb.size
  have hbx : Below w1.heap.size w1 (w2.alloc (.cells #[.int .i64 K, .slice sd n cd] 25)) := hb.alloc sz2 _
  have hS : Hid (RS w (w2.alloc (.cells #[.int .i64 K, .slice sd n cd] 25)) K n w2.heap.size sd cd xs al N L) := by
    refine ⟨kept hbx (by simp; omega) z0, kept hbx (by simp; omega) z1, fun o => (hbx.frozen (p := ⟨w.heap.size + 1, o, none⟩) (by simp; omega)).trans (zf o), by simp, by simp, fun o => by simp, (ho.bel ((Below.refl _ _).alloc (Nat.le_refl _) _)).mono (by omega), q.out.bel hbx, bb.out.trans (hbx.mono bb.out.size), by omega, fun b off e hn => ?_, hnl.out⟩
    rcases ho.cases with ⟨e2, _⟩ | ⟨g, e2, _, hg⟩
    · rw [e2] at e; cases e
    · rw [e2] at e; cases e; omega
  clear x0 x1 z0 z1 zf r q bb hb hbx ho hnl sz2 szw1 hz cp
  go_wp2_with fail
  go_loopw [7] (fun i wr => ∃ (k : Nat) (sd : Option Addr) (cd : Nat) (X : List Int), k ≤ N ∧ i = .int .i64 k ∧ Hid (RS w wr K n w2.heap.size sd cd X al N L) ∧ Hid (runL K xs (L.take k) = some X) ∧ Hid (Im K n X)) (fun i _ => N - (intOf i).toNat)
  case atStart => exact ⟨0, sd, cd, xs, Nat.zero_le _, rfl, hS, Lib.hid rfl, hI⟩
  case round =>
    clear hS
    obtain ⟨k, sd, cd, X, hk, rfl, hS, hrun, hX⟩ := hrel
    obtain ⟨wi, rfl⟩ : ∃ wi : World, wi = wr := ⟨_, rfl⟩
    by_cases hlt : k < N
    · obtain ⟨⟨A, B, C, D⟩, he⟩ : ∃ t, L[k]'(by rw [hql.out]; exact hlt) = t := ⟨_, rfl⟩
      obtain ⟨bl, ol, rfl, c0, c1, c2, c3⟩ := hS.out.q.at hlt he
      have hnx := Lib.hid (run_next hX.out hrun.out (by rw [hql.out]; exact hlt) he)
      have k0 : (0 : Int) ≤ (k : Int) := Int.natCast_nonneg _
      have kn : (k : Int) < (N : Int) := by omega
      replace he := Lib.hid he
      have d0 := hS.out.d0
      have d1 := hS.out.d1
      have df := hS.out.df
      have g0 := fun p : Bw wi => bw_cell d0 p
      have g1 := fun p : Bw wi => bw_cell d1 p
      have e0 := fun p : Bw wi => bw_cell c0 p
      have e1 := fun p : Bw wi => bw_cell c1 p
      have e2 := fun p : Bw wi => bw_cell c2 p
      have e3 := fun p : Bw wi => bw_cell c3 p
      obtain ⟨bo, hbo⟩ : ∃ bo, okB K X A B C D = bo := ⟨_, rfl⟩
      have cc : ∀ p : Bw wi, Calls Try.prog 86 #[.agg #[.int .i64 K, .slice sd n cd], .agg #[.int .i64 A, .int .i64 B, .int .i64 C, .int .i64 D]] p.v (fun e w' => e = .returned (.bool bo) ∧ ∃ q : Bw wi, w' = q.v) := fun p =>
        bw_of (hbo ▸ okx_int K sd n cd X A B C D p.v (hS.out.pd.row.bel p.h) hX.out)
      replace cc := Lib.hid cc
      go_wp2_with fail
      refine wp_region_bw (by kernel_rfl) (by kernel_rfl) ?_
      repeat (go_big_quiet_step (with_reducible exact cc.out _))
      refine wpQuiet_nil ?_
      intro _ hw'
      obtain ⟨pq, rfl⟩ := hw'
      have hS1 := Lib.hid (hS.out.move pq.h)
      clear g0 g1 e0 e1 e2 e3 cc hS d0 d1 df c0 c1 c2 c3
      generalize pq.v = we at hS1 ⊢
      clear pq
      obtain ⟨bl', ol', e', c0, c1, c2, c3⟩ := hS1.out.q.at hlt he.out
      cases e'
      have d0 := hS1.out.d0
      have d1 := hS1.out.d1
      have df := hS1.out.df
      cases bo with
      | true =>
        rw [if_pos hbo] at hnx
        obtain ⟨A, B, C, D, rfl, rfl, rfl, rfl, h1, h2, h3, h4, hsw⟩ := okB_im hX.out hbo
        simp only [Int.toNat_natCast] at hnx
        have hIR : Hid (Im K n (flL X K n A B C D)) := Lib.hid (fl_im hX.out _ _ _ _)
        have hS1d := Lib.hid (hS1.out.move (w1 := we.drew) ((Below.refl _ _).drew))
        have hd := dox_any K sd n cd X A B C D we.drew hS1d.out.pd.row hX.out h1 h2 h3 h4 hsw
        obtain ⟨R, hR⟩ : ∃ R, flL X K n A B C D = R := ⟨_, rfl⟩
        rw [hR] at hd hIR hnx
        replace hd := Lib.hid hd
        clear hR hbo hsw
        have lk : w2.heap.size < we.heap.size := block_lt d0
        go_wp2_with fail
        go_region_law (first | ((go_simp; go_at_call 70; (with_reducible refine hd.out.mono ?_); rintro e w5 ⟨⟨ag, cg, rfl, hown⟩, hb⟩; have hS2 := Lib.hid (hS1d.out.setd hb hown); have hS3 := hS1d.out.move hb; have d0 := hS3.d0; have d1 := hS3.d1; have df := hS3.df; clear hS3 hb hown)))
        all_goals clear hd hS1 hS1d c0 c1 c2 c3
        all_goals go_wp2_with fail
        all_goals exact ⟨⟨k + 1, ag, cg, R, by omega, by go_num, hS2, hnx, hIR⟩, by simp [intOf]; omega⟩
      | false =>
        rw [if_neg (by rw [hbo]; simp)] at hnx
        have hno := Lib.hid (runOut_stop hI.out (run_end hnx.out))
        have bb := Lib.hid hS1.out.bel
        have z0 := hS1.out.z0
        have z1 := hS1.out.z1
        have zf := hS1.out.zf
        clear hS1 c0 c1 c2 c3 d0 d1 df hbo
        go_wp2_with fail
        refine bodyPost_ret (v := .tuple #[.agg #[.int .i64 0, .slice none 0 0], .bool false]) (by simp [results, Try.results43, go_sem, z0, z1]) rfl ?_
        rw [hno.out]
        exact ⟨⟨none, 0, rfl, own_nil _ _⟩, (bb.out.setCell (by simp) _).setCell (by simp) _⟩
    · have : k = N := by omega
      subst this
      have hyes := Lib.hid (runOut_yes hI.out (show runL K xs L = some X by have e := hrun.out; rwa [← hql.out, List.take_length] at e))
      have z0 := hS.out.z0
      have z1 := hS.out.z1
      have d0 := hS.out.d0
      have d1 := hS.out.d1
      have zf := hS.out.zf
      have df := hS.out.df
      have pd := Lib.hid hS.out.pd
      have bb := Lib.hid hS.out.bel
      have hkd := hS.out.hk
      clear hS
      go_wp2_with fail
      refine bodyPost_ret (v := .tuple #[.agg #[.int .i64 K, .slice sd n cd], .bool true]) (by simp [results, Try.results43, go_sem, z0, z1]) rfl ?_
      rw [hyes.out]
      refine ⟨⟨sd, cd, by rw [hX.out.hl], ?_⟩, (bb.out.setCell (by simp) _).setCell (by simp) _⟩
      show OwnI _ _ _ X.length _ X
      rw [hX.out.hl]
      exact ((pd.out.store (show w.heap.size + 1 < w.heap.size + 2 by omega) _).store (show w.heap.size + 1 < w.heap.size + 2 by omega) _).mono (by omega)
end Go.Proofs.Ytgamkmkpmcenpaa

namespace Go.Proofs.Ytgamkmkpmcenpaa
set_option maxRecDepth 100000
open Go.RowKit

/-- What DrawSwitchRun leaves. -/
def DrawnRun (w : World) (e : Ending) (w' : World) : Prop :=
  ∃ (W : Int) (s : Option Addr) (n cg : Nat) (xs : List Int) (gl : Nat) (N cl : Nat) (L : List SwQ), e = .returned (.tuple #[.agg #[.int .i64 W, .slice s n cg], .slice (some ⟨gl, 0, none⟩) N cl]) ∧ Row w' s n xs ∧ QRow w' (some ⟨gl, 0, none⟩) N L ∧ (n ≤ 6 ∧ n ≤ cg) ∧ (N ≤ 4 ∧ N ≤ cl) ∧ Below w.heap.size w w'
/-- Within the loop. -/
structure RX (w wr : World) (W : Int) (n ka kb r g : Nat) (s : Option Addr) (cg : Nat) (xs : List Int) (sb : Option Addr) (cb : Nat) (X : List Int) (N c : Nat) (L : List SwQ) (ar : Option Addr) (lr cr : Nat) (zs : List Int) (p : Nat) : Prop where
  z0 : wr.cell? ⟨w.heap.size, 0, none⟩ = some (.int .i64 0)
  z1 : wr.cell? ⟨w.heap.size, 1, none⟩ = some (.slice none 0 0)
  zf : ∀ o, wr.frozen? ⟨w.heap.size, o, none⟩ = false
  a0 : wr.cell? ⟨ka, 0, none⟩ = some (.int .i64 W)
  a1 : wr.cell? ⟨ka, 1, none⟩ = some (.slice s n cg)
  b0 : wr.cell? ⟨kb, 0, none⟩ = some (.int .i64 W)
  b1 : wr.cell? ⟨kb, 1, none⟩ = some (.slice sb n cb)
  bf : ∀ o, wr.frozen? ⟨kb, o, none⟩ = false
  pa : Row wr s n xs
  pb : Row wr sb n X
  o : wr.ownsRow w.heap.size 37 4 (.slice (some ⟨g, 0, none⟩) N c) N ((flatQ L).map (Value.int .i64))
  rd : Rd wr r ar lr cr zs p
  d : (ka ≠ r ∧ ka ≠ g ∧ kb ≠ r ∧ kb ≠ g) ∧ ka ≠ kb ∧ r ≠ g
  da : ∀ b off, s = some ⟨b, off, none⟩ → 0 < n → b ≠ r ∧ b ≠ g ∧ b ≠ kb ∧ w.heap.size < b
  db : ∀ b off, sb = some ⟨b, off, none⟩ → 0 < n → b ≠ r ∧ b ≠ g ∧ b ≠ kb ∧ w.heap.size < b
  dr : ∀ b off, ar = some ⟨b, off, none⟩ → 0 < lr → b ≠ g ∧ b ≠ kb
  hB : w.heap.size < r ∧ w.heap.size < ka ∧ w.heap.size < kb ∧ w.heap.size < g
  hz : g < wr.heap.size
  bel : Below w.heap.size w wr
section
variable {w wr w1 : World} {W : Int} {n ka kb r g : Nat} {s : Option Addr} {cg : Nat} {xs : List Int} {sb : Option Addr} {cb : Nat} {X : List Int} {N c : Nat} {L : List SwQ} {ar : Option Addr} {lr cr : Nat} {zs : List Int} {p : Nat}
theorem RX.move (h : RX w wr W n ka kb r g s cg xs sb cb X N c L ar lr cr zs p) (hb : Below wr.heap.size wr w1) : RX w w1 W n ka kb r g s cg xs sb cb X N c L ar lr cr zs p :=
  ⟨kept hb (block_lt h.z0) h.z0, kept hb (block_lt h.z1) h.z1, fun o => (hb.frozen (p := ⟨w.heap.size, o, none⟩) (show w.heap.size < wr.heap.size from block_lt h.z0)).trans (h.zf o), kept hb (block_lt h.a0) h.a0, kept hb (block_lt h.a1) h.a1, kept hb (block_lt h.b0) h.b0, kept hb (block_lt h.b1) h.b1, fun o => (hb.frozen (p := ⟨kb, o, none⟩) (show kb < wr.heap.size from block_lt h.b0)).trans (h.bf o),
    h.pa.bel hb, h.pb.bel hb, (Spare.below (M := Free 0) hb (Nat.le_refl _)).frow h.o, h.rd.bel hb, h.d, h.da, h.db, h.dr, h.hB, Nat.lt_of_lt_of_le h.hz hb.size, h.bel.trans (hb.mono h.bel.size)⟩
/-- The reader goes on. -/
theorem RX.pick {p' : Nat} (h : RX w wr W n ka kb r g s cg xs sb cb X N c L ar lr cr zs p) (hr : Rd w1 r ar lr cr zs p') (hg : wr.grownBy w1 (some r)) : RX w w1 W n ka kb r g s cg xs sb cb X N c L ar lr cr zs p' := by
  have hB := h.hB
  have d := h.d
  exact ⟨hg.cell h.z0 (by simp; omega), hg.cell h.z1 (by simp; omega), fun o => (frozen_grown hg h.z0 (by omega)).trans (h.zf o), hg.cell h.a0 (by simpa using d.1.1), hg.cell h.a1 (by simpa using d.1.1), hg.cell h.b0 (by simpa using d.1.2.2.1), hg.cell h.b1 (by simpa using d.1.2.2.1), fun o => (frozen_grown hg h.b0 d.1.2.2.1).trans (h.bf o),
    h.pa.apart hg (fun b o e hn => by simpa using (h.da b o e hn).1), h.pb.apart hg (fun b o e hn => by simpa using (h.db b o e hn).1), World.ownsRow.kept h.o hg (.inr (by simpa [Value.ownBlock] using fun e => d.2.2 e.symm)), hr, d, h.da, h.db, h.dr, hB, Nat.lt_of_lt_of_le h.hz hg.size, h.bel.grown hg h.bel.size (fun k hk => by cases hk; omega)⟩
/-- The list takes a switch. -/
theorem RX.app {g' c' : Nat} {L' : List SwQ} {o : Obj} (h : RX w wr W n ka kb r g s cg xs sb cb X N c L ar lr cr zs p) (ho : w1.ownsRow w.heap.size 37 4 (.slice (some ⟨g', 0, none⟩) (N + 1) c') (N + 1) ((flatQ L').map (Value.int .i64))) (hg : (wr.alloc o).grownBy w1 (some g)) (hl : g' = g ∨ g' = wr.heap.size + 1) :
    RX w w1 W n ka kb r g' s cg xs sb cb X (N + 1) c' L' ar lr cr zs p := by
  have h' := h.move ((Below.refl _ _).alloc (Nat.le_refl _) o)
  have hB := h.hB
  have d := h.d
  have hz := h.hz
  have la : ka < wr.heap.size := block_lt h.a0
  have lb : kb < wr.heap.size := block_lt h.b0
  have lr' : r < wr.heap.size := block_lt h.rd.c0
  have ra := row_lt' h.pa
  have rb := row_lt' h.pb
  have rs := h.rd.src
  have sz : (wr.alloc o).heap.size = wr.heap.size + 1 := by simp
  have hlt : g' < w1.heap.size := by
    rcases ho.2 with ⟨e, _⟩ | ⟨g, c, cur, e, _, hb, _⟩
    · cases e
    · cases e; exact (World.ownsRow.lt ho g' rfl).2
  refine ⟨hg.cell h'.z0 (by simp; omega), hg.cell h'.z1 (by simp; omega), fun o => (frozen_grown hg h'.z0 (by omega)).trans (h'.zf o), hg.cell h'.a0 (by simpa using d.1.2.1), hg.cell h'.a1 (by simpa using d.1.2.1), hg.cell h'.b0 (by simpa using d.1.2.2.2), hg.cell h'.b1 (by simpa using d.1.2.2.2), fun o => (frozen_grown hg h'.b0 d.1.2.2.2).trans (h'.bf o),
    h'.pa.apart hg (fun b o e hn => by simpa using (h.da b o e hn).2.1), h'.pb.apart hg (fun b o e hn => by simpa using (h.db b o e hn).2.1), ho, h'.rd.apart hg d.2.2 (fun b o e hn => (h.dr b o e hn).1), ⟨⟨d.1.1, ?_, d.1.2.2.1, ?_⟩, d.2.1, ?_⟩, fun b o e hn => ?_, fun b o e hn => ?_, fun b o e hn => ?_, ⟨hB.1, hB.2.1, hB.2.2.1, ?_⟩, hlt, h'.bel.grown hg (by have := h.bel.size; omega) (fun k hk => by cases hk; omega)⟩
  · rcases hl with e | e <;> omega
  · rcases hl with e | e <;> omega
  · rcases hl with e | e <;> omega
  · have a := h.da b o e hn; have a2 := ra b o e hn; rcases hl with e | e <;> omega
  · have a := h.db b o e hn; have a2 := rb b o e hn; rcases hl with e | e <;> omega
  · have a := h.dr b o e hn; have a2 := rs b o e hn; rcases hl with e | e <;> omega
  · rcases hl with e | e <;> omega
/-- The second box takes another image. -/
theorem RX.setb {s' : Option Addr} {c' : Nat} {X' : List Int} (h : RX w wr W n ka kb r g s cg xs sb cb X N c L ar lr cr zs p) (hb : Below wr.heap.size wr w1) (ho : OwnI w1 wr.heap.size s' n c' X') :
    RX w ((w1.setCell ⟨kb, 0, none⟩ (.int .i64 W)).setCell ⟨kb, 1, none⟩ (.slice s' n c')) W n ka kb r g s cg xs s' c' X' N c L ar lr cr zs p := by
  have h' := h.move hb
  have hB := h.hB
  have d := h.d
  have la : ka < wr.heap.size := block_lt h.a0
  have lb : kb < wr.heap.size := block_lt h.b0
  have lr' : r < wr.heap.size := block_lt h.rd.c0
  have lg := h.hz
  have lw := h.bel.size
  have hg : w1.grownBy ((w1.setCell ⟨kb, 0, none⟩ (.int .i64 W)).setCell ⟨kb, 1, none⟩ (.slice s' n c')) (some kb) := grown_set (grown_set (World.grownBy.refl _ _))
  have e1 : (w1.setCell ⟨kb, 0, none⟩ (.int .i64 W)).cell? ⟨kb, 1, none⟩ = some (.slice sb n cb) := by rw [World.cell?_setCell_other _ _ _ _ (by simp)]; exact h'.b1
  have hs : ∀ b off, s' = some ⟨b, off, none⟩ → 0 < n → wr.heap.size ≤ b := fun b off e hn => by
    rcases ho.cases with ⟨e2, _⟩ | ⟨g, e2, hg2, _⟩
    · rw [e2] at e; cases e
    · rw [e2] at e; cases e; omega
  refine ⟨hg.cell h'.z0 (by simp; omega), hg.cell h'.z1 (by simp; omega), fun o => ?_, hg.cell h'.a0 (by simpa using d.2.1), hg.cell h'.a1 (by simpa using d.2.1), ?_, World.cell?_setCell_same _ _ _ e1, fun o => ?_, h'.pa.apart hg (fun b o e hn => by simpa using (h.da b o e hn).2.2.1), ((ho.store (show kb < wr.heap.size from lb) _).store (show kb < wr.heap.size from lb) _).row,
    World.ownsRow.kept h'.o hg (.inr (by simpa [Value.ownBlock] using fun e => d.1.2.2.2 e.symm)), h'.rd.apart hg (fun e => d.1.2.2.1 e.symm) (fun b o e hn => (h.dr b o e hn).2), d, h.da, fun b o e hn => ?_, h.dr, hB, Nat.lt_of_lt_of_le h'.hz hg.size, (h'.bel.setCell (by simp; omega) _).setCell (by simp; omega) _⟩
  · rw [World.frozen?_setCell, World.frozen?_setCell]; exact h'.zf o
  · rw [World.cell?_setCell_other _ _ _ _ (by simp)]; exact World.cell?_setCell_same _ _ _ h'.b0
  · rw [World.frozen?_setCell, World.frozen?_setCell]; exact h'.bf o
  · have := hs b o e hn; omega
end

set_option maxHeartbeats 4000000 in
theorem draw_DrawSwitchRun (a : Option Addr) (len cap : Nat) (zs : List Int) (w : World) (h : Bys w a len zs) (hl : len ≤ cap) (hm : cap ≤ 9223372036854775807) :
    Calls Try.prog 42 #[.slice a len cap] w (DrawnRun w) := by
  obtain ⟨W0, hW0⟩ : ∃ W0, W0 = w.alloc (.cells #[.int .i64 0, .slice none 0 0] 25) := ⟨_, rfl⟩
  have bb : Hid (Below w.heap.size w W0) := by subst hW0; exact (Below.refl _ _).alloc (Nat.le_refl _) _
  have z0 : W0.cell? ⟨w.heap.size, 0, none⟩ = some (.int .i64 0) := by subst hW0; go_simp
  have z1 : W0.cell? ⟨w.heap.size, 1, none⟩ = some (.slice none 0 0) := by subst hW0; go_simp
  have zf : ∀ o, W0.frozen? ⟨w.heap.size, o, none⟩ = false := fun o => by subst hW0; go_simp
  have hz0 : w.heap.size < W0.heap.size := block_lt z0
  have h0 := h.bel bb.out
  clear h
  go_enter Try.func42, Try.ntmps42
  go_wp2_with fail
  rw [← hW0]
  clear hW0
  refine (open_any a len cap zs _ h0 hl hm).mono ?_
  rintro e w1 ⟨ar, lr, cr, rfl, hr, hb⟩
  replace zf : ∀ o, w1.frozen? ⟨w.heap.size, o, none⟩ = false := fun o => (hb.frozen (p := ⟨w.heap.size, o, none⟩) hz0).trans (zf o)
  replace z0 := kept hb (block_lt z0) z0
  replace z1 := kept hb (block_lt z1) z1
  replace bb := Lib.hid (bb.out.trans (hb.mono bb.out.size))
  have rl : W0.heap.size < w1.heap.size := block_lt hr.c0
  clear hb h0
  go_wp2_with fail
  refine (wrong_c 36 (by omega) (by omega) _ ar lr cr zs 0 w1 hr (by omega)).mono ?_
  rintro e w2 ⟨W, s, n, cg, xs, rfl, hR, hn, hg, hf, p2, hp2, hr2⟩
  have sz2 := hg.size
  have hR2 := hR.row
  have rw2 := row_lt' hR2
  have src := hr2.src
  have hb3 : Below w2.heap.size w2 (((w2.alloc (.cells #[.int .i64 W, .slice s n cg] 25)).alloc (.cells #[] 37)).alloc (.cells #[.int .i64 W, .slice s n cg] 25)) := (((Below.refl _ _).alloc (Nat.le_refl _) _).alloc (by simp) _).alloc (by simp; omega) _
  have hX : Hid (RX w (((w2.alloc (.cells #[.int .i64 W, .slice s n cg] 25)).alloc (.cells #[] 37)).alloc (.cells #[.int .i64 W, .slice s n cg] 25)) W n w2.heap.size (w2.heap.size + 2) W0.heap.size (w2.heap.size + 1) s cg xs s cg xs 0 0 [] ar lr cr zs p2) := by
    have q0 := hg.cell z0 (by simp; omega)
    have q1 := hg.cell z1 (by simp; omega)
    have qf : ∀ o, w2.frozen? ⟨w.heap.size, o, none⟩ = false := fun o => (frozen_grown hg z0 (by omega)).trans (zf o)
    have hb2 : Below w.heap.size w w2 := grown_cut bb.out hg (by omega) (by omega)
    have hfw : ∀ b off, s = some ⟨b, off, none⟩ → 0 < n → w1.heap.size ≤ b := hf
    have ho := own_none (w2.alloc (.cells #[.int .i64 W, .slice s n cg] 25)) w.heap.size (by simp; omega)
    have ho2 : OwnS (((w2.alloc (.cells #[.int .i64 W, .slice s n cg] 25)).alloc (.cells #[] 37)).alloc (.cells #[.int .i64 W, .slice s n cg] 25)) w.heap.size (some ⟨w2.heap.size + 1, 0, none⟩) 0 0 [] := by
      have := ho.bel (w' := (((w2.alloc (.cells #[.int .i64 W, .slice s n cg] 25)).alloc (.cells #[] 37)).alloc (.cells #[.int .i64 W, .slice s n cg] 25))) ((Below.refl _ _).alloc (Nat.le_refl _) _)
      simpa using this
    refine ⟨kept hb3 (show w.heap.size < w2.heap.size by omega) q0, kept hb3 (show w.heap.size < w2.heap.size by omega) q1, fun o => (hb3.frozen (p := ⟨w.heap.size, o, none⟩) (show w.heap.size < w2.heap.size by omega)).trans (qf o), by go_simp, by go_simp, by go_simp, by go_simp, fun o => by go_simp, hR2.bel hb3, hR2.bel hb3, ho2, hr2.bel hb3,
      ⟨⟨by omega, by omega, by omega, by omega⟩, by omega, by omega⟩, (fun b off e hn => ?_), (fun b off e hn => ?_), (fun b off e hn => ?_), ⟨by omega, by omega, by omega, by omega⟩, (by first | (simp; done) | (simp; omega)), hb2.trans (hb3.mono (by omega))⟩
    · have a1 := rw2 b off e hn; have a2 := hfw b off e hn; omega
    · have a1 := rw2 b off e hn; have a2 := hfw b off e hn; omega
    · have a1 := src b off e hn; omega
  clear z0 z1 zf hR hR2 hg hf hr2 hr bb hb3 src rw2
  have a0 := hX.out.a0
  have a1 := hX.out.a1
  go_wp2_with fail
  refine (pick_any W0.heap.size ar lr cr zs p2 5 _ hX.out.rd (by omega) (by omega)).mono ?_
  rintro e w3 ⟨v, rfl, hv0, hv5, hrd, hg⟩
  obtain ⟨m, rfl⟩ := Int.eq_ofNat_of_zero_le hv0
  replace hX := Lib.hid (hX.out.pick hrd hg)
  clear a0 a1 hrd hg
  go_wp2_with fail
  go_loopw [6, 9] (fun o i wr => ∃ (k g c p : Nat) (sb : Option Addr) (cb : Nat) (X : List Int) (L : List SwQ), k ≤ m ∧ i = .int .i64 k ∧ o = .slice (some ⟨g, 0, none⟩) k c ∧ p ≤ p2 + 1 + 10 * k ∧ Hid (RX w wr W n w2.heap.size (w2.heap.size + 2) W0.heap.size g s cg xs sb cb X k c L ar lr cr zs p)) (fun _ i _ => m - (intOf i).toNat)
  case atStart => exact ⟨0, _, _, p2 + 1, s, cg, xs, [], Nat.zero_le _, rfl, rfl, by omega, hX⟩
  case round =>
    clear hX
    obtain ⟨k, g, c, p, sb, cb, X, L, hk, rfl, rfl, hp, hX⟩ := hrel
    obtain ⟨wi, rfl⟩ : ∃ wi : World, wi = wr := ⟨_, rfl⟩
    by_cases hlt : k < m
    · have b0 := hX.out.b0
      have b1 := hX.out.b1
      go_wp2_with fail
      refine (switch_any W0.heap.size ar lr cr zs p W sb n cb X _ hX.out.rd (by omega) hX.out.pb (by omega)).mono ?_
      rintro e w5 ⟨A, B, C, D, rfl, _, hg, p', hp', hrd⟩
      have hbs : Below w5.heap.size w5 (w5.alloc (.cells #[.int .i64 A, .int .i64 B, .int .i64 C, .int .i64 D] 37)) := (Below.refl _ _).alloc (Nat.le_refl _) _
      replace hX := Lib.hid (hX.out.pick hrd hg)
      clear b0 b1 hg hrd
      have hown := hX.out.o
      have bz := hX.out.bel.size
      have lg5 := hX.out.hz
      have s0 : (w5.alloc (.cells #[.int .i64 A, .int .i64 B, .int .i64 C, .int .i64 D] 37)).cell? ⟨w5.heap.size, 0, none⟩ = some (.int .i64 A) := by simp
      have s1 : (w5.alloc (.cells #[.int .i64 A, .int .i64 B, .int .i64 C, .int .i64 D] 37)).cell? ⟨w5.heap.size, 1, none⟩ = some (.int .i64 B) := by simp
      have s2 : (w5.alloc (.cells #[.int .i64 A, .int .i64 B, .int .i64 C, .int .i64 D] 37)).cell? ⟨w5.heap.size, 2, none⟩ = some (.int .i64 C) := by simp
      have s3 : (w5.alloc (.cells #[.int .i64 A, .int .i64 B, .int .i64 C, .int .i64 D] 37)).cell? ⟨w5.heap.size, 3, none⟩ = some (.int .i64 D) := by simp
      replace hX := Lib.hid (hX.out.move hbs)
      replace hown := hX.out.o
      obtain ⟨w6, hw6⟩ : ∃ w6, w5.alloc (.cells #[.int .i64 A, .int .i64 B, .int .i64 C, .int .i64 D] 37) = w6 := ⟨_, rfl⟩
      have bz6 : w.heap.size ≤ w6.heap.size := by rw [← hw6]; simp; omega
      go_upto_region 10 with fail
      rw [hw6] at s0 s1 s2 s3 hX hown
      (try rw [hw6])
      clear hw6 hbs
      go_wp2_with (at_builtin; refine wpList_append_sw rfl _ _ rfl w.heap.size g k c (flatQ L) rfl (World.ownsRow.alloc hown _) w6.heap.size rfl A B C D (by simp) (by simp) (by simp) (by simp) (by omega) (by simp; omega) ?_)
      intro g' c' w7 hown1 hgr hlies
      have hO7 : w7.ownsRow w.heap.size 37 4 (.slice (some ⟨g', 0, none⟩) (k + 1) c') (k + 1) ((flatQ (L ++ [(A, B, C, D)])).map (Value.int .i64)) := by rw [qflat_app, qflat_one, List.map_append]; exact hown1
      have hX7 := Lib.hid (hX.out.app hO7 hgr hlies)
      have al : ∀ {i : Nat} {v : Value}, w6.cell? ⟨w5.heap.size, i, none⟩ = some v → w7.cell? ⟨w5.heap.size, i, none⟩ = some v := fun h => hgr.cell (World.cell?_alloc_some h) (by simp; omega)
      replace s0 := al s0
      replace s1 := al s1
      replace s2 := al s2
      replace s3 := al s3
      clear hown1 hgr hlies hO7 hown hX al
      have b0 := hX7.out.b0
      have b1 := hX7.out.b1
      have lX := hX7.out.pb.1
      go_wp2_with fail
      refine (swok_spec W sb n cb X A B C D _ hX7.out.pb (by omega)).mono ?_
      rintro e w8 ⟨rfl, hb⟩
      replace hX7 := Lib.hid (hX7.out.move hb)
      replace s0 := kept hb (block_lt s0) s0
      replace s1 := kept hb (block_lt s1) s1
      replace s2 := kept hb (block_lt s2) s2
      replace s3 := kept hb (block_lt s3) s3
      clear hb b0 b1
      have b0 := hX7.out.b0
      have b1 := hX7.out.b1
      have bf := hX7.out.bf
      by_cases ho : okB W X A B C D = true
      · rw [ho]
        have hI0 := validB_W (okB_valid ho)
        obtain ⟨K, rfl⟩ := Int.eq_ofNat_of_zero_le (show 0 ≤ W by omega)
        have hI : Im K n X := Im.of (okB_valid ho) lX
        obtain ⟨A, B, C, D, rfl, rfl, rfl, rfl, h1, h2, h3, h4, hsw⟩ := okB_im hI ho
        have hd := Lib.hid (dox_any K sb n cb X A B C D w8 hX7.out.pb hI h1 h2 h3 h4 hsw)
        clear ho hsw
        go_wp2_with fail
        refine hd.out.mono ?_
        rintro e w9 ⟨⟨sn, cn, rfl, hown⟩, hb⟩
        have hX9 := Lib.hid (hX7.out.setb hb hown)
        have hX8 := hX7.out.move hb
        replace b0 := hX8.b0
        replace b1 := hX8.b1
        replace bf := hX8.bf
        clear hd hb hown hX8 hX7 s0 s1 s2 s3
        go_wp2_with fail
        exact ⟨⟨k + 1, g', c', p', sn, cn, flL X K n A B C D, L ++ [((A : Int), (B : Int), (C : Int), (D : Int))], by omega, by go_num, rfl, by omega, hX9⟩, by simp [intOf]; omega⟩
      · have ho : okB W X A B C D = false := by simpa using ho
        rw [ho]
        clear ho
        go_wp2_with fail
        exact ⟨⟨k + 1, g', c', p', sb, cb, X, L ++ [(A, B, C, D)], by omega, by go_num, rfl, by omega, hX7⟩, by simp [intOf]; omega⟩
    · have : k = m := by omega
      subst this
      have z0 := hX.out.z0
      have z1 := hX.out.z1
      have zf := hX.out.zf
      have a0 := hX.out.a0
      have a1 := hX.out.a1
      go_wp2_with fail
      refine bodyPost_ret (v := .tuple #[.agg #[.int .i64 W, .slice s n cg], .slice (some ⟨g, 0, none⟩) k c]) (by simp [results, Try.results42, go_sem, z0, z1]) rfl ?_
      have hX1 := hX.out
      have hg : wi.grownBy ((wi.setCell ⟨w.heap.size, 0, none⟩ (.int .i64 W)).setCell ⟨w.heap.size, 1, none⟩ (.slice s n cg)) (some w.heap.size) := grown_set (grown_set (World.grownBy.refl _ _))
      have hcap : k ≤ c := by
        rcases hX1.o.2 with ⟨e, _⟩ | ⟨g, c, cur, e, _, _, hle⟩
        · cases e
        · cases e; first | omega | exact hle.1 | exact hle.2.1
      refine ⟨W, s, n, cg, xs, g, k, c, L, rfl, hX1.pa.apart hg (fun b o e hn => by have := hX1.da b o e hn; simp; omega), (qrow_of hX1.o).apart hg (fun b off e hn => by cases e; have := hX1.hB; omega), hn, ⟨by omega, hcap⟩, (hX1.bel.setCell (by simp) _).setCell (by simp) _⟩
end Go.Proofs.Ytgamkmkpmcenpaa

namespace Go.Proofs.Ytgamkmkpmcenpaa
set_option maxRecDepth 100000
open Go.RowKit

theorem fars_ok {K n : Nat} {xs ys : List Int} {f : Int} (h : Im K n xs) (h' : Im K n ys) (hf : farL xs ys K n = f) (s t : Option Addr) (cs ct : Nat) (w : World) (hX : Row w s n xs) (hY : Row w t n ys) :
    Calls Try.prog 24 #[.agg #[.int .i64 K, .slice s n cs], .agg #[.int .i64 K, .slice t n ct]] w fun e w' => e = .returned (.int .i64 f) ∧ Below w.heap.size w w' := by
  have hc := far_spec (K : Int) K s t n n cs ct xs ys w hX hY (by have := h.l6; omega) (by have := h.l6; omega)
  rwa [farOut_yes h h', hf] at hc
theorem far_no {V W : Int} {n m : Nat} {xs ys : List Int} (h : shapeB V xs W ys = false) (hn : n ≤ 6) (hm : m ≤ 6) (s t : Option Addr) (cs ct : Nat) (w : World) (hX : Row w s n xs) (hY : Row w t m ys) :
    Calls Try.prog 23 #[.agg #[.int .i64 V, .slice s n cs], .agg #[.int .i64 W, .slice t m ct]] w fun e w' => e = .returned (.int .i64 (-1)) ∧ Below w.heap.size w w' := by
  have hc := far_impl V W s t n m cs ct xs ys w hX hY (by omega) (by omega)
  rwa [farOut_no h] at hc
theorem fars_no {V W : Int} {n m : Nat} {xs ys : List Int} (h : shapeB V xs W ys = false) (hn : n ≤ 6) (hm : m ≤ 6) (s t : Option Addr) (cs ct : Nat) (w : World) (hX : Row w s n xs) (hY : Row w t m ys) :
    Calls Try.prog 24 #[.agg #[.int .i64 V, .slice s n cs], .agg #[.int .i64 W, .slice t m ct]] w fun e w' => e = .returned (.int .i64 (-1)) ∧ Below w.heap.size w w' := by
  have hc := far_spec V W s t n m cs ct xs ys w hX hY (by omega) (by omega)
  rwa [farOut_no h] at hc
/-- No switch is given. -/
theorem tow_noi {V W : Int} {n m : Nat} {xs ys : List Int} (h : towOut V xs W ys = none) (hn : n ≤ 6) (hm : m ≤ 6) (s t : Option Addr) (cs ct : Nat) (w : World) (hX : Row w s n xs) (hY : Row w t m ys) :
    Calls Try.prog 31 #[.agg #[.int .i64 V, .slice s n cs], .agg #[.int .i64 W, .slice t m ct]] w fun e w' => e = .returned (.tuple #[.agg #[.int .i64 0, .int .i64 0, .int .i64 0, .int .i64 0], .bool false]) ∧ Below w.heap.size w w' := by
  have hc := tow_impl V W s t n m cs ct xs ys w hX hY (by omega) (by omega)
  rw [h] at hc
  exact hc
theorem tow_nos {V W : Int} {n m : Nat} {xs ys : List Int} (h : towOut V xs W ys = none) (hn : n ≤ 6) (hm : m ≤ 6) (s t : Option Addr) (cs ct : Nat) (w : World) (hX : Row w s n xs) (hY : Row w t m ys) :
    Calls Try.prog 32 #[.agg #[.int .i64 V, .slice s n cs], .agg #[.int .i64 W, .slice t m ct]] w fun e w' => e = .returned (.tuple #[.agg #[.int .i64 0, .int .i64 0, .int .i64 0, .int .i64 0], .bool false]) ∧ Below w.heap.size w w' := by
  have hc := tow_spec V W s t n m cs ct xs ys w hX hY (by omega) (by omega)
  rw [h] at hc
  exact hc
theorem towOut_im {V W : Int} {xs ys : List Int} {n m : Nat} (hx : xs.length = n) (hy : ys.length = m) {s : SwT} (h : towOut V xs W ys = some s) : ∃ K : Nat, V = K ∧ W = K ∧ n = m ∧ Im K n xs ∧ Im K n ys ∧ towL xs ys K n = some s := by
  by_cases hv : shapeB V xs W ys = true
  · obtain ⟨K, rfl, rfl, rfl, hI, hJ⟩ := shape_im hx hy hv
    rw [towOut_yes hI hJ] at h
    exact ⟨K, rfl, rfl, rfl, hI, hJ, h⟩
  · rw [towOut_no (by simpa using hv)] at h; cases h

/-- A list of switches and a flag, in the laws' form. -/
def GivesPN (w : World) (N : Nat) (L : List SwT) (ok : Bool) (e : Ending) (w' : World) : Prop := (∃ a cap, e = .returned (.tuple #[.slice a N cap, .bool ok]) ∧ SRow w' a N L ∧ N ≤ cap) ∧ Below w.heap.size w w'
theorem OwnS.cap {w : World} {B n cap : Nat} {a : Option Addr} {L : List SwT} (h : OwnS w B a n cap L) : n ≤ cap := by
  rcases h.2 with ⟨e, h0⟩ | ⟨g, c, cur, e, _, _, hle⟩
  · omega
  · simp only [Value.slice.injEq] at e
    obtain ⟨_, _, rfl⟩ := e
    first | omega | exact hle.1 | exact hle.2.1
theorem GivesP.n {w w' : World} {N : Nat} {L : List SwT} {ok : Bool} {e : Ending} (h : GivesP w L ok e w') (hN : L.length = N) : GivesPN w N L ok e w' := by
  subst hN
  obtain ⟨⟨a, cap, e1, ho⟩, hb⟩ := h
  exact ⟨⟨a, cap, e1, ho.row, ho.cap⟩, hb⟩
theorem path_ok {K n N : Nat} {xs ys : List Int} {L : List SwT} (h : Im K n xs) (h' : Im K n ys) (hs : SumE xs ys K n) (hL : pathL K n xs ys = L) (hN : L.length = N) (s t : Option Addr) (cs ct : Nat) (w : World) (hX : Row w s n xs) (hY : Row w t n ys) :
    Calls Try.prog 38 #[.agg #[.int .i64 K, .slice s n cs], .agg #[.int .i64 K, .slice t n ct]] w (GivesPN w N L true) := by
  have hb : sameB K xs K ys = true := h.same h' hs.1 hs.2
  have hc := path_impl (K : Int) K s t n n cs ct xs ys w hX hY (by have := h.l6; omega) (by have := h.l6; omega)
  rw [pathOut_yes h hb, hL, hb] at hc
  exact hc.mono fun _ _ hg => hg.n hN
theorem paths_ok {K n N : Nat} {xs ys : List Int} {L : List SwT} (h : Im K n xs) (h' : Im K n ys) (hs : SumE xs ys K n) (hL : pathL K n xs ys = L) (hN : L.length = N) (s t : Option Addr) (cs ct : Nat) (w : World) (hX : Row w s n xs) (hY : Row w t n ys) :
    Calls Try.prog 39 #[.agg #[.int .i64 K, .slice s n cs], .agg #[.int .i64 K, .slice t n ct]] w (GivesPN w N L true) := by
  have hb : sameB K xs K ys = true := h.same h' hs.1 hs.2
  have hc := path_spec (K : Int) K s t n n cs ct xs ys w hX hY (by have := h.l6; omega) (by have := h.l6; omega)
  rw [pathOut_yes h hb, hL, hb] at hc
  exact hc.mono fun _ _ hg => hg.n hN
theorem path_no {V W : Int} {n m : Nat} {xs ys : List Int} (h : sameB V xs W ys = false) (hn : n ≤ 6) (hm : m ≤ 6) (s t : Option Addr) (cs ct : Nat) (w : World) (hX : Row w s n xs) (hY : Row w t m ys) :
    Calls Try.prog 38 #[.agg #[.int .i64 V, .slice s n cs], .agg #[.int .i64 W, .slice t m ct]] w (GivesPN w 0 [] false) := by
  have hc := path_impl V W s t n m cs ct xs ys w hX hY (by omega) (by omega)
  rw [pathOut_no h, h] at hc
  exact hc.mono fun _ _ hg => hg.n rfl
theorem paths_no {V W : Int} {n m : Nat} {xs ys : List Int} (h : sameB V xs W ys = false) (hn : n ≤ 6) (hm : m ≤ 6) (s t : Option Addr) (cs ct : Nat) (w : World) (hX : Row w s n xs) (hY : Row w t m ys) :
    Calls Try.prog 39 #[.agg #[.int .i64 V, .slice s n cs], .agg #[.int .i64 W, .slice t m ct]] w (GivesPN w 0 [] false) := by
  have hc := path_spec V W s t n m cs ct xs ys w hX hY (by omega) (by omega)
  rw [pathOut_no h, h] at hc
  exact hc.mono fun _ _ hg => hg.n rfl
/-- A run that succeeds. -/
theorem run_ok {K n N : Nat} {xs ys : List Int} {L : List SwQ} (h : Im K n xs) (hr : runL K xs L = some ys) (hN : N ≤ 1048576) (s al : Option Addr) (cs cl : Nat) (w : World) (hX : Row w s n xs) (hL : QRow w al N L) :
    Calls Try.prog 41 #[.agg #[.int .i64 K, .slice s n cs], .slice al N cl] w (GivesI w K n ys) := by
  have hc := run_impl (K : Int) s al n cs N cl xs L w hX hL (by have := h.l6; omega) hN
  rw [runOut_yes h hr] at hc
  exact hc.mono fun e w' hg => hg.ok (run_im h hr).hl
theorem runs_ok {K n N : Nat} {xs ys : List Int} {L : List SwQ} (h : Im K n xs) (hr : runL K xs L = some ys) (hN : N ≤ 1048576) (s al : Option Addr) (cs cl : Nat) (w : World) (hX : Row w s n xs) (hL : QRow w al N L) :
    Calls Try.prog 43 #[.agg #[.int .i64 K, .slice s n cs], .slice al N cl] w (GivesI w K n ys) := by
  have hc := run_spec (K : Int) s al n cs N cl xs L w hX hL (by have := h.l6; omega) hN
  rw [runOut_yes h hr] at hc
  exact hc.mono fun e w' hg => hg.ok (run_im h hr).hl
/-- A run that fails. -/
theorem run_no {V : Int} {n N : Nat} {xs : List Int} {L : List SwQ} (h : runOut V xs L = .no) (hn : n ≤ 6) (hN : N ≤ 1048576) (s al : Option Addr) (cs cl : Nat) (w : World) (hX : Row w s n xs) (hL : QRow w al N L) :
    Calls Try.prog 41 #[.agg #[.int .i64 V, .slice s n cs], .slice al N cl] w (GivesN w) := by
  have hc := run_impl V s al n cs N cl xs L w hX hL (by omega) hN
  rw [h] at hc
  exact hc
theorem runs_no {V : Int} {n N : Nat} {xs : List Int} {L : List SwQ} (h : runOut V xs L = .no) (hn : n ≤ 6) (hN : N ≤ 1048576) (s al : Option Addr) (cs cl : Nat) (w : World) (hX : Row w s n xs) (hL : QRow w al N L) :
    Calls Try.prog 43 #[.agg #[.int .i64 V, .slice s n cs], .slice al N cl] w (GivesN w) := by
  have hc := run_spec V s al n cs N cl xs L w hX hL (by omega) hN
  rw [h] at hc
  exact hc
theorem runOut_im {V : Int} {xs : List Int} {n : Nat} (hx : xs.length = n) {L : List SwQ} : runOut V xs L = .no ∨ ∃ (K : Nat) (ys : List Int), V = K ∧ Im K n xs ∧ runL K xs L = some ys ∧ Im K n ys := by
  by_cases hv : validB V xs = true
  · have hw := validB_W hv
    obtain ⟨K, rfl⟩ := Int.eq_ofNat_of_zero_le (by omega : 0 ≤ V)
    have hI : Im K n xs := Im.of hv hx
    cases hr : runL K xs L with
    | none => exact .inl (runOut_stop hI hr)
    | some ys => exact .inr ⟨K, ys, rfl, hI, hr, run_im hI hr⟩
  · exact .inl (runOut_no (by simpa using hv))
/-- Two lists of which one is the other one's beginning and the other its end. -/
theorem QRow.take {w : World} {a : Option Addr} {n k : Nat} {L : List SwQ} (h : QRow w a n L) (hk : k ≤ n) : QRow w a k (L.take k) := by
  refine ⟨by rw [List.length_take, h.1]; omega, ?_⟩
  rcases h.2 with h0 | ⟨b, off, e, hc⟩
  · exact .inl (by omega)
  · refine .inr ⟨b, off, e, fun q hq => ?_⟩
    rw [List.length_take] at hq
    rw [List.getElem_take]
    exact hc q (by omega)
theorem QRow.drop {w : World} {b off n k : Nat} {L : List SwQ} (h : QRow w (some ⟨b, off, none⟩) n L) (hk : k ≤ n) : QRow w (some ⟨b, off + k * 4, none⟩) (n - k) (L.drop k) := by
  refine ⟨by rw [List.length_drop, h.1], ?_⟩
  rcases h.2 with h0 | ⟨b', off', e, hc⟩
  · exact .inl (by omega)
  · cases e
    refine .inr ⟨b, off + k * 4, rfl, fun q hq => ?_⟩
    rw [List.length_drop] at hq
    rw [List.getElem_drop, show off + k * 4 + q * 4 = off + (k + q) * 4 by omega]
    exact hc (k + q) (by omega)
/-- A list of switches as a row of numbers, and back. -/
theorem QRow.flat {w : World} {a : Option Addr} {n : Nat} {L : List SwQ} (h : QRow w a n L) : Row w a (n * 4) (flatQ L) := by
  refine ⟨by rw [qflat_len, h.1], ?_⟩
  rcases h.2 with h0 | ⟨b, off, e, hc⟩
  · exact .inl (by omega)
  · refine .inr ⟨b, off, e, fun i hi => ?_⟩
    have hl := h.1
    have hq := hc (i / 4) (by omega)
    have hg := qflat_get L (i / 4) (by omega)
    obtain ⟨q, hq'⟩ : ∃ q, i / 4 = q := ⟨_, rfl⟩
    simp only [hq'] at hq hg
    have hj4 : i = q * 4 ∨ i = q * 4 + 1 ∨ i = q * 4 + 2 ∨ i = q * 4 + 3 := by omega
    rcases hj4 with rfl | rfl | rfl | rfl
    · rw [hg.1]; exact hq.1
    · rw [hg.2.1]; exact hq.2.1
    · rw [hg.2.2.1]; exact hq.2.2.1
    · rw [hg.2.2.2]; exact hq.2.2.2
theorem Row.q {w : World} {a : Option Addr} {n : Nat} {L : List SwQ} (h : Row w a (n * 4) (flatQ L)) (hl : L.length = n) : QRow w a n L := by
  refine ⟨hl, ?_⟩
  rcases h.2 with h0 | ⟨b, off, e, hc⟩
  · exact .inl (by omega)
  · refine .inr ⟨b, off, e, fun q hq => ?_⟩
    have hg := qflat_get L q hq
    have h0 := hc (q * 4) (by omega)
    have h1 := hc (q * 4 + 1) (by omega)
    have h2 := hc (q * 4 + 2) (by omega)
    have h3 := hc (q * 4 + 3) (by omega)
    rw [hg.1] at h0
    rw [hg.2.1] at h1
    rw [hg.2.2.1] at h2
    rw [hg.2.2.2] at h3
    exact ⟨h0, h1, h2, h3⟩
theorem qrow_nil (w : World) (a : Option Addr) : QRow w a 0 [] := ⟨rfl, .inl rfl⟩
theorem put_cell {W n : Nat} {xs : List Int} (h : Im W n xs) {i j : Nat} (hi : i < n) (hj : j < W) : ∀ a b, a < n → b < W → cellOf (putL xs i j (!hasB W xs i j)) a b = if a = i ∧ b = j then !cellOf xs a b else cellOf xs a b := by
  intro a b ha hb
  rw [← has_cell (h.put hi hj _) ha hb, h.put_has hi hj ha hb]
  by_cases e : a = i ∧ b = j
  · rw [if_pos e, if_pos e, e.1, e.2, has_cell h hi hj]
  · rw [if_neg e, if_neg e, has_cell h ha hb]
end Go.Proofs.Ytgamkmkpmcenpaa
