/-
  Two images drawn at any number of cells.
-/
import Derived.Test.YteejopkimlkhoaaSk
import Derived.Test.YteejopkimlkhoaaKd
namespace Go.Proofs.Yteejopkimlkhoaa
set_option maxRecDepth 100000
open Go.RowKit

set_option maxHeartbeats 2000000 in
set_option maxRecDepth 100000 in
theorem two_c (cc0 : Nat) (hcc1 : 1 ≤ cc0) (hcc : cc0 ≤ 36) (r : Nat) (a : Option Addr) (len cap : Nat) (zs : List Int) (p : Nat) (w : World) (h : Rd w r a len cap zs p) (hp : p ≤ 500) :
    Calls Try.prog 58 #[.pointer (some ⟨r, 0, none⟩), .int .i64 (cc0 : Int)] w (TwoD w r a len cap zs p) := by
  have hrw : r < w.heap.size := block_lt h.c0
  have far := Lib.hid h.src
  obtain ⟨W0, hW0⟩ : ∃ W0, W0 = (w.alloc (.cells #[.int .i64 0, .slice none 0 0] 25)).alloc (.cells #[.int .i64 0, .slice none 0 0] 25) := ⟨_, rfl⟩
  have b0 : Below w.heap.size w W0 := by subst hW0; exact ((Below.refl _ _).alloc (Nat.le_refl _) _).alloc (by simp) _
  have z4 : Box W0 w.heap.size (.int .i64 0) (.slice none 0 0) := by subst hW0; exact ⟨by go_simp, by go_simp, fun o => by go_simp⟩
  have z5 : Box W0 (w.heap.size + 1) (.int .i64 0) (.slice none 0 0) := by subst hW0; exact ⟨by go_simp, by go_simp, fun o => by go_simp⟩
  have l0 : w.heap.size + 1 < W0.heap.size := block_lt z5.c0
  have hr0 := h.bel b0
  clear h
  go_enter Try.func58, Try.ntmps58
  go_wp2_with fail
  rw [← hW0]
  clear hW0
  refine (wrong_c cc0 hcc1 hcc r a len cap zs p _ hr0 (by omega)).mono ?_
  rintro e w1 ⟨V, s, n, cg, xs, rfl, hR, hn, hg, hf, q, hq, hrd⟩
  have s1 := hg.size
  have ba : Below w1.heap.size w1 (w1.alloc (.cells #[.int .i64 V, .slice s n cg] 25)) := (Below.refl _ _).alloc (Nat.le_refl _) _
  have hT : TSn w (w1.alloc (.cells #[.int .i64 V, .slice s n cg] 25)) r a len cap zs q w1.heap.size V s n cg xs :=
    ⟨(z4.grown hg (by omega)).bel ba, (z5.grown hg (by omega)).bel ba, ⟨by simp, by simp, fun o => by simp⟩, hR.row.bel ba, hrd.bel ba, grown_trans (grown_trans (below_grown b0 _) hg) (below_grown ba _), hrw, by omega, far.out, fun b off e hl => by have := hf b off e hl; omega⟩
  have hT := Lib.hid hT
  clear z4 z5 hR hg hf hrd ba b0 hr0
  go_wp2_with fail
  refine (pick_any r a len cap zs q 5 _ hT.out.rd (by omega) (by omega)).mono ?_
  rintro e w2 ⟨v, rfl, hv0, hv1, hr, hg⟩
  replace hT := Lib.hid (hT.out.pick hr hg)
  clear hr hg
  have y0 := hT.out.ib.c0
  have y1 := hT.out.ib.c1
  by_cases e0 : 0 < v
  · have hD := Lib.hid (hT.out.bel ((Below.refl _ _).drew))
    have s2 : w1.heap.size < w2.heap.size := block_lt y0
    go_wp2_with fail
    go_region_law (first | ((go_simp; go_at_call 97; (with_reducible refine (oth_any r a len cap zs (q + 1) V s n cg xs _ hD.out.rd (by omega) hD.out.row hn.1 (fun b off e hl => by have := hD.out.sr b off e hl; omega)).mono ?_); rintro e w3 ⟨t, c, ys, p', rfl, hY, hg, hrd, hp', ht⟩; have hO := Lib.hid (hD.out.pick hrd hg); have y0 := hO.out.ib.c0; have y1 := hO.out.ib.c1; have a0 := hO.out.z4.c0; have a1 := hO.out.z4.c1; have af := hO.out.z4.fz; have c0 := hO.out.z5.c0; have c1 := hO.out.z5.c1; have cf := hO.out.z5.fz; have hY := Lib.hid hY; clear hg hrd)))
    all_goals
      go_wp2_with fail
      refine bodyPost_ret (v := .tuple #[.agg #[.int .i64 V, .slice s n cg], .agg #[.int .i64 V, .slice t n c]]) (by simp [results, Try.results58, go_sem, a0, a1, c0, c1]) rfl ?_
      exact hO.out.fin hY.out (fun b off e hl => by
        rcases ht b off e hl with h | h
        · rw [h] at e; exact hO.out.sr b off e hl
        · have : w2.heap.size ≤ b := h
          omega) hn.1 hn.1 (by omega)
  · go_wp2_with fail
    refine (pick_any r a len cap zs _ 2 _ hT.out.rd (by omega) (by omega)).mono ?_
    rintro e w3 ⟨v2, rfl, hu0, hu1, hr, hg⟩
    replace hT := Lib.hid (hT.out.pick hr hg)
    clear hr hg y0 y1
    by_cases e1 : v2 = 0
    case neg =>
      have hD := Lib.hid (hT.out.bel ((Below.refl _ _).drew))
      have y0 := hT.out.ib.c0
      have y1 := hT.out.ib.c1
      have sX : w1.heap.size < w3.heap.size := block_lt y0
      go_wp2_with fail
      go_region_law (first | ((go_simp; go_at_call 86; (with_reducible refine (wrong_c cc0 hcc1 hcc r a len cap zs (q + 1 + 1) _ hD.out.rd (by omega)).mono ?_); rintro e w9 ⟨V', t, m, c', ys, rfl, hY, hm, hg, hf, q', hq', hrd⟩; have hO := Lib.hid (hD.out.pick hrd hg); have y0 := hO.out.ib.c0; have y1 := hO.out.ib.c1; have a0 := hO.out.z4.c0; have a1 := hO.out.z4.c1; have af := hO.out.z4.fz; have c0 := hO.out.z5.c0; have c1 := hO.out.z5.c1; have cf := hO.out.z5.fz; have hY := Lib.hid hY.row; clear hg hrd)))
      all_goals
        go_wp2_with fail
        refine bodyPost_ret (v := .tuple #[.agg #[.int .i64 V, .slice s n cg], .agg #[.int .i64 V', .slice t m c']]) (by simp [results, Try.results58, go_sem, a0, a1, c0, c1]) rfl ?_
        exact hO.out.fin hY.out (fun b off e hl => by
          have : w3.heap.size ≤ b := hf b off e hl
          omega) hn.1 hm.1 (by omega)
    subst e1
    have y0 := hT.out.ib.c0
    have y1 := hT.out.ib.c1
    go_wp2_with fail
    refine (valid_spec _ _ _ _ xs _ hT.out.row (by omega)).mono ?_
    rintro e w4 ⟨rfl, hb⟩
    replace hT := Lib.hid (hT.out.bel hb)
    clear hb y0 y1
    by_cases hv : validB V xs = true
    case neg =>
      have hv : validB V xs = false := by simpa using hv
      rw [hv]
      have hD := Lib.hid (hT.out.bel ((Below.refl _ _).drew))
      have y0 := hT.out.ib.c0
      have y1 := hT.out.ib.c1
      have sX : w1.heap.size < w4.heap.size := block_lt y0
      go_wp2_with fail
      go_region_law (first | ((go_simp; go_at_call 86; (with_reducible refine (wrong_c cc0 hcc1 hcc r a len cap zs (q + 1 + 1) _ hD.out.rd (by omega)).mono ?_); rintro e w9 ⟨V', t, m, c', ys, rfl, hY, hm, hg, hf, q', hq', hrd⟩; have hO := Lib.hid (hD.out.pick hrd hg); have y0 := hO.out.ib.c0; have y1 := hO.out.ib.c1; have a0 := hO.out.z4.c0; have a1 := hO.out.z4.c1; have af := hO.out.z4.fz; have c0 := hO.out.z5.c0; have c1 := hO.out.z5.c1; have cf := hO.out.z5.fz; have hY := Lib.hid hY.row; clear hg hrd)))
      all_goals
        go_wp2_with fail
        refine bodyPost_ret (v := .tuple #[.agg #[.int .i64 V, .slice s n cg], .agg #[.int .i64 V', .slice t m c']]) (by simp [results, Try.results58, go_sem, a0, a1, c0, c1]) rfl ?_
        exact hO.out.fin hY.out (fun b off e hl => by
          have : w4.heap.size ≤ b := hf b off e hl
          omega) hn.1 hm.1 (by omega)
    rw [hv]
    have hV := validB_W hv
    obtain ⟨W, rfl⟩ := Int.eq_ofNat_of_zero_le (by omega : 0 ≤ V)
    have hp6 := pw_63 (show W ≤ 6 by omega)
    have hpp := pw_pos W
    clear hv
    have y0 := hT.out.ib.c0
    have y1 := hT.out.ib.c1
    have s4 : w1.heap.size < w4.heap.size := block_lt y0
    have hsl := Lib.hid (row_lt hT.out.row)
    go_wp2_with fail
    refine (blank_spec W n _ (by omega)).mono ?_
    rintro e w5 ⟨⟨g, rfl, hg4, ho⟩, hb⟩
    have s5 := hb.size
    have hg5 := (own_ge ho).2
    have ba : Below w5.heap.size w5 (w5.alloc (.cells #[.int .i64 W, .slice (some ⟨g, 0, none⟩) n n] 25)) := (Below.refl _ _).alloc (Nat.le_refl _) _
    replace hT := Lib.hid ((hT.out.bel hb).bel ba)
    have ib2 : Hid (Box (w5.alloc (.cells #[.int .i64 W, .slice (some ⟨g, 0, none⟩) n n] 25)) w5.heap.size (.int .i64 W) (.slice (some ⟨g, 0, none⟩) n n)) := ⟨by simp, by simp, fun o => by simp⟩
    replace ho := Lib.hid (ho.bel ba)
    clear hb ba y0 y1
    go_wp2_with fail
    go_loopw [8] (fun i wr => ∃ (k q' : Nat) (ys : List Int), k ≤ n ∧ i = .int .i64 k ∧ q' ≤ q + 2 + k ∧ Hid (TSn w wr r a len cap zs q' w1.heap.size W s n cg xs) ∧ Hid (Box wr w5.heap.size (.int .i64 W) (.slice (some ⟨g, 0, none⟩) n n)) ∧ Hid (OwnI wr w4.heap.size (some ⟨g, 0, none⟩) n n ys)) (fun i _ => n - (intOf i).toNat)
    case atStart => exact ⟨0, q + 1 + 1, _, Nat.zero_le _, rfl, by omega, hT, ib2, ho⟩
    case round =>
      obtain ⟨k, q', ys, hk, rfl, hq', hT2, hB2, hO2⟩ := hrel
      clear hT ib2 ho
      have y0 := hT2.out.ib.c0
      have y1 := hT2.out.ib.c1
      have u0 := hB2.out.c0
      have u1 := hB2.out.c1
      by_cases hlt : k < n
      · have hD := Lib.hid (hT2.out.bel ((Below.refl _ _).drew))
        have hBD := Lib.hid (hB2.out.bel ((Below.refl _ _).drew))
        have hOD := Lib.hid (hO2.out.bel ((Below.refl _ _).drew))
        go_wp2_with fail
        go_region_law (first | ((go_simp; go_at_call 99; (with_reducible refine (power_any W _ (by omega)).mono ?_); rintro e w6 ⟨rfl, rfl⟩)) | ((go_simp; go_at_call 87; (with_reducible refine (pick_any r a len cap zs q' (pw W) _ hD.out.rd (by omega) (by omega)).mono ?_); rintro e w7 ⟨vv, rfl, hvv0, hvv1, hr, hg⟩; have hT3 := Lib.hid (hD.out.pick hr hg); have hB3 := Lib.hid (hBD.out.grown hg (by omega)); have hO3 := Lib.hid (hOD.out.other hg (by omega)); have y0 := hT3.out.ib.c0; have y1 := hT3.out.ib.c1; have u0 := hB3.out.c0; have u1 := hB3.out.c1; have cc := own_cell hO3.out hlt; have cf := hO3.out.frozen; clear hr hg)))
        all_goals
          go_wp2_with fail
          exact ⟨⟨k + 1, q' + 1, _, by omega, by go_num, by omega, hT3.out.other (grown_set (World.grownBy.refl _ _)) (by omega) (by omega) (fun b off e hl => by have := hsl.out b off e hl; omega), hB3.out.store (by omega), hO3.out.set k vv⟩, by simp [intOf]; omega⟩
      · have : k = n := by omega
        subst this
        have a0 := hT2.out.z4.c0
        have a1 := hT2.out.z4.c1
        have af := hT2.out.z4.fz
        have c0 := hT2.out.z5.c0
        have c1 := hT2.out.z5.c1
        have cf := hT2.out.z5.fz
        go_wp2_with fail
        go_region
        all_goals
          go_wp2_with fail
          refine bodyPost_ret (v := .tuple #[.agg #[.int .i64 W, .slice s k cg], .agg #[.int .i64 W, .slice (some ⟨g, 0, none⟩) k k]]) (by simp [results, Try.results58, go_sem, a0, a1, c0, c1]) rfl ?_
          exact (hT2.out.bel ((Below.refl _ _).drew)).fin (hO2.out.bel ((Below.refl _ _).drew)).row (fun b off e hl => by
            have := own_far hO2.out (show w.heap.size + 1 < w4.heap.size by omega) b off e hl
            cases e
            omega) hn.1 hn.1 (by omega)
set_option maxHeartbeats 400000 in
theorem draw_DrawImageDistance (a : Option Addr) (len cap : Nat) (zs : List Int) (w : World) (h : Bys w a len zs) (hl : len ≤ cap) (hm : cap ≤ 9223372036854775807) :
    Calls Try.prog 23 #[.slice a len cap] w (DrawnT w) := by
  obtain ⟨W0, hW0⟩ : ∃ W0, W0 = (w.alloc (.cells #[.int .i64 0, .slice none 0 0] 25)).alloc (.cells #[.int .i64 0, .slice none 0 0] 25) := ⟨_, rfl⟩
  have b0 : Below w.heap.size w W0 := by subst hW0; exact ((Below.refl _ _).alloc (Nat.le_refl _) _).alloc (by simp) _
  have z4 : Box W0 w.heap.size (.int .i64 0) (.slice none 0 0) := by subst hW0; exact ⟨by go_simp, by go_simp, fun o => by go_simp⟩
  have z5 : Box W0 (w.heap.size + 1) (.int .i64 0) (.slice none 0 0) := by subst hW0; exact ⟨by go_simp, by go_simp, fun o => by go_simp⟩
  have l0 : w.heap.size + 1 < W0.heap.size := block_lt z5.c0
  have h0 := h.bel b0
  clear h
  go_enter Try.func23, Try.ntmps23
  go_wp2_with fail
  rw [← hW0]
  clear hW0
  refine (open_any a len cap zs _ h0 hl hm).mono ?_
  rintro e w1 ⟨a1, l1, c1, rfl, hr, hb⟩
  have s1 := hb.size
  have bb := Lib.hid (b0.trans (hb.mono b0.size))
  have z4 := z4.bel hb
  have z5 := z5.bel hb
  clear hb h0 b0
  go_wp2_with fail
  refine (two_c 36 (by omega) (by omega) _ a1 l1 c1 zs 0 w1 hr (by omega)).mono ?_
  rintro e w2 ⟨V, s, n, c, xs, V', t, m, c', ys, p', rfl, hX, hY, hnm, hg, _, _, hs, ht⟩
  have z4 := z4.grown hg (by omega)
  have z5 := z5.grown hg (by omega)
  have bb := Lib.hid (grown_cut bb.out hg (by omega) (by omega))
  have a0 := z4.c0
  have a1 := z4.c1
  have af := z4.fz
  have c0 := z5.c0
  have c1 := z5.c1
  have cf := z5.fz
  have hX := Lib.hid hX
  have hY := Lib.hid hY
  clear hg hr z4 z5
  go_wp2_with fail
  refine bodyPost_ret (v := .tuple #[.agg #[.int .i64 V, .slice s n c], .agg #[.int .i64 V', .slice t m c']]) (by simp [results, Try.results23, go_sem, a0, a1, c0, c1]) rfl ?_
  exact ⟨V, s, n, c, xs, V', t, m, c', ys, rfl, set2_row (set2_row hX.out fun b off e hl => by have := hs b off e hl; omega) fun b off e hl => by have := hs b off e hl; omega, set2_row (set2_row hY.out fun b off e hl => by have := ht b off e hl; omega) fun b off e hl => by have := ht b off e hl; omega, hnm, set2_bel (set2_bel bb.out (Nat.le_refl _)) (by omega)⟩

set_option maxHeartbeats 400000 in
theorem draw_DrawSwitchToward (a : Option Addr) (len cap : Nat) (zs : List Int) (w : World) (h : Bys w a len zs) (hl : len ≤ cap) (hm : cap ≤ 9223372036854775807) :
    Calls Try.prog 31 #[.slice a len cap] w (DrawnT w) := by
  obtain ⟨W0, hW0⟩ : ∃ W0, W0 = (w.alloc (.cells #[.int .i64 0, .slice none 0 0] 25)).alloc (.cells #[.int .i64 0, .slice none 0 0] 25) := ⟨_, rfl⟩
  have b0 : Below w.heap.size w W0 := by subst hW0; exact ((Below.refl _ _).alloc (Nat.le_refl _) _).alloc (by simp) _
  have z4 : Box W0 w.heap.size (.int .i64 0) (.slice none 0 0) := by subst hW0; exact ⟨by go_simp, by go_simp, fun o => by go_simp⟩
  have z5 : Box W0 (w.heap.size + 1) (.int .i64 0) (.slice none 0 0) := by subst hW0; exact ⟨by go_simp, by go_simp, fun o => by go_simp⟩
  have l0 : w.heap.size + 1 < W0.heap.size := block_lt z5.c0
  have h0 := h.bel b0
  clear h
  go_enter Try.func31, Try.ntmps31
  go_wp2_with fail
  rw [← hW0]
  clear hW0
  refine (open_any a len cap zs _ h0 hl hm).mono ?_
  rintro e w1 ⟨a1, l1, c1, rfl, hr, hb⟩
  have s1 := hb.size
  have bb := Lib.hid (b0.trans (hb.mono b0.size))
  have z4 := z4.bel hb
  have z5 := z5.bel hb
  clear hb h0 b0
  go_wp2_with fail
  refine (two_c 30 (by omega) (by omega) _ a1 l1 c1 zs 0 w1 hr (by omega)).mono ?_
  rintro e w2 ⟨V, s, n, c, xs, V', t, m, c', ys, p', rfl, hX, hY, hnm, hg, _, _, hs, ht⟩
  have z4 := z4.grown hg (by omega)
  have z5 := z5.grown hg (by omega)
  have bb := Lib.hid (grown_cut bb.out hg (by omega) (by omega))
  have a0 := z4.c0
  have a1 := z4.c1
  have af := z4.fz
  have c0 := z5.c0
  have c1 := z5.c1
  have cf := z5.fz
  have hX := Lib.hid hX
  have hY := Lib.hid hY
  clear hg hr z4 z5
  go_wp2_with fail
  refine bodyPost_ret (v := .tuple #[.agg #[.int .i64 V, .slice s n c], .agg #[.int .i64 V', .slice t m c']]) (by simp [results, Try.results31, go_sem, a0, a1, c0, c1]) rfl ?_
  exact ⟨V, s, n, c, xs, V', t, m, c', ys, rfl, set2_row (set2_row hX.out fun b off e hl => by have := hs b off e hl; omega) fun b off e hl => by have := hs b off e hl; omega, set2_row (set2_row hY.out fun b off e hl => by have := ht b off e hl; omega) fun b off e hl => by have := ht b off e hl; omega, hnm, set2_bel (set2_bel bb.out (Nat.le_refl _)) (by omega)⟩

set_option maxHeartbeats 400000 in
theorem draw_DrawSwitchPath (a : Option Addr) (len cap : Nat) (zs : List Int) (w : World) (h : Bys w a len zs) (hl : len ≤ cap) (hm : cap ≤ 9223372036854775807) :
    Calls Try.prog 38 #[.slice a len cap] w (DrawnT w) := by
  obtain ⟨W0, hW0⟩ : ∃ W0, W0 = (w.alloc (.cells #[.int .i64 0, .slice none 0 0] 25)).alloc (.cells #[.int .i64 0, .slice none 0 0] 25) := ⟨_, rfl⟩
  have b0 : Below w.heap.size w W0 := by subst hW0; exact ((Below.refl _ _).alloc (Nat.le_refl _) _).alloc (by simp) _
  have z4 : Box W0 w.heap.size (.int .i64 0) (.slice none 0 0) := by subst hW0; exact ⟨by go_simp, by go_simp, fun o => by go_simp⟩
  have z5 : Box W0 (w.heap.size + 1) (.int .i64 0) (.slice none 0 0) := by subst hW0; exact ⟨by go_simp, by go_simp, fun o => by go_simp⟩
  have l0 : w.heap.size + 1 < W0.heap.size := block_lt z5.c0
  have h0 := h.bel b0
  clear h
  go_enter Try.func38, Try.ntmps38
  go_wp2_with fail
  rw [← hW0]
  clear hW0
  refine (open_any a len cap zs _ h0 hl hm).mono ?_
  rintro e w1 ⟨a1, l1, c1, rfl, hr, hb⟩
  have s1 := hb.size
  have bb := Lib.hid (b0.trans (hb.mono b0.size))
  have z4 := z4.bel hb
  have z5 := z5.bel hb
  clear hb h0 b0
  go_wp2_with fail
  refine (two_c 25 (by omega) (by omega) _ a1 l1 c1 zs 0 w1 hr (by omega)).mono ?_
  rintro e w2 ⟨V, s, n, c, xs, V', t, m, c', ys, p', rfl, hX, hY, hnm, hg, _, _, hs, ht⟩
  have z4 := z4.grown hg (by omega)
  have z5 := z5.grown hg (by omega)
  have bb := Lib.hid (grown_cut bb.out hg (by omega) (by omega))
  have a0 := z4.c0
  have a1 := z4.c1
  have af := z4.fz
  have c0 := z5.c0
  have c1 := z5.c1
  have cf := z5.fz
  have hX := Lib.hid hX
  have hY := Lib.hid hY
  clear hg hr z4 z5
  go_wp2_with fail
  refine bodyPost_ret (v := .tuple #[.agg #[.int .i64 V, .slice s n c], .agg #[.int .i64 V', .slice t m c']]) (by simp [results, Try.results38, go_sem, a0, a1, c0, c1]) rfl ?_
  exact ⟨V, s, n, c, xs, V', t, m, c', ys, rfl, set2_row (set2_row hX.out fun b off e hl => by have := hs b off e hl; omega) fun b off e hl => by have := hs b off e hl; omega, set2_row (set2_row hY.out fun b off e hl => by have := ht b off e hl; omega) fun b off e hl => by have := ht b off e hl; omega, hnm, set2_bel (set2_bel bb.out (Nat.le_refl _)) (by omega)⟩

end Go.Proofs.Yteejopkimlkhoaa

