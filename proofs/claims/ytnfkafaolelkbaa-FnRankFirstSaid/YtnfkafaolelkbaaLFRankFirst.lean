/-
  For every slice of bytes the law FnRankFirst answers true: the first image has no image ahead; nothing that was there is written; no condition.
-/
import Derived.Test.YtnfkafaolelkbaaO
import Derived.Test.YtnfkafaolelkbaaK
import Derived.Deep.RegionLaw
import Derived.Test.YtnfkafaolelkbaaBn
import Derived.Test.YtnfkafaolelkbaaBk
import Derived.Test.YtnfkafaolelkbaaEp
import Derived.Test.YtnfkafaolelkbaaNu
import Derived.Test.YtnfkafaolelkbaaWm
namespace Go.Proofs.Ytnfkafaolelkbaa.LFRankFirst
open Go.ChangeShapes Go.WideShapes Go.ChangeAt Go.RowKit Go.Joins

theorem lt_first {n : Nat} {X Y : List Int} (h1 : X.length = n) (h2 : Y.length = n) (_ : 1 ≤ n) (h : ltB X Y = true) : X.getD 0 0 ≤ Y.getD 0 0 := by
  by_cases e : X.getD 0 0 = Y.getD 0 0
  · omega
  · have := (lt_at h1 h2 (Nat.zero_le n) (fun q hq => absurd hq (Nat.not_lt_zero q)) (.inr e)).1 h
    omega

set_option maxHeartbeats 8000000 in
set_option maxRecDepth 100000 in
theorem walk (a : Option Addr) (len cap : Nat) (zs : List Int) (w : World) (h : Bys w a len zs) (hl : len ≤ cap) (hm : cap ≤ 9223372036854775807) :
    Calls Try.prog 16 #[.slice a len cap] w fun e w' => e = .returned (.bool true) ∧ Below w.heap.size w w' := by
  by_cases hbig : 1048576 < len
  · clear h
    go_enter Try.func16, Try.ntmps16
    go_wp2_with fail
    go_ret
    exact ⟨rfl, Below.refl _ _⟩
  go_enter Try.func16, Try.ntmps16
  go_wp2_with fail
  refine (draw_DrawImageRank a len cap zs _ h hl hm).mono ?_
  rintro e w1 ⟨V, s, n, cg, xs, rfl, hR, hn, hb1⟩
  clear h hl hm
  have bb := Lib.hid hb1
  have p := Lib.hid hR
  clear hR hb1
  have hbx : Below w1.heap.size w1 (w1.alloc (.cells #[.int .i64 V, .slice s n cg] 30)) := (Below.refl _ _).alloc (Nat.le_refl _) _
  replace p := Lib.hid (p.out.bel hbx)
  replace bb := Lib.hid (bb.out.trans (hbx.mono bb.out.size))
  clear hbx
  have p0 : (w1.alloc (.cells #[.int .i64 V, .slice s n cg] 30)).cell? ⟨w1.heap.size, 0, none⟩ = some (.int .i64 V) := by simp
  have p1 : (w1.alloc (.cells #[.int .i64 V, .slice s n cg] 30)).cell? ⟨w1.heap.size, 1, none⟩ = some (.slice s n cg) := by simp
  rcases rko_ways (V := V) p.out.1 with h1 | ⟨W, k, rfl, hI, hct, h1, h2, h3, h4⟩
  case inl =>
    go_wp2_with fail
    refine (rk_ok h1 (by omega) _ _ _ p.out).mono ?_
    rintro e w2 ⟨rfl, hb⟩
    have szw2 : w1.heap.size + 1 ≤ w2.heap.size := by have := hb.size; simpa using this
    replace p0 := kept hb (block_lt p0) p0
    replace p1 := kept hb (block_lt p1) p1
    replace p := Lib.hid (p.out.bel hb)
    replace bb := Lib.hid (bb.out.trans (hb.mono bb.out.size))
    clear hb
    go_wp2_with fail
    refine (rk_sok h1 (by omega) _ _ _ p.out).mono ?_
    rintro e w3 ⟨rfl, hb⟩
    have szw3 := hb.size
    replace p0 := kept hb (block_lt p0) p0
    replace p1 := kept hb (block_lt p1) p1
    replace p := Lib.hid (p.out.bel hb)
    replace bb := Lib.hid (bb.out.trans (hb.mono bb.out.size))
    clear hb
    go_wp2_with fail
    go_ret
    exact ⟨rfl, bb.out⟩
  have hW6 := hI.w6
  have hW1 := hI.w1
  have hn1 := hI.l1
  have hn6 := hI.l6
  have lr : (rsL xs W n).length = n := rs_len _ _ _
  have lc : (csL xs n W).length = W := cs_len _ _ _
  have hsv := hI.sumsV
  have hcb := cnt_16 (ctdB_parts hct).2
  have hrs := Lib.hid (fun s c wx hx => rs_ok hI s c wx hx)
  have hcs := Lib.hid (fun s c wx hx => cs_ok hI s c wx hx)
  obtain ⟨R, hR0⟩ : ∃ R, rsL xs W n = R := ⟨_, rfl⟩
  obtain ⟨C, hC0⟩ : ∃ C, csL xs n W = C := ⟨_, rfl⟩
  rw [hR0] at lr hsv hct h2 h3 h4 hrs hcb
  rw [hC0] at lc hsv hct h2 h3 h4 hcs hcb
  obtain ⟨M, hM⟩ : ∃ M, cntS R C = M := ⟨_, rfl⟩
  have hsM : scO R C = M := (sco_yes hct).trans hM
  rw [hM] at hcb h3
  have hkM : Hid ((k : Int) < cntS R C) := Lib.hid (by rw [hM]; omega)
  have hk0 : ¬ (k : Int) < 0 := by omega
  have hn13 : n ≤ 13 := by omega
  have hW13 : W ≤ 13 := by omega
  have h0M : ((0 : Nat) : Int) < cntS R C := by rw [hM]; omega
  have hal := alls_im hsv (nth_mem h0M)
  rw [lc, lr] at hal
  have hr0 := nth_rnk h0M
  obtain ⟨X, hX⟩ : ∃ X, nthS R C 0 = X := ⟨_, rfl⟩
  rw [hX] at hal hr0
  obtain ⟨hJ, e1, e2⟩ := hal
  obtain ⟨b, hb0⟩ : ∃ b, uniB xs W n = b := ⟨_, rfl⟩
  have hu1 : b = true → (k : Int) = 0 := fun e => by
    have hu := (unib_iff.1 hb0).2 e
    have hX1 := (uniq_iff hI).1 hu X hJ ⟨hR0.trans e1.symm, hC0.trans e2.symm⟩
    rw [hX1, h2] at hr0
    exact hr0
  have hsx : ((k : Int) == 0) = decide (X = xs) := by
    by_cases e : k = 0
    · subst e
      rw [h4] at hX
      subst hX
      simp
    · have e3 : ¬ X = xs := fun h => by
        rw [h, h2] at hr0; omega
      rw [decide_eq_false e3, beq_eq_false_iff_ne]; omega
  have hle : X.getD 0 0 ≤ xs.getD 0 0 := by
    by_cases e : k = 0
    · subst e; rw [h4] at hX; subst hX; exact Int.le_refl _
    · have hlt := nth_lt (show 0 < k by omega) (by rw [hM]; exact h3)
      rw [hX, h4] at hlt
      exact lt_first hJ.hl hI.hl (by omega) hlt
  obtain ⟨_, _, ea, pc⟩ := row_at p.out (show 0 < n by omega)
  obtain ⟨u, hu⟩ : ∃ u, X.getD 0 0 = u := ⟨_, rfl⟩
  obtain ⟨v, hv0⟩ : ∃ v, xs.getD 0 0 = v := ⟨_, rfl⟩
  have hlex : decide (u ≤ v) = true := decide_eq_true (by omega)
  obtain ⟨d, hd⟩ : ∃ d, decide (X = xs) = d := ⟨_, rfl⟩
  rw [hd] at hsx
  have hdd : (d == d) = true := by simp
  clear pc ea
  replace hX := Lib.hid hX
  replace hJ := Lib.hid hJ
  replace hb0 := Lib.hid hb0
  replace h0M := Lib.hid h0M
  replace hu := Lib.hid hu
  replace hv0 := Lib.hid hv0
  replace hd := Lib.hid hd
  replace hu1 := Lib.hid hu1
  clear hle e1 e2 hr0
  replace hsv := Lib.hid hsv
  replace hct := Lib.hid hct
  replace h1 := Lib.hid h1
  replace h2 := Lib.hid h2
  replace h4 := Lib.hid h4
  replace hI := Lib.hid hI
  replace hM := Lib.hid hM
  replace hsM := Lib.hid hsM
  replace hR0 := Lib.hid hR0
  replace hC0 := Lib.hid hC0
  replace lr := Lib.hid lr
  replace lc := Lib.hid lc
  go_wp2_with fail
  refine (rk_ok h1.out (by omega) _ _ _ p.out).mono ?_
  rintro e w4 ⟨rfl, hb⟩
  have szw4 : w1.heap.size + 1 ≤ w4.heap.size := by have := hb.size; simpa using this
  replace p0 := kept hb (block_lt p0) p0
  replace p1 := kept hb (block_lt p1) p1
  replace p := Lib.hid (p.out.bel hb)
  replace bb := Lib.hid (bb.out.trans (hb.mono bb.out.size))
  clear hb
  go_wp2_with fail
  refine (rk_sok h1.out (by omega) _ _ _ p.out).mono ?_
  rintro e w5 ⟨rfl, hb⟩
  have szw5 := hb.size
  replace p0 := kept hb (block_lt p0) p0
  replace p1 := kept hb (block_lt p1) p1
  replace p := Lib.hid (p.out.bel hb)
  replace bb := Lib.hid (bb.out.trans (hb.mono bb.out.size))
  clear hb
  go_upto_region 8 with fail
  go_cut [6, 7] (fun s6 s7 wx => ∃ (kx : Nat) (ax : Option Addr) (cx : Nat), s6 = .pointer (some ⟨kx, 0, none⟩) ∧ s7 = .bool true ∧ wx.cell? ⟨w1.heap.size, 0, none⟩ = some (.int .i64 W) ∧ wx.cell? ⟨w1.heap.size, 1, none⟩ = some (.slice s n cg) ∧ wx.cell? ⟨kx, 0, none⟩ = some (.int .i64 W) ∧ wx.cell? ⟨kx, 1, none⟩ = some (.slice ax n cx) ∧ Hid (Row wx s n (xs)) ∧ Hid (Row wx ax n (X)) ∧ Hid (Below w.heap.size w wx))
  case first =>
    have tok0 : True := trivial
    go_wp2_with fail
    replace p := Lib.hid (p.out.bel ((Below.refl _ _).drew))
    replace bb := Lib.hid bb.out.drew
    have lq_p0 : w1.heap.size < w5.heap.size := block_lt p0
    go_region_held3 (fun W' => W'.cell? ⟨w1.heap.size, 0, none⟩ = some (.int .i64 W) ∧ W'.cell? ⟨w1.heap.size, 1, none⟩ = some (.slice s n cg))
      (first | exact ⟨p0, p1⟩ | exact ⟨World.cell?_alloc_some p0, World.cell?_alloc_some p1⟩ | exact ⟨set2_cell p0 ltz_p0, set2_cell p1 ltz_p1⟩ | go_keep)
      (first | (go_at_call 27; have _t := tok0; (try (first | (obtain ⟨wz, hwz⟩ : ∃ wz, wz = (w5.alloc (.cells #[.int .i64 0, .slice none 0 0] 30)).drew := ⟨_, rfl⟩; rw [← hwz]; have hbz : Below w5.drew.heap.size w5.drew wz := (by rw [hwz]; exact (Below.refl _ _).alloc (Nat.le_refl _) _); have ltz_p0 : w1.heap.size < w5.heap.size := block_lt (show w5.drew.cell? _ = _ from p0); replace p0 := kept hbz ltz_p0 (show w5.drew.cell? _ = _ from p0); have ltz_p1 : w1.heap.size < w5.heap.size := block_lt (show w5.drew.cell? _ = _ from p1); replace p1 := kept hbz ltz_p1 (show w5.drew.cell? _ = _ from p1); have ltz_p : ∀ b off, s = some ⟨b, off, none⟩ → 0 < n → b < w5.heap.size := row_lt p.out; replace p := Lib.hid (p.out.bel hbz); have szb : w.heap.size ≤ w5.heap.size := bb.out.size; replace bb := Lib.hid (bb.out.trans (hbz.mono bb.out.size)); have zb : Box wz w5.heap.size (.int .i64 0) (.slice none 0 0) := (by rw [hwz]; exact ⟨by simp, by simp, fun o => by simp⟩); have z0 := zb.c0; have z1 := zb.c1; have zf := zb.fz; have zb := Lib.hid zb; clear hwz hbz) | (obtain ⟨wz, hwz⟩ : ∃ wz, wz = (w5.drew.alloc (.cells #[.int .i64 0, .slice none 0 0] 30)) := ⟨_, rfl⟩; rw [← hwz]; have hbz : Below w5.drew.heap.size w5.drew wz := (by rw [hwz]; exact (Below.refl _ _).alloc (Nat.le_refl _) _); have ltz_p0 : w1.heap.size < w5.heap.size := block_lt (show w5.drew.cell? _ = _ from p0); replace p0 := kept hbz ltz_p0 (show w5.drew.cell? _ = _ from p0); have ltz_p1 : w1.heap.size < w5.heap.size := block_lt (show w5.drew.cell? _ = _ from p1); replace p1 := kept hbz ltz_p1 (show w5.drew.cell? _ = _ from p1); have ltz_p : ∀ b off, s = some ⟨b, off, none⟩ → 0 < n → b < w5.heap.size := row_lt p.out; replace p := Lib.hid (p.out.bel hbz); have szb : w.heap.size ≤ w5.heap.size := bb.out.size; replace bb := Lib.hid (bb.out.trans (hbz.mono bb.out.size)); have zb : Box wz w5.heap.size (.int .i64 0) (.slice none 0 0) := (by rw [hwz]; exact ⟨by simp, by simp, fun o => by simp⟩); have z0 := zb.c0; have z1 := zb.c1; have zf := zb.fz; have zb := Lib.hid zb; clear hwz hbz))); (try (have kzB := block_lt z0)); (refine (hrs.out _ _ _ p.out).mono ?_); rintro e w6 ⟨⟨ar1, cr1, rfl, ho⟩, hb⟩; have szw6 := hb.size; have r1 := Lib.hid ho.row; (first | replace p0 := kept hb (block_lt p0) p0 | replace p0 := kept hb (block_lt (show w5.drew.cell? _ = _ from p0)) (show w5.drew.cell? _ = _ from p0)); (first | replace p1 := kept hb (block_lt p1) p1 | replace p1 := kept hb (block_lt (show w5.drew.cell? _ = _ from p1)) (show w5.drew.cell? _ = _ from p1)); replace p := Lib.hid (p.out.bel hb); replace bb := Lib.hid (bb.out.trans (hb.mono bb.out.size)); (try (replace zb := Lib.hid (zb.out.bel hb); replace z0 := zb.out.c0; replace z1 := zb.out.c1; replace zf := zb.out.fz)); clear hb ho tok0 _t; have tok1 : True := trivial) | (go_at_call 28; have _t := tok1; (try (first | (obtain ⟨wz, hwz⟩ : ∃ wz, wz = (w6.alloc (.cells #[.int .i64 0, .slice none 0 0] 30)) := ⟨_, rfl⟩; rw [← hwz]; have hbz : Below w6.heap.size w6 wz := (by rw [hwz]; exact (Below.refl _ _).alloc (Nat.le_refl _) _); have ltz_p0 : w1.heap.size < w6.heap.size := block_lt (show w6.cell? _ = _ from p0); replace p0 := kept hbz ltz_p0 (show w6.cell? _ = _ from p0); have ltz_p1 : w1.heap.size < w6.heap.size := block_lt (show w6.cell? _ = _ from p1); replace p1 := kept hbz ltz_p1 (show w6.cell? _ = _ from p1); have ltz_p : ∀ b off, s = some ⟨b, off, none⟩ → 0 < n → b < w6.heap.size := row_lt p.out; replace p := Lib.hid (p.out.bel hbz); have ltz_r1 : ∀ b off, ar1 = some ⟨b, off, none⟩ → 0 < n → b < w6.heap.size := row_lt r1.out; replace r1 := Lib.hid (r1.out.bel hbz); have szb : w.heap.size ≤ w6.heap.size := bb.out.size; replace bb := Lib.hid (bb.out.trans (hbz.mono bb.out.size)); have zb : Box wz w6.heap.size (.int .i64 0) (.slice none 0 0) := (by rw [hwz]; exact ⟨by simp, by simp, fun o => by simp⟩); have z0 := zb.c0; have z1 := zb.c1; have zf := zb.fz; have zb := Lib.hid zb; clear hwz hbz))); (try (have kzB := block_lt z0)); (refine (hcs.out _ _ _ p.out).mono ?_); rintro e w7 ⟨⟨ac1_, cc1_, rfl, ho⟩, hb⟩; have szw7 := hb.size; have c1_ := Lib.hid ho.row; replace p0 := kept hb (block_lt p0) p0; replace p1 := kept hb (block_lt p1) p1; replace p := Lib.hid (p.out.bel hb); replace r1 := Lib.hid (r1.out.bel hb); replace bb := Lib.hid (bb.out.trans (hb.mono bb.out.size)); (try (replace zb := Lib.hid (zb.out.bel hb); replace z0 := zb.out.c0; replace z1 := zb.out.c1; replace zf := zb.out.fz)); clear hb ho tok1 _t; have tok2 : True := trivial) | (go_at_call 29; have _t := tok2; (try (first | (obtain ⟨wz, hwz⟩ : ∃ wz, wz = (w7.alloc (.cells #[.int .i64 0, .slice none 0 0] 30)) := ⟨_, rfl⟩; rw [← hwz]; have hbz : Below w7.heap.size w7 wz := (by rw [hwz]; exact (Below.refl _ _).alloc (Nat.le_refl _) _); have ltz_p0 : w1.heap.size < w7.heap.size := block_lt (show w7.cell? _ = _ from p0); replace p0 := kept hbz ltz_p0 (show w7.cell? _ = _ from p0); have ltz_p1 : w1.heap.size < w7.heap.size := block_lt (show w7.cell? _ = _ from p1); replace p1 := kept hbz ltz_p1 (show w7.cell? _ = _ from p1); have ltz_p : ∀ b off, s = some ⟨b, off, none⟩ → 0 < n → b < w7.heap.size := row_lt p.out; replace p := Lib.hid (p.out.bel hbz); have ltz_r1 : ∀ b off, ar1 = some ⟨b, off, none⟩ → 0 < n → b < w7.heap.size := row_lt r1.out; replace r1 := Lib.hid (r1.out.bel hbz); have ltz_c1_ : ∀ b off, ac1_ = some ⟨b, off, none⟩ → 0 < W → b < w7.heap.size := row_lt c1_.out; replace c1_ := Lib.hid (c1_.out.bel hbz); have szb : w.heap.size ≤ w7.heap.size := bb.out.size; replace bb := Lib.hid (bb.out.trans (hbz.mono bb.out.size)); have zb : Box wz w7.heap.size (.int .i64 0) (.slice none 0 0) := (by rw [hwz]; exact ⟨by simp, by simp, fun o => by simp⟩); have z0 := zb.c0; have z1 := zb.c1; have zf := zb.fz; have zb := Lib.hid zb; clear hwz hbz))); (try (have kzB := block_lt z0)); (refine (nt_ok rfl hct.out h0M.out hX.out lc.out lr.out _ _ _ _ _ r1.out c1_.out hn13 hW13).mono ?_); rintro e w8 ⟨⟨ax, cx, rfl, ho⟩, hb⟩; have szw8 := hb.size; have hoz := Lib.hid ho; replace p0 := kept hb (block_lt p0) p0; replace p1 := kept hb (block_lt p1) p1; replace p := Lib.hid (p.out.bel hb); replace r1 := Lib.hid (r1.out.bel hb); replace c1_ := Lib.hid (c1_.out.bel hb); replace bb := Lib.hid (bb.out.trans (hb.mono bb.out.size)); (try (replace zb := Lib.hid (zb.out.bel hb); replace z0 := zb.out.c0; replace z1 := zb.out.c1; replace zf := zb.out.fz)); clear hb ho tok2 _t; have tok3 : True := trivial))
    all_goals
      first | (have x0 := set2_c0 (u0 := .int .i64 W) (u1 := .slice ax n cx) z0; have x1 := set2_c1 (u0 := .int .i64 W) (u1 := .slice ax n cx) z1; replace p0 := set2_cell (u0 := .int .i64 W) (u1 := .slice ax n cx) p0 ltz_p0; replace p1 := set2_cell (u0 := .int .i64 W) (u1 := .slice ax n cx) p1 ltz_p1; replace p := Lib.hid (set2_old (u0 := .int .i64 W) (u1 := .slice ax n cx) p.out ltz_p); have x := Lib.hid (set2_row (u0 := .int .i64 W) (u1 := .slice ax n cx) hoz.out.row (own_far hoz.out kzB)); replace bb := Lib.hid (set2_bel (u0 := .int .i64 W) (u1 := .slice ax n cx) bb.out szb)) | (have x0 : (w8.alloc (.cells #[.int .i64 W, .slice ax n cx] 30)).cell? ⟨w8.heap.size, 0, none⟩ = some (.int .i64 W) := (by simp); have x1 : (w8.alloc (.cells #[.int .i64 W, .slice ax n cx] 30)).cell? ⟨w8.heap.size, 1, none⟩ = some (.slice ax n cx) := (by simp); replace p0 := World.cell?_alloc_some (o := .cells #[.int .i64 W, .slice ax n cx] 30) p0; replace p1 := World.cell?_alloc_some (o := .cells #[.int .i64 W, .slice ax n cx] 30) p1; replace p := Lib.hid (p.out.alloc (.cells #[.int .i64 W, .slice ax n cx] 30)); have x := Lib.hid (hoz.out.row.alloc (.cells #[.int .i64 W, .slice ax n cx] 30)); replace bb := Lib.hid (bb.out.alloc bb.out.size (.cells #[.int .i64 W, .slice ax n cx] 30)))
      go_wp2_with fail
      go_meet
      exact ⟨_, ax, cx, rfl, rfl, p0, p1, x0, x1, p, x, bb⟩
  case rest =>
    clear p0 p1 p bb
    obtain ⟨kx, ax, cx, rfl, rfl, p0, p1, x0, x1, p, x, bb⟩ := hcut
    obtain ⟨wq, hwq⟩ : ∃ W, W = wc := ⟨_, rfl⟩
    subst hwq
    obtain ⟨p_b, p_o, rfl, pc⟩ := row_at p.out (show 0 < n by omega)
    obtain ⟨x_b, x_o, rfl, xc⟩ := row_at x.out (show 0 < n by omega)
    rw [hv0.out, Nat.add_zero] at pc
    rw [hu.out, Nat.add_zero] at xc
    have hsi := Lib.hid (fun (wx : World) (h1 : Row wx (some ⟨x_b, x_o, none⟩) n X) (h2 : Row wx (some ⟨p_b, p_o, none⟩) n xs) => sameImg_any W _ _ n cx cg X xs wx h1 h2 hn6)
    rw [hd.out] at hsi
    have HP := p
    have HX := x
    cases b with
    | false =>
      have g_p0 := fun p : Bw wq => bw_cell p0 p
      have g_p1 := fun p : Bw wq => bw_cell p1 p
      have g_x0 := fun p : Bw wq => bw_cell x0 p
      have g_x1 := fun p : Bw wq => bw_cell x1 p
      have g_pc := fun p : Bw wq => bw_cell pc p
      have g_xc := fun p : Bw wq => bw_cell xc p
      have cc0 : ∀ p : Bw wq, Calls Try.prog 43 #[.agg #[.int .i64 W, .slice (some ⟨p_b, p_o, none⟩) n cg]] p.v (fun e w' => e = .returned (.bool false) ∧ ∃ q : Bw wq, w' = q.v) := fun p => bw_of (uni_ok hI.out hb0.out _ _ p.v (HP.out.bel p.h))
      replace cc0 := Lib.hid cc0
      have cc1 : ∀ p : Bw wq, Calls Try.prog 30 #[.agg #[.int .i64 W, .slice (some ⟨x_b, x_o, none⟩) n cx], .agg #[.int .i64 W, .slice (some ⟨p_b, p_o, none⟩) n cg]] p.v (fun e w' => e = .returned (.bool d) ∧ ∃ q : Bw wq, w' = q.v) := fun p => bw_of (hsi.out p.v (HX.out.bel p.h) (HP.out.bel p.h))
      replace cc1 := Lib.hid cc1
      go_wp2_with fail
      refine wp_region_bw (by kernel_rfl) (by kernel_rfl) ?_
      repeat (go_big_quiet_step (first | (with_reducible exact cc0.out _) | (with_reducible exact cc1.out _)))
      refine wpQuiet_nil ?_
      intro _ hw'
      obtain ⟨pq, rfl⟩ := hw'
      have hb := pq.h
      clear g_p0 g_p1 g_x0 g_x1 g_pc g_xc cc0 cc1
      generalize pq.v = w9 at hb ⊢
      clear pq
      have szw9 := hb.size
      replace p0 := kept hb (block_lt p0) p0
      replace p1 := kept hb (block_lt p1) p1
      replace x0 := kept hb (block_lt x0) x0
      replace x1 := kept hb (block_lt x1) x1
      replace pc := kept hb (block_lt pc) pc
      replace xc := kept hb (block_lt xc) xc
      replace p := Lib.hid (p.out.bel hb)
      replace x := Lib.hid (x.out.bel hb)
      replace bb := Lib.hid (bb.out.trans (hb.mono bb.out.size))
      clear hb
      clear HP HX
      go_wp2_with fail
      go_ret
      exact ⟨rfl, bb.out⟩
    | true =>
      have hk00 := hu1.out rfl
      have hk01 : ((k : Int) == 0) = true := by rw [beq_iff_eq]; exact hk00
      replace hk00 := Lib.hid hk00
      rw [hk01] at hsx
      subst hsx
      have g_p0 := fun p : Bw wq => bw_cell p0 p
      have g_p1 := fun p : Bw wq => bw_cell p1 p
      have g_x0 := fun p : Bw wq => bw_cell x0 p
      have g_x1 := fun p : Bw wq => bw_cell x1 p
      have g_pc := fun p : Bw wq => bw_cell pc p
      have g_xc := fun p : Bw wq => bw_cell xc p
      have cc0 : ∀ p : Bw wq, Calls Try.prog 43 #[.agg #[.int .i64 W, .slice (some ⟨p_b, p_o, none⟩) n cg]] p.v (fun e w' => e = .returned (.bool true) ∧ ∃ q : Bw wq, w' = q.v) := fun p => bw_of (uni_ok hI.out hb0.out _ _ p.v (HP.out.bel p.h))
      replace cc0 := Lib.hid cc0
      have cc1 : ∀ p : Bw wq, Calls Try.prog 30 #[.agg #[.int .i64 W, .slice (some ⟨x_b, x_o, none⟩) n cx], .agg #[.int .i64 W, .slice (some ⟨p_b, p_o, none⟩) n cg]] p.v (fun e w' => e = .returned (.bool true) ∧ ∃ q : Bw wq, w' = q.v) := fun p => bw_of (hsi.out p.v (HX.out.bel p.h) (HP.out.bel p.h))
      replace cc1 := Lib.hid cc1
      go_wp2_with fail
      refine wp_region_bw (by kernel_rfl) (by kernel_rfl) ?_
      repeat (go_big_quiet_step (first | (with_reducible exact cc0.out _) | (with_reducible exact cc1.out _)))
      refine wpQuiet_nil ?_
      intro _ hw'
      obtain ⟨pq, rfl⟩ := hw'
      have hb := pq.h
      clear g_p0 g_p1 g_x0 g_x1 g_pc g_xc cc0 cc1
      generalize pq.v = w10 at hb ⊢
      clear pq
      have szw10 := hb.size
      replace p0 := kept hb (block_lt p0) p0
      replace p1 := kept hb (block_lt p1) p1
      replace x0 := kept hb (block_lt x0) x0
      replace x1 := kept hb (block_lt x1) x1
      replace pc := kept hb (block_lt pc) pc
      replace xc := kept hb (block_lt xc) xc
      replace p := Lib.hid (p.out.bel hb)
      replace x := Lib.hid (x.out.bel hb)
      replace bb := Lib.hid (bb.out.trans (hb.mono bb.out.size))
      clear hb
      clear HP HX
      go_wp2_with fail
      go_ret
      exact ⟨rfl, bb.out⟩

set_option maxRecDepth 100000 in
theorem lifted (os : Os) (started : os.Started) (H : Type) (enc : TypeId × Value → H) :
    ReturnsInHanded {} Try.checked os 16 .any (Rows.fnRankFirstSpec.pre6 enc Try.prog Try.f16 Rows.fnRankFirstRow.domain false) (Rows.fnRankFirstSpec.post enc Try.prog Try.f16 false true false false) := by
  refine returnsInHanded_of_change (C := Try.checked) own started (by kernel_rfl) Try.func16
    (ChangeSpec.witness6 (enc := enc) (C := Try.checked) false ⟨#[], #[.slice none 0 0], []⟩ 8 (by kernel_rfl) (by kernel_rfl) (by kernel_rfl) (by kernel_rfl)) ?_
  intro W base args ds gs before hval0 hW hcnd _
  have hval : ∀ (j : Nat) t v, Try.f16.params[j]? = some t → args[j]? = some v → Value.okWide Try.prog W .any base t v := hval0
  have hW' := hW
  obtain ⟨p, q, hA0, hV, rfl, hfz, hnd⟩ := hW
  have hA : DataW.TrodAll enc Try.prog W 0 (fun _ => true) true Try.f16.params.toList args.toList ds p := hA0
  rw [Try.params16] at hA hval
  obtain ⟨v0, vs0, d0, ds0, p0, q0, hargs, rfl, rfl, h0, r0⟩ := trodAll_cons hA
  obtain ⟨rfl, rfl, rfl⟩ := trodAll_nil r0
  obtain rfl : args = #[v0] := by cases args; simp_all
  obtain ⟨rfl, rfl⟩ := trodVars_none hV
  have k0 := h0
  have lt0 : ∀ x ∈ p0, x.block < W.heap.size := by obtain ⟨m, hm⟩ := k0; exact DataW.trod_lt m _ _ _ hm
  obtain ⟨a0, len0, cap0, z0, rfl, w0, l0, m0⟩ := open_code (hval 0 22 v0 rfl rfl) h0
  clear hA0 hval0
  refine (walk a0 len0 cap0 z0 W w0 l0 m0).mono fun e W' ⟨he, bel⟩ => ?_
  subst he
  exact ⟨_, rfl, _, _, _, [], _, [], hW', trodAll_mk1 (shut_bool Try.underlying4 _), (trodAll_cons_mk (Below.trod laidOut (by kernel_rfl) (of_decide_eq_true (by kernel_rfl)) k0 bel lt0) trodAll_mk0), rfl, bel.frame _, fun h => by cases h⟩

theorem closed : joinedFacts Try.prog 16 Try.f16 Rows.fnRankFirstSpec Rows.fnRankFirstRow = true := by
  simp only [joinedFacts, Bool.and_eq_true]
  repeat' apply And.intro
  all_goals first | with_reducible exact mayEnterOk | (with_reducible rw [liftsFinalOk]; kernel_rfl) | (with_reducible rw [makeOk]; kernel_rfl) | kernel_rfl

theorem over : Rows.fnRankFirstRow.holds Try.pinned (OpenSpec.ofChange Rows.fnRankFirstSpec) :=
  OpenClaim.holds_of_wide 16 Try.f16 rfl rfl rfl rfl rfl rfl rfl ⟨rfl, rfl, rfl, rfl, rfl⟩ rfl rfl rfl rfl rfl (by kernel_rfl) Try.func16 closed
    (of_decide_eq_true (by kernel_rfl)) (by unfold Func.isWrapper; first | (rw [if_pos (by decide +kernel)]; kernel_rfl) | (rw [if_neg (by decide +kernel)]; exact ⟨rfl, rfl⟩))
    (fun os started H enc _ => lifted os started H enc)

theorem proved : Rows.FnRankFirstSaid := over
#print axioms proved
end Go.Proofs.Ytnfkafaolelkbaa.LFRankFirst

