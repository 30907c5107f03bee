/-
  For every slice of bytes the law FnStepsNested answers true: a nested image is one of those that can be reached; nothing that was there is written; no condition.
-/
import Derived.Test.YtnhcknbbkmaiiaaO
import Derived.Test.YtnhcknbbkmaiiaaK
import Derived.Deep.RegionLaw
import Derived.Test.YtnhcknbbkmaiiaaNx
import Derived.Test.YtnhcknbbkmaiiaaWm
import Derived.Test.YtnhcknbbkmaiiaaMn
import Derived.Test.YtnhcknbbkmaiiaaDe
import Derived.Test.YtnhcknbbkmaiiaaEp
import Derived.Test.YtnhcknbbkmaiiaaMi
namespace Go.Proofs.Ytnhcknbbkmaiiaa.LFStepsNested
open Go.ChangeShapes Go.WideShapes Go.ChangeAt Go.RowKit Go.Joins

theorem nestB_of {xs ys : List Int} {m : Nat} (h : sumsB xs ys = true) (ly : ys.length = m) : nestB xs (m : Nat) = true := by
  simp only [sumsB, Bool.and_eq_true] at h
  unfold nestB
  rw [← ly, h.1, h.2.1, h.2.2.1]; rfl

set_option maxHeartbeats 4000000 in
set_option maxRecDepth 100000 in
theorem walk (a : Option Addr) (len cap : Nat) (zs : List Int) (w : World) (h : Bys w a len zs) (hl : len ≤ cap) (hm : cap ≤ 9223372036854775807) :
    Calls Try.prog 15 #[.slice a len cap] w fun e w' => e = .returned (.bool true) ∧ Below w.heap.size w w' := by
  by_cases hbig : 1048576 < len
  · clear h
    go_enter Try.func15, Try.ntmps15
    go_wp2_with fail
    go_ret
    exact ⟨rfl, Below.refl _ _⟩
  go_enter Try.func15, Try.ntmps15
  go_wp2_with fail
  refine (draw_DrawImageSteps a len cap zs _ h hl hm).mono ?_
  rintro e w1 ⟨V, s, n, cg, xs, rfl, hR, hn, hb1⟩
  clear h hl hm
  have bb := Lib.hid hb1
  have p := Lib.hid hR
  clear hR hb1
  have hbx : Below w1.heap.size w1 (w1.alloc (.cells #[.int .i64 V, .slice s n cg] 25)) := (Below.refl _ _).alloc (Nat.le_refl _) _
  replace p := Lib.hid (p.out.bel hbx)
  replace bb := Lib.hid (bb.out.trans (hbx.mono bb.out.size))
  clear hbx
  have p0 : (w1.alloc (.cells #[.int .i64 V, .slice s n cg] 25)).cell? ⟨w1.heap.size, 0, none⟩ = some (.int .i64 V) := by simp
  have p1 : (w1.alloc (.cells #[.int .i64 V, .slice s n cg] 25)).cell? ⟨w1.heap.size, 1, none⟩ = some (.slice s n cg) := by simp
  rcases sto_ways V p.out.1 with h1 | ⟨W, rfl, hI, h12, h1⟩
  case inl =>
    go_wp2_with fail
    refine (stp_io h1 (by omega) _ _ _ p.out).mono ?_
    rintro e w2 ⟨rfl, hb⟩
    have szw2 : w1.heap.size + 1 ≤ w2.heap.size := by have := hb.size; simpa using this
    replace p0 := kept hb (block_lt p0) p0
    replace p1 := kept hb (block_lt p1) p1
    replace p := Lib.hid (p.out.bel hb)
    replace bb := Lib.hid (bb.out.trans (hb.mono bb.out.size))
    clear hb
    go_wp2_with fail
    refine (stp_so h1 (by omega) _ _ _ p.out).mono ?_
    rintro e w3 ⟨rfl, hb⟩
    have szw3 := hb.size
    replace p0 := kept hb (block_lt p0) p0
    replace p1 := kept hb (block_lt p1) p1
    replace p := Lib.hid (p.out.bel hb)
    replace bb := Lib.hid (bb.out.trans (hb.mono bb.out.size))
    clear hb
    go_wp2_with fail
    go_ret
    exact ⟨rfl, bb.out⟩
  have hW6 := hI.w6
  have hW1 := hI.w1
  have hn1 := hI.l1
  have hn6 := hI.l6
  obtain ⟨K, hK⟩ : ∃ K, stepI xs W n = K := ⟨_, rfl⟩
  rw [hK] at h1
  have hKb := stepi_bd hI
  rw [hK] at hKb
  have hK0 : ¬ K < 0 := by omega
  have hSt := stepi_is hI
  rw [hK] at hSt
  obtain ⟨N, hN⟩ : ∃ N, n * W = N := ⟨_, rfl⟩
  have ek : (n : Int) * (W : Int) = (N : Int) := by rw [← hN, Int.natCast_mul]
  have hN12 : N ≤ 12 := by omega
  have ewN : wrap64 (N : Int) = (N : Int) := IntWalk.wrap64_in _ ⟨by omega, by omega⟩
  have ewN2 : IntKind.i64.wrap (N : Int) = (N : Int) := IntWalk.i64_in _ ⟨by omega, by omega⟩
  replace h1 := Lib.hid h1
  replace hK := Lib.hid hK
  replace hI := Lib.hid hI
  replace hSt := Lib.hid hSt
  replace hN := Lib.hid hN
  go_wp2_with fail
  refine (stp_io h1.out (by omega) _ _ _ p.out).mono ?_
  rintro e w4 ⟨rfl, hb⟩
  have szw4 : w1.heap.size + 1 ≤ w4.heap.size := by have := hb.size; simpa using this
  replace p0 := kept hb (block_lt p0) p0
  replace p1 := kept hb (block_lt p1) p1
  replace p := Lib.hid (p.out.bel hb)
  replace bb := Lib.hid (bb.out.trans (hb.mono bb.out.size))
  clear hb
  go_wp2_with fail
  refine (stp_so h1.out (by omega) _ _ _ p.out).mono ?_
  rintro e w5 ⟨rfl, hb⟩
  have szw5 := hb.size
  replace p0 := kept hb (block_lt p0) p0
  replace p1 := kept hb (block_lt p1) p1
  replace p := Lib.hid (p.out.bel hb)
  replace bb := Lib.hid (bb.out.trans (hb.mono bb.out.size))
  clear hb
  have hnb : nestB (rsL xs W n) (W : Nat) = true := nestB_of hI.out.sumsV (cs_len xs n W)
  have lr : (rsL xs W n).length = n := rs_len _ _ _
  obtain ⟨Y, hY⟩ : ∃ Y, nestL (rsL xs W n) W = Y := ⟨_, rfl⟩
  have hIY : Im W n Y := by have := nest_im hnb; rwa [hY, lr] at this
  have huY : swL (cellOf Y) W n = [] := by rw [← hY]; exact (uniq_many _).2 (many_nest hW6 lr)
  have huZ : swL (cellOf (List.replicate n 0)) W n = [] := none_uniq hW6
  have hIZ : Im W n (List.replicate n 0) := none_im hW1 hW6 hn1 hn6
  obtain ⟨f1, hf1⟩ : ∃ f, farL xs Y W n = f := ⟨_, rfl⟩
  obtain ⟨f2, hf2⟩ : ∃ f, farL xs (List.replicate n 0) W n = f := ⟨_, rfl⟩
  have g1 : K ≤ f1 := by rw [← hf1]; exact hSt.out.le _ hIY huY
  have g2 : K ≤ f2 := by rw [← hf2]; exact hSt.out.le _ hIZ huZ
  obtain ⟨R, hR0⟩ : ∃ R, rsL xs W n = R := ⟨_, rfl⟩
  have hrs := Lib.hid (fun s c wx hx => rs_ok hI.out s c wx hx)
  rw [hR0] at hnb lr hrs hY
  replace hnb := Lib.hid hnb
  replace lr := Lib.hid lr
  replace hY := Lib.hid hY
  replace hIY := Lib.hid hIY
  replace hIZ := Lib.hid hIZ
  replace hf1 := Lib.hid hf1
  replace hf2 := Lib.hid hf2
  replace hR0 := Lib.hid hR0
  clear huY huZ
  go_upto_region 8 with fail
  go_cut [6, 7] (fun s6 s7 wx => ∃ (kx : Nat) (ax : Option Addr) (cx : Nat), s6 = .pointer (some ⟨kx, 0, none⟩) ∧ s7 = .bool true ∧ wx.cell? ⟨w1.heap.size, 0, none⟩ = some (.int .i64 W) ∧ wx.cell? ⟨w1.heap.size, 1, none⟩ = some (.slice s n cg) ∧ wx.cell? ⟨kx, 0, none⟩ = some (.int .i64 W) ∧ wx.cell? ⟨kx, 1, none⟩ = some (.slice ax n cx) ∧ Hid (Row wx s n (xs)) ∧ Hid (Row wx ax n (Y)) ∧ Hid (Below w.heap.size w wx))
  case first =>
    have tok0 : True := trivial
    go_wp2_with fail
    replace p := Lib.hid (p.out.bel ((Below.refl _ _).drew))
    replace bb := Lib.hid bb.out.drew
    have lq_p0 : w1.heap.size < w5.heap.size := block_lt p0
    go_region_held3 (fun W' => W'.cell? ⟨w1.heap.size, 0, none⟩ = some (.int .i64 W) ∧ W'.cell? ⟨w1.heap.size, 1, none⟩ = some (.slice s n cg))
      (first | exact ⟨p0, p1⟩ | exact ⟨World.cell?_alloc_some p0, World.cell?_alloc_some p1⟩ | exact ⟨set2_cell p0 ltz_p0, set2_cell p1 ltz_p1⟩ | go_keep)
      (first | (go_at_call 44; have _t := tok0; (try (first | (obtain ⟨wz, hwz⟩ : ∃ wz, wz = (w5.alloc (.cells #[.int .i64 0, .slice none 0 0] 25)).drew := ⟨_, rfl⟩; rw [← hwz]; have hbz : Below w5.drew.heap.size w5.drew wz := (by rw [hwz]; exact (Below.refl _ _).alloc (Nat.le_refl _) _); have ltz_p0 : w1.heap.size < w5.heap.size := block_lt (show w5.drew.cell? _ = _ from p0); replace p0 := kept hbz ltz_p0 (show w5.drew.cell? _ = _ from p0); have ltz_p1 : w1.heap.size < w5.heap.size := block_lt (show w5.drew.cell? _ = _ from p1); replace p1 := kept hbz ltz_p1 (show w5.drew.cell? _ = _ from p1); have ltz_p : ∀ b off, s = some ⟨b, off, none⟩ → 0 < n → b < w5.heap.size := row_lt p.out; replace p := Lib.hid (p.out.bel hbz); have szb : w.heap.size ≤ w5.heap.size := bb.out.size; replace bb := Lib.hid (bb.out.trans (hbz.mono bb.out.size)); have zb : Box wz w5.heap.size (.int .i64 0) (.slice none 0 0) := (by rw [hwz]; exact ⟨by simp, by simp, fun o => by simp⟩); have z0 := zb.c0; have z1 := zb.c1; have zf := zb.fz; have zb := Lib.hid zb; clear hwz hbz) | (obtain ⟨wz, hwz⟩ : ∃ wz, wz = (w5.drew.alloc (.cells #[.int .i64 0, .slice none 0 0] 25)) := ⟨_, rfl⟩; rw [← hwz]; have hbz : Below w5.drew.heap.size w5.drew wz := (by rw [hwz]; exact (Below.refl _ _).alloc (Nat.le_refl _) _); have ltz_p0 : w1.heap.size < w5.heap.size := block_lt (show w5.drew.cell? _ = _ from p0); replace p0 := kept hbz ltz_p0 (show w5.drew.cell? _ = _ from p0); have ltz_p1 : w1.heap.size < w5.heap.size := block_lt (show w5.drew.cell? _ = _ from p1); replace p1 := kept hbz ltz_p1 (show w5.drew.cell? _ = _ from p1); have ltz_p : ∀ b off, s = some ⟨b, off, none⟩ → 0 < n → b < w5.heap.size := row_lt p.out; replace p := Lib.hid (p.out.bel hbz); have szb : w.heap.size ≤ w5.heap.size := bb.out.size; replace bb := Lib.hid (bb.out.trans (hbz.mono bb.out.size)); have zb : Box wz w5.heap.size (.int .i64 0) (.slice none 0 0) := (by rw [hwz]; exact ⟨by simp, by simp, fun o => by simp⟩); have z0 := zb.c0; have z1 := zb.c1; have zf := zb.fz; have zb := Lib.hid zb; clear hwz hbz))); (try (have kzB := block_lt z0)); (refine (hrs.out _ _ _ p.out).mono ?_); rintro e w6 ⟨⟨ar1, cr1, rfl, ho⟩, hb⟩; have szw6 := hb.size; have r1 := Lib.hid ho.row; (first | replace p0 := kept hb (block_lt p0) p0 | replace p0 := kept hb (block_lt (show w5.drew.cell? _ = _ from p0)) (show w5.drew.cell? _ = _ from p0)); (first | replace p1 := kept hb (block_lt p1) p1 | replace p1 := kept hb (block_lt (show w5.drew.cell? _ = _ from p1)) (show w5.drew.cell? _ = _ from p1)); replace p := Lib.hid (p.out.bel hb); replace bb := Lib.hid (bb.out.trans (hb.mono bb.out.size)); (try (replace zb := Lib.hid (zb.out.bel hb); replace z0 := zb.out.c0; replace z1 := zb.out.c1; replace zf := zb.out.fz)); clear hb ho tok0 _t; have tok1 : True := trivial) | (go_at_call 37; have _t := tok1; (try (first | (obtain ⟨wz, hwz⟩ : ∃ wz, wz = (w6.alloc (.cells #[.int .i64 0, .slice none 0 0] 25)) := ⟨_, rfl⟩; rw [← hwz]; have hbz : Below w6.heap.size w6 wz := (by rw [hwz]; exact (Below.refl _ _).alloc (Nat.le_refl _) _); have ltz_p0 : w1.heap.size < w6.heap.size := block_lt (show w6.cell? _ = _ from p0); replace p0 := kept hbz ltz_p0 (show w6.cell? _ = _ from p0); have ltz_p1 : w1.heap.size < w6.heap.size := block_lt (show w6.cell? _ = _ from p1); replace p1 := kept hbz ltz_p1 (show w6.cell? _ = _ from p1); have ltz_p : ∀ b off, s = some ⟨b, off, none⟩ → 0 < n → b < w6.heap.size := row_lt p.out; replace p := Lib.hid (p.out.bel hbz); have ltz_r1 : ∀ b off, ar1 = some ⟨b, off, none⟩ → 0 < n → b < w6.heap.size := row_lt r1.out; replace r1 := Lib.hid (r1.out.bel hbz); have szb : w.heap.size ≤ w6.heap.size := bb.out.size; replace bb := Lib.hid (bb.out.trans (hbz.mono bb.out.size)); have zb : Box wz w6.heap.size (.int .i64 0) (.slice none 0 0) := (by rw [hwz]; exact ⟨by simp, by simp, fun o => by simp⟩); have z0 := zb.c0; have z1 := zb.c1; have zf := zb.fz; have zb := Lib.hid zb; clear hwz hbz))); (try (have kzB := block_lt z0)); (refine (bn_ok hnb.out hY.out lr.out _ _ _ r1.out).mono ?_); rintro e w7 ⟨⟨ax, cx, rfl, ho⟩, hb⟩; have szw7 := hb.size; have hoz := Lib.hid ho; replace p0 := kept hb (block_lt p0) p0; replace p1 := kept hb (block_lt p1) p1; replace p := Lib.hid (p.out.bel hb); replace r1 := Lib.hid (r1.out.bel hb); replace bb := Lib.hid (bb.out.trans (hb.mono bb.out.size)); (try (replace zb := Lib.hid (zb.out.bel hb); replace z0 := zb.out.c0; replace z1 := zb.out.c1; replace zf := zb.out.fz)); clear hb ho tok1 _t; have tok2 : True := trivial))
    all_goals
      first | (have x0 := set2_c0 (u0 := .int .i64 W) (u1 := .slice ax n cx) z0; have x1 := set2_c1 (u0 := .int .i64 W) (u1 := .slice ax n cx) z1; replace p0 := set2_cell (u0 := .int .i64 W) (u1 := .slice ax n cx) p0 ltz_p0; replace p1 := set2_cell (u0 := .int .i64 W) (u1 := .slice ax n cx) p1 ltz_p1; replace p := Lib.hid (set2_old (u0 := .int .i64 W) (u1 := .slice ax n cx) p.out ltz_p); have x := Lib.hid (set2_row (u0 := .int .i64 W) (u1 := .slice ax n cx) hoz.out.row (own_far hoz.out kzB)); replace bb := Lib.hid (set2_bel (u0 := .int .i64 W) (u1 := .slice ax n cx) bb.out szb)) | (have x0 : (w7.alloc (.cells #[.int .i64 W, .slice ax n cx] 25)).cell? ⟨w7.heap.size, 0, none⟩ = some (.int .i64 W) := (by simp); have x1 : (w7.alloc (.cells #[.int .i64 W, .slice ax n cx] 25)).cell? ⟨w7.heap.size, 1, none⟩ = some (.slice ax n cx) := (by simp); replace p0 := World.cell?_alloc_some (o := .cells #[.int .i64 W, .slice ax n cx] 25) p0; replace p1 := World.cell?_alloc_some (o := .cells #[.int .i64 W, .slice ax n cx] 25) p1; replace p := Lib.hid (p.out.alloc (.cells #[.int .i64 W, .slice ax n cx] 25)); have x := Lib.hid (hoz.out.row.alloc (.cells #[.int .i64 W, .slice ax n cx] 25)); replace bb := Lib.hid (bb.out.alloc bb.out.size (.cells #[.int .i64 W, .slice ax n cx] 25)))
      go_wp2_with fail
      go_meet
      exact ⟨_, ax, cx, rfl, rfl, p0, p1, x0, x1, p, x, bb⟩
  case rest =>
    clear p0 p1 p bb
    obtain ⟨kx, ax, cx, rfl, rfl, p0, p1, x0, x1, p, x, bb⟩ := hcut
    obtain ⟨wq, hwq⟩ : ∃ W, W = wc := ⟨_, rfl⟩
    subst hwq
    have hmk := fun wx => run_make_row' (P := Try.prog) 23 3 (.int .i64 0) 8 Try.underlying23 infoInt rfl .i64 .i64 n (by omega) (by omega) wx
    go_upto_region 9 with fail
    have M1 := Lib.hid (mkimg1 wq (W : Int) (n := n) (by omega))
    have M2 := Lib.hid (mkimg2 wq (W : Int) (n := n) (by omega))
    go_region_held3 (fun W' => W'.cell? ⟨w1.heap.size, 0, none⟩ = some (.int .i64 W) ∧ W'.cell? ⟨w1.heap.size, 1, none⟩ = some (.slice s n cg))
      (first | go_keep) (fail)
    · go_upto_region 10 with fail
      obtain ⟨U0, g2, k2, eU, eg, ekk, hb, z0, z1, oz, hne, hge⟩ := M1.out
      rw [← eU, ← ekk, ← eg]
      clear M1 M2 eU eg ekk hmk hne hge
      have z := Lib.hid oz.row
      clear oz
      have szU0 := hb.size
      replace p0 := kept hb (block_lt p0) p0
      replace p1 := kept hb (block_lt p1) p1
      replace x0 := kept hb (block_lt x0) x0
      replace x1 := kept hb (block_lt x1) x1
      replace p := Lib.hid (p.out.bel hb)
      replace x := Lib.hid (x.out.bel hb)
      replace bb := Lib.hid (bb.out.trans (hb.mono bb.out.size))
      clear hb
      go_wp2_with fail
      refine (far_ok hI.out hIY.out hf1.out _ _ _ _ _ p.out x.out).mono ?_
      rintro e w8 ⟨rfl, hb⟩
      have szw8 := hb.size
      replace p0 := kept hb (block_lt p0) p0
      replace p1 := kept hb (block_lt p1) p1
      replace x0 := kept hb (block_lt x0) x0
      replace x1 := kept hb (block_lt x1) x1
      replace z0 := kept hb (block_lt z0) z0
      replace z1 := kept hb (block_lt z1) z1
      replace p := Lib.hid (p.out.bel hb)
      replace x := Lib.hid (x.out.bel hb)
      replace z := Lib.hid (z.out.bel hb)
      replace bb := Lib.hid (bb.out.trans (hb.mono bb.out.size))
      clear hb
      go_wp2_with fail
      refine (far_ok hI.out hIZ.out hf2.out _ _ _ _ _ p.out z.out).mono ?_
      rintro e w9 ⟨rfl, hb⟩
      have szw9 := hb.size
      replace p0 := kept hb (block_lt p0) p0
      replace p1 := kept hb (block_lt p1) p1
      replace x0 := kept hb (block_lt x0) x0
      replace x1 := kept hb (block_lt x1) x1
      replace z0 := kept hb (block_lt z0) z0
      replace z1 := kept hb (block_lt z1) z1
      replace p := Lib.hid (p.out.bel hb)
      replace x := Lib.hid (x.out.bel hb)
      replace z := Lib.hid (z.out.bel hb)
      replace bb := Lib.hid (bb.out.trans (hb.mono bb.out.size))
      clear hb
      go_wp2_with fail
      go_ret
      exact ⟨rfl, bb.out⟩
    · go_upto_region 10 with fail
      obtain ⟨U0, g2, k2, eU, eg, ekk, hb, z0, z1, oz, hne, hge⟩ := M2.out
      rw [← eU, ← eg, ← ekk]
      clear M1 M2 eU eg ekk hmk hne hge
      have z := Lib.hid oz.row
      clear oz
      have szU0 := hb.size
      replace p0 := kept hb (block_lt p0) p0
      replace p1 := kept hb (block_lt p1) p1
      replace x0 := kept hb (block_lt x0) x0
      replace x1 := kept hb (block_lt x1) x1
      replace p := Lib.hid (p.out.bel hb)
      replace x := Lib.hid (x.out.bel hb)
      replace bb := Lib.hid (bb.out.trans (hb.mono bb.out.size))
      clear hb
      go_wp2_with fail
      refine (far_ok hI.out hIY.out hf1.out _ _ _ _ _ p.out x.out).mono ?_
      rintro e w8 ⟨rfl, hb⟩
      have szw8 := hb.size
      replace p0 := kept hb (block_lt p0) p0
      replace p1 := kept hb (block_lt p1) p1
      replace x0 := kept hb (block_lt x0) x0
      replace x1 := kept hb (block_lt x1) x1
      replace z0 := kept hb (block_lt z0) z0
      replace z1 := kept hb (block_lt z1) z1
      replace p := Lib.hid (p.out.bel hb)
      replace x := Lib.hid (x.out.bel hb)
      replace z := Lib.hid (z.out.bel hb)
      replace bb := Lib.hid (bb.out.trans (hb.mono bb.out.size))
      clear hb
      go_wp2_with fail
      refine (far_ok hI.out hIZ.out hf2.out _ _ _ _ _ p.out z.out).mono ?_
      rintro e w9 ⟨rfl, hb⟩
      have szw9 := hb.size
      replace p0 := kept hb (block_lt p0) p0
      replace p1 := kept hb (block_lt p1) p1
      replace x0 := kept hb (block_lt x0) x0
      replace x1 := kept hb (block_lt x1) x1
      replace z0 := kept hb (block_lt z0) z0
      replace z1 := kept hb (block_lt z1) z1
      replace p := Lib.hid (p.out.bel hb)
      replace x := Lib.hid (x.out.bel hb)
      replace z := Lib.hid (z.out.bel hb)
      replace bb := Lib.hid (bb.out.trans (hb.mono bb.out.size))
      clear hb
      go_wp2_with fail
      go_ret
      exact ⟨rfl, bb.out⟩

set_option maxRecDepth 100000 in
theorem lifted (os : Os) (started : os.Started) (H : Type) (enc : TypeId × Value → H) :
    ReturnsInHanded {} Try.checked os 15 .any (Rows.fnStepsNestedSpec.pre6 enc Try.prog Try.f15 Rows.fnStepsNestedRow.domain false) (Rows.fnStepsNestedSpec.post enc Try.prog Try.f15 false true false false) := by
  refine returnsInHanded_of_change (C := Try.checked) own started (by kernel_rfl) Try.func15
    (ChangeSpec.witness6 (enc := enc) (C := Try.checked) false ⟨#[], #[.slice none 0 0], []⟩ 8 (by kernel_rfl) (by kernel_rfl) (by kernel_rfl) (by kernel_rfl)) ?_
  intro W base args ds gs before hval0 hW hcnd _
  have hval : ∀ (j : Nat) t v, Try.f15.params[j]? = some t → args[j]? = some v → Value.okWide Try.prog W .any base t v := hval0
  have hW' := hW
  obtain ⟨p, q, hA0, hV, rfl, hfz, hnd⟩ := hW
  have hA : DataW.TrodAll enc Try.prog W 0 (fun _ => true) true Try.f15.params.toList args.toList ds p := hA0
  rw [Try.params15] at hA hval
  obtain ⟨v0, vs0, d0, ds0, p0, q0, hargs, rfl, rfl, h0, r0⟩ := trodAll_cons hA
  obtain ⟨rfl, rfl, rfl⟩ := trodAll_nil r0
  obtain rfl : args = #[v0] := by cases args; simp_all
  obtain ⟨rfl, rfl⟩ := trodVars_none hV
  have k0 := h0
  have lt0 : ∀ x ∈ p0, x.block < W.heap.size := by obtain ⟨m, hm⟩ := k0; exact DataW.trod_lt m _ _ _ hm
  obtain ⟨a0, len0, cap0, z0, rfl, w0, l0, m0⟩ := open_code (hval 0 22 v0 rfl rfl) h0
  clear hA0 hval0
  refine (walk a0 len0 cap0 z0 W w0 l0 m0).mono fun e W' ⟨he, bel⟩ => ?_
  subst he
  exact ⟨_, rfl, _, _, _, [], _, [], hW', trodAll_mk1 (shut_bool Try.underlying4 _), (trodAll_cons_mk (Below.trod laidOut (by kernel_rfl) (of_decide_eq_true (by kernel_rfl)) k0 bel lt0) trodAll_mk0), rfl, bel.frame _, fun h => by cases h⟩

theorem closed : joinedFacts Try.prog 15 Try.f15 Rows.fnStepsNestedSpec Rows.fnStepsNestedRow = true := by
  simp only [joinedFacts, Bool.and_eq_true]
  repeat' apply And.intro
  all_goals first | with_reducible exact mayEnterOk | (with_reducible rw [liftsFinalOk]; kernel_rfl) | (with_reducible rw [makeOk]; kernel_rfl) | kernel_rfl

theorem over : Rows.fnStepsNestedRow.holds Try.pinned (OpenSpec.ofChange Rows.fnStepsNestedSpec) :=
  OpenClaim.holds_of_wide 15 Try.f15 rfl rfl rfl rfl rfl rfl rfl ⟨rfl, rfl, rfl, rfl, rfl⟩ rfl rfl rfl rfl rfl (by kernel_rfl) Try.func15 closed
    (of_decide_eq_true (by kernel_rfl)) (by unfold Func.isWrapper; first | (rw [if_pos (by decide +kernel)]; kernel_rfl) | (rw [if_neg (by decide +kernel)]; exact ⟨rfl, rfl⟩))
    (fun os started H enc _ => lifted os started H enc)

theorem proved : Rows.FnStepsNestedSaid := over
#print axioms proved
end Go.Proofs.Ytnhcknbbkmaiiaa.LFStepsNested

