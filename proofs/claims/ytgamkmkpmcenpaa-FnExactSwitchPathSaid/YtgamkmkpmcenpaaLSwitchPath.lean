/-
  For every two images the law on SwitchPath answers true, and nothing that was there is written; no condition.
-/
import Derived.Test.YtgamkmkpmcenpaaF
import Derived.Test.YtgamkmkpmcenpaaG
import Derived.Test.YtgamkmkpmcenpaaK
import Derived.Test.YtgamkmkpmcenpaaKl
import Derived.Test.YtgamkmkpmcenpaaWd
namespace Go.Proofs.Ytgamkmkpmcenpaa.LSwitchPath
open Go.ChangeShapes Go.WideShapes Go.ChangeAt Go.RowKit Go.Joins
def GivesT (w : World) (N : Nat) (F : List Int) (ok : Bool) (e : Ending) (w' : World) : Prop :=
  (∃ a cap, e = .returned (.tuple #[.slice a N cap, .bool ok]) ∧ OwnF w' w.heap.size a N cap F) ∧ Below w.heap.size w w'
theorem GivesP.tup {w w' : World} {L : List SwT} {ok : Bool} {e : Ending} (h : GivesP w L ok e w') : GivesT w L.length (flatS L) ok e w' := h
theorem path_all18 {V W : Int} {n m : Nat} {xs ys : List Int} (hx : xs.length = n) (hy : ys.length = m) : (pathOut V xs W ys).length ≤ 18 := by
  by_cases h : sameB V xs W ys = true
  · obtain ⟨K, rfl, rfl, rfl, hI, hJ, hs⟩ := same_im hx hy h
    rw [pathOut_yes hI h]
    exact path_18 hI hJ hs
  · rw [pathOut_no (by simpa using h)]; exact Nat.zero_le _


set_option maxRecDepth 100000 in
set_option maxHeartbeats 6000000 in
theorem walk (W0 : Int) (a0 : Option Addr) (n0 c0 : Nat) (x0 : List Int) (W1 : Int) (a1 : Option Addr) (n1 c1 : Nat) (x1 : List Int) (w : World) (h0 : Row w a0 n0 x0) (m0 : n0 ≤ 9223372036854775807) (h1 : Row w a1 n1 x1) (m1 : n1 ≤ 9223372036854775807) :
    Calls Try.prog 21 #[.agg #[.int .i64 W0, .slice a0 n0 c0], .agg #[.int .i64 W1, .slice a1 n1 c1]] w fun e w' => e = .returned (.bool true) ∧ Below w.heap.size w w' := by
  obtain ⟨R, hRe⟩ : ∃ R, flatS (pathOut W0 x0 W1 x1) = R := ⟨_, rfl⟩
  obtain ⟨N, hNe⟩ : ∃ N, (pathOut W0 x0 W1 x1).length = N := ⟨_, rfl⟩
  obtain ⟨ok, hOe⟩ : ∃ ok, sameB W0 x0 W1 x1 = ok := ⟨_, rfl⟩
  have hR : N ≤ 18 := hNe ▸ path_all18 h0.1 h1.1
  have CS : ∀ (a0 : Option Addr) (c0 : Nat) (a1 : Option Addr) (c1 : Nat) (wx : World), Row wx a0 n0 x0 → Row wx a1 n1 x1 → Calls Try.prog 39 #[.agg #[.int .i64 W0, .slice a0 n0 c0], .agg #[.int .i64 W1, .slice a1 n1 c1]] wx (GivesT wx N R ok) := by
    intro a0 c0 a1 c1 wx h0 h1; rw [← hRe, ← hNe, ← hOe]; exact (path_spec _ _ _ _ _ _ _ _ _ _ _ h0 h1 m0 m1).mono fun _ _ h => GivesP.tup h
  have DS := Lib.hid CS
  clear CS
  have CI : ∀ (a0 : Option Addr) (c0 : Nat) (a1 : Option Addr) (c1 : Nat) (wx : World), Row wx a0 n0 x0 → Row wx a1 n1 x1 → Calls Try.prog 38 #[.agg #[.int .i64 W0, .slice a0 n0 c0], .agg #[.int .i64 W1, .slice a1 n1 c1]] wx (GivesT wx N R ok) := by
    intro a0 c0 a1 c1 wx h0 h1; rw [← hRe, ← hNe, ← hOe]; exact (path_impl _ _ _ _ _ _ _ _ _ _ _ h0 h1 m0 m1).mono fun _ _ h => GivesP.tup h
  have DI := Lib.hid CI
  clear CI
  clear hRe hNe hOe
  have rg0 := rng_row h0
  have h0 := Lib.hid h0
  have rg1 := rng_row h1
  have h1 := Lib.hid h1
  have bb : Hid (Below w.heap.size w w) := Below.refl _ _
  obtain ⟨w0, hw0⟩ : ∃ w0, w0 = ((w.alloc (.cells #[.int .i64 W0, .slice a0 n0 c0] 50)).alloc (.cells #[.int .i64 W1, .slice a1 n1 c1] 50)) := ⟨_, rfl⟩
  have hb0 : Below w.heap.size w w0 := by subst hw0; exact ((Below.refl _ _).alloc (Nat.le_refl _) _).alloc (by simp) _
  have p00 : w0.cell? ⟨w.heap.size, 0, none⟩ = some (.int .i64 W0) := by subst hw0; go_simp
  have p01 : w0.cell? ⟨w.heap.size, 1, none⟩ = some (.slice a0 n0 c0) := by subst hw0; go_simp
  have p10 : w0.cell? ⟨w.heap.size + 1, 0, none⟩ = some (.int .i64 W1) := by subst hw0; go_simp
  have p11 : w0.cell? ⟨w.heap.size + 1, 1, none⟩ = some (.slice a1 n1 c1) := by subst hw0; go_simp
  have szw0 := hb0.size
  replace h0 := Lib.hid (h0.out.bel hb0)
  replace h1 := Lib.hid (h1.out.bel hb0)
  replace bb := Lib.hid (bb.out.trans (hb0.mono bb.out.size))
  clear hb0
  have l0 : w.heap.size + 1 < w0.heap.size := block_lt p10
  go_enter Try.func21, Try.ntmps21
  go_wp2_with fail
  rw [← hw0]
  clear hw0
  refine (szImage_any _ _ _ _ (1048576) _ m0 (by omega) (by omega)).mono ?_
  rintro e w1 ⟨rfl, hb⟩
  have szw1 := hb.size
  replace p00 := kept hb (block_lt p00) p00
  replace p01 := kept hb (block_lt p01) p01
  replace p10 := kept hb (block_lt p10) p10
  replace p11 := kept hb (block_lt p11) p11
  replace h0 := Lib.hid (h0.out.bel hb)
  replace h1 := Lib.hid (h1.out.bel hb)
  replace bb := Lib.hid (bb.out.trans (hb.mono bb.out.size))
  clear hb
  by_cases big0 : 1048576 < (n0 : Int)
  · rw [if_pos big0]
    go_wp2_with fail
    go_ret
    exact ⟨rfl, bb.out⟩
  rw [if_neg big0]
  go_wp2_with fail
  refine (szImage_any _ _ _ _ (1048576 - (n0 : Int)) _ m1 (by omega) (by omega)).mono ?_
  rintro e w2 ⟨rfl, hb⟩
  have szw2 := hb.size
  replace p00 := kept hb (block_lt p00) p00
  replace p01 := kept hb (block_lt p01) p01
  replace p10 := kept hb (block_lt p10) p10
  replace p11 := kept hb (block_lt p11) p11
  replace h0 := Lib.hid (h0.out.bel hb)
  replace h1 := Lib.hid (h1.out.bel hb)
  replace bb := Lib.hid (bb.out.trans (hb.mono bb.out.size))
  clear hb
  by_cases big1 : 1048576 - (n0 : Int) < (n1 : Int)
  · rw [if_pos big1]
    go_wp2_with fail
    go_ret
    exact ⟨rfl, bb.out⟩
  rw [if_neg big1]
  go_upto_region 8 with fail
  go_cut [6, 7] (fun s6 s7 wx => ∃ (aw : Option Addr) (cw : Nat), s6 = .slice aw N cw ∧ s7 = .bool ok ∧ wx.cell? ⟨w.heap.size, 0, none⟩ = some (.int .i64 W0) ∧ wx.cell? ⟨w.heap.size, 1, none⟩ = some (.slice a0 n0 c0) ∧ wx.cell? ⟨w.heap.size + 1, 0, none⟩ = some (.int .i64 W1) ∧ wx.cell? ⟨w.heap.size + 1, 1, none⟩ = some (.slice a1 n1 c1) ∧ Hid (Row wx a0 n0 x0) ∧ Hid (Row wx a1 n1 x1) ∧ Hid (RowF wx aw N R) ∧ (∀ p : Addr, aw = some p → 0 < N → 0 ≤ p.block ∧ p.block < wx.heap.size) ∧ w2.heap.size ≤ wx.heap.size ∧ Hid (Below w.heap.size w wx))
  case first =>
    have sd0 : w2.drew.heap.size = w2.heap.size := by simp
    go_wp2_with fail
    go_region_law (first | ((go_simp; go_at_call_of 47 a0; (with_reducible refine (toImage_any W0 a0 n0 c0 x0 _ (h0.out.bel ((Below.refl _ _).drew)) (by omega)).mono ?_); rintro e w3 ⟨⟨gw3, rfl, hgw3, ho⟩, hb⟩; have szw3 := hb.size; replace p00 := kept hb (block_lt (show w2.drew.cell? _ = _ from p00)) (show w2.drew.cell? _ = _ from p00); replace p01 := kept hb (block_lt (show w2.drew.cell? _ = _ from p01)) (show w2.drew.cell? _ = _ from p01); replace p10 := kept hb (block_lt (show w2.drew.cell? _ = _ from p10)) (show w2.drew.cell? _ = _ from p10); replace p11 := kept hb (block_lt (show w2.drew.cell? _ = _ from p11)) (show w2.drew.cell? _ = _ from p11); replace h0 := Lib.hid ((h0.out.bel ((Below.refl _ _).drew)).bel hb); replace h1 := Lib.hid ((h1.out.bel ((Below.refl _ _).drew)).bel hb); replace bb := Lib.hid (bb.out.drew.trans (hb.mono bb.out.drew.size)); have s0 := Lib.hid ho.row; clear hb ho hgw3)) | ((go_simp; go_at_call_of 47 a1; (with_reducible refine (toImage_any W1 a1 n1 c1 x1 _ h1.out (by omega)).mono ?_); rintro e w4 ⟨⟨gw4, rfl, hgw4, ho⟩, hb⟩; have szw4 := hb.size; replace p00 := kept hb (block_lt p00) p00; replace p01 := kept hb (block_lt p01) p01; replace p10 := kept hb (block_lt p10) p10; replace p11 := kept hb (block_lt p11) p11; replace h0 := Lib.hid (h0.out.bel hb); replace h1 := Lib.hid (h1.out.bel hb); replace s0 := Lib.hid (s0.out.bel hb); replace bb := Lib.hid (bb.out.trans (hb.mono bb.out.size)); have s1 := Lib.hid ho.row; clear hb ho hgw4)) | ((go_simp; go_at_call 39; (with_reducible refine (DS.out _ _ _ _ _ s0.out s1.out).mono ?_); rintro e w5 ⟨⟨aw, cw, rfl, ho⟩, hb⟩; have szw5 := hb.size; replace p00 := kept hb (block_lt p00) p00; replace p01 := kept hb (block_lt p01) p01; replace p10 := kept hb (block_lt p10) p10; replace p11 := kept hb (block_lt p11) p11; replace h0 := Lib.hid (h0.out.bel hb); replace h1 := Lib.hid (h1.out.bel hb); replace s0 := Lib.hid (s0.out.bel hb); replace s1 := Lib.hid (s1.out.bel hb); replace bb := Lib.hid (bb.out.trans (hb.mono bb.out.size)); have ow := Lib.hid ho.row; have rw0 := rng_ownF ho; clear hb ho)))
    all_goals (
    clear s0 s1
    go_wp2_with fail
    go_meet
    exact ⟨aw, cw, rfl, rfl, p00, p01, p10, p11, h0, h1, ow, (fun p hp _ => by have h := rw0 p hp; omega), by omega, bb⟩)
  case rest =>
    clear p00 p01 p10 p11 h0 h1 bb
    obtain ⟨aw, cw, rfl, rfl, p00, p01, p10, p11, h0, h1, ow, rw0, szwq1, bb⟩ := hcut
    obtain ⟨wq1, hwq⟩ : ∃ W, W = wc := ⟨_, rfl⟩
    subst hwq
    clear DS
    go_wp2_with fail
    refine (toImage_any W0 a0 n0 c0 x0 _ h0.out (by omega)).mono ?_
    rintro e w6 ⟨⟨gw6, rfl, hgw6, ho⟩, hb⟩
    have szw6 := hb.size
    replace p00 := kept hb (block_lt p00) p00
    replace p01 := kept hb (block_lt p01) p01
    replace p10 := kept hb (block_lt p10) p10
    replace p11 := kept hb (block_lt p11) p11
    replace h0 := Lib.hid (h0.out.bel hb)
    replace h1 := Lib.hid (h1.out.bel hb)
    replace ow := Lib.hid (ow.out.bel hb)
    replace bb := Lib.hid (bb.out.trans (hb.mono bb.out.size))
    clear hb
    have gr0 := rng_own ho
    have g0 := Lib.hid ho
    clear ho
    obtain ⟨z0, hz0⟩ : ∃ z, z = gw6 := ⟨_, rfl⟩
    rw [← hz0]
    rw [← hz0] at g0 hgw6 gr0
    clear hz0
    have hbx : Below w6.heap.size w6 (w6.alloc (.cells #[.int .i64 W0, .slice (some ⟨z0, 0, none⟩) n0 n0] 25)) := (Below.refl _ _).alloc (Nat.le_refl _) _
    replace p00 := kept hbx (block_lt p00) p00
    replace p01 := kept hbx (block_lt p01) p01
    replace p10 := kept hbx (block_lt p10) p10
    replace p11 := kept hbx (block_lt p11) p11
    replace h0 := Lib.hid (h0.out.bel hbx)
    replace h1 := Lib.hid (h1.out.bel hbx)
    replace ow := Lib.hid (ow.out.bel hbx)
    replace g0 := Lib.hid (g0.out.bel hbx)
    replace bb := Lib.hid (bb.out.trans (hbx.mono bb.out.size))
    clear hbx
    have q00 : (w6.alloc (.cells #[.int .i64 W0, .slice (some ⟨z0, 0, none⟩) n0 n0] 25)).cell? ⟨w6.heap.size, 0, none⟩ = some (.int .i64 W0) := by simp
    have q01 : (w6.alloc (.cells #[.int .i64 W0, .slice (some ⟨z0, 0, none⟩) n0 n0] 25)).cell? ⟨w6.heap.size, 1, none⟩ = some (.slice (some ⟨z0, 0, none⟩) n0 n0) := by simp
    have sa0 : (w6.alloc (.cells #[.int .i64 W0, .slice (some ⟨z0, 0, none⟩) n0 n0] 25)).heap.size = w6.heap.size + 1 := by simp
    go_wp2_with fail
    refine (toImage_any W1 a1 n1 c1 x1 _ h1.out (by omega)).mono ?_
    rintro e w7 ⟨⟨gw7, rfl, hgw7, ho⟩, hb⟩
    have szw7 : w6.heap.size + 1 ≤ w7.heap.size := by have := hb.size; simpa using this
    replace p00 := kept hb (block_lt p00) p00
    replace p01 := kept hb (block_lt p01) p01
    replace p10 := kept hb (block_lt p10) p10
    replace p11 := kept hb (block_lt p11) p11
    replace q00 := kept hb (block_lt q00) q00
    replace q01 := kept hb (block_lt q01) q01
    replace h0 := Lib.hid (h0.out.bel hb)
    replace h1 := Lib.hid (h1.out.bel hb)
    replace ow := Lib.hid (ow.out.bel hb)
    replace g0 := Lib.hid (g0.out.bel hb)
    replace bb := Lib.hid (bb.out.trans (hb.mono bb.out.size))
    clear hb
    have gr1 := rng_own ho
    have g1 := Lib.hid ho
    clear ho
    obtain ⟨z1, hz1⟩ : ∃ z, z = gw7 := ⟨_, rfl⟩
    rw [← hz1]
    rw [← hz1] at g1 hgw7 gr1
    clear hz1
    have hbx : Below w7.heap.size w7 (w7.alloc (.cells #[.int .i64 W1, .slice (some ⟨z1, 0, none⟩) n1 n1] 25)) := (Below.refl _ _).alloc (Nat.le_refl _) _
    replace p00 := kept hbx (block_lt p00) p00
    replace p01 := kept hbx (block_lt p01) p01
    replace p10 := kept hbx (block_lt p10) p10
    replace p11 := kept hbx (block_lt p11) p11
    replace q00 := kept hbx (block_lt q00) q00
    replace q01 := kept hbx (block_lt q01) q01
    replace h0 := Lib.hid (h0.out.bel hbx)
    replace h1 := Lib.hid (h1.out.bel hbx)
    replace ow := Lib.hid (ow.out.bel hbx)
    replace g0 := Lib.hid (g0.out.bel hbx)
    replace g1 := Lib.hid (g1.out.bel hbx)
    replace bb := Lib.hid (bb.out.trans (hbx.mono bb.out.size))
    clear hbx
    have q10 : (w7.alloc (.cells #[.int .i64 W1, .slice (some ⟨z1, 0, none⟩) n1 n1] 25)).cell? ⟨w7.heap.size, 0, none⟩ = some (.int .i64 W1) := by simp
    have q11 : (w7.alloc (.cells #[.int .i64 W1, .slice (some ⟨z1, 0, none⟩) n1 n1] 25)).cell? ⟨w7.heap.size, 1, none⟩ = some (.slice (some ⟨z1, 0, none⟩) n1 n1) := by simp
    have sa1 : (w7.alloc (.cells #[.int .i64 W1, .slice (some ⟨z1, 0, none⟩) n1 n1] 25)).heap.size = w7.heap.size + 1 := by simp
    go_wp2_with fail
    refine (DI.out _ _ _ _ _ g0.out.row g1.out.row).mono ?_
    rintro e w8 ⟨⟨ag, cg, rfl, ho⟩, hb⟩
    have szw8 : w7.heap.size + 1 ≤ w8.heap.size := by have := hb.size; simpa using this
    replace p00 := kept hb (block_lt p00) p00
    replace p01 := kept hb (block_lt p01) p01
    replace p10 := kept hb (block_lt p10) p10
    replace p11 := kept hb (block_lt p11) p11
    replace q00 := kept hb (block_lt q00) q00
    replace q01 := kept hb (block_lt q01) q01
    replace q10 := kept hb (block_lt q10) q10
    replace q11 := kept hb (block_lt q11) q11
    replace h0 := Lib.hid (h0.out.bel hb)
    replace h1 := Lib.hid (h1.out.bel hb)
    replace ow := Lib.hid (ow.out.bel hb)
    replace g0 := Lib.hid (g0.out.bel hb)
    replace g1 := Lib.hid (g1.out.bel hb)
    replace bb := Lib.hid (bb.out.trans (hb.mono bb.out.size))
    clear hb
    have rgo : ∀ p, ag = some p → w7.heap.size + 1 ≤ p.block ∧ p.block < w8.heap.size := fun p hp => by have := rng_ownF ho p hp; simpa using this
    have og := Lib.hid ho
    clear ho
    go_wp2_with fail
    refine (eqS_yes _ _ _ _ _ R _ og.out.row ow.out (by omega)).mono ?_
    rintro e w9 ⟨rfl, hb⟩
    have szw9 := hb.size
    replace p00 := kept hb (block_lt p00) p00
    replace p01 := kept hb (block_lt p01) p01
    replace p10 := kept hb (block_lt p10) p10
    replace p11 := kept hb (block_lt p11) p11
    replace q00 := kept hb (block_lt q00) q00
    replace q01 := kept hb (block_lt q01) q01
    replace q10 := kept hb (block_lt q10) q10
    replace q11 := kept hb (block_lt q11) q11
    replace h0 := Lib.hid (h0.out.bel hb)
    replace h1 := Lib.hid (h1.out.bel hb)
    replace ow := Lib.hid (ow.out.bel hb)
    replace g0 := Lib.hid (g0.out.bel hb)
    replace g1 := Lib.hid (g1.out.bel hb)
    replace og := Lib.hid (og.out.bel hb)
    replace bb := Lib.hid (bb.out.trans (hb.mono bb.out.size))
    clear hb
    go_wp2_with fail
    go_upto_region 14 with fail
    go_cut [58] (fun s58 wx => s58 = .bool false ∧ wx.cell? ⟨w.heap.size, 0, none⟩ = some (.int .i64 W0) ∧ wx.cell? ⟨w.heap.size, 1, none⟩ = some (.slice a0 n0 c0) ∧ wx.cell? ⟨w.heap.size + 1, 0, none⟩ = some (.int .i64 W1) ∧ wx.cell? ⟨w.heap.size + 1, 1, none⟩ = some (.slice a1 n1 c1) ∧ wx.cell? ⟨w6.heap.size, 0, none⟩ = some (.int .i64 W0) ∧ wx.cell? ⟨w6.heap.size, 1, none⟩ = some (.slice (some ⟨z0, 0, none⟩) n0 n0) ∧ wx.cell? ⟨w7.heap.size, 0, none⟩ = some (.int .i64 W1) ∧ wx.cell? ⟨w7.heap.size, 1, none⟩ = some (.slice (some ⟨z1, 0, none⟩) n1 n1) ∧ Hid (Row wx a0 n0 x0) ∧ Hid (Row wx a1 n1 x1) ∧ Hid (RowF wx aw N R) ∧ Hid (OwnI wx wq1.heap.size (some ⟨z0, 0, none⟩) n0 n0 x0) ∧ Hid (OwnI wx (w6.alloc (.cells #[.int .i64 W0, .slice (some ⟨z0, 0, none⟩) n0 n0] 25)).heap.size (some ⟨z1, 0, none⟩) n1 n1 x1) ∧ Hid (OwnF wx (w7.alloc (.cells #[.int .i64 W1, .slice (some ⟨z1, 0, none⟩) n1 n1] 25)).heap.size ag N cg R) ∧ w9.heap.size ≤ wx.heap.size ∧ Hid (Below w.heap.size w wx))
    case first =>
      have sd0 : w9.drew.heap.size = w9.heap.size := by simp
      go_wp2_with fail
      go_region_law (first | ((go_simp; go_at_call 47; (with_reducible refine (toImage_any W0 a0 n0 c0 x0 _ (h0.out.bel ((Below.refl _ _).drew)) (by omega)).mono ?_); rintro e w10 ⟨⟨gg, rfl, hgg, ho⟩, hb⟩; have szw10 := hb.size; replace p00 := kept hb (block_lt (show w9.drew.cell? _ = _ from p00)) (show w9.drew.cell? _ = _ from p00); replace p01 := kept hb (block_lt (show w9.drew.cell? _ = _ from p01)) (show w9.drew.cell? _ = _ from p01); replace p10 := kept hb (block_lt (show w9.drew.cell? _ = _ from p10)) (show w9.drew.cell? _ = _ from p10); replace p11 := kept hb (block_lt (show w9.drew.cell? _ = _ from p11)) (show w9.drew.cell? _ = _ from p11); replace q00 := kept hb (block_lt (show w9.drew.cell? _ = _ from q00)) (show w9.drew.cell? _ = _ from q00); replace q01 := kept hb (block_lt (show w9.drew.cell? _ = _ from q01)) (show w9.drew.cell? _ = _ from q01); replace q10 := kept hb (block_lt (show w9.drew.cell? _ = _ from q10)) (show w9.drew.cell? _ = _ from q10); replace q11 := kept hb (block_lt (show w9.drew.cell? _ = _ from q11)) (show w9.drew.cell? _ = _ from q11); replace h0 := Lib.hid ((h0.out.bel ((Below.refl _ _).drew)).bel hb); replace h1 := Lib.hid ((h1.out.bel ((Below.refl _ _).drew)).bel hb); replace ow := Lib.hid ((ow.out.bel ((Below.refl _ _).drew)).bel hb); replace g0 := Lib.hid ((g0.out.bel ((Below.refl _ _).drew)).bel hb); replace g1 := Lib.hid ((g1.out.bel ((Below.refl _ _).drew)).bel hb); replace og := Lib.hid ((og.out.bel ((Below.refl _ _).drew)).bel hb); replace bb := Lib.hid (bb.out.drew.trans (hb.mono bb.out.drew.size)); have t0 := Lib.hid ho.row; clear hb ho hgg)) | ((go_simp; go_at_call 48; (with_reducible refine (eqImage_yes _ _ _ _ _ _ x0 _ g0.out.row t0.out (by omega)).mono ?_); rintro e w11 ⟨rfl, hb⟩; have szw11 := hb.size; replace p00 := kept hb (block_lt p00) p00; replace p01 := kept hb (block_lt p01) p01; replace p10 := kept hb (block_lt p10) p10; replace p11 := kept hb (block_lt p11) p11; replace q00 := kept hb (block_lt q00) q00; replace q01 := kept hb (block_lt q01) q01; replace q10 := kept hb (block_lt q10) q10; replace q11 := kept hb (block_lt q11) q11; replace h0 := Lib.hid (h0.out.bel hb); replace h1 := Lib.hid (h1.out.bel hb); replace ow := Lib.hid (ow.out.bel hb); replace t0 := Lib.hid (t0.out.bel hb); replace g0 := Lib.hid (g0.out.bel hb); replace g1 := Lib.hid (g1.out.bel hb); replace og := Lib.hid (og.out.bel hb); replace bb := Lib.hid (bb.out.trans (hb.mono bb.out.size)); clear hb)))
      all_goals (
      clear t0
      go_wp2_with fail
      go_meet
      exact ⟨rfl, p00, p01, p10, p11, q00, q01, q10, q11, h0, h1, ow, g0, g1, og, by omega, bb⟩)
    case rest =>
      clear p00 p01 p10 p11 q00 q01 q10 q11 h0 h1 ow g0 g1 og bb
      obtain ⟨rfl, p00, p01, p10, p11, q00, q01, q10, q11, h0, h1, ow, g0, g1, og, szwq2, bb⟩ := hcut
      obtain ⟨wq2, hwq⟩ : ∃ W, W = wc := ⟨_, rfl⟩
      subst hwq
      go_upto_region 16 with fail
      go_cut [63] (fun s63 wx => s63 = .bool false ∧ wx.cell? ⟨w.heap.size, 0, none⟩ = some (.int .i64 W0) ∧ wx.cell? ⟨w.heap.size, 1, none⟩ = some (.slice a0 n0 c0) ∧ wx.cell? ⟨w.heap.size + 1, 0, none⟩ = some (.int .i64 W1) ∧ wx.cell? ⟨w.heap.size + 1, 1, none⟩ = some (.slice a1 n1 c1) ∧ wx.cell? ⟨w6.heap.size, 0, none⟩ = some (.int .i64 W0) ∧ wx.cell? ⟨w6.heap.size, 1, none⟩ = some (.slice (some ⟨z0, 0, none⟩) n0 n0) ∧ wx.cell? ⟨w7.heap.size, 0, none⟩ = some (.int .i64 W1) ∧ wx.cell? ⟨w7.heap.size, 1, none⟩ = some (.slice (some ⟨z1, 0, none⟩) n1 n1) ∧ Hid (Row wx a0 n0 x0) ∧ Hid (Row wx a1 n1 x1) ∧ Hid (RowF wx aw N R) ∧ Hid (OwnI wx wq1.heap.size (some ⟨z0, 0, none⟩) n0 n0 x0) ∧ Hid (OwnI wx (w6.alloc (.cells #[.int .i64 W0, .slice (some ⟨z0, 0, none⟩) n0 n0] 25)).heap.size (some ⟨z1, 0, none⟩) n1 n1 x1) ∧ Hid (OwnF wx (w7.alloc (.cells #[.int .i64 W1, .slice (some ⟨z1, 0, none⟩) n1 n1] 25)).heap.size ag N cg R) ∧ wq2.heap.size ≤ wx.heap.size ∧ Hid (Below w.heap.size w wx))
      case first =>
        have sd0 : wq2.drew.heap.size = wq2.heap.size := by simp
        go_wp2_with fail
        go_region_law (first | ((go_simp; go_at_call 47; (with_reducible refine (toImage_any W1 a1 n1 c1 x1 _ (h1.out.bel ((Below.refl _ _).drew)) (by omega)).mono ?_); rintro e w12 ⟨⟨gg, rfl, hgg, ho⟩, hb⟩; have szw12 := hb.size; replace p00 := kept hb (block_lt (show wq2.drew.cell? _ = _ from p00)) (show wq2.drew.cell? _ = _ from p00); replace p01 := kept hb (block_lt (show wq2.drew.cell? _ = _ from p01)) (show wq2.drew.cell? _ = _ from p01); replace p10 := kept hb (block_lt (show wq2.drew.cell? _ = _ from p10)) (show wq2.drew.cell? _ = _ from p10); replace p11 := kept hb (block_lt (show wq2.drew.cell? _ = _ from p11)) (show wq2.drew.cell? _ = _ from p11); replace q00 := kept hb (block_lt (show wq2.drew.cell? _ = _ from q00)) (show wq2.drew.cell? _ = _ from q00); replace q01 := kept hb (block_lt (show wq2.drew.cell? _ = _ from q01)) (show wq2.drew.cell? _ = _ from q01); replace q10 := kept hb (block_lt (show wq2.drew.cell? _ = _ from q10)) (show wq2.drew.cell? _ = _ from q10); replace q11 := kept hb (block_lt (show wq2.drew.cell? _ = _ from q11)) (show wq2.drew.cell? _ = _ from q11); replace h0 := Lib.hid ((h0.out.bel ((Below.refl _ _).drew)).bel hb); replace h1 := Lib.hid ((h1.out.bel ((Below.refl _ _).drew)).bel hb); replace ow := Lib.hid ((ow.out.bel ((Below.refl _ _).drew)).bel hb); replace g0 := Lib.hid ((g0.out.bel ((Below.refl _ _).drew)).bel hb); replace g1 := Lib.hid ((g1.out.bel ((Below.refl _ _).drew)).bel hb); replace og := Lib.hid ((og.out.bel ((Below.refl _ _).drew)).bel hb); replace bb := Lib.hid (bb.out.drew.trans (hb.mono bb.out.drew.size)); have t1 := Lib.hid ho.row; clear hb ho hgg)) | ((go_simp; go_at_call 48; (with_reducible refine (eqImage_yes _ _ _ _ _ _ x1 _ g1.out.row t1.out (by omega)).mono ?_); rintro e w13 ⟨rfl, hb⟩; have szw13 := hb.size; replace p00 := kept hb (block_lt p00) p00; replace p01 := kept hb (block_lt p01) p01; replace p10 := kept hb (block_lt p10) p10; replace p11 := kept hb (block_lt p11) p11; replace q00 := kept hb (block_lt q00) q00; replace q01 := kept hb (block_lt q01) q01; replace q10 := kept hb (block_lt q10) q10; replace q11 := kept hb (block_lt q11) q11; replace h0 := Lib.hid (h0.out.bel hb); replace h1 := Lib.hid (h1.out.bel hb); replace ow := Lib.hid (ow.out.bel hb); replace t1 := Lib.hid (t1.out.bel hb); replace g0 := Lib.hid (g0.out.bel hb); replace g1 := Lib.hid (g1.out.bel hb); replace og := Lib.hid (og.out.bel hb); replace bb := Lib.hid (bb.out.trans (hb.mono bb.out.size)); clear hb)))
        all_goals (
        clear t1
        go_wp2_with fail
        go_meet
        exact ⟨rfl, p00, p01, p10, p11, q00, q01, q10, q11, h0, h1, ow, g0, g1, og, by omega, bb⟩)
      case rest =>
        clear p00 p01 p10 p11 q00 q01 q10 q11 h0 h1 ow g0 g1 og bb
        obtain ⟨rfl, p00, p01, p10, p11, q00, q01, q10, q11, h0, h1, ow, g0, g1, og, szwq3, bb⟩ := hcut
        obtain ⟨wq3, hwq⟩ : ∃ W, W = wc := ⟨_, rfl⟩
        subst hwq
        go_wp2_with fail
        refine (markImage_own _ _ _ _ _ x0 (1) _ g0.out (by omega) (by omega) (by omega)).mono ?_
        rintro e w14 ⟨rfl, hg, ho⟩
        have p00 := hg.cell p00 (ne_rowOf gr0 (by have := block_lt p00; (try dsimp only at this ⊢); omega))
        have p01 := hg.cell p01 (ne_rowOf gr0 (by have := block_lt p01; (try dsimp only at this ⊢); omega))
        have p10 := hg.cell p10 (ne_rowOf gr0 (by have := block_lt p10; (try dsimp only at this ⊢); omega))
        have p11 := hg.cell p11 (ne_rowOf gr0 (by have := block_lt p11; (try dsimp only at this ⊢); omega))
        have q00 := hg.cell q00 (ne_rowOf gr0 (by have := block_lt q00; (try dsimp only at this ⊢); omega))
        have q01 := hg.cell q01 (ne_rowOf gr0 (by have := block_lt q01; (try dsimp only at this ⊢); omega))
        have q10 := hg.cell q10 (ne_rowOf gr0 (by have := block_lt q10; (try dsimp only at this ⊢); omega))
        have q11 := hg.cell q11 (ne_rowOf gr0 (by have := block_lt q11; (try dsimp only at this ⊢); omega))
        have h0 := Lib.hid (h0.out.apart2 hg rg0 gr0 (by omega))
        have h1 := Lib.hid (h1.out.apart2 hg rg1 gr0 (by omega))
        have ow := Lib.hid (ow.out.apart2 hg rw0 gr0 (by omega))
        have g1 := Lib.hid (g1.out.apart2 hg gr1 gr0 (by omega))
        have og := Lib.hid (og.out.apart2 hg rgo gr0 (by omega))
        have bb := Lib.hid (bel_write bb.out hg gr0 (by omega))
        have szw14 := hg.size
        clear ho hg g0
        go_wp2_with fail
        refine (markImage_own _ _ _ _ _ x1 (1 + (n0 : Int)) _ g1.out (by omega) (by omega) (by omega)).mono ?_
        rintro e w15 ⟨rfl, hg, ho⟩
        have p00 := hg.cell p00 (ne_rowOf gr1 (by have := block_lt p00; (try dsimp only at this ⊢); omega))
        have p01 := hg.cell p01 (ne_rowOf gr1 (by have := block_lt p01; (try dsimp only at this ⊢); omega))
        have p10 := hg.cell p10 (ne_rowOf gr1 (by have := block_lt p10; (try dsimp only at this ⊢); omega))
        have p11 := hg.cell p11 (ne_rowOf gr1 (by have := block_lt p11; (try dsimp only at this ⊢); omega))
        have q00 := hg.cell q00 (ne_rowOf gr1 (by have := block_lt q00; (try dsimp only at this ⊢); omega))
        have q01 := hg.cell q01 (ne_rowOf gr1 (by have := block_lt q01; (try dsimp only at this ⊢); omega))
        have q10 := hg.cell q10 (ne_rowOf gr1 (by have := block_lt q10; (try dsimp only at this ⊢); omega))
        have q11 := hg.cell q11 (ne_rowOf gr1 (by have := block_lt q11; (try dsimp only at this ⊢); omega))
        have h0 := Lib.hid (h0.out.apart2 hg rg0 gr1 (by omega))
        have h1 := Lib.hid (h1.out.apart2 hg rg1 gr1 (by omega))
        have ow := Lib.hid (ow.out.apart2 hg rw0 gr1 (by omega))
        have og := Lib.hid (og.out.apart2 hg rgo gr1 (by omega))
        have bb := Lib.hid (bel_write bb.out hg gr1 (by omega))
        have szw15 := hg.size
        clear ho hg g1
        go_wp2_with fail
        refine (eqS_yes _ _ _ _ _ R _ og.out.row ow.out (by omega)).mono ?_
        rintro e w16 ⟨rfl, hb⟩
        have szw16 := hb.size
        replace p00 := kept hb (block_lt p00) p00
        replace p01 := kept hb (block_lt p01) p01
        replace p10 := kept hb (block_lt p10) p10
        replace p11 := kept hb (block_lt p11) p11
        replace q00 := kept hb (block_lt q00) q00
        replace q01 := kept hb (block_lt q01) q01
        replace q10 := kept hb (block_lt q10) q10
        replace q11 := kept hb (block_lt q11) q11
        replace h0 := Lib.hid (h0.out.bel hb)
        replace h1 := Lib.hid (h1.out.bel hb)
        replace ow := Lib.hid (ow.out.bel hb)
        replace og := Lib.hid (og.out.bel hb)
        replace bb := Lib.hid (bb.out.trans (hb.mono bb.out.size))
        clear hb
        go_wp2_with fail
        refine (markS_own _ _ _ _ R 1 _ og.out (by omega) (by omega) (by omega)).mono ?_
        rintro e w17 ⟨rfl, hg, ho⟩
        have p00 := hg.cell p00 (ne_rowOf rgo (by have := block_lt p00; (try dsimp only at this ⊢); omega))
        have p01 := hg.cell p01 (ne_rowOf rgo (by have := block_lt p01; (try dsimp only at this ⊢); omega))
        have p10 := hg.cell p10 (ne_rowOf rgo (by have := block_lt p10; (try dsimp only at this ⊢); omega))
        have p11 := hg.cell p11 (ne_rowOf rgo (by have := block_lt p11; (try dsimp only at this ⊢); omega))
        have q00 := hg.cell q00 (ne_rowOf rgo (by have := block_lt q00; (try dsimp only at this ⊢); omega))
        have q01 := hg.cell q01 (ne_rowOf rgo (by have := block_lt q01; (try dsimp only at this ⊢); omega))
        have q10 := hg.cell q10 (ne_rowOf rgo (by have := block_lt q10; (try dsimp only at this ⊢); omega))
        have q11 := hg.cell q11 (ne_rowOf rgo (by have := block_lt q11; (try dsimp only at this ⊢); omega))
        have h0 := Lib.hid (h0.out.apart2 hg rg0 rgo (by omega))
        have h1 := Lib.hid (h1.out.apart2 hg rg1 rgo (by omega))
        have ow := Lib.hid (ow.out.apart2 hg rw0 rgo (by omega))
        have bb := Lib.hid (bel_write bb.out hg rgo (by omega))
        have szw17 := hg.size
        have og := Lib.hid ho
        clear ho hg
        go_wp2_with fail
        refine (heldS_any _ _ _ 1 _ og.out.row (by omega) (by omega) (by omega)).mono ?_
        rintro e w18 ⟨rfl, hb⟩
        have szw18 := hb.size
        replace p00 := kept hb (block_lt p00) p00
        replace p01 := kept hb (block_lt p01) p01
        replace p10 := kept hb (block_lt p10) p10
        replace p11 := kept hb (block_lt p11) p11
        replace q00 := kept hb (block_lt q00) q00
        replace q01 := kept hb (block_lt q01) q01
        replace q10 := kept hb (block_lt q10) q10
        replace q11 := kept hb (block_lt q11) q11
        replace h0 := Lib.hid (h0.out.bel hb)
        replace h1 := Lib.hid (h1.out.bel hb)
        replace ow := Lib.hid (ow.out.bel hb)
        replace og := Lib.hid (og.out.bel hb)
        replace bb := Lib.hid (bb.out.trans (hb.mono bb.out.size))
        clear hb
        go_wp2_with fail
        go_region_law (first | ((go_simp; go_at_call_of 47 a0; (with_reducible refine (toImage_any W0 a0 n0 c0 x0 _ (h0.out.bel ((Below.refl _ _).drew)) (by omega)).mono ?_); rintro e w19 ⟨⟨gw19, rfl, hgw19, ho⟩, hb⟩; have szw19 := hb.size; replace p00 := kept hb (block_lt (show w18.drew.cell? _ = _ from p00)) (show w18.drew.cell? _ = _ from p00); replace p01 := kept hb (block_lt (show w18.drew.cell? _ = _ from p01)) (show w18.drew.cell? _ = _ from p01); replace p10 := kept hb (block_lt (show w18.drew.cell? _ = _ from p10)) (show w18.drew.cell? _ = _ from p10); replace p11 := kept hb (block_lt (show w18.drew.cell? _ = _ from p11)) (show w18.drew.cell? _ = _ from p11); replace q00 := kept hb (block_lt (show w18.drew.cell? _ = _ from q00)) (show w18.drew.cell? _ = _ from q00); replace q01 := kept hb (block_lt (show w18.drew.cell? _ = _ from q01)) (show w18.drew.cell? _ = _ from q01); replace q10 := kept hb (block_lt (show w18.drew.cell? _ = _ from q10)) (show w18.drew.cell? _ = _ from q10); replace q11 := kept hb (block_lt (show w18.drew.cell? _ = _ from q11)) (show w18.drew.cell? _ = _ from q11); replace h0 := Lib.hid ((h0.out.bel ((Below.refl _ _).drew)).bel hb); replace h1 := Lib.hid ((h1.out.bel ((Below.refl _ _).drew)).bel hb); replace ow := Lib.hid ((ow.out.bel ((Below.refl _ _).drew)).bel hb); replace og := Lib.hid ((og.out.bel ((Below.refl _ _).drew)).bel hb); replace bb := Lib.hid (bb.out.drew.trans (hb.mono bb.out.drew.size)); have v0 := Lib.hid ho.row; clear hb ho hgw19)) | ((go_simp; go_at_call_of 47 a1; (with_reducible refine (toImage_any W1 a1 n1 c1 x1 _ h1.out (by omega)).mono ?_); rintro e w20 ⟨⟨gw20, rfl, hgw20, ho⟩, hb⟩; have szw20 := hb.size; replace p00 := kept hb (block_lt p00) p00; replace p01 := kept hb (block_lt p01) p01; replace p10 := kept hb (block_lt p10) p10; replace p11 := kept hb (block_lt p11) p11; replace q00 := kept hb (block_lt q00) q00; replace q01 := kept hb (block_lt q01) q01; replace q10 := kept hb (block_lt q10) q10; replace q11 := kept hb (block_lt q11) q11; replace h0 := Lib.hid (h0.out.bel hb); replace h1 := Lib.hid (h1.out.bel hb); replace ow := Lib.hid (ow.out.bel hb); replace v0 := Lib.hid (v0.out.bel hb); replace og := Lib.hid (og.out.bel hb); replace bb := Lib.hid (bb.out.trans (hb.mono bb.out.size)); have v1 := Lib.hid ho.row; clear hb ho hgw20)) | ((go_simp; go_at_call 38; (with_reducible refine (DI.out _ _ _ _ _ v0.out v1.out).mono ?_); rintro e w21 ⟨⟨ah, ch, rfl, ho⟩, hb⟩; have szw21 := hb.size; replace p00 := kept hb (block_lt p00) p00; replace p01 := kept hb (block_lt p01) p01; replace p10 := kept hb (block_lt p10) p10; replace p11 := kept hb (block_lt p11) p11; replace q00 := kept hb (block_lt q00) q00; replace q01 := kept hb (block_lt q01) q01; replace q10 := kept hb (block_lt q10) q10; replace q11 := kept hb (block_lt q11) q11; replace h0 := Lib.hid (h0.out.bel hb); replace h1 := Lib.hid (h1.out.bel hb); replace ow := Lib.hid (ow.out.bel hb); replace v0 := Lib.hid (v0.out.bel hb); replace v1 := Lib.hid (v1.out.bel hb); replace og := Lib.hid (og.out.bel hb); replace bb := Lib.hid (bb.out.trans (hb.mono bb.out.size)); have oh := Lib.hid ho.row; clear hb ho)))
        all_goals (
        clear v0 v1
        go_wp2_with fail
        refine (eqS_yes _ _ _ _ _ R _ oh.out ow.out (by omega)).mono ?_
        rintro e w22 ⟨rfl, hb⟩
        have szw22 := hb.size
        replace p00 := kept hb (block_lt p00) p00
        replace p01 := kept hb (block_lt p01) p01
        replace p10 := kept hb (block_lt p10) p10
        replace p11 := kept hb (block_lt p11) p11
        replace q00 := kept hb (block_lt q00) q00
        replace q01 := kept hb (block_lt q01) q01
        replace q10 := kept hb (block_lt q10) q10
        replace q11 := kept hb (block_lt q11) q11
        replace h0 := Lib.hid (h0.out.bel hb)
        replace h1 := Lib.hid (h1.out.bel hb)
        replace ow := Lib.hid (ow.out.bel hb)
        replace oh := Lib.hid (oh.out.bel hb)
        replace og := Lib.hid (og.out.bel hb)
        replace bb := Lib.hid (bb.out.trans (hb.mono bb.out.size))
        clear hb
        go_wp2_with fail
        refine (heldS_any _ _ _ 1 _ og.out.row (by omega) (by omega) (by omega)).mono ?_
        rintro e w23 ⟨rfl, hb⟩
        have szw23 := hb.size
        replace p00 := kept hb (block_lt p00) p00
        replace p01 := kept hb (block_lt p01) p01
        replace p10 := kept hb (block_lt p10) p10
        replace p11 := kept hb (block_lt p11) p11
        replace q00 := kept hb (block_lt q00) q00
        replace q01 := kept hb (block_lt q01) q01
        replace q10 := kept hb (block_lt q10) q10
        replace q11 := kept hb (block_lt q11) q11
        replace h0 := Lib.hid (h0.out.bel hb)
        replace h1 := Lib.hid (h1.out.bel hb)
        replace ow := Lib.hid (ow.out.bel hb)
        replace oh := Lib.hid (oh.out.bel hb)
        replace og := Lib.hid (og.out.bel hb)
        replace bb := Lib.hid (bb.out.trans (hb.mono bb.out.size))
        clear hb
        go_wp2_with fail
        go_ret
        exact ⟨rfl, bb.out⟩)

set_option maxRecDepth 100000 in
theorem lifted (os : Os) (started : os.Started) (H : Type) (enc : TypeId × Value → H) :
    ReturnsInHanded {} Try.checked os 21 .any (Rows.fnExactSwitchPathSpec.pre6 enc Try.prog Try.f21 Rows.fnExactSwitchPathRow.domain false) (Rows.fnExactSwitchPathSpec.post enc Try.prog Try.f21 false true false false) := by
  refine returnsInHanded_of_change (C := Try.checked) own started (by kernel_rfl) Try.func21
    (ChangeSpec.witness6 (enc := enc) (C := Try.checked) false ⟨#[], #[.agg #[.int .i64 0, .slice none 0 0], .agg #[.int .i64 0, .slice none 0 0]], []⟩ 8 (by kernel_rfl) (by kernel_rfl) (by kernel_rfl) (by kernel_rfl)) ?_
  intro W base args ds gs before hval0 hW hcnd _
  have hval : ∀ (j : Nat) t v, Try.f21.params[j]? = some t → args[j]? = some v → Value.okWide Try.prog W .any base t v := hval0
  have hW' := hW
  obtain ⟨p, q, hA0, hV, rfl, hfz, hnd⟩ := hW
  have hA : DataW.TrodAll enc Try.prog W 0 (fun _ => true) true Try.f21.params.toList args.toList ds p := hA0
  rw [Try.params21] at hA hval
  obtain ⟨v0, vs0, d0, ds0, p0, q0, hargs, rfl, rfl, h0, r0⟩ := trodAll_cons hA
  obtain ⟨v1, vs1, d1, ds1, p1, q1, rfl, rfl, rfl, h1, r1⟩ := trodAll_cons r0
  obtain ⟨rfl, rfl, rfl⟩ := trodAll_nil r1
  obtain rfl : args = #[v0, v1] := by cases args; simp_all
  obtain ⟨rfl, rfl⟩ := trodVars_none hV
  have k0 := h0
  have lt0 : ∀ x ∈ p0, x.block < W.heap.size := by obtain ⟨m, hm⟩ := k0; exact DataW.trod_lt m _ _ _ hm
  obtain ⟨n0, a0, len0, cap0, z0, rfl, w0, m0⟩ := open_img (hval 0 50 v0 rfl rfl) h0
  have k1 := h1
  have lt1 : ∀ x ∈ p1, x.block < W.heap.size := by obtain ⟨m, hm⟩ := k1; exact DataW.trod_lt m _ _ _ hm
  obtain ⟨n1, a1, len1, cap1, z1, rfl, w1, m1⟩ := open_img (hval 1 50 v1 rfl rfl) h1
  clear hA0 hval0
  refine (walk n0 a0 len0 cap0 z0 n1 a1 len1 cap1 z1 W w0 m0 w1 m1).mono fun e W' ⟨he, bel⟩ => ?_
  subst he
  exact ⟨_, rfl, _, _, _, [], _, [], hW', trodAll_mk1 (shut_bool Try.underlying4 _), (trodAll_cons_mk (Below.trod laidOut (by kernel_rfl) (of_decide_eq_true (by kernel_rfl)) k0 bel lt0) (trodAll_cons_mk (Below.trod laidOut (by kernel_rfl) (of_decide_eq_true (by kernel_rfl)) k1 bel lt1) trodAll_mk0)), rfl, bel.frame _, fun h => by cases h⟩

theorem closed : joinedFacts Try.prog 21 Try.f21 Rows.fnExactSwitchPathSpec Rows.fnExactSwitchPathRow = true := by
  simp only [joinedFacts, Bool.and_eq_true]
  repeat' apply And.intro
  all_goals first | with_reducible exact mayEnterOk | (with_reducible rw [liftsFinalOk]; kernel_rfl) | (with_reducible rw [makeOk]; kernel_rfl) | kernel_rfl

theorem over : Rows.fnExactSwitchPathRow.holds Try.pinned (OpenSpec.ofChange Rows.fnExactSwitchPathSpec) :=
  OpenClaim.holds_of_wide 21 Try.f21 rfl rfl rfl rfl rfl rfl rfl ⟨rfl, rfl, rfl, rfl, rfl⟩ rfl rfl rfl rfl rfl (by kernel_rfl) Try.func21 closed
    (of_decide_eq_true (by kernel_rfl)) (by unfold Func.isWrapper; first | (rw [if_pos (by decide +kernel)]; kernel_rfl) | (rw [if_neg (by decide +kernel)]; exact ⟨rfl, rfl⟩))
    (fun os started H enc _ => lifted os started H enc)

theorem proved : Rows.FnExactSwitchPathSaid := over
#print axioms proved
end Go.Proofs.Ytgamkmkpmcenpaa.LSwitchPath

