/-
  For every two images the law on SwitchToward answers true, and nothing that was there is written; no condition.
-/
import Derived.Test.YtgamkmkpmcenpaaF
import Derived.Test.YtgamkmkpmcenpaaG
import Derived.Test.YtgamkmkpmcenpaaK
import Derived.Test.YtgamkmkpmcenpaaKl
import Derived.Test.YtgamkmkpmcenpaaWa
namespace Go.Proofs.Ytgamkmkpmcenpaa.LSwitchToward
open Go.ChangeShapes Go.WideShapes Go.ChangeAt Go.RowKit Go.Joins
theorem set4_grown (wr : World) (k : Nat) (u0 u1 u2 u3 : Value) : wr.grownBy ((((wr.setCell ⟨k, 0, none⟩ u0).setCell ⟨k, 1, none⟩ u1).setCell ⟨k, 2, none⟩ u2).setCell ⟨k, 3, none⟩ u3) (some k) := grown_set (grown_set (grown_set (grown_set (World.grownBy.refl _ _))))
theorem set4_cell {wr : World} {k : Nat} {p : Addr} {u0 u1 u2 u3 v : Value} (h : wr.cell? p = some v) (hn : p.block < k) : ((((wr.setCell ⟨k, 0, none⟩ u0).setCell ⟨k, 1, none⟩ u1).setCell ⟨k, 2, none⟩ u2).setCell ⟨k, 3, none⟩ u3).cell? p = some v :=
  (set4_grown wr k u0 u1 u2 u3).cell h (fun e => absurd (Option.some.inj e) (Nat.ne_of_lt hn))
theorem set4_old {wr : World} {k n : Nat} {a : Option Addr} {xs : List Int} {u0 u1 u2 u3 : Value} (h : Row wr a n xs) (hn : ∀ b off, a = some ⟨b, off, none⟩ → 0 < n → b < k) : Row ((((wr.setCell ⟨k, 0, none⟩ u0).setCell ⟨k, 1, none⟩ u1).setCell ⟨k, 2, none⟩ u2).setCell ⟨k, 3, none⟩ u3) a n xs :=
  h.apart (set4_grown wr k u0 u1 u2 u3) (fun b off e hl h => absurd (Option.some.inj h) (Nat.ne_of_lt (hn b off e hl)))
theorem set4_bel {w wr : World} {B k : Nat} {u0 u1 u2 u3 : Value} (h : Below B w wr) (hB : B ≤ k) : Below B w ((((wr.setCell ⟨k, 0, none⟩ u0).setCell ⟨k, 1, none⟩ u1).setCell ⟨k, 2, none⟩ u2).setCell ⟨k, 3, none⟩ u3) :=
  (((h.setCell hB _).setCell hB _).setCell hB _).setCell hB _
theorem fz_bel {w w' : World} {k : Nat} {v : Value} (h0 : w.cell? ⟨k, 0, none⟩ = some v) (hf : ∀ o, w.frozen? ⟨k, o, none⟩ = false) (hb : Below w.heap.size w w') : ∀ o, w'.frozen? ⟨k, o, none⟩ = false := fun o => (hb.frozen (p := ⟨k, o, none⟩) (show k < _ from block_lt h0)).trans (hf o)
theorem swv_any (t : Option SwT) : ∃ (A B C D : Int) (ok : Bool), swV t = .tuple #[.agg #[.int .i64 A, .int .i64 B, .int .i64 C, .int .i64 D], .bool ok] := by
  cases t with
  | none => exact ⟨0, 0, 0, 0, false, rfl⟩
  | some s => exact ⟨_, _, _, _, true, rfl⟩


set_option maxHeartbeats 8000000 in
theorem walk (W0 : Int) (a0 : Option Addr) (n0 c0 : Nat) (x0 : List Int) (W1 : Int) (a1 : Option Addr) (n1 c1 : Nat) (x1 : List Int) (w : World) (h0 : Row w a0 n0 x0) (m0 : n0 ≤ 9223372036854775807) (h1 : Row w a1 n1 x1) (m1 : n1 ≤ 9223372036854775807) :
    Calls Try.prog 20 #[.agg #[.int .i64 W0, .slice a0 n0 c0], .agg #[.int .i64 W1, .slice a1 n1 c1]] w fun e w' => e = .returned (.bool true) ∧ Below w.heap.size w w' := by
  obtain ⟨A, B, C, D, ok, hRe⟩ := swv_any (towOut W0 x0 W1 x1)
  have CS : ∀ (a0 : Option Addr) (c0 : Nat) (a1 : Option Addr) (c1 : Nat) (wx : World), Row wx a0 n0 x0 → Row wx a1 n1 x1 → Calls Try.prog 32 #[.agg #[.int .i64 W0, .slice a0 n0 c0], .agg #[.int .i64 W1, .slice a1 n1 c1]] wx (fun e w' => e = .returned (.tuple #[.agg #[.int .i64 A, .int .i64 B, .int .i64 C, .int .i64 D], .bool ok]) ∧ Below wx.heap.size wx w') := by
    intro a0 c0 a1 c1 wx h0 h1; rw [← hRe]; exact tow_spec _ _ _ _ _ _ _ _ _ _ _ h0 h1 m0 m1
  have DS := Lib.hid CS
  clear CS
  have CI : ∀ (a0 : Option Addr) (c0 : Nat) (a1 : Option Addr) (c1 : Nat) (wx : World), Row wx a0 n0 x0 → Row wx a1 n1 x1 → Calls Try.prog 31 #[.agg #[.int .i64 W0, .slice a0 n0 c0], .agg #[.int .i64 W1, .slice a1 n1 c1]] wx (fun e w' => e = .returned (.tuple #[.agg #[.int .i64 A, .int .i64 B, .int .i64 C, .int .i64 D], .bool ok]) ∧ Below wx.heap.size wx w') := by
    intro a0 c0 a1 c1 wx h0 h1; rw [← hRe]; exact tow_impl _ _ _ _ _ _ _ _ _ _ _ h0 h1 m0 m1
  have DI := Lib.hid CI
  clear CI
  clear hRe
  have rg0 := rng_row h0
  have h0 := Lib.hid h0
  have rg1 := rng_row h1
  have h1 := Lib.hid h1
  have bb : Hid (Below w.heap.size w w) := Below.refl _ _
  obtain ⟨w0, hw0⟩ : ∃ w0, w0 = ((w.alloc (.cells #[.int .i64 W0, .slice a0 n0 c0] 50)).alloc (.cells #[.int .i64 W1, .slice a1 n1 c1] 50)) := ⟨_, rfl⟩
  have hb0 : Below w.heap.size w w0 := by subst hw0; exact ((Below.refl _ _).alloc (Nat.le_refl _) _).alloc (by simp) _
  have p00 : w0.cell? ⟨w.heap.size, 0, none⟩ = some (.int .i64 W0) := by subst hw0; go_simp
  have p01 : w0.cell? ⟨w.heap.size, 1, none⟩ = some (.slice a0 n0 c0) := by subst hw0; go_simp
  have p10 : w0.cell? ⟨w.heap.size + 1, 0, none⟩ = some (.int .i64 W1) := by subst hw0; go_simp
  have p11 : w0.cell? ⟨w.heap.size + 1, 1, none⟩ = some (.slice a1 n1 c1) := by subst hw0; go_simp
  have szw0 := hb0.size
  replace h0 := Lib.hid (h0.out.bel hb0)
  replace h1 := Lib.hid (h1.out.bel hb0)
  replace bb := Lib.hid (bb.out.trans (hb0.mono bb.out.size))
  clear hb0
  have l0 : w.heap.size + 1 < w0.heap.size := block_lt p10
  go_enter Try.func20, Try.ntmps20
  go_wp2_with fail
  rw [← hw0]
  clear hw0
  refine (szImage_any _ _ _ _ (1048576) _ m0 (by omega) (by omega)).mono ?_
  rintro e w1 ⟨rfl, hb⟩
  have szw1 := hb.size
  replace p00 := kept hb (block_lt p00) p00
  replace p01 := kept hb (block_lt p01) p01
  replace p10 := kept hb (block_lt p10) p10
  replace p11 := kept hb (block_lt p11) p11
  replace h0 := Lib.hid (h0.out.bel hb)
  replace h1 := Lib.hid (h1.out.bel hb)
  replace bb := Lib.hid (bb.out.trans (hb.mono bb.out.size))
  clear hb
  by_cases big0 : 1048576 < (n0 : Int)
  · rw [if_pos big0]
    go_wp2_with fail
    go_ret
    exact ⟨rfl, bb.out⟩
  rw [if_neg big0]
  go_wp2_with fail
  refine (szImage_any _ _ _ _ (1048576 - (n0 : Int)) _ m1 (by omega) (by omega)).mono ?_
  rintro e w2 ⟨rfl, hb⟩
  have szw2 := hb.size
  replace p00 := kept hb (block_lt p00) p00
  replace p01 := kept hb (block_lt p01) p01
  replace p10 := kept hb (block_lt p10) p10
  replace p11 := kept hb (block_lt p11) p11
  replace h0 := Lib.hid (h0.out.bel hb)
  replace h1 := Lib.hid (h1.out.bel hb)
  replace bb := Lib.hid (bb.out.trans (hb.mono bb.out.size))
  clear hb
  by_cases big1 : 1048576 - (n0 : Int) < (n1 : Int)
  · rw [if_pos big1]
    go_wp2_with fail
    go_ret
    exact ⟨rfl, bb.out⟩
  rw [if_neg big1]
  go_upto_region 8 with fail
  go_cut [6, 7] (fun s6 s7 wx => ∃ (kx : Nat), s6 = .pointer (some ⟨kx, 0, none⟩) ∧ s7 = .bool ok ∧ wx.cell? ⟨w.heap.size, 0, none⟩ = some (.int .i64 W0) ∧ wx.cell? ⟨w.heap.size, 1, none⟩ = some (.slice a0 n0 c0) ∧ wx.cell? ⟨w.heap.size + 1, 0, none⟩ = some (.int .i64 W1) ∧ wx.cell? ⟨w.heap.size + 1, 1, none⟩ = some (.slice a1 n1 c1) ∧ wx.cell? ⟨kx, 0, none⟩ = some (.int .i64 A) ∧ wx.cell? ⟨kx, 1, none⟩ = some (.int .i64 B) ∧ wx.cell? ⟨kx, 2, none⟩ = some (.int .i64 C) ∧ wx.cell? ⟨kx, 3, none⟩ = some (.int .i64 D) ∧ Hid (Row wx a0 n0 x0) ∧ Hid (Row wx a1 n1 x1) ∧ w.heap.size + 1 < wx.heap.size ∧ Hid (Below w.heap.size w wx))
  case first =>
    have tok0 : True := trivial
    go_wp2_with fail
    replace h0 := Lib.hid (h0.out.bel ((Below.refl _ _).drew))
    replace h1 := Lib.hid (h1.out.bel ((Below.refl _ _).drew))
    replace bb := Lib.hid bb.out.drew
    go_region_held3 (fun U => U.cell? ⟨w.heap.size, 0, none⟩ = some (.int .i64 W0) ∧ U.cell? ⟨w.heap.size, 1, none⟩ = some (.slice a0 n0 c0) ∧ U.cell? ⟨w.heap.size + 1, 0, none⟩ = some (.int .i64 W1) ∧ U.cell? ⟨w.heap.size + 1, 1, none⟩ = some (.slice a1 n1 c1))
      (first | with_reducible exact ⟨p00, p01, p10, p11⟩ | with_reducible exact ⟨World.cell?_alloc_some p00, World.cell?_alloc_some p01, World.cell?_alloc_some p10, World.cell?_alloc_some p11⟩ | (have hq := lS; exact ⟨set4_cell p00 ltz_p00, set4_cell p01 ltz_p01, set4_cell p10 ltz_p10, set4_cell p11 ltz_p11⟩) | exact ⟨p00, p01, p10, p11⟩ | exact ⟨World.cell?_alloc_some p00, World.cell?_alloc_some p01, World.cell?_alloc_some p10, World.cell?_alloc_some p11⟩ | go_keep)
      (first | (go_at_call 47; have _t := tok0; (try (first | (obtain ⟨wz, hwz⟩ : ∃ wz, wz = (w2.alloc (.cells #[.int .i64 0, .int .i64 0, .int .i64 0, .int .i64 0] 37)).drew := ⟨_, rfl⟩; rw [← hwz]; have hbz : Below w2.drew.heap.size w2.drew wz := (by rw [hwz]; exact (Below.refl _ _).alloc (Nat.le_refl _) _); have ltz_p00 : w.heap.size < w2.heap.size := block_lt (show w2.drew.cell? _ = _ from p00); replace p00 := kept hbz ltz_p00 (show w2.drew.cell? _ = _ from p00); have ltz_p01 : w.heap.size < w2.heap.size := block_lt (show w2.drew.cell? _ = _ from p01); replace p01 := kept hbz ltz_p01 (show w2.drew.cell? _ = _ from p01); have ltz_p10 : w.heap.size + 1 < w2.heap.size := block_lt (show w2.drew.cell? _ = _ from p10); replace p10 := kept hbz ltz_p10 (show w2.drew.cell? _ = _ from p10); have ltz_p11 : w.heap.size + 1 < w2.heap.size := block_lt (show w2.drew.cell? _ = _ from p11); replace p11 := kept hbz ltz_p11 (show w2.drew.cell? _ = _ from p11); have ltz_h0 : ∀ b off, a0 = some ⟨b, off, none⟩ → 0 < n0 → b < w2.heap.size := row_lt h0.out; have ltz_h1 : ∀ b off, a1 = some ⟨b, off, none⟩ → 0 < n1 → b < w2.heap.size := row_lt h1.out; replace h0 := Lib.hid (h0.out.bel hbz); replace h1 := Lib.hid (h1.out.bel hbz); have szb : w.heap.size ≤ w2.heap.size := bb.out.size; replace bb := Lib.hid (bb.out.trans (hbz.mono bb.out.size)); have z0 : wz.cell? ⟨w2.heap.size, 0, none⟩ = some (.int .i64 0) := (by rw [hwz]; simp); have z1 : wz.cell? ⟨w2.heap.size, 1, none⟩ = some (.int .i64 0) := (by rw [hwz]; simp); have z2 : wz.cell? ⟨w2.heap.size, 2, none⟩ = some (.int .i64 0) := (by rw [hwz]; simp); have z3 : wz.cell? ⟨w2.heap.size, 3, none⟩ = some (.int .i64 0) := (by rw [hwz]; simp); have lS : True := trivial; have zf : ∀ o, wz.frozen? ⟨w2.heap.size, o, none⟩ = false := (by rw [hwz]; exact fun o => by simp); clear hwz hbz) | (obtain ⟨wz, hwz⟩ : ∃ wz, wz = (w2.drew.alloc (.cells #[.int .i64 0, .int .i64 0, .int .i64 0, .int .i64 0] 37)) := ⟨_, rfl⟩; rw [← hwz]; have hbz : Below w2.drew.heap.size w2.drew wz := (by rw [hwz]; exact (Below.refl _ _).alloc (Nat.le_refl _) _); have ltz_p00 : w.heap.size < w2.heap.size := block_lt (show w2.drew.cell? _ = _ from p00); replace p00 := kept hbz ltz_p00 (show w2.drew.cell? _ = _ from p00); have ltz_p01 : w.heap.size < w2.heap.size := block_lt (show w2.drew.cell? _ = _ from p01); replace p01 := kept hbz ltz_p01 (show w2.drew.cell? _ = _ from p01); have ltz_p10 : w.heap.size + 1 < w2.heap.size := block_lt (show w2.drew.cell? _ = _ from p10); replace p10 := kept hbz ltz_p10 (show w2.drew.cell? _ = _ from p10); have ltz_p11 : w.heap.size + 1 < w2.heap.size := block_lt (show w2.drew.cell? _ = _ from p11); replace p11 := kept hbz ltz_p11 (show w2.drew.cell? _ = _ from p11); have ltz_h0 : ∀ b off, a0 = some ⟨b, off, none⟩ → 0 < n0 → b < w2.heap.size := row_lt h0.out; have ltz_h1 : ∀ b off, a1 = some ⟨b, off, none⟩ → 0 < n1 → b < w2.heap.size := row_lt h1.out; replace h0 := Lib.hid (h0.out.bel hbz); replace h1 := Lib.hid (h1.out.bel hbz); have szb : w.heap.size ≤ w2.heap.size := bb.out.size; replace bb := Lib.hid (bb.out.trans (hbz.mono bb.out.size)); have z0 : wz.cell? ⟨w2.heap.size, 0, none⟩ = some (.int .i64 0) := (by rw [hwz]; simp); have z1 : wz.cell? ⟨w2.heap.size, 1, none⟩ = some (.int .i64 0) := (by rw [hwz]; simp); have z2 : wz.cell? ⟨w2.heap.size, 2, none⟩ = some (.int .i64 0) := (by rw [hwz]; simp); have z3 : wz.cell? ⟨w2.heap.size, 3, none⟩ = some (.int .i64 0) := (by rw [hwz]; simp); have lS : True := trivial; have zf : ∀ o, wz.frozen? ⟨w2.heap.size, o, none⟩ = false := (by rw [hwz]; exact fun o => by simp); clear hwz hbz))); (refine (toImage_any W0 a0 n0 c0 x0 _ h0.out (by omega)).mono ?_); rintro e w3 ⟨⟨gs0, rfl, hgs0, ho⟩, hb⟩; have szw3 := hb.size; (first | replace p00 := kept hb (block_lt p00) p00 | replace p00 := kept hb (block_lt (show w2.drew.cell? _ = _ from p00)) (show w2.drew.cell? _ = _ from p00)); (first | replace p01 := kept hb (block_lt p01) p01 | replace p01 := kept hb (block_lt (show w2.drew.cell? _ = _ from p01)) (show w2.drew.cell? _ = _ from p01)); (first | replace p10 := kept hb (block_lt p10) p10 | replace p10 := kept hb (block_lt (show w2.drew.cell? _ = _ from p10)) (show w2.drew.cell? _ = _ from p10)); (first | replace p11 := kept hb (block_lt p11) p11 | replace p11 := kept hb (block_lt (show w2.drew.cell? _ = _ from p11)) (show w2.drew.cell? _ = _ from p11)); replace h0 := Lib.hid (h0.out.bel hb); replace h1 := Lib.hid (h1.out.bel hb); replace bb := Lib.hid (bb.out.trans (hb.mono bb.out.size)); (try (replace zf := fz_bel z0 zf hb; replace z0 := kept hb (block_lt z0) z0; replace z1 := kept hb (block_lt z1) z1; replace z2 := kept hb (block_lt z2) z2; replace z3 := kept hb (block_lt z3) z3)); have s0 := Lib.hid ho.row; clear hb ho tok0 _t; have tok1 : True := trivial) | (go_at_call 47; have _t := tok1; (try (first | (obtain ⟨wz, hwz⟩ : ∃ wz, wz = (w3.alloc (.cells #[.int .i64 0, .int .i64 0, .int .i64 0, .int .i64 0] 37)) := ⟨_, rfl⟩; rw [← hwz]; have hbz : Below w3.heap.size w3 wz := (by rw [hwz]; exact (Below.refl _ _).alloc (Nat.le_refl _) _); have ltz_p00 : w.heap.size < w3.heap.size := block_lt (show w3.cell? _ = _ from p00); replace p00 := kept hbz ltz_p00 (show w3.cell? _ = _ from p00); have ltz_p01 : w.heap.size < w3.heap.size := block_lt (show w3.cell? _ = _ from p01); replace p01 := kept hbz ltz_p01 (show w3.cell? _ = _ from p01); have ltz_p10 : w.heap.size + 1 < w3.heap.size := block_lt (show w3.cell? _ = _ from p10); replace p10 := kept hbz ltz_p10 (show w3.cell? _ = _ from p10); have ltz_p11 : w.heap.size + 1 < w3.heap.size := block_lt (show w3.cell? _ = _ from p11); replace p11 := kept hbz ltz_p11 (show w3.cell? _ = _ from p11); have ltz_h0 : ∀ b off, a0 = some ⟨b, off, none⟩ → 0 < n0 → b < w3.heap.size := row_lt h0.out; have ltz_h1 : ∀ b off, a1 = some ⟨b, off, none⟩ → 0 < n1 → b < w3.heap.size := row_lt h1.out; replace h0 := Lib.hid (h0.out.bel hbz); replace h1 := Lib.hid (h1.out.bel hbz); replace s0 := Lib.hid (s0.out.bel hbz); have szb : w.heap.size ≤ w3.heap.size := bb.out.size; replace bb := Lib.hid (bb.out.trans (hbz.mono bb.out.size)); have z0 : wz.cell? ⟨w3.heap.size, 0, none⟩ = some (.int .i64 0) := (by rw [hwz]; simp); have z1 : wz.cell? ⟨w3.heap.size, 1, none⟩ = some (.int .i64 0) := (by rw [hwz]; simp); have z2 : wz.cell? ⟨w3.heap.size, 2, none⟩ = some (.int .i64 0) := (by rw [hwz]; simp); have z3 : wz.cell? ⟨w3.heap.size, 3, none⟩ = some (.int .i64 0) := (by rw [hwz]; simp); have lS : True := trivial; have zf : ∀ o, wz.frozen? ⟨w3.heap.size, o, none⟩ = false := (by rw [hwz]; exact fun o => by simp); clear hwz hbz))); (refine (toImage_any W1 a1 n1 c1 x1 _ h1.out (by omega)).mono ?_); rintro e w4 ⟨⟨gs1, rfl, hgs1, ho⟩, hb⟩; have szw4 := hb.size; replace p00 := kept hb (block_lt p00) p00; replace p01 := kept hb (block_lt p01) p01; replace p10 := kept hb (block_lt p10) p10; replace p11 := kept hb (block_lt p11) p11; replace h0 := Lib.hid (h0.out.bel hb); replace h1 := Lib.hid (h1.out.bel hb); replace s0 := Lib.hid (s0.out.bel hb); replace bb := Lib.hid (bb.out.trans (hb.mono bb.out.size)); (try (replace zf := fz_bel z0 zf hb; replace z0 := kept hb (block_lt z0) z0; replace z1 := kept hb (block_lt z1) z1; replace z2 := kept hb (block_lt z2) z2; replace z3 := kept hb (block_lt z3) z3)); have s1 := Lib.hid ho.row; clear hb ho tok1 _t; have tok2 : True := trivial) | (go_at_call 32; have _t := tok2; (try (first | (obtain ⟨wz, hwz⟩ : ∃ wz, wz = (w4.alloc (.cells #[.int .i64 0, .int .i64 0, .int .i64 0, .int .i64 0] 37)) := ⟨_, rfl⟩; rw [← hwz]; have hbz : Below w4.heap.size w4 wz := (by rw [hwz]; exact (Below.refl _ _).alloc (Nat.le_refl _) _); have ltz_p00 : w.heap.size < w4.heap.size := block_lt (show w4.cell? _ = _ from p00); replace p00 := kept hbz ltz_p00 (show w4.cell? _ = _ from p00); have ltz_p01 : w.heap.size < w4.heap.size := block_lt (show w4.cell? _ = _ from p01); replace p01 := kept hbz ltz_p01 (show w4.cell? _ = _ from p01); have ltz_p10 : w.heap.size + 1 < w4.heap.size := block_lt (show w4.cell? _ = _ from p10); replace p10 := kept hbz ltz_p10 (show w4.cell? _ = _ from p10); have ltz_p11 : w.heap.size + 1 < w4.heap.size := block_lt (show w4.cell? _ = _ from p11); replace p11 := kept hbz ltz_p11 (show w4.cell? _ = _ from p11); have ltz_h0 : ∀ b off, a0 = some ⟨b, off, none⟩ → 0 < n0 → b < w4.heap.size := row_lt h0.out; have ltz_h1 : ∀ b off, a1 = some ⟨b, off, none⟩ → 0 < n1 → b < w4.heap.size := row_lt h1.out; replace h0 := Lib.hid (h0.out.bel hbz); replace h1 := Lib.hid (h1.out.bel hbz); replace s0 := Lib.hid (s0.out.bel hbz); replace s1 := Lib.hid (s1.out.bel hbz); have szb : w.heap.size ≤ w4.heap.size := bb.out.size; replace bb := Lib.hid (bb.out.trans (hbz.mono bb.out.size)); have z0 : wz.cell? ⟨w4.heap.size, 0, none⟩ = some (.int .i64 0) := (by rw [hwz]; simp); have z1 : wz.cell? ⟨w4.heap.size, 1, none⟩ = some (.int .i64 0) := (by rw [hwz]; simp); have z2 : wz.cell? ⟨w4.heap.size, 2, none⟩ = some (.int .i64 0) := (by rw [hwz]; simp); have z3 : wz.cell? ⟨w4.heap.size, 3, none⟩ = some (.int .i64 0) := (by rw [hwz]; simp); have lS : True := trivial; have zf : ∀ o, wz.frozen? ⟨w4.heap.size, o, none⟩ = false := (by rw [hwz]; exact fun o => by simp); clear hwz hbz))); (refine (DS.out _ _ _ _ _ s0.out s1.out).mono ?_); rintro e w5 ⟨rfl, hb⟩; have szw5 := hb.size; replace p00 := kept hb (block_lt p00) p00; replace p01 := kept hb (block_lt p01) p01; replace p10 := kept hb (block_lt p10) p10; replace p11 := kept hb (block_lt p11) p11; replace h0 := Lib.hid (h0.out.bel hb); replace h1 := Lib.hid (h1.out.bel hb); replace s0 := Lib.hid (s0.out.bel hb); replace s1 := Lib.hid (s1.out.bel hb); replace bb := Lib.hid (bb.out.trans (hb.mono bb.out.size)); (try (replace zf := fz_bel z0 zf hb; replace z0 := kept hb (block_lt z0) z0; replace z1 := kept hb (block_lt z1) z1; replace z2 := kept hb (block_lt z2) z2; replace z3 := kept hb (block_lt z3) z3)); clear hb tok2 _t; have tok3 : True := trivial))
    all_goals
      go_wp2_with fail
      go_meet
      first | (have hq := lS; have hs4 := setQ4 (.int .i64 A) (.int .i64 B) (.int .i64 C) (.int .i64 D) z0 z1 z2 z3; exact ⟨_, rfl, rfl, set4_cell p00 ltz_p00, set4_cell p01 ltz_p01, set4_cell p10 ltz_p10, set4_cell p11 ltz_p11, hs4.1, hs4.2.1, hs4.2.2.1, hs4.2.2.2, Lib.hid (set4_old h0.out ltz_h0), Lib.hid (set4_old h1.out ltz_h1), block_lt (set4_cell p10 ltz_p10), Lib.hid (set4_bel bb.out szb)⟩) | exact ⟨_, rfl, rfl, World.cell?_alloc_some p00, World.cell?_alloc_some p01, World.cell?_alloc_some p10, World.cell?_alloc_some p11, by simp, by simp, by simp, by simp, Lib.hid (h0.out.alloc _), Lib.hid (h1.out.alloc _), block_lt (World.cell?_alloc_some p10), Lib.hid (bb.out.alloc bb.out.size _)⟩
  case rest =>
    clear p00 p01 p10 p11 h0 h1 bb l0
    obtain ⟨kx, rfl, rfl, p00, p01, p10, p11, e0, e1, e2, e3, h0, h1, l0, bb⟩ := hcut
    obtain ⟨wq1, hwq⟩ : ∃ W, W = wc := ⟨_, rfl⟩
    subst hwq
    clear DS
    go_wp2_with fail
    refine (toImage_any W0 a0 n0 c0 x0 _ h0.out (by omega)).mono ?_
    rintro e w6 ⟨⟨gw6, rfl, hgw6, ho⟩, hb⟩
    have szw6 := hb.size
    replace p00 := kept hb (block_lt p00) p00
    replace p01 := kept hb (block_lt p01) p01
    replace p10 := kept hb (block_lt p10) p10
    replace p11 := kept hb (block_lt p11) p11
    replace e0 := kept hb (block_lt e0) e0
    replace e1 := kept hb (block_lt e1) e1
    replace e2 := kept hb (block_lt e2) e2
    replace e3 := kept hb (block_lt e3) e3
    replace h0 := Lib.hid (h0.out.bel hb)
    replace h1 := Lib.hid (h1.out.bel hb)
    replace bb := Lib.hid (bb.out.trans (hb.mono bb.out.size))
    clear hb
    have g0 := Lib.hid ho.row
    clear ho
    obtain ⟨z0, hz0⟩ : ∃ z, z = gw6 := ⟨_, rfl⟩
    rw [← hz0]
    rw [← hz0] at g0 hgw6
    clear hz0
    have hbx : Below w6.heap.size w6 (w6.alloc (.cells #[.int .i64 W0, .slice (some ⟨z0, 0, none⟩) n0 n0] 25)) := (Below.refl _ _).alloc (Nat.le_refl _) _
    replace p00 := kept hbx (block_lt p00) p00
    replace p01 := kept hbx (block_lt p01) p01
    replace p10 := kept hbx (block_lt p10) p10
    replace p11 := kept hbx (block_lt p11) p11
    replace e0 := kept hbx (block_lt e0) e0
    replace e1 := kept hbx (block_lt e1) e1
    replace e2 := kept hbx (block_lt e2) e2
    replace e3 := kept hbx (block_lt e3) e3
    replace h0 := Lib.hid (h0.out.bel hbx)
    replace h1 := Lib.hid (h1.out.bel hbx)
    replace g0 := Lib.hid (g0.out.bel hbx)
    replace bb := Lib.hid (bb.out.trans (hbx.mono bb.out.size))
    clear hbx
    have q00 : (w6.alloc (.cells #[.int .i64 W0, .slice (some ⟨z0, 0, none⟩) n0 n0] 25)).cell? ⟨w6.heap.size, 0, none⟩ = some (.int .i64 W0) := by simp
    have q01 : (w6.alloc (.cells #[.int .i64 W0, .slice (some ⟨z0, 0, none⟩) n0 n0] 25)).cell? ⟨w6.heap.size, 1, none⟩ = some (.slice (some ⟨z0, 0, none⟩) n0 n0) := by simp
    go_wp2_with fail
    refine (toImage_any W1 a1 n1 c1 x1 _ h1.out (by omega)).mono ?_
    rintro e w7 ⟨⟨gw7, rfl, hgw7, ho⟩, hb⟩
    have szw7 : w6.heap.size + 1 ≤ w7.heap.size := by have := hb.size; simpa using this
    replace p00 := kept hb (block_lt p00) p00
    replace p01 := kept hb (block_lt p01) p01
    replace p10 := kept hb (block_lt p10) p10
    replace p11 := kept hb (block_lt p11) p11
    replace e0 := kept hb (block_lt e0) e0
    replace e1 := kept hb (block_lt e1) e1
    replace e2 := kept hb (block_lt e2) e2
    replace e3 := kept hb (block_lt e3) e3
    replace q00 := kept hb (block_lt q00) q00
    replace q01 := kept hb (block_lt q01) q01
    replace h0 := Lib.hid (h0.out.bel hb)
    replace h1 := Lib.hid (h1.out.bel hb)
    replace g0 := Lib.hid (g0.out.bel hb)
    replace bb := Lib.hid (bb.out.trans (hb.mono bb.out.size))
    clear hb
    have g1 := Lib.hid ho.row
    clear ho
    obtain ⟨z1, hz1⟩ : ∃ z, z = gw7 := ⟨_, rfl⟩
    rw [← hz1]
    rw [← hz1] at g1 hgw7
    clear hz1
    have hbx : Below w7.heap.size w7 (w7.alloc (.cells #[.int .i64 W1, .slice (some ⟨z1, 0, none⟩) n1 n1] 25)) := (Below.refl _ _).alloc (Nat.le_refl _) _
    replace p00 := kept hbx (block_lt p00) p00
    replace p01 := kept hbx (block_lt p01) p01
    replace p10 := kept hbx (block_lt p10) p10
    replace p11 := kept hbx (block_lt p11) p11
    replace e0 := kept hbx (block_lt e0) e0
    replace e1 := kept hbx (block_lt e1) e1
    replace e2 := kept hbx (block_lt e2) e2
    replace e3 := kept hbx (block_lt e3) e3
    replace q00 := kept hbx (block_lt q00) q00
    replace q01 := kept hbx (block_lt q01) q01
    replace h0 := Lib.hid (h0.out.bel hbx)
    replace h1 := Lib.hid (h1.out.bel hbx)
    replace g0 := Lib.hid (g0.out.bel hbx)
    replace g1 := Lib.hid (g1.out.bel hbx)
    replace bb := Lib.hid (bb.out.trans (hbx.mono bb.out.size))
    clear hbx
    have q10 : (w7.alloc (.cells #[.int .i64 W1, .slice (some ⟨z1, 0, none⟩) n1 n1] 25)).cell? ⟨w7.heap.size, 0, none⟩ = some (.int .i64 W1) := by simp
    have q11 : (w7.alloc (.cells #[.int .i64 W1, .slice (some ⟨z1, 0, none⟩) n1 n1] 25)).cell? ⟨w7.heap.size, 1, none⟩ = some (.slice (some ⟨z1, 0, none⟩) n1 n1) := by simp
    go_wp2_with fail
    refine (DI.out _ _ _ _ _ g0.out g1.out).mono ?_
    rintro e w8 ⟨rfl, hb⟩
    have szw8 : w7.heap.size + 1 ≤ w8.heap.size := by have := hb.size; simpa using this
    replace p00 := kept hb (block_lt p00) p00
    replace p01 := kept hb (block_lt p01) p01
    replace p10 := kept hb (block_lt p10) p10
    replace p11 := kept hb (block_lt p11) p11
    replace e0 := kept hb (block_lt e0) e0
    replace e1 := kept hb (block_lt e1) e1
    replace e2 := kept hb (block_lt e2) e2
    replace e3 := kept hb (block_lt e3) e3
    replace q00 := kept hb (block_lt q00) q00
    replace q01 := kept hb (block_lt q01) q01
    replace q10 := kept hb (block_lt q10) q10
    replace q11 := kept hb (block_lt q11) q11
    replace h0 := Lib.hid (h0.out.bel hb)
    replace h1 := Lib.hid (h1.out.bel hb)
    replace g0 := Lib.hid (g0.out.bel hb)
    replace g1 := Lib.hid (g1.out.bel hb)
    replace bb := Lib.hid (bb.out.trans (hb.mono bb.out.size))
    clear hb
    have hbx : Below w8.heap.size w8 (w8.alloc (.cells #[.int .i64 A, .int .i64 B, .int .i64 C, .int .i64 D] 37)) := (Below.refl _ _).alloc (Nat.le_refl _) _
    replace p00 := kept hbx (block_lt p00) p00
    replace p01 := kept hbx (block_lt p01) p01
    replace p10 := kept hbx (block_lt p10) p10
    replace p11 := kept hbx (block_lt p11) p11
    replace e0 := kept hbx (block_lt e0) e0
    replace e1 := kept hbx (block_lt e1) e1
    replace e2 := kept hbx (block_lt e2) e2
    replace e3 := kept hbx (block_lt e3) e3
    replace q00 := kept hbx (block_lt q00) q00
    replace q01 := kept hbx (block_lt q01) q01
    replace q10 := kept hbx (block_lt q10) q10
    replace q11 := kept hbx (block_lt q11) q11
    replace h0 := Lib.hid (h0.out.bel hbx)
    replace h1 := Lib.hid (h1.out.bel hbx)
    replace g0 := Lib.hid (g0.out.bel hbx)
    replace g1 := Lib.hid (g1.out.bel hbx)
    replace bb := Lib.hid (bb.out.trans (hbx.mono bb.out.size))
    clear hbx
    have f0 : (w8.alloc (.cells #[.int .i64 A, .int .i64 B, .int .i64 C, .int .i64 D] 37)).cell? ⟨w8.heap.size, 0, none⟩ = some (.int .i64 A) := by simp
    have f1 : (w8.alloc (.cells #[.int .i64 A, .int .i64 B, .int .i64 C, .int .i64 D] 37)).cell? ⟨w8.heap.size, 1, none⟩ = some (.int .i64 B) := by simp
    have f2 : (w8.alloc (.cells #[.int .i64 A, .int .i64 B, .int .i64 C, .int .i64 D] 37)).cell? ⟨w8.heap.size, 2, none⟩ = some (.int .i64 C) := by simp
    have f3 : (w8.alloc (.cells #[.int .i64 A, .int .i64 B, .int .i64 C, .int .i64 D] 37)).cell? ⟨w8.heap.size, 3, none⟩ = some (.int .i64 D) := by simp
    go_wp2_with fail
    refine (eqSw_yes A B C D _).mono ?_
    rintro e w9 ⟨rfl, hb⟩
    have szw9 : w8.heap.size + 1 ≤ w9.heap.size := by have := hb.size; simpa using this
    replace p00 := kept hb (block_lt p00) p00
    replace p01 := kept hb (block_lt p01) p01
    replace p10 := kept hb (block_lt p10) p10
    replace p11 := kept hb (block_lt p11) p11
    replace e0 := kept hb (block_lt e0) e0
    replace e1 := kept hb (block_lt e1) e1
    replace e2 := kept hb (block_lt e2) e2
    replace e3 := kept hb (block_lt e3) e3
    replace q00 := kept hb (block_lt q00) q00
    replace q01 := kept hb (block_lt q01) q01
    replace q10 := kept hb (block_lt q10) q10
    replace q11 := kept hb (block_lt q11) q11
    replace f0 := kept hb (block_lt f0) f0
    replace f1 := kept hb (block_lt f1) f1
    replace f2 := kept hb (block_lt f2) f2
    replace f3 := kept hb (block_lt f3) f3
    replace h0 := Lib.hid (h0.out.bel hb)
    replace h1 := Lib.hid (h1.out.bel hb)
    replace g0 := Lib.hid (g0.out.bel hb)
    replace g1 := Lib.hid (g1.out.bel hb)
    replace bb := Lib.hid (bb.out.trans (hb.mono bb.out.size))
    clear hb
    have eok : (ok != ok) = false := by cases ok <;> rfl
    go_wp2_with fail
    go_region_law (first | ((go_simp; go_at_call 47; (with_reducible refine (toImage_any W0 a0 n0 c0 x0 _ (h0.out.bel ((Below.refl _ _).drew)) (by omega)).mono ?_); rintro e w10 ⟨⟨gg, rfl, hgg, ho⟩, hb⟩; have szw10 := hb.size; replace p00 := kept hb (block_lt (show w9.drew.cell? _ = _ from p00)) (show w9.drew.cell? _ = _ from p00); replace p01 := kept hb (block_lt (show w9.drew.cell? _ = _ from p01)) (show w9.drew.cell? _ = _ from p01); replace p10 := kept hb (block_lt (show w9.drew.cell? _ = _ from p10)) (show w9.drew.cell? _ = _ from p10); replace p11 := kept hb (block_lt (show w9.drew.cell? _ = _ from p11)) (show w9.drew.cell? _ = _ from p11); replace e0 := kept hb (block_lt (show w9.drew.cell? _ = _ from e0)) (show w9.drew.cell? _ = _ from e0); replace e1 := kept hb (block_lt (show w9.drew.cell? _ = _ from e1)) (show w9.drew.cell? _ = _ from e1); replace e2 := kept hb (block_lt (show w9.drew.cell? _ = _ from e2)) (show w9.drew.cell? _ = _ from e2); replace e3 := kept hb (block_lt (show w9.drew.cell? _ = _ from e3)) (show w9.drew.cell? _ = _ from e3); replace q00 := kept hb (block_lt (show w9.drew.cell? _ = _ from q00)) (show w9.drew.cell? _ = _ from q00); replace q01 := kept hb (block_lt (show w9.drew.cell? _ = _ from q01)) (show w9.drew.cell? _ = _ from q01); replace q10 := kept hb (block_lt (show w9.drew.cell? _ = _ from q10)) (show w9.drew.cell? _ = _ from q10); replace q11 := kept hb (block_lt (show w9.drew.cell? _ = _ from q11)) (show w9.drew.cell? _ = _ from q11); replace f0 := kept hb (block_lt (show w9.drew.cell? _ = _ from f0)) (show w9.drew.cell? _ = _ from f0); replace f1 := kept hb (block_lt (show w9.drew.cell? _ = _ from f1)) (show w9.drew.cell? _ = _ from f1); replace f2 := kept hb (block_lt (show w9.drew.cell? _ = _ from f2)) (show w9.drew.cell? _ = _ from f2); replace f3 := kept hb (block_lt (show w9.drew.cell? _ = _ from f3)) (show w9.drew.cell? _ = _ from f3); replace h0 := Lib.hid ((h0.out.bel ((Below.refl _ _).drew)).bel hb); replace h1 := Lib.hid ((h1.out.bel ((Below.refl _ _).drew)).bel hb); replace g0 := Lib.hid ((g0.out.bel ((Below.refl _ _).drew)).bel hb); replace g1 := Lib.hid ((g1.out.bel ((Below.refl _ _).drew)).bel hb); replace bb := Lib.hid (bb.out.drew.trans (hb.mono bb.out.drew.size)); have t0 := Lib.hid ho.row; clear hb ho hgg)) | ((go_simp; go_at_call 48; (with_reducible refine (eqImage_yes _ _ _ _ _ _ x0 _ g0.out t0.out (by omega)).mono ?_); rintro e w11 ⟨rfl, hb⟩; have szw11 := hb.size; replace p00 := kept hb (block_lt p00) p00; replace p01 := kept hb (block_lt p01) p01; replace p10 := kept hb (block_lt p10) p10; replace p11 := kept hb (block_lt p11) p11; replace e0 := kept hb (block_lt e0) e0; replace e1 := kept hb (block_lt e1) e1; replace e2 := kept hb (block_lt e2) e2; replace e3 := kept hb (block_lt e3) e3; replace q00 := kept hb (block_lt q00) q00; replace q01 := kept hb (block_lt q01) q01; replace q10 := kept hb (block_lt q10) q10; replace q11 := kept hb (block_lt q11) q11; replace f0 := kept hb (block_lt f0) f0; replace f1 := kept hb (block_lt f1) f1; replace f2 := kept hb (block_lt f2) f2; replace f3 := kept hb (block_lt f3) f3; replace h0 := Lib.hid (h0.out.bel hb); replace h1 := Lib.hid (h1.out.bel hb); replace g0 := Lib.hid (g0.out.bel hb); replace g1 := Lib.hid (g1.out.bel hb); replace t0 := Lib.hid (t0.out.bel hb); replace bb := Lib.hid (bb.out.trans (hb.mono bb.out.size)); clear hb)))
    all_goals (
    clear t0
    go_wp2_with fail
    go_region_law (first | ((go_simp; go_at_call 47; (with_reducible refine (toImage_any W1 a1 n1 c1 x1 _ (h1.out.bel ((Below.refl _ _).drew)) (by omega)).mono ?_); rintro e w12 ⟨⟨gg, rfl, hgg, ho⟩, hb⟩; have szw12 := hb.size; replace p00 := kept hb (block_lt (show w11.drew.cell? _ = _ from p00)) (show w11.drew.cell? _ = _ from p00); replace p01 := kept hb (block_lt (show w11.drew.cell? _ = _ from p01)) (show w11.drew.cell? _ = _ from p01); replace p10 := kept hb (block_lt (show w11.drew.cell? _ = _ from p10)) (show w11.drew.cell? _ = _ from p10); replace p11 := kept hb (block_lt (show w11.drew.cell? _ = _ from p11)) (show w11.drew.cell? _ = _ from p11); replace e0 := kept hb (block_lt (show w11.drew.cell? _ = _ from e0)) (show w11.drew.cell? _ = _ from e0); replace e1 := kept hb (block_lt (show w11.drew.cell? _ = _ from e1)) (show w11.drew.cell? _ = _ from e1); replace e2 := kept hb (block_lt (show w11.drew.cell? _ = _ from e2)) (show w11.drew.cell? _ = _ from e2); replace e3 := kept hb (block_lt (show w11.drew.cell? _ = _ from e3)) (show w11.drew.cell? _ = _ from e3); replace q00 := kept hb (block_lt (show w11.drew.cell? _ = _ from q00)) (show w11.drew.cell? _ = _ from q00); replace q01 := kept hb (block_lt (show w11.drew.cell? _ = _ from q01)) (show w11.drew.cell? _ = _ from q01); replace q10 := kept hb (block_lt (show w11.drew.cell? _ = _ from q10)) (show w11.drew.cell? _ = _ from q10); replace q11 := kept hb (block_lt (show w11.drew.cell? _ = _ from q11)) (show w11.drew.cell? _ = _ from q11); replace f0 := kept hb (block_lt (show w11.drew.cell? _ = _ from f0)) (show w11.drew.cell? _ = _ from f0); replace f1 := kept hb (block_lt (show w11.drew.cell? _ = _ from f1)) (show w11.drew.cell? _ = _ from f1); replace f2 := kept hb (block_lt (show w11.drew.cell? _ = _ from f2)) (show w11.drew.cell? _ = _ from f2); replace f3 := kept hb (block_lt (show w11.drew.cell? _ = _ from f3)) (show w11.drew.cell? _ = _ from f3); replace h0 := Lib.hid ((h0.out.bel ((Below.refl _ _).drew)).bel hb); replace h1 := Lib.hid ((h1.out.bel ((Below.refl _ _).drew)).bel hb); replace g0 := Lib.hid ((g0.out.bel ((Below.refl _ _).drew)).bel hb); replace g1 := Lib.hid ((g1.out.bel ((Below.refl _ _).drew)).bel hb); replace bb := Lib.hid (bb.out.drew.trans (hb.mono bb.out.drew.size)); have t1 := Lib.hid ho.row; clear hb ho hgg)) | ((go_simp; go_at_call 48; (with_reducible refine (eqImage_yes _ _ _ _ _ _ x1 _ g1.out t1.out (by omega)).mono ?_); rintro e w13 ⟨rfl, hb⟩; have szw13 := hb.size; replace p00 := kept hb (block_lt p00) p00; replace p01 := kept hb (block_lt p01) p01; replace p10 := kept hb (block_lt p10) p10; replace p11 := kept hb (block_lt p11) p11; replace e0 := kept hb (block_lt e0) e0; replace e1 := kept hb (block_lt e1) e1; replace e2 := kept hb (block_lt e2) e2; replace e3 := kept hb (block_lt e3) e3; replace q00 := kept hb (block_lt q00) q00; replace q01 := kept hb (block_lt q01) q01; replace q10 := kept hb (block_lt q10) q10; replace q11 := kept hb (block_lt q11) q11; replace f0 := kept hb (block_lt f0) f0; replace f1 := kept hb (block_lt f1) f1; replace f2 := kept hb (block_lt f2) f2; replace f3 := kept hb (block_lt f3) f3; replace h0 := Lib.hid (h0.out.bel hb); replace h1 := Lib.hid (h1.out.bel hb); replace g0 := Lib.hid (g0.out.bel hb); replace g1 := Lib.hid (g1.out.bel hb); replace t1 := Lib.hid (t1.out.bel hb); replace bb := Lib.hid (bb.out.trans (hb.mono bb.out.size)); clear hb)))
    all_goals (
    clear t1
    go_wp2_with fail
    go_ret
    exact ⟨rfl, bb.out⟩))

set_option maxRecDepth 100000 in
theorem lifted (os : Os) (started : os.Started) (H : Type) (enc : TypeId × Value → H) :
    ReturnsInHanded {} Try.checked os 20 .any (Rows.fnExactSwitchTowardSpec.pre6 enc Try.prog Try.f20 Rows.fnExactSwitchTowardRow.domain false) (Rows.fnExactSwitchTowardSpec.post enc Try.prog Try.f20 false true false false) := by
  refine returnsInHanded_of_change (C := Try.checked) own started (by kernel_rfl) Try.func20
    (ChangeSpec.witness6 (enc := enc) (C := Try.checked) false ⟨#[], #[.agg #[.int .i64 0, .slice none 0 0], .agg #[.int .i64 0, .slice none 0 0]], []⟩ 8 (by kernel_rfl) (by kernel_rfl) (by kernel_rfl) (by kernel_rfl)) ?_
  intro W base args ds gs before hval0 hW hcnd _
  have hval : ∀ (j : Nat) t v, Try.f20.params[j]? = some t → args[j]? = some v → Value.okWide Try.prog W .any base t v := hval0
  have hW' := hW
  obtain ⟨p, q, hA0, hV, rfl, hfz, hnd⟩ := hW
  have hA : DataW.TrodAll enc Try.prog W 0 (fun _ => true) true Try.f20.params.toList args.toList ds p := hA0
  rw [Try.params20] at hA hval
  obtain ⟨v0, vs0, d0, ds0, p0, q0, hargs, rfl, rfl, h0, r0⟩ := trodAll_cons hA
  obtain ⟨v1, vs1, d1, ds1, p1, q1, rfl, rfl, rfl, h1, r1⟩ := trodAll_cons r0
  obtain ⟨rfl, rfl, rfl⟩ := trodAll_nil r1
  obtain rfl : args = #[v0, v1] := by cases args; simp_all
  obtain ⟨rfl, rfl⟩ := trodVars_none hV
  have k0 := h0
  have lt0 : ∀ x ∈ p0, x.block < W.heap.size := by obtain ⟨m, hm⟩ := k0; exact DataW.trod_lt m _ _ _ hm
  obtain ⟨n0, a0, len0, cap0, z0, rfl, w0, m0⟩ := open_img (hval 0 50 v0 rfl rfl) h0
  have k1 := h1
  have lt1 : ∀ x ∈ p1, x.block < W.heap.size := by obtain ⟨m, hm⟩ := k1; exact DataW.trod_lt m _ _ _ hm
  obtain ⟨n1, a1, len1, cap1, z1, rfl, w1, m1⟩ := open_img (hval 1 50 v1 rfl rfl) h1
  clear hA0 hval0
  refine (walk n0 a0 len0 cap0 z0 n1 a1 len1 cap1 z1 W w0 m0 w1 m1).mono fun e W' ⟨he, bel⟩ => ?_
  subst he
  exact ⟨_, rfl, _, _, _, [], _, [], hW', trodAll_mk1 (shut_bool Try.underlying4 _), (trodAll_cons_mk (Below.trod laidOut (by kernel_rfl) (of_decide_eq_true (by kernel_rfl)) k0 bel lt0) (trodAll_cons_mk (Below.trod laidOut (by kernel_rfl) (of_decide_eq_true (by kernel_rfl)) k1 bel lt1) trodAll_mk0)), rfl, bel.frame _, fun h => by cases h⟩

theorem closed : joinedFacts Try.prog 20 Try.f20 Rows.fnExactSwitchTowardSpec Rows.fnExactSwitchTowardRow = true := by
  simp only [joinedFacts, Bool.and_eq_true]
  repeat' apply And.intro
  all_goals first | with_reducible exact mayEnterOk | (with_reducible rw [liftsFinalOk]; kernel_rfl) | (with_reducible rw [makeOk]; kernel_rfl) | kernel_rfl

theorem over : Rows.fnExactSwitchTowardRow.holds Try.pinned (OpenSpec.ofChange Rows.fnExactSwitchTowardSpec) :=
  OpenClaim.holds_of_wide 20 Try.f20 rfl rfl rfl rfl rfl rfl rfl ⟨rfl, rfl, rfl, rfl, rfl⟩ rfl rfl rfl rfl rfl (by kernel_rfl) Try.func20 closed
    (of_decide_eq_true (by kernel_rfl)) (by unfold Func.isWrapper; first | (rw [if_pos (by decide +kernel)]; kernel_rfl) | (rw [if_neg (by decide +kernel)]; exact ⟨rfl, rfl⟩))
    (fun os started H enc _ => lifted os started H enc)

theorem proved : Rows.FnExactSwitchTowardSaid := over
#print axioms proved
end Go.Proofs.Ytgamkmkpmcenpaa.LSwitchToward

