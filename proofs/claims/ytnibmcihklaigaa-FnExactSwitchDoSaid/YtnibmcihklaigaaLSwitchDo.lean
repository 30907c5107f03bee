/-
  For every image and every switch the law on SwitchDo answers true, and nothing that was there is written; no condition.
-/
import Derived.Test.YtnibmcihklaigaaF
import Derived.Test.YtnibmcihklaigaaG
import Derived.Test.YtnibmcihklaigaaKk
import Derived.Test.YtnibmcihklaigaaRa
import Derived.Test.YtnibmcihklaigaaK
import Derived.Deep.DeepCutAuto
namespace Go.Proofs.Ytnibmcihklaigaa.LSwitchDo
set_option maxRecDepth 100000
open Go.ChangeShapes Go.WideShapes Go.ChangeAt Go.RowKit Go.Joins

theorem held4_2 {V W W' : World} {p0 p1 p2 p3 : Addr} {u0 u1 u2 u3 : Value} {a0 : Option Addr} {n0 : Nat} {x0 : List Int} {a1 : Option Addr} {n1 : Nat} {x1 : List Int} (h : W.cell? p0 = some u0 ∧ W.cell? p1 = some u1 ∧ W.cell? p2 = some u2 ∧ W.cell? p3 = some u3 ∧ Row W a0 n0 x0 ∧ Row W a1 n1 x1 ∧ Below V.heap.size V W) (hb : Below W.heap.size W W') : W'.cell? p0 = some u0 ∧ W'.cell? p1 = some u1 ∧ W'.cell? p2 = some u2 ∧ W'.cell? p3 = some u3 ∧ Row W' a0 n0 x0 ∧ Row W' a1 n1 x1 ∧ Below V.heap.size V W' := by
  obtain ⟨h0, h1, h2, h3, r0, r1, b⟩ := h
  exact ⟨kept hb (block_lt h0) h0, kept hb (block_lt h1) h1, kept hb (block_lt h2) h2, kept hb (block_lt h3) h3, r0.bel hb, r1.bel hb, b.trans (hb.mono b.size)⟩

theorem ne_box {a : Option Addr} {k : Nat} (h : ∀ p, a = some p → p.block ≠ k) : some k ≠ rowOf a := by
  cases a with
  | none => intro e; cases e
  | some p => intro e; exact h p rfl (Option.some.inj e).symm
theorem do_len {W : Int} {xs : List Int} {A B C D : Int} : (doOut W xs A B C D).xs.length ≤ xs.length := by
  unfold doOut
  split
  · show (flL _ _ _ _ _ _ _).length ≤ _
    rw [fll_len]
    exact Nat.le_refl _
  · simp [Out.no]
theorem set2_ownB {wr : World} {B k n c : Nat} {a : Option Addr} {xs : List Int} {u0 u1 : Value} (h : OwnI wr B a n c xs) (hk : k < B) : OwnI ((wr.setCell ⟨k, 0, none⟩ u0).setCell ⟨k, 1, none⟩ u1) B a n c xs :=
  (h.store (p := ⟨k, 0, none⟩) hk _).store (p := ⟨k, 1, none⟩) hk _
theorem set2_ownL {wr : World} {B k n c : Nat} {a : Option Addr} {xs : List Int} {u0 u1 : Value} (h : OwnI wr B a n c xs) (hk : ∀ p, a = some p → p.block < k) : OwnI ((wr.setCell ⟨k, 0, none⟩ u0).setCell ⟨k, 1, none⟩ u1) B a n c xs := by
  refine World.ownsRow.kept h (set2_grown wr k u0 u1) ?_
  rcases h.cases with ⟨rfl, _, _⟩ | ⟨g, rfl, _, _⟩
  · left; rfl
  · right
    intro e
    have h1 := hk _ rfl
    have h2 : g = k := Option.some.inj e
    dsimp only at h1
    omega

set_option maxHeartbeats 4000000 in
theorem walk (W : Int) (a : Option Addr) (n c : Nat) (xs : List Int) (A B C D : Int) (w : World) (h : Row w a n xs) (hm : n ≤ 9223372036854775807) :
    Calls Try.prog 18 #[.agg #[.int .i64 W, .slice a n c], .agg #[.int .i64 A, .int .i64 B, .int .i64 C, .int .i64 D]] w fun e w' => e = .returned (.bool true) ∧ Below w.heap.size w w' := by
  have rgh := rng_row h
  obtain ⟨R, hRe⟩ : ∃ R, doOut W xs A B C D = R := ⟨_, rfl⟩
  have hR : R.xs.length ≤ n := by rw [← hRe, ← h.1]; exact do_len
  have CS : ∀ (a : Option Addr) (c : Nat) (w : World), Row w a n xs → Calls Try.prog 30 #[.agg #[.int .i64 W, .slice a n c], .agg #[.int .i64 A, .int .i64 B, .int .i64 C, .int .i64 D]] w (Gives w R) := by
    intro a c w h; rw [← hRe]; exact swdo_spec _ _ _ _ _ _ _ _ _ _ h hm
  have CI : ∀ (a : Option Addr) (c : Nat) (w : World), Row w a n xs → Calls Try.prog 29 #[.agg #[.int .i64 W, .slice a n c], .agg #[.int .i64 A, .int .i64 B, .int .i64 C, .int .i64 D]] w (Gives w R) := by
    intro a c w h; rw [← hRe]; exact swdo_impl _ _ _ _ _ _ _ _ _ _ h hm
  have DS := Lib.hid CS
  have DI := Lib.hid CI
  clear CS CI hRe
  replace h := Lib.hid h
  have bb : Hid (Below w.heap.size w w) := Below.refl _ _
  obtain ⟨w0, hw0⟩ : ∃ w0, w0 = (w.alloc (.cells #[.int .i64 W, .slice a n c] 47)).alloc (.cells #[.int .i64 A, .int .i64 B, .int .i64 C, .int .i64 D] 48) := ⟨_, rfl⟩
  have hb0 : Below w.heap.size w w0 := by subst hw0; exact ((Below.refl _ _).alloc (Nat.le_refl _) _).alloc (by simp) _
  have p0 : w0.cell? ⟨w.heap.size, 0, none⟩ = some (.int .i64 W) := by subst hw0; go_simp
  have p1 : w0.cell? ⟨w.heap.size, 1, none⟩ = some (.slice a n c) := by subst hw0; go_simp
  have s0 : w0.cell? ⟨w.heap.size + 1, 0, none⟩ = some (.int .i64 A) := by subst hw0; go_simp
  have s1 : w0.cell? ⟨w.heap.size + 1, 1, none⟩ = some (.int .i64 B) := by subst hw0; go_simp
  have s2 : w0.cell? ⟨w.heap.size + 1, 2, none⟩ = some (.int .i64 C) := by subst hw0; go_simp
  have s3 : w0.cell? ⟨w.heap.size + 1, 3, none⟩ = some (.int .i64 D) := by subst hw0; go_simp
  replace h := Lib.hid (h.out.bel hb0)
  replace bb := Lib.hid (bb.out.trans (hb0.mono bb.out.size))
  clear hb0
  go_enter Try.func18, Try.ntmps18
  go_wp2_with fail
  rw [← hw0]
  clear hw0
  refine (szImage_any _ _ _ _ (1048576) _ hm (by omega) (by omega)).mono ?_
  rintro e w1 ⟨rfl, hb⟩
  have szw1 := hb.size
  replace p0 := kept hb (block_lt p0) p0
  replace p1 := kept hb (block_lt p1) p1
  replace s0 := kept hb (block_lt s0) s0
  replace s1 := kept hb (block_lt s1) s1
  replace s2 := kept hb (block_lt s2) s2
  replace s3 := kept hb (block_lt s3) s3
  replace h := Lib.hid (h.out.bel hb)
  replace bb := Lib.hid (bb.out.trans (hb.mono bb.out.size))
  clear hb
  by_cases big : 1048576 < (n : Int)
  · rw [if_pos big]
    go_wp2_with fail
    go_ret
    exact ⟨rfl, bb.out⟩
  rw [if_neg big]
  have l0 : w.heap.size + 1 < w1.heap.size := block_lt s0
  go_upto_region 5 with fail
  go_cut [6, 7] (fun s6 s7 wx => ∃ (kow : Nat) (aow : Option Addr) (cow : Nat), s6 = .pointer (some ⟨kow, 0, none⟩) ∧ s7 = .bool R.ok ∧ wx.cell? ⟨w.heap.size, 0, none⟩ = some (.int .i64 W) ∧ wx.cell? ⟨w.heap.size, 1, none⟩ = some (.slice a n c) ∧ wx.cell? ⟨w.heap.size + 1, 0, none⟩ = some (.int .i64 A) ∧ wx.cell? ⟨w.heap.size + 1, 1, none⟩ = some (.int .i64 B) ∧ wx.cell? ⟨w.heap.size + 1, 2, none⟩ = some (.int .i64 C) ∧ wx.cell? ⟨w.heap.size + 1, 3, none⟩ = some (.int .i64 D) ∧ Hid (Row wx a n (xs)) ∧ wx.cell? ⟨kow, 0, none⟩ = some (.int .i64 R.W) ∧ wx.cell? ⟨kow, 1, none⟩ = some (.slice aow R.xs.length cow) ∧ Hid (OwnI wx w1.heap.size aow R.xs.length cow R.xs) ∧ w1.heap.size ≤ kow ∧ w1.heap.size ≤ wx.heap.size ∧ (∀ p, aow = some p → p.block ≠ kow) ∧ Hid (Below w.heap.size w wx))
  case first =>
    have tok0 : True := trivial
    go_wp2_with fail
    replace h := Lib.hid (h.out.bel ((Below.refl _ _).drew))
    replace bb := Lib.hid bb.out.drew
    go_region_held3 (fun W' => W'.cell? ⟨w.heap.size, 0, none⟩ = some (.int .i64 W) ∧ W'.cell? ⟨w.heap.size, 1, none⟩ = some (.slice a n c) ∧ W'.cell? ⟨w.heap.size + 1, 0, none⟩ = some (.int .i64 A) ∧ W'.cell? ⟨w.heap.size + 1, 1, none⟩ = some (.int .i64 B) ∧ W'.cell? ⟨w.heap.size + 1, 2, none⟩ = some (.int .i64 C) ∧ W'.cell? ⟨w.heap.size + 1, 3, none⟩ = some (.int .i64 D))
      (first | exact ⟨p0, p1, s0, s1, s2, s3⟩ | exact ⟨World.cell?_alloc_some p0, World.cell?_alloc_some p1, World.cell?_alloc_some s0, World.cell?_alloc_some s1, World.cell?_alloc_some s2, World.cell?_alloc_some s3⟩ | exact ⟨set2_cell p0 ltz_p0, set2_cell p1 ltz_p1, set2_cell s0 ltz_s0, set2_cell s1 ltz_s1, set2_cell s2 ltz_s2, set2_cell s3 ltz_s3⟩ | go_keep)
      (first | (go_at_call 55; have _t := tok0; (first | (obtain ⟨wz, hwz⟩ : ∃ wz, wz = (w1.alloc (.cells #[.int .i64 0, .slice none 0 0] 25)).drew := ⟨_, rfl⟩; rw [← hwz]; have hbz : Below w1.drew.heap.size w1.drew wz := (by rw [hwz]; exact (Below.refl _ _).alloc (Nat.le_refl _) _); have ltz_p0 : w.heap.size < w1.heap.size := block_lt (show w1.drew.cell? _ = _ from p0); replace p0 := kept hbz ltz_p0 (show w1.drew.cell? _ = _ from p0); have ltz_p1 : w.heap.size < w1.heap.size := block_lt (show w1.drew.cell? _ = _ from p1); replace p1 := kept hbz ltz_p1 (show w1.drew.cell? _ = _ from p1); have ltz_s0 : w.heap.size + 1 < w1.heap.size := block_lt (show w1.drew.cell? _ = _ from s0); replace s0 := kept hbz ltz_s0 (show w1.drew.cell? _ = _ from s0); have ltz_s1 : w.heap.size + 1 < w1.heap.size := block_lt (show w1.drew.cell? _ = _ from s1); replace s1 := kept hbz ltz_s1 (show w1.drew.cell? _ = _ from s1); have ltz_s2 : w.heap.size + 1 < w1.heap.size := block_lt (show w1.drew.cell? _ = _ from s2); replace s2 := kept hbz ltz_s2 (show w1.drew.cell? _ = _ from s2); have ltz_s3 : w.heap.size + 1 < w1.heap.size := block_lt (show w1.drew.cell? _ = _ from s3); replace s3 := kept hbz ltz_s3 (show w1.drew.cell? _ = _ from s3); have ltz_h : ∀ b off, a = some ⟨b, off, none⟩ → 0 < n → b < w1.heap.size := row_lt h.out; replace h := Lib.hid (h.out.bel hbz); have szb : w.heap.size ≤ w1.heap.size := bb.out.size; have szk : w1.heap.size ≤ w1.heap.size := (by omega); replace bb := Lib.hid (bb.out.trans (hbz.mono bb.out.size)); have zb : Box wz w1.heap.size (.int .i64 0) (.slice none 0 0) := (by rw [hwz]; exact ⟨by simp, by simp, fun o => by simp⟩); have z0 := zb.c0; have z1 := zb.c1; have zf := zb.fz; have zb := Lib.hid zb; have szz : w1.heap.size ≤ wz.heap.size := hbz.size; clear hwz hbz; refine (toImage_any W a n c xs _ h.out (by omega)).mono ?_) | (obtain ⟨wz, hwz⟩ : ∃ wz, wz = (w1.drew.alloc (.cells #[.int .i64 0, .slice none 0 0] 25)) := ⟨_, rfl⟩; rw [← hwz]; have hbz : Below w1.drew.heap.size w1.drew wz := (by rw [hwz]; exact (Below.refl _ _).alloc (Nat.le_refl _) _); have ltz_p0 : w.heap.size < w1.heap.size := block_lt (show w1.drew.cell? _ = _ from p0); replace p0 := kept hbz ltz_p0 (show w1.drew.cell? _ = _ from p0); have ltz_p1 : w.heap.size < w1.heap.size := block_lt (show w1.drew.cell? _ = _ from p1); replace p1 := kept hbz ltz_p1 (show w1.drew.cell? _ = _ from p1); have ltz_s0 : w.heap.size + 1 < w1.heap.size := block_lt (show w1.drew.cell? _ = _ from s0); replace s0 := kept hbz ltz_s0 (show w1.drew.cell? _ = _ from s0); have ltz_s1 : w.heap.size + 1 < w1.heap.size := block_lt (show w1.drew.cell? _ = _ from s1); replace s1 := kept hbz ltz_s1 (show w1.drew.cell? _ = _ from s1); have ltz_s2 : w.heap.size + 1 < w1.heap.size := block_lt (show w1.drew.cell? _ = _ from s2); replace s2 := kept hbz ltz_s2 (show w1.drew.cell? _ = _ from s2); have ltz_s3 : w.heap.size + 1 < w1.heap.size := block_lt (show w1.drew.cell? _ = _ from s3); replace s3 := kept hbz ltz_s3 (show w1.drew.cell? _ = _ from s3); have ltz_h : ∀ b off, a = some ⟨b, off, none⟩ → 0 < n → b < w1.heap.size := row_lt h.out; replace h := Lib.hid (h.out.bel hbz); have szb : w.heap.size ≤ w1.heap.size := bb.out.size; have szk : w1.heap.size ≤ w1.heap.size := (by omega); replace bb := Lib.hid (bb.out.trans (hbz.mono bb.out.size)); have zb : Box wz w1.heap.size (.int .i64 0) (.slice none 0 0) := (by rw [hwz]; exact ⟨by simp, by simp, fun o => by simp⟩); have z0 := zb.c0; have z1 := zb.c1; have zf := zb.fz; have zb := Lib.hid zb; have szz : w1.heap.size ≤ wz.heap.size := hbz.size; clear hwz hbz; refine (toImage_any W a n c xs _ h.out (by omega)).mono ?_) | (refine (toImage_any W a n c xs _ h.out (by omega)).mono ?_)); (try (have kzB := block_lt z0)); rintro e w2 ⟨⟨g6, rfl, hg6, ho⟩, hb⟩; have szy0 : w1.heap.size ≤ w2.heap.size := (by have := hb.size; first | (simpa using this) | (simp at this; omega) | omega); have r6 := Lib.hid ho.row; (first | replace p0 := kept hb (block_lt p0) p0 | replace p0 := kept hb (block_lt (show w1.drew.cell? _ = _ from p0)) (show w1.drew.cell? _ = _ from p0)); (first | replace p1 := kept hb (block_lt p1) p1 | replace p1 := kept hb (block_lt (show w1.drew.cell? _ = _ from p1)) (show w1.drew.cell? _ = _ from p1)); (first | replace s0 := kept hb (block_lt s0) s0 | replace s0 := kept hb (block_lt (show w1.drew.cell? _ = _ from s0)) (show w1.drew.cell? _ = _ from s0)); (first | replace s1 := kept hb (block_lt s1) s1 | replace s1 := kept hb (block_lt (show w1.drew.cell? _ = _ from s1)) (show w1.drew.cell? _ = _ from s1)); (first | replace s2 := kept hb (block_lt s2) s2 | replace s2 := kept hb (block_lt (show w1.drew.cell? _ = _ from s2)) (show w1.drew.cell? _ = _ from s2)); (first | replace s3 := kept hb (block_lt s3) s3 | replace s3 := kept hb (block_lt (show w1.drew.cell? _ = _ from s3)) (show w1.drew.cell? _ = _ from s3)); replace h := Lib.hid (h.out.bel hb); replace bb := Lib.hid (bb.out.trans (hb.mono bb.out.size)); (try (replace zb := Lib.hid (zb.out.bel hb); replace z0 := zb.out.c0; replace z1 := zb.out.c1; replace zf := zb.out.fz)); clear hb ho tok0 _t; have tok1 : True := trivial) | (go_at_call 56; have _t := tok1; (first | (obtain ⟨wz, hwz⟩ : ∃ wz, wz = (w2.alloc (.cells #[.int .i64 0, .slice none 0 0] 25)) := ⟨_, rfl⟩; rw [← hwz]; have hbz : Below w2.heap.size w2 wz := (by rw [hwz]; exact (Below.refl _ _).alloc (Nat.le_refl _) _); have ltz_p0 : w.heap.size < w2.heap.size := block_lt (show w2.cell? _ = _ from p0); replace p0 := kept hbz ltz_p0 (show w2.cell? _ = _ from p0); have ltz_p1 : w.heap.size < w2.heap.size := block_lt (show w2.cell? _ = _ from p1); replace p1 := kept hbz ltz_p1 (show w2.cell? _ = _ from p1); have ltz_s0 : w.heap.size + 1 < w2.heap.size := block_lt (show w2.cell? _ = _ from s0); replace s0 := kept hbz ltz_s0 (show w2.cell? _ = _ from s0); have ltz_s1 : w.heap.size + 1 < w2.heap.size := block_lt (show w2.cell? _ = _ from s1); replace s1 := kept hbz ltz_s1 (show w2.cell? _ = _ from s1); have ltz_s2 : w.heap.size + 1 < w2.heap.size := block_lt (show w2.cell? _ = _ from s2); replace s2 := kept hbz ltz_s2 (show w2.cell? _ = _ from s2); have ltz_s3 : w.heap.size + 1 < w2.heap.size := block_lt (show w2.cell? _ = _ from s3); replace s3 := kept hbz ltz_s3 (show w2.cell? _ = _ from s3); have ltz_h : ∀ b off, a = some ⟨b, off, none⟩ → 0 < n → b < w2.heap.size := row_lt h.out; replace h := Lib.hid (h.out.bel hbz); replace r6 := Lib.hid (r6.out.bel hbz); have szb : w.heap.size ≤ w2.heap.size := bb.out.size; have szk : w1.heap.size ≤ w2.heap.size := (by omega); replace bb := Lib.hid (bb.out.trans (hbz.mono bb.out.size)); have zb : Box wz w2.heap.size (.int .i64 0) (.slice none 0 0) := (by rw [hwz]; exact ⟨by simp, by simp, fun o => by simp⟩); have z0 := zb.c0; have z1 := zb.c1; have zf := zb.fz; have zb := Lib.hid zb; have szz : w2.heap.size ≤ wz.heap.size := hbz.size; clear hwz hbz; refine (toSwitch_any A B C D _).mono ?_) | (refine (toSwitch_any A B C D _).mono ?_)); (try (have kzB := block_lt z0)); rintro e w3 ⟨rfl, hb⟩; have szy1 : w2.heap.size ≤ w3.heap.size := (by have := hb.size; first | (simpa using this) | (simp at this; omega) | omega); replace p0 := kept hb (block_lt p0) p0; replace p1 := kept hb (block_lt p1) p1; replace s0 := kept hb (block_lt s0) s0; replace s1 := kept hb (block_lt s1) s1; replace s2 := kept hb (block_lt s2) s2; replace s3 := kept hb (block_lt s3) s3; replace h := Lib.hid (h.out.bel hb); replace r6 := Lib.hid (r6.out.bel hb); replace bb := Lib.hid (bb.out.trans (hb.mono bb.out.size)); (try (replace zb := Lib.hid (zb.out.bel hb); replace z0 := zb.out.c0; replace z1 := zb.out.c1; replace zf := zb.out.fz)); clear hb tok1 _t; have tok2 : True := trivial) | (go_at_call 30; have _t := tok2; (first | (obtain ⟨wz, hwz⟩ : ∃ wz, wz = (w3.alloc (.cells #[.int .i64 0, .slice none 0 0] 25)) := ⟨_, rfl⟩; rw [← hwz]; have hbz : Below w3.heap.size w3 wz := (by rw [hwz]; exact (Below.refl _ _).alloc (Nat.le_refl _) _); have ltz_p0 : w.heap.size < w3.heap.size := block_lt (show w3.cell? _ = _ from p0); replace p0 := kept hbz ltz_p0 (show w3.cell? _ = _ from p0); have ltz_p1 : w.heap.size < w3.heap.size := block_lt (show w3.cell? _ = _ from p1); replace p1 := kept hbz ltz_p1 (show w3.cell? _ = _ from p1); have ltz_s0 : w.heap.size + 1 < w3.heap.size := block_lt (show w3.cell? _ = _ from s0); replace s0 := kept hbz ltz_s0 (show w3.cell? _ = _ from s0); have ltz_s1 : w.heap.size + 1 < w3.heap.size := block_lt (show w3.cell? _ = _ from s1); replace s1 := kept hbz ltz_s1 (show w3.cell? _ = _ from s1); have ltz_s2 : w.heap.size + 1 < w3.heap.size := block_lt (show w3.cell? _ = _ from s2); replace s2 := kept hbz ltz_s2 (show w3.cell? _ = _ from s2); have ltz_s3 : w.heap.size + 1 < w3.heap.size := block_lt (show w3.cell? _ = _ from s3); replace s3 := kept hbz ltz_s3 (show w3.cell? _ = _ from s3); have ltz_h : ∀ b off, a = some ⟨b, off, none⟩ → 0 < n → b < w3.heap.size := row_lt h.out; replace h := Lib.hid (h.out.bel hbz); replace r6 := Lib.hid (r6.out.bel hbz); have szb : w.heap.size ≤ w3.heap.size := bb.out.size; have szk : w1.heap.size ≤ w3.heap.size := (by omega); replace bb := Lib.hid (bb.out.trans (hbz.mono bb.out.size)); have zb : Box wz w3.heap.size (.int .i64 0) (.slice none 0 0) := (by rw [hwz]; exact ⟨by simp, by simp, fun o => by simp⟩); have z0 := zb.c0; have z1 := zb.c1; have zf := zb.fz; have zb := Lib.hid zb; have szz : w3.heap.size ≤ wz.heap.size := hbz.size; clear hwz hbz; refine (DS.out _ _ _ r6.out).mono ?_) | (refine (DS.out _ _ _ r6.out).mono ?_)); (try (have kzB := block_lt z0)); rintro e w4 ⟨⟨az, cz, rfl, ho⟩, hb⟩; have szy2 : w3.heap.size ≤ w4.heap.size := (by have := hb.size; first | (simpa using this) | (simp at this; omega) | omega); have hoz := Lib.hid ho; replace p0 := kept hb (block_lt p0) p0; replace p1 := kept hb (block_lt p1) p1; replace s0 := kept hb (block_lt s0) s0; replace s1 := kept hb (block_lt s1) s1; replace s2 := kept hb (block_lt s2) s2; replace s3 := kept hb (block_lt s3) s3; replace h := Lib.hid (h.out.bel hb); replace r6 := Lib.hid (r6.out.bel hb); replace bb := Lib.hid (bb.out.trans (hb.mono bb.out.size)); (try (replace zb := Lib.hid (zb.out.bel hb); replace z0 := zb.out.c0; replace z1 := zb.out.c1; replace zf := zb.out.fz)); clear hb ho tok2 _t; have tok3 : True := trivial))
    all_goals
      go_wp2_with fail
      go_meet
      first | exact ⟨_, _, _, rfl, rfl, set2_cell p0 ltz_p0, set2_cell p1 ltz_p1, set2_cell s0 ltz_s0, set2_cell s1 ltz_s1, set2_cell s2 ltz_s2, set2_cell s3 ltz_s3, Lib.hid (set2_old h.out ltz_h), set2_c0 z0, set2_c1 z1, Lib.hid ((set2_ownB hoz.out (by omega)).mono (by omega)), by omega, by simp; omega, fun p hp => by have := rng_own hoz.out p hp; omega, Lib.hid (set2_bel bb.out (by omega))⟩ | exact ⟨_, _, _, rfl, rfl, World.cell?_alloc_some p0, World.cell?_alloc_some p1, World.cell?_alloc_some s0, World.cell?_alloc_some s1, World.cell?_alloc_some s2, World.cell?_alloc_some s3, Lib.hid (h.out.alloc _), by simp, by simp, Lib.hid ((hoz.out.bel ((Below.refl _ _).alloc (Nat.le_refl _) _)).mono (by omega)), by omega, by simp; omega, fun p hp => by have := rng_own hoz.out p hp; omega, Lib.hid (bb.out.alloc bb.out.size _)⟩
  case rest =>
    clear p0 p1 s0 s1 s2 s3 h bb
    obtain ⟨kow, aow, cow, rfl, rfl, p0, p1, s0, s1, s2, s3, h, ow0, ow1, ow, klow, szow, hnow, bb⟩ := hcut
    obtain ⟨w5, hwx⟩ : ∃ W, W = wc := ⟨_, rfl⟩
    subst hwx
    have rw0 := rng_cond (n := R.xs.length) (rng_own ow.out)
    replace ow := Lib.hid ow.out.row
    have lkow : kow < w5.heap.size := block_lt ow0
    go_wp2_with fail
    refine (toImage_any W a n c xs _ h.out (by omega)).mono ?_
    rintro e w6 ⟨⟨gx, rfl, hgx, ho⟩, hb⟩
    have szw6 := hb.size
    replace p0 := kept hb (block_lt p0) p0
    replace p1 := kept hb (block_lt p1) p1
    replace s0 := kept hb (block_lt s0) s0
    replace s1 := kept hb (block_lt s1) s1
    replace s2 := kept hb (block_lt s2) s2
    replace s3 := kept hb (block_lt s3) s3
    replace ow0 := kept hb (block_lt ow0) ow0
    replace ow1 := kept hb (block_lt ow1) ow1
    replace h := Lib.hid (h.out.bel hb)
    replace ow := Lib.hid (ow.out.bel hb)
    replace bb := Lib.hid (bb.out.trans (hb.mono bb.out.size))
    clear hb
    have gr0 := rng_own ho
    have g := Lib.hid ho
    clear ho
    obtain ⟨z, hz⟩ : ∃ z, z = gx := ⟨_, rfl⟩
    rw [← hz]
    rw [← hz] at g hgx gr0
    clear hz
    have hbx : Below w6.heap.size w6 (w6.alloc (.cells #[.int .i64 W, .slice (some ⟨z, 0, none⟩) n n] 25)) := (Below.refl _ _).alloc (Nat.le_refl _) _
    replace p0 := kept hbx (block_lt p0) p0
    replace p1 := kept hbx (block_lt p1) p1
    replace s0 := kept hbx (block_lt s0) s0
    replace s1 := kept hbx (block_lt s1) s1
    replace s2 := kept hbx (block_lt s2) s2
    replace s3 := kept hbx (block_lt s3) s3
    replace ow0 := kept hbx (block_lt ow0) ow0
    replace ow1 := kept hbx (block_lt ow1) ow1
    replace h := Lib.hid (h.out.bel hbx)
    replace ow := Lib.hid (ow.out.bel hbx)
    replace g := Lib.hid (g.out.bel hbx)
    replace bb := Lib.hid (bb.out.trans (hbx.mono bb.out.size))
    clear hbx
    have q0 : (w6.alloc (.cells #[.int .i64 W, .slice (some ⟨z, 0, none⟩) n n] 25)).cell? ⟨w6.heap.size, 0, none⟩ = some (.int .i64 W) := by simp
    have q1 : (w6.alloc (.cells #[.int .i64 W, .slice (some ⟨z, 0, none⟩) n n] 25)).cell? ⟨w6.heap.size, 1, none⟩ = some (.slice (some ⟨z, 0, none⟩) n n) := by simp
    go_upto_region 7 with fail
    have szV : w6.heap.size + 1 ≤ (w6.alloc (.cells #[.int .i64 W, .slice (some ⟨z, 0, none⟩) n n] 25)).heap.size := by simp
    generalize hV : w6.alloc (.cells #[.int .i64 W, .slice (some ⟨z, 0, none⟩) n n] 25) = w7 at *
    clear hV
    go_cut [9, 10] (fun s9 s10 wx => ∃ (kog : Nat) (aog : Option Addr) (cog : Nat), s9 = .pointer (some ⟨kog, 0, none⟩) ∧ s10 = .bool R.ok ∧ wx.cell? ⟨w.heap.size, 0, none⟩ = some (.int .i64 W) ∧ wx.cell? ⟨w.heap.size, 1, none⟩ = some (.slice a n c) ∧ wx.cell? ⟨w.heap.size + 1, 0, none⟩ = some (.int .i64 A) ∧ wx.cell? ⟨w.heap.size + 1, 1, none⟩ = some (.int .i64 B) ∧ wx.cell? ⟨w.heap.size + 1, 2, none⟩ = some (.int .i64 C) ∧ wx.cell? ⟨w.heap.size + 1, 3, none⟩ = some (.int .i64 D) ∧ wx.cell? ⟨kow, 0, none⟩ = some (.int .i64 R.W) ∧ wx.cell? ⟨kow, 1, none⟩ = some (.slice aow R.xs.length cow) ∧ wx.cell? ⟨w6.heap.size, 0, none⟩ = some (.int .i64 W) ∧ wx.cell? ⟨w6.heap.size, 1, none⟩ = some (.slice (some ⟨z, 0, none⟩) n n) ∧ Hid (Row wx a n (xs)) ∧ Hid (Row wx aow R.xs.length (R.xs)) ∧ Hid (OwnI wx w5.heap.size (some ⟨z, 0, none⟩) n n xs) ∧ wx.cell? ⟨kog, 0, none⟩ = some (.int .i64 R.W) ∧ wx.cell? ⟨kog, 1, none⟩ = some (.slice aog R.xs.length cog) ∧ Hid (OwnI wx w7.heap.size aog R.xs.length cog R.xs) ∧ w7.heap.size ≤ kog ∧ w7.heap.size ≤ wx.heap.size ∧ (∀ p, aog = some p → p.block ≠ kog) ∧ Hid (Below w.heap.size w wx))
    case first =>
      have tok0 : True := trivial
      go_wp2_with fail
      replace h := Lib.hid (h.out.bel ((Below.refl _ _).drew))
      replace ow := Lib.hid (ow.out.bel ((Below.refl _ _).drew))
      replace g := Lib.hid (g.out.bel ((Below.refl _ _).drew))
      replace bb := Lib.hid bb.out.drew
      go_region_held3 (fun W' => W'.cell? ⟨w6.heap.size, 0, none⟩ = some (.int .i64 W) ∧ W'.cell? ⟨w6.heap.size, 1, none⟩ = some (.slice (some ⟨z, 0, none⟩) n n) ∧ W'.cell? ⟨w.heap.size + 1, 0, none⟩ = some (.int .i64 A) ∧ W'.cell? ⟨w.heap.size + 1, 1, none⟩ = some (.int .i64 B) ∧ W'.cell? ⟨w.heap.size + 1, 2, none⟩ = some (.int .i64 C) ∧ W'.cell? ⟨w.heap.size + 1, 3, none⟩ = some (.int .i64 D))
        (first | exact ⟨q0, q1, s0, s1, s2, s3⟩ | exact ⟨World.cell?_alloc_some q0, World.cell?_alloc_some q1, World.cell?_alloc_some s0, World.cell?_alloc_some s1, World.cell?_alloc_some s2, World.cell?_alloc_some s3⟩ | exact ⟨set2_cell q0 ltz_q0, set2_cell q1 ltz_q1, set2_cell s0 ltz_s0, set2_cell s1 ltz_s1, set2_cell s2 ltz_s2, set2_cell s3 ltz_s3⟩ | go_keep)
        (first | (go_at_call 56; have _t := tok0; (first | (obtain ⟨wz, hwz⟩ : ∃ wz, wz = (w7.alloc (.cells #[.int .i64 0, .slice none 0 0] 25)).drew := ⟨_, rfl⟩; rw [← hwz]; have hbz : Below w7.drew.heap.size w7.drew wz := (by rw [hwz]; exact (Below.refl _ _).alloc (Nat.le_refl _) _); have ltz_p0 : w.heap.size < w7.heap.size := block_lt (show w7.drew.cell? _ = _ from p0); replace p0 := kept hbz ltz_p0 (show w7.drew.cell? _ = _ from p0); have ltz_p1 : w.heap.size < w7.heap.size := block_lt (show w7.drew.cell? _ = _ from p1); replace p1 := kept hbz ltz_p1 (show w7.drew.cell? _ = _ from p1); have ltz_s0 : w.heap.size + 1 < w7.heap.size := block_lt (show w7.drew.cell? _ = _ from s0); replace s0 := kept hbz ltz_s0 (show w7.drew.cell? _ = _ from s0); have ltz_s1 : w.heap.size + 1 < w7.heap.size := block_lt (show w7.drew.cell? _ = _ from s1); replace s1 := kept hbz ltz_s1 (show w7.drew.cell? _ = _ from s1); have ltz_s2 : w.heap.size + 1 < w7.heap.size := block_lt (show w7.drew.cell? _ = _ from s2); replace s2 := kept hbz ltz_s2 (show w7.drew.cell? _ = _ from s2); have ltz_s3 : w.heap.size + 1 < w7.heap.size := block_lt (show w7.drew.cell? _ = _ from s3); replace s3 := kept hbz ltz_s3 (show w7.drew.cell? _ = _ from s3); have ltz_ow0 : kow < w7.heap.size := block_lt (show w7.drew.cell? _ = _ from ow0); replace ow0 := kept hbz ltz_ow0 (show w7.drew.cell? _ = _ from ow0); have ltz_ow1 : kow < w7.heap.size := block_lt (show w7.drew.cell? _ = _ from ow1); replace ow1 := kept hbz ltz_ow1 (show w7.drew.cell? _ = _ from ow1); have ltz_q0 : w6.heap.size < w7.heap.size := block_lt (show w7.drew.cell? _ = _ from q0); replace q0 := kept hbz ltz_q0 (show w7.drew.cell? _ = _ from q0); have ltz_q1 : w6.heap.size < w7.heap.size := block_lt (show w7.drew.cell? _ = _ from q1); replace q1 := kept hbz ltz_q1 (show w7.drew.cell? _ = _ from q1); have ltz_h : ∀ b off, a = some ⟨b, off, none⟩ → 0 < n → b < w7.heap.size := row_lt h.out; replace h := Lib.hid (h.out.bel hbz); have ltz_ow : ∀ b off, aow = some ⟨b, off, none⟩ → 0 < R.xs.length → b < w7.heap.size := row_lt ow.out; replace ow := Lib.hid (ow.out.bel hbz); have ltz_g : ∀ p : Addr, ((some ⟨z, 0, none⟩) : Option Addr) = some p → p.block < w7.heap.size := fun p hp => (rng_own g.out p hp).2; replace g := Lib.hid (g.out.bel hbz); have szb : w.heap.size ≤ w7.heap.size := bb.out.size; have szk : w7.heap.size ≤ w7.heap.size := (by omega); replace bb := Lib.hid (bb.out.trans (hbz.mono bb.out.size)); have zb : Box wz w7.heap.size (.int .i64 0) (.slice none 0 0) := (by rw [hwz]; exact ⟨by simp, by simp, fun o => by simp⟩); have z0 := zb.c0; have z1 := zb.c1; have zf := zb.fz; have zb := Lib.hid zb; have szz : w7.heap.size ≤ wz.heap.size := hbz.size; clear hwz hbz; refine (toSwitch_any A B C D _).mono ?_) | (obtain ⟨wz, hwz⟩ : ∃ wz, wz = (w7.drew.alloc (.cells #[.int .i64 0, .slice none 0 0] 25)) := ⟨_, rfl⟩; rw [← hwz]; have hbz : Below w7.drew.heap.size w7.drew wz := (by rw [hwz]; exact (Below.refl _ _).alloc (Nat.le_refl _) _); have ltz_p0 : w.heap.size < w7.heap.size := block_lt (show w7.drew.cell? _ = _ from p0); replace p0 := kept hbz ltz_p0 (show w7.drew.cell? _ = _ from p0); have ltz_p1 : w.heap.size < w7.heap.size := block_lt (show w7.drew.cell? _ = _ from p1); replace p1 := kept hbz ltz_p1 (show w7.drew.cell? _ = _ from p1); have ltz_s0 : w.heap.size + 1 < w7.heap.size := block_lt (show w7.drew.cell? _ = _ from s0); replace s0 := kept hbz ltz_s0 (show w7.drew.cell? _ = _ from s0); have ltz_s1 : w.heap.size + 1 < w7.heap.size := block_lt (show w7.drew.cell? _ = _ from s1); replace s1 := kept hbz ltz_s1 (show w7.drew.cell? _ = _ from s1); have ltz_s2 : w.heap.size + 1 < w7.heap.size := block_lt (show w7.drew.cell? _ = _ from s2); replace s2 := kept hbz ltz_s2 (show w7.drew.cell? _ = _ from s2); have ltz_s3 : w.heap.size + 1 < w7.heap.size := block_lt (show w7.drew.cell? _ = _ from s3); replace s3 := kept hbz ltz_s3 (show w7.drew.cell? _ = _ from s3); have ltz_ow0 : kow < w7.heap.size := block_lt (show w7.drew.cell? _ = _ from ow0); replace ow0 := kept hbz ltz_ow0 (show w7.drew.cell? _ = _ from ow0); have ltz_ow1 : kow < w7.heap.size := block_lt (show w7.drew.cell? _ = _ from ow1); replace ow1 := kept hbz ltz_ow1 (show w7.drew.cell? _ = _ from ow1); have ltz_q0 : w6.heap.size < w7.heap.size := block_lt (show w7.drew.cell? _ = _ from q0); replace q0 := kept hbz ltz_q0 (show w7.drew.cell? _ = _ from q0); have ltz_q1 : w6.heap.size < w7.heap.size := block_lt (show w7.drew.cell? _ = _ from q1); replace q1 := kept hbz ltz_q1 (show w7.drew.cell? _ = _ from q1); have ltz_h : ∀ b off, a = some ⟨b, off, none⟩ → 0 < n → b < w7.heap.size := row_lt h.out; replace h := Lib.hid (h.out.bel hbz); have ltz_ow : ∀ b off, aow = some ⟨b, off, none⟩ → 0 < R.xs.length → b < w7.heap.size := row_lt ow.out; replace ow := Lib.hid (ow.out.bel hbz); have ltz_g : ∀ p : Addr, ((some ⟨z, 0, none⟩) : Option Addr) = some p → p.block < w7.heap.size := fun p hp => (rng_own g.out p hp).2; replace g := Lib.hid (g.out.bel hbz); have szb : w.heap.size ≤ w7.heap.size := bb.out.size; have szk : w7.heap.size ≤ w7.heap.size := (by omega); replace bb := Lib.hid (bb.out.trans (hbz.mono bb.out.size)); have zb : Box wz w7.heap.size (.int .i64 0) (.slice none 0 0) := (by rw [hwz]; exact ⟨by simp, by simp, fun o => by simp⟩); have z0 := zb.c0; have z1 := zb.c1; have zf := zb.fz; have zb := Lib.hid zb; have szz : w7.heap.size ≤ wz.heap.size := hbz.size; clear hwz hbz; refine (toSwitch_any A B C D _).mono ?_) | (refine (toSwitch_any A B C D _).mono ?_)); (try (have kzB := block_lt z0)); rintro e w8 ⟨rfl, hb⟩; have szy0 : w7.heap.size ≤ w8.heap.size := (by have := hb.size; first | (simpa using this) | (simp at this; omega) | omega); (first | replace p0 := kept hb (block_lt p0) p0 | replace p0 := kept hb (block_lt (show w7.drew.cell? _ = _ from p0)) (show w7.drew.cell? _ = _ from p0)); (first | replace p1 := kept hb (block_lt p1) p1 | replace p1 := kept hb (block_lt (show w7.drew.cell? _ = _ from p1)) (show w7.drew.cell? _ = _ from p1)); (first | replace s0 := kept hb (block_lt s0) s0 | replace s0 := kept hb (block_lt (show w7.drew.cell? _ = _ from s0)) (show w7.drew.cell? _ = _ from s0)); (first | replace s1 := kept hb (block_lt s1) s1 | replace s1 := kept hb (block_lt (show w7.drew.cell? _ = _ from s1)) (show w7.drew.cell? _ = _ from s1)); (first | replace s2 := kept hb (block_lt s2) s2 | replace s2 := kept hb (block_lt (show w7.drew.cell? _ = _ from s2)) (show w7.drew.cell? _ = _ from s2)); (first | replace s3 := kept hb (block_lt s3) s3 | replace s3 := kept hb (block_lt (show w7.drew.cell? _ = _ from s3)) (show w7.drew.cell? _ = _ from s3)); (first | replace ow0 := kept hb (block_lt ow0) ow0 | replace ow0 := kept hb (block_lt (show w7.drew.cell? _ = _ from ow0)) (show w7.drew.cell? _ = _ from ow0)); (first | replace ow1 := kept hb (block_lt ow1) ow1 | replace ow1 := kept hb (block_lt (show w7.drew.cell? _ = _ from ow1)) (show w7.drew.cell? _ = _ from ow1)); (first | replace q0 := kept hb (block_lt q0) q0 | replace q0 := kept hb (block_lt (show w7.drew.cell? _ = _ from q0)) (show w7.drew.cell? _ = _ from q0)); (first | replace q1 := kept hb (block_lt q1) q1 | replace q1 := kept hb (block_lt (show w7.drew.cell? _ = _ from q1)) (show w7.drew.cell? _ = _ from q1)); replace h := Lib.hid (h.out.bel hb); replace ow := Lib.hid (ow.out.bel hb); replace g := Lib.hid (g.out.bel hb); replace bb := Lib.hid (bb.out.trans (hb.mono bb.out.size)); (try (replace zb := Lib.hid (zb.out.bel hb); replace z0 := zb.out.c0; replace z1 := zb.out.c1; replace zf := zb.out.fz)); clear hb tok0 _t; have tok1 : True := trivial) | (go_at_call 29; have _t := tok1; (first | (obtain ⟨wz, hwz⟩ : ∃ wz, wz = (w8.alloc (.cells #[.int .i64 0, .slice none 0 0] 25)) := ⟨_, rfl⟩; rw [← hwz]; have hbz : Below w8.heap.size w8 wz := (by rw [hwz]; exact (Below.refl _ _).alloc (Nat.le_refl _) _); have ltz_p0 : w.heap.size < w8.heap.size := block_lt (show w8.cell? _ = _ from p0); replace p0 := kept hbz ltz_p0 (show w8.cell? _ = _ from p0); have ltz_p1 : w.heap.size < w8.heap.size := block_lt (show w8.cell? _ = _ from p1); replace p1 := kept hbz ltz_p1 (show w8.cell? _ = _ from p1); have ltz_s0 : w.heap.size + 1 < w8.heap.size := block_lt (show w8.cell? _ = _ from s0); replace s0 := kept hbz ltz_s0 (show w8.cell? _ = _ from s0); have ltz_s1 : w.heap.size + 1 < w8.heap.size := block_lt (show w8.cell? _ = _ from s1); replace s1 := kept hbz ltz_s1 (show w8.cell? _ = _ from s1); have ltz_s2 : w.heap.size + 1 < w8.heap.size := block_lt (show w8.cell? _ = _ from s2); replace s2 := kept hbz ltz_s2 (show w8.cell? _ = _ from s2); have ltz_s3 : w.heap.size + 1 < w8.heap.size := block_lt (show w8.cell? _ = _ from s3); replace s3 := kept hbz ltz_s3 (show w8.cell? _ = _ from s3); have ltz_ow0 : kow < w8.heap.size := block_lt (show w8.cell? _ = _ from ow0); replace ow0 := kept hbz ltz_ow0 (show w8.cell? _ = _ from ow0); have ltz_ow1 : kow < w8.heap.size := block_lt (show w8.cell? _ = _ from ow1); replace ow1 := kept hbz ltz_ow1 (show w8.cell? _ = _ from ow1); have ltz_q0 : w6.heap.size < w8.heap.size := block_lt (show w8.cell? _ = _ from q0); replace q0 := kept hbz ltz_q0 (show w8.cell? _ = _ from q0); have ltz_q1 : w6.heap.size < w8.heap.size := block_lt (show w8.cell? _ = _ from q1); replace q1 := kept hbz ltz_q1 (show w8.cell? _ = _ from q1); have ltz_h : ∀ b off, a = some ⟨b, off, none⟩ → 0 < n → b < w8.heap.size := row_lt h.out; replace h := Lib.hid (h.out.bel hbz); have ltz_ow : ∀ b off, aow = some ⟨b, off, none⟩ → 0 < R.xs.length → b < w8.heap.size := row_lt ow.out; replace ow := Lib.hid (ow.out.bel hbz); have ltz_g : ∀ p : Addr, ((some ⟨z, 0, none⟩) : Option Addr) = some p → p.block < w8.heap.size := fun p hp => (rng_own g.out p hp).2; replace g := Lib.hid (g.out.bel hbz); have szb : w.heap.size ≤ w8.heap.size := bb.out.size; have szk : w7.heap.size ≤ w8.heap.size := (by omega); replace bb := Lib.hid (bb.out.trans (hbz.mono bb.out.size)); have zb : Box wz w8.heap.size (.int .i64 0) (.slice none 0 0) := (by rw [hwz]; exact ⟨by simp, by simp, fun o => by simp⟩); have z0 := zb.c0; have z1 := zb.c1; have zf := zb.fz; have zb := Lib.hid zb; have szz : w8.heap.size ≤ wz.heap.size := hbz.size; clear hwz hbz; refine (DI.out _ _ _ g.out.row).mono ?_) | (refine (DI.out _ _ _ g.out.row).mono ?_)); (try (have kzB := block_lt z0)); rintro e w9 ⟨⟨az, cz, rfl, ho⟩, hb⟩; have szy1 : w8.heap.size ≤ w9.heap.size := (by have := hb.size; first | (simpa using this) | (simp at this; omega) | omega); have hoz := Lib.hid ho; replace p0 := kept hb (block_lt p0) p0; replace p1 := kept hb (block_lt p1) p1; replace s0 := kept hb (block_lt s0) s0; replace s1 := kept hb (block_lt s1) s1; replace s2 := kept hb (block_lt s2) s2; replace s3 := kept hb (block_lt s3) s3; replace ow0 := kept hb (block_lt ow0) ow0; replace ow1 := kept hb (block_lt ow1) ow1; replace q0 := kept hb (block_lt q0) q0; replace q1 := kept hb (block_lt q1) q1; replace h := Lib.hid (h.out.bel hb); replace ow := Lib.hid (ow.out.bel hb); replace g := Lib.hid (g.out.bel hb); replace bb := Lib.hid (bb.out.trans (hb.mono bb.out.size)); (try (replace zb := Lib.hid (zb.out.bel hb); replace z0 := zb.out.c0; replace z1 := zb.out.c1; replace zf := zb.out.fz)); clear hb ho tok1 _t; have tok2 : True := trivial))
      all_goals
        go_wp2_with fail
        go_meet
        first | exact ⟨_, _, _, rfl, rfl, set2_cell p0 ltz_p0, set2_cell p1 ltz_p1, set2_cell s0 ltz_s0, set2_cell s1 ltz_s1, set2_cell s2 ltz_s2, set2_cell s3 ltz_s3, set2_cell ow0 ltz_ow0, set2_cell ow1 ltz_ow1, set2_cell q0 ltz_q0, set2_cell q1 ltz_q1, Lib.hid (set2_old h.out ltz_h), Lib.hid (set2_old ow.out ltz_ow), Lib.hid (set2_ownL g.out ltz_g), set2_c0 z0, set2_c1 z1, Lib.hid ((set2_ownB hoz.out (by omega)).mono (by omega)), by omega, by simp; omega, fun p hp => by have := rng_own hoz.out p hp; omega, Lib.hid (set2_bel bb.out (by omega))⟩ | exact ⟨_, _, _, rfl, rfl, World.cell?_alloc_some p0, World.cell?_alloc_some p1, World.cell?_alloc_some s0, World.cell?_alloc_some s1, World.cell?_alloc_some s2, World.cell?_alloc_some s3, World.cell?_alloc_some ow0, World.cell?_alloc_some ow1, World.cell?_alloc_some q0, World.cell?_alloc_some q1, Lib.hid (h.out.alloc _), Lib.hid (ow.out.alloc _), Lib.hid (g.out.bel ((Below.refl _ _).alloc (Nat.le_refl _) _)), by simp, by simp, Lib.hid ((hoz.out.bel ((Below.refl _ _).alloc (Nat.le_refl _) _)).mono (by omega)), by omega, by simp; omega, fun p hp => by have := rng_own hoz.out p hp; omega, Lib.hid (bb.out.alloc bb.out.size _)⟩
    case rest =>
      clear p0 p1 s0 s1 s2 s3 ow0 ow1 q0 q1 h ow g bb
      obtain ⟨kog, aog, cog, rfl, rfl, p0, p1, s0, s1, s2, s3, ow0, ow1, q0, q1, h, ow, g, og0, og1, og, klog, szog, hnog, bb⟩ := hcut
      obtain ⟨w10, hwx⟩ : ∃ W, W = wc := ⟨_, rfl⟩
      subst hwx
      have rgo := rng_own og.out
      go_wp2_with fail
      refine (eqImage_yes _ _ _ _ _ _ R.xs _ og.out.row ow.out (by omega)).mono ?_
      rintro e w11 ⟨rfl, hb⟩
      have szw11 := hb.size
      replace p0 := kept hb (block_lt p0) p0
      replace p1 := kept hb (block_lt p1) p1
      replace s0 := kept hb (block_lt s0) s0
      replace s1 := kept hb (block_lt s1) s1
      replace s2 := kept hb (block_lt s2) s2
      replace s3 := kept hb (block_lt s3) s3
      replace ow0 := kept hb (block_lt ow0) ow0
      replace ow1 := kept hb (block_lt ow1) ow1
      replace q0 := kept hb (block_lt q0) q0
      replace q1 := kept hb (block_lt q1) q1
      replace og0 := kept hb (block_lt og0) og0
      replace og1 := kept hb (block_lt og1) og1
      replace h := Lib.hid (h.out.bel hb)
      replace ow := Lib.hid (ow.out.bel hb)
      replace g := Lib.hid (g.out.bel hb)
      replace og := Lib.hid (og.out.bel hb)
      replace bb := Lib.hid (bb.out.trans (hb.mono bb.out.size))
      clear hb
      have gR := Lib.hid g.out.row
      go_wp2_with fail
      have gR_ := gR.out
      have h_ := h.out
      have tok0 : True := trivial
      go_region_held3 (fun W' => W'.cell? ⟨w6.heap.size, 0, none⟩ = some (.int .i64 W) ∧ W'.cell? ⟨w6.heap.size, 1, none⟩ = some (.slice (some ⟨z, 0, none⟩) n n) ∧ W'.cell? ⟨w.heap.size, 0, none⟩ = some (.int .i64 W) ∧ W'.cell? ⟨w.heap.size, 1, none⟩ = some (.slice a n c) ∧ Row W' (some ⟨z, 0, none⟩) n xs ∧ Row W' a n xs ∧ Below w11.heap.size w11 W')
        (first | exact held4_2 ⟨q0, q1, p0, p1, gR_, h_, Below.refl _ _⟩ ((Below.refl _ _).drew) | (refine held4_2 ?_ (by assumption); assumption))
        (first | (go_at_call 55; have _t := tok0; have hS := ‹_ ∧ _ ∧ _ ∧ _ ∧ Row _ _ _ _ ∧ Row _ _ _ _ ∧ Below _ _ _›; refine (toImage_any W a n c xs _ (hS.2.2.2.2.2.1) (by omega)).mono ?_; rintro e w12 ⟨⟨g6, rfl, hg6, ho6⟩, hb6⟩; have r6 := Lib.hid ho6.row; clear hS tok0 _t; have tok1 : True := trivial) | (go_at_call 57; have _t := tok1; have hS := ‹_ ∧ _ ∧ _ ∧ _ ∧ Row _ _ _ _ ∧ Row _ _ _ _ ∧ Below _ _ _›; refine (eqImage_yes _ _ _ _ _ _ xs _ (hS.2.2.2.2.1) r6.out (by omega)).mono ?_; rintro e w13 ⟨rfl, hb8⟩; clear hS tok1 _t; have tok2 : True := trivial))
      have hbl : Below w11.heap.size w11 w13 := And.right (And.right (And.right (And.right (And.right (And.right (‹w13.cell? _ = _ ∧ _›))))))
      clear gR_
      clear h_
      have szw13 := hbl.size
      replace p0 := kept hbl (block_lt p0) p0
      replace p1 := kept hbl (block_lt p1) p1
      replace s0 := kept hbl (block_lt s0) s0
      replace s1 := kept hbl (block_lt s1) s1
      replace s2 := kept hbl (block_lt s2) s2
      replace s3 := kept hbl (block_lt s3) s3
      replace ow0 := kept hbl (block_lt ow0) ow0
      replace ow1 := kept hbl (block_lt ow1) ow1
      replace q0 := kept hbl (block_lt q0) q0
      replace q1 := kept hbl (block_lt q1) q1
      replace og0 := kept hbl (block_lt og0) og0
      replace og1 := kept hbl (block_lt og1) og1
      replace h := Lib.hid (h.out.bel hbl)
      replace ow := Lib.hid (ow.out.bel hbl)
      replace gR := Lib.hid (gR.out.bel hbl)
      replace g := Lib.hid (g.out.bel hbl)
      replace og := Lib.hid (og.out.bel hbl)
      replace bb := Lib.hid (bb.out.trans (hbl.mono bb.out.size))
      clear hbl
      clear gR
      go_wp2_with fail
      refine (markImage_own _ _ _ _ _ xs 1 _ g.out (by omega) (by omega) (by omega)).mono ?_
      rintro e w14 ⟨rfl, hg, ho⟩
      replace p0 := hg.cell p0 (ne_rowOf gr0 (by (try dsimp only); omega))
      replace p1 := hg.cell p1 (ne_rowOf gr0 (by (try dsimp only); omega))
      replace s0 := hg.cell s0 (ne_rowOf gr0 (by (try dsimp only); omega))
      replace s1 := hg.cell s1 (ne_rowOf gr0 (by (try dsimp only); omega))
      replace s2 := hg.cell s2 (ne_rowOf gr0 (by (try dsimp only); omega))
      replace s3 := hg.cell s3 (ne_rowOf gr0 (by (try dsimp only); omega))
      replace ow0 := hg.cell ow0 (ne_rowOf gr0 (by (try dsimp only); omega))
      replace ow1 := hg.cell ow1 (ne_rowOf gr0 (by (try dsimp only); omega))
      replace q0 := hg.cell q0 (ne_rowOf gr0 (by (try dsimp only); omega))
      replace q1 := hg.cell q1 (ne_rowOf gr0 (by (try dsimp only); omega))
      replace og0 := hg.cell og0 (ne_rowOf gr0 (by (try dsimp only); omega))
      replace og1 := hg.cell og1 (ne_rowOf gr0 (by (try dsimp only); omega))
      replace h := Lib.hid (h.out.apart2 hg rgh gr0 (by omega))
      replace ow := Lib.hid (ow.out.apart2 hg rw0 gr0 (by omega))
      replace og := Lib.hid (og.out.apart2 hg rgo gr0 (by omega))
      replace bb := Lib.hid (bel_write bb.out hg gr0 (by omega))
      have szw14 := hg.size
      clear g
      clear ho hg
      go_wp2_with fail
      refine (eqImage_yes _ _ _ _ _ _ R.xs _ og.out.row ow.out (by omega)).mono ?_
      rintro e w15 ⟨rfl, hb⟩
      have szw15 := hb.size
      replace p0 := kept hb (block_lt p0) p0
      replace p1 := kept hb (block_lt p1) p1
      replace s0 := kept hb (block_lt s0) s0
      replace s1 := kept hb (block_lt s1) s1
      replace s2 := kept hb (block_lt s2) s2
      replace s3 := kept hb (block_lt s3) s3
      replace ow0 := kept hb (block_lt ow0) ow0
      replace ow1 := kept hb (block_lt ow1) ow1
      replace q0 := kept hb (block_lt q0) q0
      replace q1 := kept hb (block_lt q1) q1
      replace og0 := kept hb (block_lt og0) og0
      replace og1 := kept hb (block_lt og1) og1
      replace h := Lib.hid (h.out.bel hb)
      replace ow := Lib.hid (ow.out.bel hb)
      replace og := Lib.hid (og.out.bel hb)
      replace bb := Lib.hid (bb.out.trans (hb.mono bb.out.size))
      clear hb
      go_wp2_with fail
      refine (markImage_own _ _ _ _ _ R.xs 1 _ og.out (by omega) (by omega) (by omega)).mono ?_
      rintro e w16 ⟨rfl, hg, ho⟩
      replace p0 := hg.cell p0 (ne_rowOf rgo (by (try dsimp only); omega))
      replace p1 := hg.cell p1 (ne_rowOf rgo (by (try dsimp only); omega))
      replace s0 := hg.cell s0 (ne_rowOf rgo (by (try dsimp only); omega))
      replace s1 := hg.cell s1 (ne_rowOf rgo (by (try dsimp only); omega))
      replace s2 := hg.cell s2 (ne_rowOf rgo (by (try dsimp only); omega))
      replace s3 := hg.cell s3 (ne_rowOf rgo (by (try dsimp only); omega))
      replace ow0 := hg.cell ow0 (ne_rowOf rgo (by (try dsimp only); omega))
      replace ow1 := hg.cell ow1 (ne_rowOf rgo (by (try dsimp only); omega))
      replace q0 := hg.cell q0 (ne_rowOf rgo (by (try dsimp only); omega))
      replace q1 := hg.cell q1 (ne_rowOf rgo (by (try dsimp only); omega))
      replace og0 := hg.cell og0 (ne_box hnog)
      replace og1 := hg.cell og1 (ne_box hnog)
      replace h := Lib.hid (h.out.apart2 hg rgh rgo (by omega))
      replace ow := Lib.hid (ow.out.apart2 hg rw0 rgo (by omega))
      replace bb := Lib.hid (bel_write bb.out hg rgo (by omega))
      have szw16 := hg.size
      clear og
      have og := Lib.hid ho
      clear ho hg
      go_wp2_with fail
      refine (heldImage_any _ _ _ _ 1 _ og.out.row (by omega) (by omega) (by omega)).mono ?_
      rintro e w17 ⟨rfl, hb⟩
      have szw17 := hb.size
      replace p0 := kept hb (block_lt p0) p0
      replace p1 := kept hb (block_lt p1) p1
      replace s0 := kept hb (block_lt s0) s0
      replace s1 := kept hb (block_lt s1) s1
      replace s2 := kept hb (block_lt s2) s2
      replace s3 := kept hb (block_lt s3) s3
      replace ow0 := kept hb (block_lt ow0) ow0
      replace ow1 := kept hb (block_lt ow1) ow1
      replace q0 := kept hb (block_lt q0) q0
      replace q1 := kept hb (block_lt q1) q1
      replace og0 := kept hb (block_lt og0) og0
      replace og1 := kept hb (block_lt og1) og1
      replace h := Lib.hid (h.out.bel hb)
      replace ow := Lib.hid (ow.out.bel hb)
      replace og := Lib.hid (og.out.bel hb)
      replace bb := Lib.hid (bb.out.trans (hb.mono bb.out.size))
      clear hb
      go_upto_region 24 with fail
      go_cut [14, 15] (fun s14 s15 wx => ∃ (koh : Nat) (aoh : Option Addr) (coh : Nat), s14 = .pointer (some ⟨koh, 0, none⟩) ∧ s15 = .bool R.ok ∧ wx.cell? ⟨w.heap.size, 0, none⟩ = some (.int .i64 W) ∧ wx.cell? ⟨w.heap.size, 1, none⟩ = some (.slice a n c) ∧ wx.cell? ⟨w.heap.size + 1, 0, none⟩ = some (.int .i64 A) ∧ wx.cell? ⟨w.heap.size + 1, 1, none⟩ = some (.int .i64 B) ∧ wx.cell? ⟨w.heap.size + 1, 2, none⟩ = some (.int .i64 C) ∧ wx.cell? ⟨w.heap.size + 1, 3, none⟩ = some (.int .i64 D) ∧ wx.cell? ⟨kow, 0, none⟩ = some (.int .i64 R.W) ∧ wx.cell? ⟨kow, 1, none⟩ = some (.slice aow R.xs.length cow) ∧ wx.cell? ⟨w6.heap.size, 0, none⟩ = some (.int .i64 W) ∧ wx.cell? ⟨w6.heap.size, 1, none⟩ = some (.slice (some ⟨z, 0, none⟩) n n) ∧ wx.cell? ⟨kog, 0, none⟩ = some (.int .i64 R.W) ∧ wx.cell? ⟨kog, 1, none⟩ = some (.slice aog R.xs.length cog) ∧ Hid (Row wx a n (xs)) ∧ Hid (Row wx aow R.xs.length (R.xs)) ∧ Hid (OwnI wx w7.heap.size aog R.xs.length cog (marks 1 R.xs.length)) ∧ wx.cell? ⟨koh, 0, none⟩ = some (.int .i64 R.W) ∧ wx.cell? ⟨koh, 1, none⟩ = some (.slice aoh R.xs.length coh) ∧ Hid (OwnI wx w17.heap.size aoh R.xs.length coh R.xs) ∧ w17.heap.size ≤ koh ∧ w17.heap.size ≤ wx.heap.size ∧ (∀ p, aoh = some p → p.block ≠ koh) ∧ Hid (Below w.heap.size w wx))
      case first =>
        have tok0 : True := trivial
        go_wp2_with fail
        replace h := Lib.hid (h.out.bel ((Below.refl _ _).drew))
        replace ow := Lib.hid (ow.out.bel ((Below.refl _ _).drew))
        replace og := Lib.hid (og.out.bel ((Below.refl _ _).drew))
        replace bb := Lib.hid bb.out.drew
        go_region_held3 (fun W' => W'.cell? ⟨w.heap.size, 0, none⟩ = some (.int .i64 W) ∧ W'.cell? ⟨w.heap.size, 1, none⟩ = some (.slice a n c) ∧ W'.cell? ⟨w.heap.size + 1, 0, none⟩ = some (.int .i64 A) ∧ W'.cell? ⟨w.heap.size + 1, 1, none⟩ = some (.int .i64 B) ∧ W'.cell? ⟨w.heap.size + 1, 2, none⟩ = some (.int .i64 C) ∧ W'.cell? ⟨w.heap.size + 1, 3, none⟩ = some (.int .i64 D))
          (first | exact ⟨p0, p1, s0, s1, s2, s3⟩ | exact ⟨World.cell?_alloc_some p0, World.cell?_alloc_some p1, World.cell?_alloc_some s0, World.cell?_alloc_some s1, World.cell?_alloc_some s2, World.cell?_alloc_some s3⟩ | exact ⟨set2_cell p0 ltz_p0, set2_cell p1 ltz_p1, set2_cell s0 ltz_s0, set2_cell s1 ltz_s1, set2_cell s2 ltz_s2, set2_cell s3 ltz_s3⟩ | go_keep)
          (first | (go_at_call 55; have _t := tok0; (first | (obtain ⟨wz, hwz⟩ : ∃ wz, wz = (w17.alloc (.cells #[.int .i64 0, .slice none 0 0] 25)).drew := ⟨_, rfl⟩; rw [← hwz]; have hbz : Below w17.drew.heap.size w17.drew wz := (by rw [hwz]; exact (Below.refl _ _).alloc (Nat.le_refl _) _); have ltz_p0 : w.heap.size < w17.heap.size := block_lt (show w17.drew.cell? _ = _ from p0); replace p0 := kept hbz ltz_p0 (show w17.drew.cell? _ = _ from p0); have ltz_p1 : w.heap.size < w17.heap.size := block_lt (show w17.drew.cell? _ = _ from p1); replace p1 := kept hbz ltz_p1 (show w17.drew.cell? _ = _ from p1); have ltz_s0 : w.heap.size + 1 < w17.heap.size := block_lt (show w17.drew.cell? _ = _ from s0); replace s0 := kept hbz ltz_s0 (show w17.drew.cell? _ = _ from s0); have ltz_s1 : w.heap.size + 1 < w17.heap.size := block_lt (show w17.drew.cell? _ = _ from s1); replace s1 := kept hbz ltz_s1 (show w17.drew.cell? _ = _ from s1); have ltz_s2 : w.heap.size + 1 < w17.heap.size := block_lt (show w17.drew.cell? _ = _ from s2); replace s2 := kept hbz ltz_s2 (show w17.drew.cell? _ = _ from s2); have ltz_s3 : w.heap.size + 1 < w17.heap.size := block_lt (show w17.drew.cell? _ = _ from s3); replace s3 := kept hbz ltz_s3 (show w17.drew.cell? _ = _ from s3); have ltz_ow0 : kow < w17.heap.size := block_lt (show w17.drew.cell? _ = _ from ow0); replace ow0 := kept hbz ltz_ow0 (show w17.drew.cell? _ = _ from ow0); have ltz_ow1 : kow < w17.heap.size := block_lt (show w17.drew.cell? _ = _ from ow1); replace ow1 := kept hbz ltz_ow1 (show w17.drew.cell? _ = _ from ow1); have ltz_q0 : w6.heap.size < w17.heap.size := block_lt (show w17.drew.cell? _ = _ from q0); replace q0 := kept hbz ltz_q0 (show w17.drew.cell? _ = _ from q0); have ltz_q1 : w6.heap.size < w17.heap.size := block_lt (show w17.drew.cell? _ = _ from q1); replace q1 := kept hbz ltz_q1 (show w17.drew.cell? _ = _ from q1); have ltz_og0 : kog < w17.heap.size := block_lt (show w17.drew.cell? _ = _ from og0); replace og0 := kept hbz ltz_og0 (show w17.drew.cell? _ = _ from og0); have ltz_og1 : kog < w17.heap.size := block_lt (show w17.drew.cell? _ = _ from og1); replace og1 := kept hbz ltz_og1 (show w17.drew.cell? _ = _ from og1); have ltz_h : ∀ b off, a = some ⟨b, off, none⟩ → 0 < n → b < w17.heap.size := row_lt h.out; replace h := Lib.hid (h.out.bel hbz); have ltz_ow : ∀ b off, aow = some ⟨b, off, none⟩ → 0 < R.xs.length → b < w17.heap.size := row_lt ow.out; replace ow := Lib.hid (ow.out.bel hbz); have ltz_og : ∀ p : Addr, (aog : Option Addr) = some p → p.block < w17.heap.size := fun p hp => (rng_own og.out p hp).2; replace og := Lib.hid (og.out.bel hbz); have szb : w.heap.size ≤ w17.heap.size := bb.out.size; have szk : w17.heap.size ≤ w17.heap.size := (by omega); replace bb := Lib.hid (bb.out.trans (hbz.mono bb.out.size)); have zb : Box wz w17.heap.size (.int .i64 0) (.slice none 0 0) := (by rw [hwz]; exact ⟨by simp, by simp, fun o => by simp⟩); have z0 := zb.c0; have z1 := zb.c1; have zf := zb.fz; have zb := Lib.hid zb; have szz : w17.heap.size ≤ wz.heap.size := hbz.size; clear hwz hbz; refine (toImage_any W a n c xs _ h.out (by omega)).mono ?_) | (obtain ⟨wz, hwz⟩ : ∃ wz, wz = (w17.drew.alloc (.cells #[.int .i64 0, .slice none 0 0] 25)) := ⟨_, rfl⟩; rw [← hwz]; have hbz : Below w17.drew.heap.size w17.drew wz := (by rw [hwz]; exact (Below.refl _ _).alloc (Nat.le_refl _) _); have ltz_p0 : w.heap.size < w17.heap.size := block_lt (show w17.drew.cell? _ = _ from p0); replace p0 := kept hbz ltz_p0 (show w17.drew.cell? _ = _ from p0); have ltz_p1 : w.heap.size < w17.heap.size := block_lt (show w17.drew.cell? _ = _ from p1); replace p1 := kept hbz ltz_p1 (show w17.drew.cell? _ = _ from p1); have ltz_s0 : w.heap.size + 1 < w17.heap.size := block_lt (show w17.drew.cell? _ = _ from s0); replace s0 := kept hbz ltz_s0 (show w17.drew.cell? _ = _ from s0); have ltz_s1 : w.heap.size + 1 < w17.heap.size := block_lt (show w17.drew.cell? _ = _ from s1); replace s1 := kept hbz ltz_s1 (show w17.drew.cell? _ = _ from s1); have ltz_s2 : w.heap.size + 1 < w17.heap.size := block_lt (show w17.drew.cell? _ = _ from s2); replace s2 := kept hbz ltz_s2 (show w17.drew.cell? _ = _ from s2); have ltz_s3 : w.heap.size + 1 < w17.heap.size := block_lt (show w17.drew.cell? _ = _ from s3); replace s3 := kept hbz ltz_s3 (show w17.drew.cell? _ = _ from s3); have ltz_ow0 : kow < w17.heap.size := block_lt (show w17.drew.cell? _ = _ from ow0); replace ow0 := kept hbz ltz_ow0 (show w17.drew.cell? _ = _ from ow0); have ltz_ow1 : kow < w17.heap.size := block_lt (show w17.drew.cell? _ = _ from ow1); replace ow1 := kept hbz ltz_ow1 (show w17.drew.cell? _ = _ from ow1); have ltz_q0 : w6.heap.size < w17.heap.size := block_lt (show w17.drew.cell? _ = _ from q0); replace q0 := kept hbz ltz_q0 (show w17.drew.cell? _ = _ from q0); have ltz_q1 : w6.heap.size < w17.heap.size := block_lt (show w17.drew.cell? _ = _ from q1); replace q1 := kept hbz ltz_q1 (show w17.drew.cell? _ = _ from q1); have ltz_og0 : kog < w17.heap.size := block_lt (show w17.drew.cell? _ = _ from og0); replace og0 := kept hbz ltz_og0 (show w17.drew.cell? _ = _ from og0); have ltz_og1 : kog < w17.heap.size := block_lt (show w17.drew.cell? _ = _ from og1); replace og1 := kept hbz ltz_og1 (show w17.drew.cell? _ = _ from og1); have ltz_h : ∀ b off, a = some ⟨b, off, none⟩ → 0 < n → b < w17.heap.size := row_lt h.out; replace h := Lib.hid (h.out.bel hbz); have ltz_ow : ∀ b off, aow = some ⟨b, off, none⟩ → 0 < R.xs.length → b < w17.heap.size := row_lt ow.out; replace ow := Lib.hid (ow.out.bel hbz); have ltz_og : ∀ p : Addr, (aog : Option Addr) = some p → p.block < w17.heap.size := fun p hp => (rng_own og.out p hp).2; replace og := Lib.hid (og.out.bel hbz); have szb : w.heap.size ≤ w17.heap.size := bb.out.size; have szk : w17.heap.size ≤ w17.heap.size := (by omega); replace bb := Lib.hid (bb.out.trans (hbz.mono bb.out.size)); have zb : Box wz w17.heap.size (.int .i64 0) (.slice none 0 0) := (by rw [hwz]; exact ⟨by simp, by simp, fun o => by simp⟩); have z0 := zb.c0; have z1 := zb.c1; have zf := zb.fz; have zb := Lib.hid zb; have szz : w17.heap.size ≤ wz.heap.size := hbz.size; clear hwz hbz; refine (toImage_any W a n c xs _ h.out (by omega)).mono ?_) | (refine (toImage_any W a n c xs _ h.out (by omega)).mono ?_)); (try (have kzB := block_lt z0)); rintro e w18 ⟨⟨g6, rfl, hg6, ho⟩, hb⟩; have szy0 : w17.heap.size ≤ w18.heap.size := (by have := hb.size; first | (simpa using this) | (simp at this; omega) | omega); have r6 := Lib.hid ho.row; (first | replace p0 := kept hb (block_lt p0) p0 | replace p0 := kept hb (block_lt (show w17.drew.cell? _ = _ from p0)) (show w17.drew.cell? _ = _ from p0)); (first | replace p1 := kept hb (block_lt p1) p1 | replace p1 := kept hb (block_lt (show w17.drew.cell? _ = _ from p1)) (show w17.drew.cell? _ = _ from p1)); (first | replace s0 := kept hb (block_lt s0) s0 | replace s0 := kept hb (block_lt (show w17.drew.cell? _ = _ from s0)) (show w17.drew.cell? _ = _ from s0)); (first | replace s1 := kept hb (block_lt s1) s1 | replace s1 := kept hb (block_lt (show w17.drew.cell? _ = _ from s1)) (show w17.drew.cell? _ = _ from s1)); (first | replace s2 := kept hb (block_lt s2) s2 | replace s2 := kept hb (block_lt (show w17.drew.cell? _ = _ from s2)) (show w17.drew.cell? _ = _ from s2)); (first | replace s3 := kept hb (block_lt s3) s3 | replace s3 := kept hb (block_lt (show w17.drew.cell? _ = _ from s3)) (show w17.drew.cell? _ = _ from s3)); (first | replace ow0 := kept hb (block_lt ow0) ow0 | replace ow0 := kept hb (block_lt (show w17.drew.cell? _ = _ from ow0)) (show w17.drew.cell? _ = _ from ow0)); (first | replace ow1 := kept hb (block_lt ow1) ow1 | replace ow1 := kept hb (block_lt (show w17.drew.cell? _ = _ from ow1)) (show w17.drew.cell? _ = _ from ow1)); (first | replace q0 := kept hb (block_lt q0) q0 | replace q0 := kept hb (block_lt (show w17.drew.cell? _ = _ from q0)) (show w17.drew.cell? _ = _ from q0)); (first | replace q1 := kept hb (block_lt q1) q1 | replace q1 := kept hb (block_lt (show w17.drew.cell? _ = _ from q1)) (show w17.drew.cell? _ = _ from q1)); (first | replace og0 := kept hb (block_lt og0) og0 | replace og0 := kept hb (block_lt (show w17.drew.cell? _ = _ from og0)) (show w17.drew.cell? _ = _ from og0)); (first | replace og1 := kept hb (block_lt og1) og1 | replace og1 := kept hb (block_lt (show w17.drew.cell? _ = _ from og1)) (show w17.drew.cell? _ = _ from og1)); replace h := Lib.hid (h.out.bel hb); replace ow := Lib.hid (ow.out.bel hb); replace og := Lib.hid (og.out.bel hb); replace bb := Lib.hid (bb.out.trans (hb.mono bb.out.size)); (try (replace zb := Lib.hid (zb.out.bel hb); replace z0 := zb.out.c0; replace z1 := zb.out.c1; replace zf := zb.out.fz)); clear hb ho tok0 _t; have tok1 : True := trivial) | (go_at_call 56; have _t := tok1; (first | (obtain ⟨wz, hwz⟩ : ∃ wz, wz = (w18.alloc (.cells #[.int .i64 0, .slice none 0 0] 25)) := ⟨_, rfl⟩; rw [← hwz]; have hbz : Below w18.heap.size w18 wz := (by rw [hwz]; exact (Below.refl _ _).alloc (Nat.le_refl _) _); have ltz_p0 : w.heap.size < w18.heap.size := block_lt (show w18.cell? _ = _ from p0); replace p0 := kept hbz ltz_p0 (show w18.cell? _ = _ from p0); have ltz_p1 : w.heap.size < w18.heap.size := block_lt (show w18.cell? _ = _ from p1); replace p1 := kept hbz ltz_p1 (show w18.cell? _ = _ from p1); have ltz_s0 : w.heap.size + 1 < w18.heap.size := block_lt (show w18.cell? _ = _ from s0); replace s0 := kept hbz ltz_s0 (show w18.cell? _ = _ from s0); have ltz_s1 : w.heap.size + 1 < w18.heap.size := block_lt (show w18.cell? _ = _ from s1); replace s1 := kept hbz ltz_s1 (show w18.cell? _ = _ from s1); have ltz_s2 : w.heap.size + 1 < w18.heap.size := block_lt (show w18.cell? _ = _ from s2); replace s2 := kept hbz ltz_s2 (show w18.cell? _ = _ from s2); have ltz_s3 : w.heap.size + 1 < w18.heap.size := block_lt (show w18.cell? _ = _ from s3); replace s3 := kept hbz ltz_s3 (show w18.cell? _ = _ from s3); have ltz_ow0 : kow < w18.heap.size := block_lt (show w18.cell? _ = _ from ow0); replace ow0 := kept hbz ltz_ow0 (show w18.cell? _ = _ from ow0); have ltz_ow1 : kow < w18.heap.size := block_lt (show w18.cell? _ = _ from ow1); replace ow1 := kept hbz ltz_ow1 (show w18.cell? _ = _ from ow1); have ltz_q0 : w6.heap.size < w18.heap.size := block_lt (show w18.cell? _ = _ from q0); replace q0 := kept hbz ltz_q0 (show w18.cell? _ = _ from q0); have ltz_q1 : w6.heap.size < w18.heap.size := block_lt (show w18.cell? _ = _ from q1); replace q1 := kept hbz ltz_q1 (show w18.cell? _ = _ from q1); have ltz_og0 : kog < w18.heap.size := block_lt (show w18.cell? _ = _ from og0); replace og0 := kept hbz ltz_og0 (show w18.cell? _ = _ from og0); have ltz_og1 : kog < w18.heap.size := block_lt (show w18.cell? _ = _ from og1); replace og1 := kept hbz ltz_og1 (show w18.cell? _ = _ from og1); have ltz_h : ∀ b off, a = some ⟨b, off, none⟩ → 0 < n → b < w18.heap.size := row_lt h.out; replace h := Lib.hid (h.out.bel hbz); have ltz_ow : ∀ b off, aow = some ⟨b, off, none⟩ → 0 < R.xs.length → b < w18.heap.size := row_lt ow.out; replace ow := Lib.hid (ow.out.bel hbz); replace r6 := Lib.hid (r6.out.bel hbz); have ltz_og : ∀ p : Addr, (aog : Option Addr) = some p → p.block < w18.heap.size := fun p hp => (rng_own og.out p hp).2; replace og := Lib.hid (og.out.bel hbz); have szb : w.heap.size ≤ w18.heap.size := bb.out.size; have szk : w17.heap.size ≤ w18.heap.size := (by omega); replace bb := Lib.hid (bb.out.trans (hbz.mono bb.out.size)); have zb : Box wz w18.heap.size (.int .i64 0) (.slice none 0 0) := (by rw [hwz]; exact ⟨by simp, by simp, fun o => by simp⟩); have z0 := zb.c0; have z1 := zb.c1; have zf := zb.fz; have zb := Lib.hid zb; have szz : w18.heap.size ≤ wz.heap.size := hbz.size; clear hwz hbz; refine (toSwitch_any A B C D _).mono ?_) | (refine (toSwitch_any A B C D _).mono ?_)); (try (have kzB := block_lt z0)); rintro e w19 ⟨rfl, hb⟩; have szy1 : w18.heap.size ≤ w19.heap.size := (by have := hb.size; first | (simpa using this) | (simp at this; omega) | omega); replace p0 := kept hb (block_lt p0) p0; replace p1 := kept hb (block_lt p1) p1; replace s0 := kept hb (block_lt s0) s0; replace s1 := kept hb (block_lt s1) s1; replace s2 := kept hb (block_lt s2) s2; replace s3 := kept hb (block_lt s3) s3; replace ow0 := kept hb (block_lt ow0) ow0; replace ow1 := kept hb (block_lt ow1) ow1; replace q0 := kept hb (block_lt q0) q0; replace q1 := kept hb (block_lt q1) q1; replace og0 := kept hb (block_lt og0) og0; replace og1 := kept hb (block_lt og1) og1; replace h := Lib.hid (h.out.bel hb); replace ow := Lib.hid (ow.out.bel hb); replace r6 := Lib.hid (r6.out.bel hb); replace og := Lib.hid (og.out.bel hb); replace bb := Lib.hid (bb.out.trans (hb.mono bb.out.size)); (try (replace zb := Lib.hid (zb.out.bel hb); replace z0 := zb.out.c0; replace z1 := zb.out.c1; replace zf := zb.out.fz)); clear hb tok1 _t; have tok2 : True := trivial) | (go_at_call 29; have _t := tok2; (first | (obtain ⟨wz, hwz⟩ : ∃ wz, wz = (w19.alloc (.cells #[.int .i64 0, .slice none 0 0] 25)) := ⟨_, rfl⟩; rw [← hwz]; have hbz : Below w19.heap.size w19 wz := (by rw [hwz]; exact (Below.refl _ _).alloc (Nat.le_refl _) _); have ltz_p0 : w.heap.size < w19.heap.size := block_lt (show w19.cell? _ = _ from p0); replace p0 := kept hbz ltz_p0 (show w19.cell? _ = _ from p0); have ltz_p1 : w.heap.size < w19.heap.size := block_lt (show w19.cell? _ = _ from p1); replace p1 := kept hbz ltz_p1 (show w19.cell? _ = _ from p1); have ltz_s0 : w.heap.size + 1 < w19.heap.size := block_lt (show w19.cell? _ = _ from s0); replace s0 := kept hbz ltz_s0 (show w19.cell? _ = _ from s0); have ltz_s1 : w.heap.size + 1 < w19.heap.size := block_lt (show w19.cell? _ = _ from s1); replace s1 := kept hbz ltz_s1 (show w19.cell? _ = _ from s1); have ltz_s2 : w.heap.size + 1 < w19.heap.size := block_lt (show w19.cell? _ = _ from s2); replace s2 := kept hbz ltz_s2 (show w19.cell? _ = _ from s2); have ltz_s3 : w.heap.size + 1 < w19.heap.size := block_lt (show w19.cell? _ = _ from s3); replace s3 := kept hbz ltz_s3 (show w19.cell? _ = _ from s3); have ltz_ow0 : kow < w19.heap.size := block_lt (show w19.cell? _ = _ from ow0); replace ow0 := kept hbz ltz_ow0 (show w19.cell? _ = _ from ow0); have ltz_ow1 : kow < w19.heap.size := block_lt (show w19.cell? _ = _ from ow1); replace ow1 := kept hbz ltz_ow1 (show w19.cell? _ = _ from ow1); have ltz_q0 : w6.heap.size < w19.heap.size := block_lt (show w19.cell? _ = _ from q0); replace q0 := kept hbz ltz_q0 (show w19.cell? _ = _ from q0); have ltz_q1 : w6.heap.size < w19.heap.size := block_lt (show w19.cell? _ = _ from q1); replace q1 := kept hbz ltz_q1 (show w19.cell? _ = _ from q1); have ltz_og0 : kog < w19.heap.size := block_lt (show w19.cell? _ = _ from og0); replace og0 := kept hbz ltz_og0 (show w19.cell? _ = _ from og0); have ltz_og1 : kog < w19.heap.size := block_lt (show w19.cell? _ = _ from og1); replace og1 := kept hbz ltz_og1 (show w19.cell? _ = _ from og1); have ltz_h : ∀ b off, a = some ⟨b, off, none⟩ → 0 < n → b < w19.heap.size := row_lt h.out; replace h := Lib.hid (h.out.bel hbz); have ltz_ow : ∀ b off, aow = some ⟨b, off, none⟩ → 0 < R.xs.length → b < w19.heap.size := row_lt ow.out; replace ow := Lib.hid (ow.out.bel hbz); replace r6 := Lib.hid (r6.out.bel hbz); have ltz_og : ∀ p : Addr, (aog : Option Addr) = some p → p.block < w19.heap.size := fun p hp => (rng_own og.out p hp).2; replace og := Lib.hid (og.out.bel hbz); have szb : w.heap.size ≤ w19.heap.size := bb.out.size; have szk : w17.heap.size ≤ w19.heap.size := (by omega); replace bb := Lib.hid (bb.out.trans (hbz.mono bb.out.size)); have zb : Box wz w19.heap.size (.int .i64 0) (.slice none 0 0) := (by rw [hwz]; exact ⟨by simp, by simp, fun o => by simp⟩); have z0 := zb.c0; have z1 := zb.c1; have zf := zb.fz; have zb := Lib.hid zb; have szz : w19.heap.size ≤ wz.heap.size := hbz.size; clear hwz hbz; refine (DI.out _ _ _ r6.out).mono ?_) | (refine (DI.out _ _ _ r6.out).mono ?_)); (try (have kzB := block_lt z0)); rintro e w20 ⟨⟨az, cz, rfl, ho⟩, hb⟩; have szy2 : w19.heap.size ≤ w20.heap.size := (by have := hb.size; first | (simpa using this) | (simp at this; omega) | omega); have hoz := Lib.hid ho; replace p0 := kept hb (block_lt p0) p0; replace p1 := kept hb (block_lt p1) p1; replace s0 := kept hb (block_lt s0) s0; replace s1 := kept hb (block_lt s1) s1; replace s2 := kept hb (block_lt s2) s2; replace s3 := kept hb (block_lt s3) s3; replace ow0 := kept hb (block_lt ow0) ow0; replace ow1 := kept hb (block_lt ow1) ow1; replace q0 := kept hb (block_lt q0) q0; replace q1 := kept hb (block_lt q1) q1; replace og0 := kept hb (block_lt og0) og0; replace og1 := kept hb (block_lt og1) og1; replace h := Lib.hid (h.out.bel hb); replace ow := Lib.hid (ow.out.bel hb); replace r6 := Lib.hid (r6.out.bel hb); replace og := Lib.hid (og.out.bel hb); replace bb := Lib.hid (bb.out.trans (hb.mono bb.out.size)); (try (replace zb := Lib.hid (zb.out.bel hb); replace z0 := zb.out.c0; replace z1 := zb.out.c1; replace zf := zb.out.fz)); clear hb ho tok2 _t; have tok3 : True := trivial))
        all_goals
          go_wp2_with fail
          go_meet
          first | exact ⟨_, _, _, rfl, rfl, set2_cell p0 ltz_p0, set2_cell p1 ltz_p1, set2_cell s0 ltz_s0, set2_cell s1 ltz_s1, set2_cell s2 ltz_s2, set2_cell s3 ltz_s3, set2_cell ow0 ltz_ow0, set2_cell ow1 ltz_ow1, set2_cell q0 ltz_q0, set2_cell q1 ltz_q1, set2_cell og0 ltz_og0, set2_cell og1 ltz_og1, Lib.hid (set2_old h.out ltz_h), Lib.hid (set2_old ow.out ltz_ow), Lib.hid (set2_ownL og.out ltz_og), set2_c0 z0, set2_c1 z1, Lib.hid ((set2_ownB hoz.out (by omega)).mono (by omega)), by omega, by simp; omega, fun p hp => by have := rng_own hoz.out p hp; omega, Lib.hid (set2_bel bb.out (by omega))⟩ | exact ⟨_, _, _, rfl, rfl, World.cell?_alloc_some p0, World.cell?_alloc_some p1, World.cell?_alloc_some s0, World.cell?_alloc_some s1, World.cell?_alloc_some s2, World.cell?_alloc_some s3, World.cell?_alloc_some ow0, World.cell?_alloc_some ow1, World.cell?_alloc_some q0, World.cell?_alloc_some q1, World.cell?_alloc_some og0, World.cell?_alloc_some og1, Lib.hid (h.out.alloc _), Lib.hid (ow.out.alloc _), Lib.hid (og.out.bel ((Below.refl _ _).alloc (Nat.le_refl _) _)), by simp, by simp, Lib.hid ((hoz.out.bel ((Below.refl _ _).alloc (Nat.le_refl _) _)).mono (by omega)), by omega, by simp; omega, fun p hp => by have := rng_own hoz.out p hp; omega, Lib.hid (bb.out.alloc bb.out.size _)⟩
      case rest =>
        clear p0 p1 s0 s1 s2 s3 ow0 ow1 q0 q1 og0 og1 h ow og bb
        obtain ⟨koh, aoh, coh, rfl, rfl, p0, p1, s0, s1, s2, s3, ow0, ow1, q0, q1, og0, og1, h, ow, og, oh0, oh1, oh, kloh, szoh, hnoh, bb⟩ := hcut
        obtain ⟨w21, hwx⟩ : ∃ W, W = wc := ⟨_, rfl⟩
        subst hwx
        replace oh := Lib.hid oh.out.row
        go_wp2_with fail
        refine (eqImage_yes _ _ _ _ _ _ R.xs _ oh.out ow.out (by omega)).mono ?_
        rintro e w22 ⟨rfl, hb⟩
        have szw22 := hb.size
        replace p0 := kept hb (block_lt p0) p0
        replace p1 := kept hb (block_lt p1) p1
        replace s0 := kept hb (block_lt s0) s0
        replace s1 := kept hb (block_lt s1) s1
        replace s2 := kept hb (block_lt s2) s2
        replace s3 := kept hb (block_lt s3) s3
        replace ow0 := kept hb (block_lt ow0) ow0
        replace ow1 := kept hb (block_lt ow1) ow1
        replace q0 := kept hb (block_lt q0) q0
        replace q1 := kept hb (block_lt q1) q1
        replace og0 := kept hb (block_lt og0) og0
        replace og1 := kept hb (block_lt og1) og1
        replace oh0 := kept hb (block_lt oh0) oh0
        replace oh1 := kept hb (block_lt oh1) oh1
        replace h := Lib.hid (h.out.bel hb)
        replace ow := Lib.hid (ow.out.bel hb)
        replace oh := Lib.hid (oh.out.bel hb)
        replace og := Lib.hid (og.out.bel hb)
        replace bb := Lib.hid (bb.out.trans (hb.mono bb.out.size))
        clear hb
        go_wp2_with fail
        refine (heldImage_any _ _ _ _ 1 _ og.out.row (by omega) (by omega) (by omega)).mono ?_
        rintro e w23 ⟨rfl, hb⟩
        have szw23 := hb.size
        replace p0 := kept hb (block_lt p0) p0
        replace p1 := kept hb (block_lt p1) p1
        replace s0 := kept hb (block_lt s0) s0
        replace s1 := kept hb (block_lt s1) s1
        replace s2 := kept hb (block_lt s2) s2
        replace s3 := kept hb (block_lt s3) s3
        replace ow0 := kept hb (block_lt ow0) ow0
        replace ow1 := kept hb (block_lt ow1) ow1
        replace q0 := kept hb (block_lt q0) q0
        replace q1 := kept hb (block_lt q1) q1
        replace og0 := kept hb (block_lt og0) og0
        replace og1 := kept hb (block_lt og1) og1
        replace oh0 := kept hb (block_lt oh0) oh0
        replace oh1 := kept hb (block_lt oh1) oh1
        replace h := Lib.hid (h.out.bel hb)
        replace ow := Lib.hid (ow.out.bel hb)
        replace oh := Lib.hid (oh.out.bel hb)
        replace og := Lib.hid (og.out.bel hb)
        replace bb := Lib.hid (bb.out.trans (hb.mono bb.out.size))
        clear hb
        go_wp2_with fail
        go_ret
        exact ⟨rfl, bb.out⟩

set_option maxRecDepth 100000 in
theorem lifted (os : Os) (started : os.Started) (H : Type) (enc : TypeId × Value → H) :
    ReturnsInHanded {} Try.checked os 18 .any (Rows.fnExactSwitchDoSpec.pre6 enc Try.prog Try.f18 Rows.fnExactSwitchDoRow.domain false) (Rows.fnExactSwitchDoSpec.post enc Try.prog Try.f18 false true false false) := by
  refine returnsInHanded_of_change (C := Try.checked) own started (by kernel_rfl) Try.func18
    (ChangeSpec.witness6 (enc := enc) (C := Try.checked) false ⟨#[], #[.agg #[.int .i64 0, .slice none 0 0], .agg #[.int .i64 0, .int .i64 0, .int .i64 0, .int .i64 0]], []⟩ 8 (by kernel_rfl) (by kernel_rfl) (by kernel_rfl) (by kernel_rfl)) ?_
  intro W base args ds gs before hval0 hW hcnd _
  have hval : ∀ (j : Nat) t v, Try.f18.params[j]? = some t → args[j]? = some v → Value.okWide Try.prog W .any base t v := hval0
  have hW' := hW
  obtain ⟨p, q, hA0, hV, rfl, hfz, hnd⟩ := hW
  have hA : DataW.TrodAll enc Try.prog W 0 (fun _ => true) true Try.f18.params.toList args.toList ds p := hA0
  rw [Try.params18] at hA hval
  obtain ⟨v0, vs0, d0, ds0, p0, q0, hargs, rfl, rfl, h0, r0⟩ := trodAll_cons hA
  obtain ⟨v1, vs1, d1, ds1, p1, q1, rfl, rfl, rfl, h1, r1⟩ := trodAll_cons r0
  obtain ⟨rfl, rfl, rfl⟩ := trodAll_nil r1
  obtain rfl : args = #[v0, v1] := by cases args; simp_all
  obtain ⟨rfl, rfl⟩ := trodVars_none hV
  have k0 := h0
  have lt0 : ∀ x ∈ p0, x.block < W.heap.size := by obtain ⟨m, hm⟩ := k0; exact DataW.trod_lt m _ _ _ hm
  obtain ⟨n0, a0, len0, cap0, z0, rfl, w0, m0⟩ := open_img (hval 0 47 v0 rfl rfl) h0
  have k1 := h1
  have lt1 : ∀ x ∈ p1, x.block < W.heap.size := by obtain ⟨m, hm⟩ := k1; exact DataW.trod_lt m _ _ _ hm
  obtain ⟨A1, B1, C1, D1, rfl⟩ := open_sw (hval 1 48 v1 rfl rfl) h1
  clear hA0 hval0
  refine (walk n0 a0 len0 cap0 z0 A1 B1 C1 D1 W w0 m0).mono fun e W' ⟨he, bel⟩ => ?_
  subst he
  exact ⟨_, rfl, _, _, _, [], _, [], hW', trodAll_mk1 (shut_bool Try.underlying4 _), (trodAll_cons_mk (Below.trod laidOut (by kernel_rfl) (of_decide_eq_true (by kernel_rfl)) k0 bel lt0) (trodAll_cons_mk (Below.trod laidOut (by kernel_rfl) (of_decide_eq_true (by kernel_rfl)) k1 bel lt1) trodAll_mk0)), rfl, bel.frame _, fun h => by cases h⟩

theorem closed : joinedFacts Try.prog 18 Try.f18 Rows.fnExactSwitchDoSpec Rows.fnExactSwitchDoRow = true := by
  simp only [joinedFacts, Bool.and_eq_true]
  repeat' apply And.intro
  all_goals first | with_reducible exact mayEnterOk | (with_reducible rw [liftsFinalOk]; kernel_rfl) | (with_reducible rw [makeOk]; kernel_rfl) | kernel_rfl

theorem over : Rows.fnExactSwitchDoRow.holds Try.pinned (OpenSpec.ofChange Rows.fnExactSwitchDoSpec) :=
  OpenClaim.holds_of_wide 18 Try.f18 rfl rfl rfl rfl rfl rfl rfl ⟨rfl, rfl, rfl, rfl, rfl⟩ rfl rfl rfl rfl rfl (by kernel_rfl) Try.func18 closed
    (of_decide_eq_true (by kernel_rfl)) (by unfold Func.isWrapper; first | (rw [if_pos (by decide +kernel)]; kernel_rfl) | (rw [if_neg (by decide +kernel)]; exact ⟨rfl, rfl⟩))
    (fun os started H enc _ => lifted os started H enc)

theorem proved : Rows.FnExactSwitchDoSaid := over
#print axioms proved
end Go.Proofs.Ytnibmcihklaigaa.LSwitchDo

