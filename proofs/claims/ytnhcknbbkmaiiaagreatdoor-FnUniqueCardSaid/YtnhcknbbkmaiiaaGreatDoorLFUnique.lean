/-
  For every slice of bytes the law FnUnique answers true: a unique image is what is built of its sums; it stays unique turned and with the other cells; nothing that was there is written; no condition.
-/
import Derived.Test.YtnhcknbbkmaiiaaGreatDoorO
import Derived.Test.YtnhcknbbkmaiiaaGreatDoorCf
import Derived.Test.YtnhcknbbkmaiiaaGreatDoorK
import Derived.Deep.RegionLaw
import Derived.Test.YtnhcknbbkmaiiaaGreatDoorNu
import Derived.Test.YtnhcknbbkmaiiaaGreatDoorNv
import Derived.Test.YtnhcknbbkmaiiaaGreatDoorNs
import Derived.Test.YtnhcknbbkmaiiaaGreatDoorNd
import Derived.Test.YtnhcknbbkmaiiaaGreatDoorEp
import Derived.Test.YtnhcknbbkmaiiaaGreatDoorDm
import Derived.Test.YtnhcknbbkmaiiaaGreatDoorCe
namespace Go.Proofs.YtnhcknbbkmaiiaaGreatDoor.LFUnique
open Go.ChangeShapes Go.WideShapes Go.ChangeAt Go.RowKit Go.Joins

theorem held8_4 {V W W' : World} {p0 p1 p2 p3 p4 p5 p6 p7 : Addr} {u0 u1 u2 u3 u4 u5 u6 u7 : Value} {a0 : Option Addr} {n0 : Nat} {x0 : List Int} {a1 : Option Addr} {n1 : Nat} {x1 : List Int} {a2 : Option Addr} {n2 : Nat} {x2 : List Int} {a3 : Option Addr} {n3 : Nat} {x3 : List Int} (h : W.cell? p0 = some u0 ∧ W.cell? p1 = some u1 ∧ W.cell? p2 = some u2 ∧ W.cell? p3 = some u3 ∧ W.cell? p4 = some u4 ∧ W.cell? p5 = some u5 ∧ W.cell? p6 = some u6 ∧ W.cell? p7 = some u7 ∧ Row W a0 n0 x0 ∧ Row W a1 n1 x1 ∧ Row W a2 n2 x2 ∧ Row W a3 n3 x3 ∧ Below V.heap.size V W) (hb : Below W.heap.size W W') : W'.cell? p0 = some u0 ∧ W'.cell? p1 = some u1 ∧ W'.cell? p2 = some u2 ∧ W'.cell? p3 = some u3 ∧ W'.cell? p4 = some u4 ∧ W'.cell? p5 = some u5 ∧ W'.cell? p6 = some u6 ∧ W'.cell? p7 = some u7 ∧ Row W' a0 n0 x0 ∧ Row W' a1 n1 x1 ∧ Row W' a2 n2 x2 ∧ Row W' a3 n3 x3 ∧ Below V.heap.size V W' := by
  obtain ⟨h0, h1, h2, h3, h4, h5, h6, h7, r0, r1, r2, r3, b⟩ := h
  exact ⟨kept hb (block_lt h0) h0, kept hb (block_lt h1) h1, kept hb (block_lt h2) h2, kept hb (block_lt h3) h3, kept hb (block_lt h4) h4, kept hb (block_lt h5) h5, kept hb (block_lt h6) h6, kept hb (block_lt h7) h7, r0.bel hb, r1.bel hb, r2.bel hb, r3.bel hb, b.trans (hb.mono b.size)⟩

set_option maxHeartbeats 8000000 in
set_option maxRecDepth 100000 in
theorem walk (a : Option Addr) (len cap : Nat) (zs : List Int) (w : World) (pE : Addr) (hE : w.cell? ⟨0, 0, none⟩ = some (errV pE)) (h : Bys w a len zs) (hl : len ≤ cap) (hm : cap ≤ 9223372036854775807) :
    Calls Tryz.prog 4 #[.slice a len cap] w fun e w' => e = .returned (.bool true) ∧ Below w.heap.size w w' := by
  by_cases hbig : 1048576 < len
  · clear h
    go_enter Tryz.func4, Tryz.ntmps4
    go_wp2_with fail
    go_ret
    exact ⟨rfl, Below.refl _ _⟩
  go_enter Tryz.func4, Tryz.ntmps4
  go_wp2_with fail
  refine (draw_DrawImageUnique a len cap zs _ h hl hm).mono ?_
  rintro e w1 ⟨V, s, n, cg, xs, rfl, hR, hn, hb1⟩
  clear h hl hm
  have bb := Lib.hid hb1
  have p := Lib.hid hR
  have es := kept hb1 (block_lt hE) hE
  clear hR hb1 hE
  have hbx : Below w1.heap.size w1 (w1.alloc (.cells #[.int .i64 V, .slice s n cg] 25)) := (Below.refl _ _).alloc (Nat.le_refl _) _
  replace es := kept hbx (block_lt es) es
  replace p := Lib.hid (p.out.bel hbx)
  replace bb := Lib.hid (bb.out.trans (hbx.mono bb.out.size))
  clear hbx
  have p0 : (w1.alloc (.cells #[.int .i64 V, .slice s n cg] 25)).cell? ⟨w1.heap.size, 0, none⟩ = some (.int .i64 V) := by simp
  have p1 : (w1.alloc (.cells #[.int .i64 V, .slice s n cg] 25)).cell? ⟨w1.heap.size, 1, none⟩ = some (.slice s n cg) := by simp
  by_cases hv : uniO V xs = true
  case neg =>
    have hv : uniO V xs = false := by simpa using hv
    go_wp2_with fail
    refine (uni_io hv (by omega) _ _ _ p.out).mono ?_
    rintro e w2 ⟨rfl, hb⟩
    have szw2 : w1.heap.size + 1 ≤ w2.heap.size := by have := hb.size; simpa using this
    replace es := kept hb (block_lt es) es
    replace p0 := kept hb (block_lt p0) p0
    replace p1 := kept hb (block_lt p1) p1
    replace p := Lib.hid (p.out.bel hb)
    replace bb := Lib.hid (bb.out.trans (hb.mono bb.out.size))
    clear hb
    go_wp2_with fail
    refine (uni_so hv (by omega) _ _ _ p.out).mono ?_
    rintro e w3 ⟨rfl, hb⟩
    have szw3 := hb.size
    replace es := kept hb (block_lt es) es
    replace p0 := kept hb (block_lt p0) p0
    replace p1 := kept hb (block_lt p1) p1
    replace p := Lib.hid (p.out.bel hb)
    replace bb := Lib.hid (bb.out.trans (hb.mono bb.out.size))
    clear hb
    go_wp2_with fail
    go_ret
    exact ⟨rfl, bb.out⟩
  obtain ⟨W, rfl, hI, hu⟩ := unio_yes hv p.out.1
  have hW6 := hI.w6
  have hW1 := hI.w1
  have hn1 := hI.l1
  have hn6 := hI.l6
  replace hu := Lib.hid hu
  replace hI := Lib.hid hI
  replace hv := Lib.hid hv
  go_wp2_with fail
  refine (uni_io hv.out (by omega) _ _ _ p.out).mono ?_
  rintro e w4 ⟨rfl, hb⟩
  have szw4 : w1.heap.size + 1 ≤ w4.heap.size := by have := hb.size; simpa using this
  replace es := kept hb (block_lt es) es
  replace p0 := kept hb (block_lt p0) p0
  replace p1 := kept hb (block_lt p1) p1
  replace p := Lib.hid (p.out.bel hb)
  replace bb := Lib.hid (bb.out.trans (hb.mono bb.out.size))
  clear hb
  go_wp2_with fail
  refine (uni_so hv.out (by omega) _ _ _ p.out).mono ?_
  rintro e w5 ⟨rfl, hb⟩
  have szw5 := hb.size
  replace es := kept hb (block_lt es) es
  replace p0 := kept hb (block_lt p0) p0
  replace p1 := kept hb (block_lt p1) p1
  replace p := Lib.hid (p.out.bel hb)
  replace bb := Lib.hid (bb.out.trans (hb.mono bb.out.size))
  clear hb
  have hco := hI.out.con
  have hX := uniqs_one hI.out hu.out
  have hsu : uniqS (rsL xs W n) (csL xs n W) = true := (uniqs_im hI.out).2 hu.out
  have hIt := hI.out.turn
  have hIo := hI.out.oth
  have hbt : uniB (turnL xs W n) n W = true := unib_iff.2 ⟨fun _ => rfl, fun _ => (uniq_turn hI.out).2 hu.out⟩
  have hbo : uniB (othL xs W n) W n = true := unib_iff.2 ⟨fun _ => rfl, fun _ => (uniq_oth hI.out).2 hu.out⟩
  have hrs := Lib.hid (fun s c wx hx => rs_ok hI.out s c wx hx)
  have hcs := Lib.hid (fun s c wx hx => cs_ok hI.out s c wx hx)
  have lr : (rsL xs W n).length = n := rs_len _ _ _
  have lc : (csL xs n W).length = W := cs_len _ _ _
  obtain ⟨R, hR0⟩ : ∃ R, rsL xs W n = R := ⟨_, rfl⟩
  obtain ⟨C, hC0⟩ : ∃ C, csL xs n W = C := ⟨_, rfl⟩
  obtain ⟨T, hT⟩ : ∃ T, turnL xs W n = T := ⟨_, rfl⟩
  obtain ⟨O, hO⟩ : ∃ O, othL xs W n = O := ⟨_, rfl⟩
  rw [hR0] at hco hsu hrs hX lr
  rw [hC0] at hco hsu hcs hX lc
  rw [hT] at hIt hbt
  rw [hO] at hIo hbo
  have hn13 : n ≤ 13 := by omega
  have hW13 : W ≤ 13 := by omega
  replace hco := Lib.hid hco
  replace hX := Lib.hid hX
  replace hsu := Lib.hid hsu
  replace hIt := Lib.hid hIt
  replace hIo := Lib.hid hIo
  replace hbt := Lib.hid hbt
  replace hbo := Lib.hid hbo
  replace hR0 := Lib.hid hR0
  replace hC0 := Lib.hid hC0
  replace hT := Lib.hid hT
  replace hO := Lib.hid hO
  replace lr := Lib.hid lr
  replace lc := Lib.hid lc
  go_upto_region 8 with fail
  go_cut [6, 7] (fun s6 s7 wx => ∃ (kx : Nat) (ax : Option Addr) (cx : Nat), s6 = .pointer (some ⟨kx, 0, none⟩) ∧ s7 = .bool true ∧ wx.cell? ⟨0, 0, none⟩ = some (errV pE) ∧ wx.cell? ⟨w1.heap.size, 0, none⟩ = some (.int .i64 W) ∧ wx.cell? ⟨w1.heap.size, 1, none⟩ = some (.slice s n cg) ∧ wx.cell? ⟨kx, 0, none⟩ = some (.int .i64 W) ∧ wx.cell? ⟨kx, 1, none⟩ = some (.slice ax n cx) ∧ Hid (Row wx s n (xs)) ∧ Hid (Row wx ax n (xs)) ∧ Hid (Below w.heap.size w wx))
  case first =>
    have tok0 : True := trivial
    go_wp2_with fail
    replace p := Lib.hid (p.out.bel ((Below.refl _ _).drew))
    replace bb := Lib.hid bb.out.drew
    have lq_p0 : w1.heap.size < w5.heap.size := block_lt p0
    go_region_held3 (fun W' => W'.cell? ⟨w1.heap.size, 0, none⟩ = some (.int .i64 W) ∧ W'.cell? ⟨w1.heap.size, 1, none⟩ = some (.slice s n cg))
      (first | exact ⟨p0, p1⟩ | exact ⟨World.cell?_alloc_some p0, World.cell?_alloc_some p1⟩ | exact ⟨set2_cell p0 ltz_p0, set2_cell p1 ltz_p1⟩ | go_keep)
      (first | (go_at_call 8; have _t := tok0; (try (first | (obtain ⟨wz, hwz⟩ : ∃ wz, wz = (w5.alloc (.cells #[.int .i64 0, .slice none 0 0] 25)).drew := ⟨_, rfl⟩; rw [← hwz]; have hbz : Below w5.drew.heap.size w5.drew wz := (by rw [hwz]; exact (Below.refl _ _).alloc (Nat.le_refl _) _); have ltz_es : 0 < w5.heap.size := block_lt (show w5.drew.cell? _ = _ from es); replace es := kept hbz ltz_es (show w5.drew.cell? _ = _ from es); have ltz_p0 : w1.heap.size < w5.heap.size := block_lt (show w5.drew.cell? _ = _ from p0); replace p0 := kept hbz ltz_p0 (show w5.drew.cell? _ = _ from p0); have ltz_p1 : w1.heap.size < w5.heap.size := block_lt (show w5.drew.cell? _ = _ from p1); replace p1 := kept hbz ltz_p1 (show w5.drew.cell? _ = _ from p1); have ltz_p : ∀ b off, s = some ⟨b, off, none⟩ → 0 < n → b < w5.heap.size := row_lt p.out; replace p := Lib.hid (p.out.bel hbz); have szb : w.heap.size ≤ w5.heap.size := bb.out.size; replace bb := Lib.hid (bb.out.trans (hbz.mono bb.out.size)); have zb : Box wz w5.heap.size (.int .i64 0) (.slice none 0 0) := (by rw [hwz]; exact ⟨by simp, by simp, fun o => by simp⟩); have z0 := zb.c0; have z1 := zb.c1; have zf := zb.fz; have zb := Lib.hid zb; clear hwz hbz) | (obtain ⟨wz, hwz⟩ : ∃ wz, wz = (w5.drew.alloc (.cells #[.int .i64 0, .slice none 0 0] 25)) := ⟨_, rfl⟩; rw [← hwz]; have hbz : Below w5.drew.heap.size w5.drew wz := (by rw [hwz]; exact (Below.refl _ _).alloc (Nat.le_refl _) _); have ltz_es : 0 < w5.heap.size := block_lt (show w5.drew.cell? _ = _ from es); replace es := kept hbz ltz_es (show w5.drew.cell? _ = _ from es); have ltz_p0 : w1.heap.size < w5.heap.size := block_lt (show w5.drew.cell? _ = _ from p0); replace p0 := kept hbz ltz_p0 (show w5.drew.cell? _ = _ from p0); have ltz_p1 : w1.heap.size < w5.heap.size := block_lt (show w5.drew.cell? _ = _ from p1); replace p1 := kept hbz ltz_p1 (show w5.drew.cell? _ = _ from p1); have ltz_p : ∀ b off, s = some ⟨b, off, none⟩ → 0 < n → b < w5.heap.size := row_lt p.out; replace p := Lib.hid (p.out.bel hbz); have szb : w.heap.size ≤ w5.heap.size := bb.out.size; replace bb := Lib.hid (bb.out.trans (hbz.mono bb.out.size)); have zb : Box wz w5.heap.size (.int .i64 0) (.slice none 0 0) := (by rw [hwz]; exact ⟨by simp, by simp, fun o => by simp⟩); have z0 := zb.c0; have z1 := zb.c1; have zf := zb.fz; have zb := Lib.hid zb; clear hwz hbz))); (try (have kzB := block_lt z0)); (refine (hrs.out _ _ _ p.out).mono ?_); rintro e w6 ⟨⟨ar1, cr1, rfl, ho⟩, hb⟩; have szw6 := hb.size; have r1 := Lib.hid ho.row; (first | replace es := kept hb (block_lt es) es | replace es := kept hb (block_lt (show w5.drew.cell? _ = _ from es)) (show w5.drew.cell? _ = _ from es)); (first | replace p0 := kept hb (block_lt p0) p0 | replace p0 := kept hb (block_lt (show w5.drew.cell? _ = _ from p0)) (show w5.drew.cell? _ = _ from p0)); (first | replace p1 := kept hb (block_lt p1) p1 | replace p1 := kept hb (block_lt (show w5.drew.cell? _ = _ from p1)) (show w5.drew.cell? _ = _ from p1)); replace p := Lib.hid (p.out.bel hb); replace bb := Lib.hid (bb.out.trans (hb.mono bb.out.size)); (try (replace zb := Lib.hid (zb.out.bel hb); replace z0 := zb.out.c0; replace z1 := zb.out.c1; replace zf := zb.out.fz)); clear hb ho tok0 _t; have tok1 : True := trivial) | (go_at_call 12; have _t := tok1; (try (first | (obtain ⟨wz, hwz⟩ : ∃ wz, wz = (w6.alloc (.cells #[.int .i64 0, .slice none 0 0] 25)) := ⟨_, rfl⟩; rw [← hwz]; have hbz : Below w6.heap.size w6 wz := (by rw [hwz]; exact (Below.refl _ _).alloc (Nat.le_refl _) _); have ltz_es : 0 < w6.heap.size := block_lt (show w6.cell? _ = _ from es); replace es := kept hbz ltz_es (show w6.cell? _ = _ from es); have ltz_p0 : w1.heap.size < w6.heap.size := block_lt (show w6.cell? _ = _ from p0); replace p0 := kept hbz ltz_p0 (show w6.cell? _ = _ from p0); have ltz_p1 : w1.heap.size < w6.heap.size := block_lt (show w6.cell? _ = _ from p1); replace p1 := kept hbz ltz_p1 (show w6.cell? _ = _ from p1); have ltz_p : ∀ b off, s = some ⟨b, off, none⟩ → 0 < n → b < w6.heap.size := row_lt p.out; replace p := Lib.hid (p.out.bel hbz); have ltz_r1 : ∀ b off, ar1 = some ⟨b, off, none⟩ → 0 < n → b < w6.heap.size := row_lt r1.out; replace r1 := Lib.hid (r1.out.bel hbz); have szb : w.heap.size ≤ w6.heap.size := bb.out.size; replace bb := Lib.hid (bb.out.trans (hbz.mono bb.out.size)); have zb : Box wz w6.heap.size (.int .i64 0) (.slice none 0 0) := (by rw [hwz]; exact ⟨by simp, by simp, fun o => by simp⟩); have z0 := zb.c0; have z1 := zb.c1; have zf := zb.fz; have zb := Lib.hid zb; clear hwz hbz))); (try (have kzB := block_lt z0)); (refine (hcs.out _ _ _ p.out).mono ?_); rintro e w7 ⟨⟨ac1_, cc1_, rfl, ho⟩, hb⟩; have szw7 := hb.size; have c1_ := Lib.hid ho.row; replace es := kept hb (block_lt es) es; replace p0 := kept hb (block_lt p0) p0; replace p1 := kept hb (block_lt p1) p1; replace p := Lib.hid (p.out.bel hb); replace r1 := Lib.hid (r1.out.bel hb); replace bb := Lib.hid (bb.out.trans (hb.mono bb.out.size)); (try (replace zb := Lib.hid (zb.out.bel hb); replace z0 := zb.out.c0; replace z1 := zb.out.c1; replace zf := zb.out.fz)); clear hb ho tok1 _t; have tok2 : True := trivial) | (go_at_call 11; have _t := tok2; (try (first | (obtain ⟨wz, hwz⟩ : ∃ wz, wz = (w7.alloc (.cells #[.int .i64 0, .slice none 0 0] 25)) := ⟨_, rfl⟩; rw [← hwz]; have hbz : Below w7.heap.size w7 wz := (by rw [hwz]; exact (Below.refl _ _).alloc (Nat.le_refl _) _); have ltz_es : 0 < w7.heap.size := block_lt (show w7.cell? _ = _ from es); replace es := kept hbz ltz_es (show w7.cell? _ = _ from es); have ltz_p0 : w1.heap.size < w7.heap.size := block_lt (show w7.cell? _ = _ from p0); replace p0 := kept hbz ltz_p0 (show w7.cell? _ = _ from p0); have ltz_p1 : w1.heap.size < w7.heap.size := block_lt (show w7.cell? _ = _ from p1); replace p1 := kept hbz ltz_p1 (show w7.cell? _ = _ from p1); have ltz_p : ∀ b off, s = some ⟨b, off, none⟩ → 0 < n → b < w7.heap.size := row_lt p.out; replace p := Lib.hid (p.out.bel hbz); have ltz_r1 : ∀ b off, ar1 = some ⟨b, off, none⟩ → 0 < n → b < w7.heap.size := row_lt r1.out; replace r1 := Lib.hid (r1.out.bel hbz); have ltz_c1_ : ∀ b off, ac1_ = some ⟨b, off, none⟩ → 0 < W → b < w7.heap.size := row_lt c1_.out; replace c1_ := Lib.hid (c1_.out.bel hbz); have szb : w.heap.size ≤ w7.heap.size := bb.out.size; replace bb := Lib.hid (bb.out.trans (hbz.mono bb.out.size)); have zb : Box wz w7.heap.size (.int .i64 0) (.slice none 0 0) := (by rw [hwz]; exact ⟨by simp, by simp, fun o => by simp⟩); have z0 := zb.c0; have z1 := zb.c1; have zf := zb.fz; have zb := Lib.hid zb; clear hwz hbz))); (try (have kzB := block_lt z0)); (refine (bi_ok hco.out hX.out lr.out lc.out _ _ _ _ pE _ r1.out c1_.out es).mono ?_); rintro e w8 ⟨⟨ax, cx, rfl, ho⟩, hb⟩; have szw8 := hb.size; have hoz := Lib.hid ho; replace es := kept hb (block_lt es) es; replace p0 := kept hb (block_lt p0) p0; replace p1 := kept hb (block_lt p1) p1; replace p := Lib.hid (p.out.bel hb); replace r1 := Lib.hid (r1.out.bel hb); replace c1_ := Lib.hid (c1_.out.bel hb); replace bb := Lib.hid (bb.out.trans (hb.mono bb.out.size)); (try (replace zb := Lib.hid (zb.out.bel hb); replace z0 := zb.out.c0; replace z1 := zb.out.c1; replace zf := zb.out.fz)); clear hb ho tok2 _t; have tok3 : True := trivial))
    all_goals
      first | (have x0 := set2_c0 (u0 := .int .i64 W) (u1 := .slice ax n cx) z0; have x1 := set2_c1 (u0 := .int .i64 W) (u1 := .slice ax n cx) z1; replace es := set2_cell (u0 := .int .i64 W) (u1 := .slice ax n cx) es ltz_es; replace p0 := set2_cell (u0 := .int .i64 W) (u1 := .slice ax n cx) p0 ltz_p0; replace p1 := set2_cell (u0 := .int .i64 W) (u1 := .slice ax n cx) p1 ltz_p1; replace p := Lib.hid (set2_old (u0 := .int .i64 W) (u1 := .slice ax n cx) p.out ltz_p); have x := Lib.hid (set2_row (u0 := .int .i64 W) (u1 := .slice ax n cx) hoz.out.row (own_far hoz.out kzB)); replace bb := Lib.hid (set2_bel (u0 := .int .i64 W) (u1 := .slice ax n cx) bb.out szb)) | (have x0 : (w8.alloc (.cells #[.int .i64 W, .slice ax n cx] 25)).cell? ⟨w8.heap.size, 0, none⟩ = some (.int .i64 W) := (by simp); have x1 : (w8.alloc (.cells #[.int .i64 W, .slice ax n cx] 25)).cell? ⟨w8.heap.size, 1, none⟩ = some (.slice ax n cx) := (by simp); replace es := World.cell?_alloc_some (o := .cells #[.int .i64 W, .slice ax n cx] 25) es; replace p0 := World.cell?_alloc_some (o := .cells #[.int .i64 W, .slice ax n cx] 25) p0; replace p1 := World.cell?_alloc_some (o := .cells #[.int .i64 W, .slice ax n cx] 25) p1; replace p := Lib.hid (p.out.alloc (.cells #[.int .i64 W, .slice ax n cx] 25)); have x := Lib.hid (hoz.out.row.alloc (.cells #[.int .i64 W, .slice ax n cx] 25)); replace bb := Lib.hid (bb.out.alloc bb.out.size (.cells #[.int .i64 W, .slice ax n cx] 25)))
      go_wp2_with fail
      go_meet
      exact ⟨_, ax, cx, rfl, rfl, es, p0, p1, x0, x1, p, x, bb⟩
  case rest =>
    clear es p0 p1 p bb
    obtain ⟨kx, ax, cx, rfl, rfl, es, p0, p1, x0, x1, p, x, bb⟩ := hcut
    go_wp2_with fail
    refine ((hT.out ▸ turn_ok hI.out _ _ _ p.out)).mono ?_
    rintro e w9 ⟨⟨ab, cb, rfl, ho⟩, hb⟩
    have b := Lib.hid ho.row
    have szw9 := hb.size
    replace es := kept hb (block_lt es) es
    replace p0 := kept hb (block_lt p0) p0
    replace p1 := kept hb (block_lt p1) p1
    replace x0 := kept hb (block_lt x0) x0
    replace x1 := kept hb (block_lt x1) x1
    replace p := Lib.hid (p.out.bel hb)
    replace x := Lib.hid (x.out.bel hb)
    replace bb := Lib.hid (bb.out.trans (hb.mono bb.out.size))
    clear hb
    clear ho
    have hbx : Below w9.heap.size w9 (w9.alloc (.cells #[.int .i64 n, .slice ab W cb] 25)) := (Below.refl _ _).alloc (Nat.le_refl _) _
    replace es := kept hbx (block_lt es) es
    replace p0 := kept hbx (block_lt p0) p0
    replace p1 := kept hbx (block_lt p1) p1
    replace x0 := kept hbx (block_lt x0) x0
    replace x1 := kept hbx (block_lt x1) x1
    replace p := Lib.hid (p.out.bel hbx)
    replace x := Lib.hid (x.out.bel hbx)
    replace b := Lib.hid (b.out.bel hbx)
    replace bb := Lib.hid (bb.out.trans (hbx.mono bb.out.size))
    clear hbx
    have b0 : (w9.alloc (.cells #[.int .i64 n, .slice ab W cb] 25)).cell? ⟨w9.heap.size, 0, none⟩ = some (.int .i64 n) := by simp
    have b1 : (w9.alloc (.cells #[.int .i64 n, .slice ab W cb] 25)).cell? ⟨w9.heap.size, 1, none⟩ = some (.slice ab W cb) := by simp
    go_wp2_with fail
    refine ((hO.out ▸ other_ok hI.out _ _ _ p.out)).mono ?_
    rintro e w10 ⟨⟨ac, cc, rfl, ho⟩, hb⟩
    have c := Lib.hid ho.row
    have szw10 : w9.heap.size + 1 ≤ w10.heap.size := by have := hb.size; simpa using this
    replace es := kept hb (block_lt es) es
    replace p0 := kept hb (block_lt p0) p0
    replace p1 := kept hb (block_lt p1) p1
    replace x0 := kept hb (block_lt x0) x0
    replace x1 := kept hb (block_lt x1) x1
    replace b0 := kept hb (block_lt b0) b0
    replace b1 := kept hb (block_lt b1) b1
    replace p := Lib.hid (p.out.bel hb)
    replace x := Lib.hid (x.out.bel hb)
    replace b := Lib.hid (b.out.bel hb)
    replace bb := Lib.hid (bb.out.trans (hb.mono bb.out.size))
    clear hb
    clear ho
    have hbx : Below w10.heap.size w10 (w10.alloc (.cells #[.int .i64 W, .slice ac n cc] 25)) := (Below.refl _ _).alloc (Nat.le_refl _) _
    replace es := kept hbx (block_lt es) es
    replace p0 := kept hbx (block_lt p0) p0
    replace p1 := kept hbx (block_lt p1) p1
    replace x0 := kept hbx (block_lt x0) x0
    replace x1 := kept hbx (block_lt x1) x1
    replace b0 := kept hbx (block_lt b0) b0
    replace b1 := kept hbx (block_lt b1) b1
    replace p := Lib.hid (p.out.bel hbx)
    replace x := Lib.hid (x.out.bel hbx)
    replace b := Lib.hid (b.out.bel hbx)
    replace c := Lib.hid (c.out.bel hbx)
    replace bb := Lib.hid (bb.out.trans (hbx.mono bb.out.size))
    clear hbx
    have c0 : (w10.alloc (.cells #[.int .i64 W, .slice ac n cc] 25)).cell? ⟨w10.heap.size, 0, none⟩ = some (.int .i64 W) := by simp
    have c1 : (w10.alloc (.cells #[.int .i64 W, .slice ac n cc] 25)).cell? ⟨w10.heap.size, 1, none⟩ = some (.slice ac n cc) := by simp
    go_upto_region 11 with fail
    obtain ⟨w11, hwn⟩ : ∃ w11, w10.alloc (.cells #[.int .i64 W, .slice ac n cc] 25) = w11 := ⟨_, rfl⟩
    have szw11 : w10.heap.size + 1 ≤ w11.heap.size := by rw [← hwn]; simp
    rw [hwn] at es p0 p1 x0 x1 b0 b1 c0 c1 p x b c bb
    (try rw [hwn])
    clear hwn
    go_wp2_with fail
    have x_ := x.out
    have p_ := p.out
    have b_ := b.out
    have c_ := c.out
    have tok0 : True := trivial
    go_region_held3 (fun W' => W'.cell? ⟨kx, 0, none⟩ = some (.int .i64 W) ∧ W'.cell? ⟨kx, 1, none⟩ = some (.slice ax n cx) ∧ W'.cell? ⟨w1.heap.size, 0, none⟩ = some (.int .i64 W) ∧ W'.cell? ⟨w1.heap.size, 1, none⟩ = some (.slice s n cg) ∧ W'.cell? ⟨w9.heap.size, 0, none⟩ = some (.int .i64 n) ∧ W'.cell? ⟨w9.heap.size, 1, none⟩ = some (.slice ab W cb) ∧ W'.cell? ⟨w10.heap.size, 0, none⟩ = some (.int .i64 W) ∧ W'.cell? ⟨w10.heap.size, 1, none⟩ = some (.slice ac n cc) ∧ Row W' ax n xs ∧ Row W' s n xs ∧ Row W' ab W T ∧ Row W' ac n O ∧ Below w11.heap.size w11 W')
      (first | exact held8_4 ⟨x0, x1, p0, p1, b0, b1, c0, c1, x_, p_, b_, c_, Below.refl _ _⟩ ((Below.refl _ _).drew) | (refine held8_4 ?_ (by assumption); assumption))
      (first | (go_at_call 15; have _t := tok0; have hS := ‹_ ∧ _ ∧ _ ∧ _ ∧ _ ∧ _ ∧ _ ∧ _ ∧ Row _ _ _ _ ∧ Row _ _ _ _ ∧ Row _ _ _ _ ∧ Row _ _ _ _ ∧ Below _ _ _›; refine (sameImage_yes _ _ _ _ _ _ xs _ (hS.2.2.2.2.2.2.2.2.1) (hS.2.2.2.2.2.2.2.2.2.1) (by omega)).mono ?_; rintro e w12 ⟨rfl, hb⟩; clear hS tok0 _t; have tok1 : True := trivial) | (go_at_call 8; have _t := tok1; have hS := ‹_ ∧ _ ∧ _ ∧ _ ∧ _ ∧ _ ∧ _ ∧ _ ∧ Row _ _ _ _ ∧ Row _ _ _ _ ∧ Row _ _ _ _ ∧ Row _ _ _ _ ∧ Below _ _ _›; refine (hrs.out _ _ _ (hS.2.2.2.2.2.2.2.2.2.1)).mono ?_; rintro e w13 ⟨⟨ar, cr, rfl, ho⟩, hb⟩; have rl := Lib.hid ho.row; clear ho; clear hS tok1 _t; have tok2 : True := trivial) | (go_at_call 12; have _t := tok2; have hS := ‹_ ∧ _ ∧ _ ∧ _ ∧ _ ∧ _ ∧ _ ∧ _ ∧ Row _ _ _ _ ∧ Row _ _ _ _ ∧ Row _ _ _ _ ∧ Row _ _ _ _ ∧ Below _ _ _›; refine (hcs.out _ _ _ (hS.2.2.2.2.2.2.2.2.2.1)).mono ?_; rintro e w14 ⟨⟨ac_, cc_, rfl, ho⟩, hb⟩; have cl := Lib.hid ho.row; replace rl := Lib.hid (rl.out.bel hb); clear ho; clear hS tok2 _t; have tok3 : True := trivial) | (go_at_call 21; have _t := tok3; have hS := ‹_ ∧ _ ∧ _ ∧ _ ∧ _ ∧ _ ∧ _ ∧ _ ∧ Row _ _ _ _ ∧ Row _ _ _ _ ∧ Row _ _ _ _ ∧ Row _ _ _ _ ∧ Below _ _ _›; refine (su_ok hsu.out _ _ _ _ _ _ _ rl.out cl.out hn13 hW13).mono ?_; rintro e w15 ⟨rfl, hb⟩; clear rl cl; clear hS tok3 _t; have tok4 : True := trivial) | (go_at_call 17; have _t := tok4; have hS := ‹_ ∧ _ ∧ _ ∧ _ ∧ _ ∧ _ ∧ _ ∧ _ ∧ Row _ _ _ _ ∧ Row _ _ _ _ ∧ Row _ _ _ _ ∧ Row _ _ _ _ ∧ Below _ _ _›; refine (uni_ok hIt.out hbt.out _ _ _ (hS.2.2.2.2.2.2.2.2.2.2.1)).mono ?_; rintro e w16 ⟨rfl, hb⟩; clear hS tok4 _t; have tok5 : True := trivial) | (go_at_call 17; have _t := tok5; have hS := ‹_ ∧ _ ∧ _ ∧ _ ∧ _ ∧ _ ∧ _ ∧ _ ∧ Row _ _ _ _ ∧ Row _ _ _ _ ∧ Row _ _ _ _ ∧ Row _ _ _ _ ∧ Below _ _ _›; refine (uni_ok hIo.out hbo.out _ _ _ (hS.2.2.2.2.2.2.2.2.2.2.2.1)).mono ?_; rintro e w17 ⟨rfl, hb⟩; clear hS tok5 _t; have tok6 : True := trivial))
    have hbl : Below w11.heap.size w11 w17 := And.right (And.right (And.right (And.right (And.right (And.right (And.right (And.right (And.right (And.right (And.right (And.right (‹w17.cell? _ = _ ∧ _›))))))))))))
    clear x_
    clear p_
    clear b_
    clear c_
    have szw17 := hbl.size
    replace es := kept hbl (block_lt es) es
    replace p0 := kept hbl (block_lt p0) p0
    replace p1 := kept hbl (block_lt p1) p1
    replace x0 := kept hbl (block_lt x0) x0
    replace x1 := kept hbl (block_lt x1) x1
    replace b0 := kept hbl (block_lt b0) b0
    replace b1 := kept hbl (block_lt b1) b1
    replace c0 := kept hbl (block_lt c0) c0
    replace c1 := kept hbl (block_lt c1) c1
    replace p := Lib.hid (p.out.bel hbl)
    replace x := Lib.hid (x.out.bel hbl)
    replace b := Lib.hid (b.out.bel hbl)
    replace c := Lib.hid (c.out.bel hbl)
    replace bb := Lib.hid (bb.out.trans (hbl.mono bb.out.size))
    clear hbl
    go_wp2_with fail
    go_ret
    exact ⟨rfl, bb.out⟩

set_option maxRecDepth 100000 in
theorem lifted (os : Os) (started : os.Started) (H : Type) (enc : TypeId × Value → H) :
    ReturnsInHanded {} Tryz.checked os 4 .any (fun w args => (Rows.fnUniqueSpec.pre enc Tryz.prog Tryz.f4 [] false w args ∧ laidMetH Tryz.prog Rows.fnUniqueRow.laid w) ∧ sizedMet enc Tryz.prog Tryz.f4 (OpenSpec.ofChange Rows.fnUniqueSpec) false w args) (Rows.fnUniqueSpec.post enc Tryz.prog Tryz.f4 false true false false) := by
  refine returnsInHanded_of_change_and (C := Tryz.checked) (X := fun w _ => laidMetH Tryz.prog Rows.fnUniqueRow.laid w) (fun _ _ _ hh h => h.of_heap hh) own started (by kernel_rfl) Tryz.func4
    (ChangeSpec.witness_shaped (enc := enc) (C := Tryz.checked) (os := os) (X := fun w _ => laidMetH Tryz.prog Rows.fnUniqueRow.laid w) false (World.doorLaid Tryz.prog 28 os) #[.slice none 0 0] 8 rfl (World.shaped_of_RefB (by kernel_rfl) (by kernel_rfl)) (by kernel_rfl) (by kernel_rfl) (by kernel_rfl) (door_met os _)) ?_
  intro W base args ds gs before hval0 hW _ _ hL _
  have hval : ∀ (j : Nat) t v, Tryz.f4.params[j]? = some t → args[j]? = some v → Value.okWide Tryz.prog W .any base t v := hval0
  have hW' := hW
  obtain ⟨p, q, hA0, hV, rfl, hfz, hnd⟩ := hW
  have hA : DataW.TrodAll enc Tryz.prog W 0 (fun _ => true) true Tryz.f4.params.toList args.toList ds p := hA0
  rw [Tryz.params4] at hA hval
  obtain ⟨v0, vs0, d0, ds0, p0, q0, hargs, rfl, rfl, h0, r0⟩ := trodAll_cons hA
  obtain ⟨rfl, rfl, rfl⟩ := trodAll_nil r0
  obtain rfl : args = #[v0] := by cases args; simp_all
  obtain ⟨pE, hv0, hE⟩ := sentinel_of hL
  have hV' : DataW.TrodVars enc Tryz.prog W (fun _ => true) ["loop.example/discretetomography/impl.errNoImage"] gs q := hV
  obtain ⟨rfl, rfl⟩ := hV'.unique (vars_read1 enc gE gEType Tryz.underlying71 hv0 trivial _)
  have k0 := h0
  have lt0 : ∀ x ∈ p0, x.block < W.heap.size := by obtain ⟨m, hm⟩ := k0; exact DataW.trod_lt m _ _ _ hm
  obtain ⟨a0, len0, cap0, z0, rfl, w0, l0, m0⟩ := open_code (hval 0 22 v0 rfl rfl) h0
  clear hA0 hval0
  refine (walk a0 len0 cap0 z0 W pE hE w0 l0 m0).mono fun e W' ⟨he, bel⟩ => ?_
  subst he
  exact ⟨_, rfl, _, _, _, [], _, [.cell 0 0], hW', trodAll_mk1 (shut_bool Tryz.underlying4 _), (trodAll_cons_mk (Below.trod laidOut (by kernel_rfl) (of_decide_eq_true (by kernel_rfl)) k0 bel lt0) trodAll_mk0), vars_read1 enc gE gEType Tryz.underlying71 (var_bel bel hv0) trivial _, bel.frame _, fun h => by cases h⟩

theorem closed : joinedFacts Tryz.prog 4 Tryz.f4 Rows.fnUniqueSpec Rows.fnUniqueRow = true := by
  simp only [joinedFacts, Bool.and_eq_true]
  repeat' apply And.intro
  all_goals first | with_reducible exact mayEnterOk | (with_reducible rw [liftsFinalOk]; kernel_rfl) | (with_reducible rw [makeOk]; kernel_rfl) | kernel_rfl

theorem over : Rows.fnUniqueRow.holds Tryz.pinned (OpenSpec.ofChange Rows.fnUniqueSpec) :=
  OpenClaim.holds_of_wide 4 Tryz.f4 rfl rfl rfl rfl rfl rfl rfl ⟨rfl, rfl, rfl, rfl, rfl⟩ rfl rfl rfl rfl rfl (by kernel_rfl) Tryz.func4 closed
    (of_decide_eq_true (by kernel_rfl)) (by unfold Func.isWrapper; first | (rw [if_pos (by decide +kernel)]; kernel_rfl) | (rw [if_neg (by decide +kernel)]; exact ⟨rfl, rfl⟩))
    (fun os started H enc _ => lifted os started H enc)

theorem plain (f : FuncId) (fn : Func) (hf : Tryz.pinned.checked.prog.funcNamed "loop.example/discretetomography/laws.FnUnique" = some f) (hfn : Tryz.pinned.checked.prog.funcs[f]? = some fn) :
    true = Tryz.pinned.checked.prog.looks [] ∧ ∀ (j : Nat) t, fn.params[j]? = some t → Tryz.pinned.checked.prog.wantsStandIn t = false := by
  obtain rfl : f = 4 := Option.some.inj ((show Tryz.prog.funcNamed "loop.example/discretetomography/laws.FnUnique" = some 4 by kernel_rfl).symm.trans hf) |>.symm
  obtain rfl : fn = Tryz.f4 := (Option.some.inj (Tryz.func4.symm.trans hfn)).symm
  refine ⟨looksOk, fun j t ht => ?_⟩
  rw [Tryz.params4] at ht
  obtain rfl : t = 22 := by simpa using Array.mem_of_getElem? ht
  exact wantsCode

theorem proved : Rows.FnUniqueCardSaid :=
  Claim7.holds_tied_plain_at .later [] _ _ _ _ over (fun _ h => by cases h) (by kernel_rfl) (fun _ h => by cases h) fnUnique_row_tie rfl ⟨rfl, rfl⟩ (by kernel_rfl) rfl plain (by kernel_rfl)
#print axioms proved
end Go.Proofs.YtnhcknbbkmaiiaaGreatDoor.LFUnique

