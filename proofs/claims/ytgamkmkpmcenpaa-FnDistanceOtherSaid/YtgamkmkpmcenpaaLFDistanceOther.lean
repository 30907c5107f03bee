/-
  For any two slices of bytes the law FnDistanceOther answers true: an image with one cell changed has a distance of one, and the other cells the rest of the distance; nothing that was there is written; no condition.
-/
import Derived.Test.YtgamkmkpmcenpaaO
import Derived.Test.YtgamkmkpmcenpaaK
import Derived.Deep.RegionLaw
import Derived.Test.YtgamkmkpmcenpaaWg
import Derived.Test.YtgamkmkpmcenpaaA
namespace Go.Proofs.Ytgamkmkpmcenpaa.LFDistanceOther
open Go.ChangeShapes Go.WideShapes Go.ChangeAt Go.RowKit Go.Joins

set_option maxHeartbeats 4000000 in
set_option maxRecDepth 100000 in
theorem walk (a : Option Addr) (len cap : Nat) (zs : List Int) (a2 : Option Addr) (len2 cap2 : Nat) (zs2 : List Int) (w : World) (h : Bys w a len zs) (hl : len ≤ cap) (hm : cap ≤ 9223372036854775807) (_ : Bys w a2 len2 zs2) (_ : len2 ≤ cap2) (_ : cap2 ≤ 9223372036854775807) :
    Calls Try.prog 4 #[.slice a len cap, .slice a2 len2 cap2] w fun e w' => e = .returned (.bool true) ∧ Below w.heap.size w w' := by
  by_cases hbig : 1048576 < len
  · clear h
    go_enter Try.func4, Try.ntmps4
    go_wp2_with fail
    go_ret
    exact ⟨rfl, Below.refl _ _⟩
  by_cases hbig2 : 1048576 < len2
  · clear h
    go_enter Try.func4, Try.ntmps4
    go_wp2_with fail
    go_ret
    exact ⟨rfl, Below.refl _ _⟩
  go_enter Try.func4, Try.ntmps4
  go_wp2_with fail
  refine (draw_DrawImageDistance a len cap zs _ h hl hm).mono ?_
  rintro e w1 ⟨V, s, n, cg, xs, V2, t, m, ch, ys, rfl, hX, hY, hnm, hb1⟩
  clear h hl hm
  have bb := Lib.hid hb1
  have p := Lib.hid hX
  have q := Lib.hid hY
  obtain ⟨w2, hw2⟩ : ∃ w2, w2 = (w1.alloc (.cells #[.int .i64 V, .slice s n cg] 25)).alloc (.cells #[.int .i64 V2, .slice t m ch] 25) := ⟨_, rfl⟩
  have hb : Below w1.heap.size w1 w2 := by subst hw2; exact ((Below.refl _ _).alloc (Nat.le_refl _) _).alloc (by simp) _
  have p0 : w2.cell? ⟨w1.heap.size, 0, none⟩ = some (.int .i64 V) := by subst hw2; go_simp
  have p1 : w2.cell? ⟨w1.heap.size, 1, none⟩ = some (.slice s n cg) := by subst hw2; go_simp
  have q0 : w2.cell? ⟨w1.heap.size + 1, 0, none⟩ = some (.int .i64 V2) := by subst hw2; go_simp
  have q1 : w2.cell? ⟨w1.heap.size + 1, 1, none⟩ = some (.slice t m ch) := by subst hw2; go_simp
  clear hX hY hb1
  have szw2 := hb.size
  replace p := Lib.hid (p.out.bel hb)
  replace q := Lib.hid (q.out.bel hb)
  replace bb := Lib.hid (bb.out.trans (hb.mono bb.out.size))
  clear hb
  go_wp2_with fail
  rw [← hw2]
  clear hw2
  by_cases hv : shapeB V xs V2 ys = true
  case neg =>
    have hv : shapeB V xs V2 ys = false := by simpa using hv
    refine (far_no hv (by omega) (by omega) _ _ _ _ _ p.out q.out).mono ?_
    rintro e w3 ⟨rfl, hb⟩
    have szw3 := hb.size
    replace p0 := kept hb (block_lt p0) p0
    replace p1 := kept hb (block_lt p1) p1
    replace q0 := kept hb (block_lt q0) q0
    replace q1 := kept hb (block_lt q1) q1
    replace p := Lib.hid (p.out.bel hb)
    replace q := Lib.hid (q.out.bel hb)
    replace bb := Lib.hid (bb.out.trans (hb.mono bb.out.size))
    clear hb
    go_wp2_with fail
    refine (fars_no hv (by omega) (by omega) _ _ _ _ _ p.out q.out).mono ?_
    rintro e w4 ⟨rfl, hb⟩
    have szw4 := hb.size
    replace p0 := kept hb (block_lt p0) p0
    replace p1 := kept hb (block_lt p1) p1
    replace q0 := kept hb (block_lt q0) q0
    replace q1 := kept hb (block_lt q1) q1
    replace p := Lib.hid (p.out.bel hb)
    replace q := Lib.hid (q.out.bel hb)
    replace bb := Lib.hid (bb.out.trans (hb.mono bb.out.size))
    clear hb
    go_wp2_with fail
    go_ret
    exact ⟨rfl, bb.out⟩
  obtain ⟨W, rfl, rfl, rfl, hI, hJ⟩ := shape_im p.out.1 q.out.1 hv
  have hW6 := hI.w6
  have hW1 := hI.w1
  have hn1 := hI.l1
  have hn6 := hI.l6
  obtain ⟨f, hf⟩ : ∃ f, farL xs ys W n = f := ⟨_, rfl⟩
  have hf0 := farl_bd hI ys
  rw [hf] at hf0
  have fz : ¬ f < 0 := by omega
  clear hv
  refine (far_ok hI hJ hf _ _ _ _ _ p.out q.out).mono ?_
  rintro e w5 ⟨rfl, hb⟩
  have szw5 := hb.size
  replace p0 := kept hb (block_lt p0) p0
  replace p1 := kept hb (block_lt p1) p1
  replace q0 := kept hb (block_lt q0) q0
  replace q1 := kept hb (block_lt q1) q1
  replace p := Lib.hid (p.out.bel hb)
  replace q := Lib.hid (q.out.bel hb)
  replace bb := Lib.hid (bb.out.trans (hb.mono bb.out.size))
  clear hb
  go_wp2_with fail
  refine (fars_ok hI hJ hf _ _ _ _ _ p.out q.out).mono ?_
  rintro e w6 ⟨rfl, hb⟩
  have szw6 := hb.size
  replace p0 := kept hb (block_lt p0) p0
  replace p1 := kept hb (block_lt p1) p1
  replace q0 := kept hb (block_lt q0) q0
  replace q1 := kept hb (block_lt q1) q1
  replace p := Lib.hid (p.out.bel hb)
  replace q := Lib.hid (q.out.bel hb)
  replace bb := Lib.hid (bb.out.trans (hb.mono bb.out.size))
  clear hb
  have k0 : len2 % n < n := Nat.mod_lt _ (by omega)
  have l0 : len2 / n % W < W := Nat.mod_lt _ (by omega)
  have hmod : ((len2 : Int) % (n : Int)) = ((len2 % n : Nat) : Int) := (Int.natCast_emod _ _).symm
  have hmod2 : (((len2 : Int) / (n : Int)) % (W : Int)) = ((len2 / n % W : Nat) : Int) := by rw [Int.natCast_emod, Int.natCast_ediv]
  have hdiv : ((len2 : Int) / (n : Int)) = ((len2 / n : Nat) : Int) := (Int.natCast_ediv _ _).symm
  have hdl : len2 / n ≤ len2 := Nat.div_le_self _ _
  have hd0 : 0 ≤ (len2 : Int) / (n : Int) := Int.ediv_nonneg (by omega) (by omega)
  have hwd : IntKind.i64.wrap ((len2 : Int) / (n : Int)) = (len2 : Int) / (n : Int) := by rw [hdiv]; exact IntWalk.i64_in _ ⟨by omega, by omega⟩
  have hwd2 : wrap64 ((len2 : Int) / (n : Int)) = (len2 : Int) / (n : Int) := by rw [hdiv]; unfold wrap64; omega
  generalize len2 % n = i at k0 hmod
  generalize len2 / n % W = j at l0 hmod2
  have hmod3 : ((len2 : Int) / (n : Int)).tmod (W : Int) = (j : Int) := by rw [Int.tmod_eq_emod_of_nonneg hd0]; exact hmod2
  replace hmod := Lib.hid hmod
  replace hmod3 := Lib.hid hmod3
  clear hdiv hdl hmod2 hd0
  have hpc := put_cell hI k0 l0
  have hO := fun s cg w hR => put_ok hI k0 l0 (!hasB W xs i j) s cg w hR
  have hP := hI.put k0 l0 (!hasB W xs i j)
  obtain ⟨B, hB⟩ : ∃ B, hasB W xs i j = B := ⟨_, rfl⟩
  rw [hB] at hO hpc hP
  obtain ⟨zs, hz⟩ : ∃ zs, putL xs i j (!B) = zs := ⟨_, rfl⟩
  rw [hz] at hO hpc hP
  have hfp := far_put (cellOf ys) k0 l0 hpc
  obtain ⟨f2, hf2⟩ : ∃ f2, farL zs ys W n = f2 := ⟨_, rfl⟩
  have h1 : farL xs zs W n = 1 := hfp.2
  have hd : f2 - f = 1 ∨ f2 - f = -1 := by rw [← hf2, ← hf]; exact hfp.1
  have hov : farL xs (othL ys W n) W n = (n : Int) * (W : Int) - f := by
    rw [← hf]
    exact (far_ext (fun _ _ _ _ => rfl) fun a b ha hb => oth_cell hJ ha hb).trans (far_other _ _ _ _)
  have hmx : (n : Int) * (W : Int) ≤ 36 := by rw [← Int.natCast_mul]; have := Nat.mul_le_mul hn6 hW6; omega
  have hm0 : 0 ≤ (n : Int) * (W : Int) := by rw [← Int.natCast_mul]; omega
  have wm : IntKind.i64.wrap ((n : Int) * (W : Int)) = (n : Int) * (W : Int) := IntWalk.i64_in _ ⟨by omega, by omega⟩
  obtain ⟨m, hm⟩ : ∃ m, (n : Int) * (W : Int) = m := ⟨_, rfl⟩
  rw [hm] at wm hov hmx hm0
  have wn : IntKind.i64.wrap (m - f) = m - f := IntWalk.i64_in _ ⟨by omega, by omega⟩
  have hOt := Lib.hid hJ.oth
  have lZ := hP.hl
  replace hO := Lib.hid hO
  replace hB := Lib.hid hB
  replace hP := Lib.hid hP
  replace hI := Lib.hid hI
  replace hJ := Lib.hid hJ
  replace hf2 := Lib.hid hf2
  replace h1 := Lib.hid h1
  replace hd := Lib.hid hd
  replace hov := Lib.hid hov
  clear hpc hz hfp hf
  go_wp2_with fail
  rw [hmod.out]
  go_quiet (fail)
  rw [hmod3.out]
  have hdr : Below w6.heap.size w6 (w6.drewN nq) := below_drewN (Below.refl _ _) nq
  replace p0 := kept hdr (block_lt p0) p0
  replace p1 := kept hdr (block_lt p1) p1
  replace q0 := kept hdr (block_lt q0) q0
  replace q1 := kept hdr (block_lt q1) q1
  replace p := Lib.hid (p.out.bel hdr)
  replace q := Lib.hid (q.out.bel hdr)
  replace bb := Lib.hid (bb.out.trans (hdr.mono bb.out.size))
  clear hdr hwd hwd2
  generalize hwq : w6.drewN nq = w7 at *
  clear hwq
  go_upto_region 10 with fail
  go_cut [11, 12] (fun s11 s12 wx => ∃ (kc : Nat) (ac : Option Addr) (cc : Nat), s11 = .pointer (some ⟨kc, 0, none⟩) ∧ s12 = .bool true ∧ wx.cell? ⟨w1.heap.size, 0, none⟩ = some (.int .i64 W) ∧ wx.cell? ⟨w1.heap.size, 1, none⟩ = some (.slice s n cg) ∧ wx.cell? ⟨w1.heap.size + 1, 0, none⟩ = some (.int .i64 W) ∧ wx.cell? ⟨w1.heap.size + 1, 1, none⟩ = some (.slice t n ch) ∧ wx.cell? ⟨kc, 0, none⟩ = some (.int .i64 W) ∧ wx.cell? ⟨kc, 1, none⟩ = some (.slice ac n cc) ∧ Hid (Row wx s n (xs)) ∧ Hid (Row wx t n (ys)) ∧ Hid (Row wx ac n (zs)) ∧ Hid (Below w.heap.size w wx))
  case first =>
    have tok0 : True := trivial
    go_wp2_with fail
    replace p := Lib.hid (p.out.bel ((Below.refl _ _).drew))
    replace q := Lib.hid (q.out.bel ((Below.refl _ _).drew))
    replace bb := Lib.hid bb.out.drew
    have lq_p0 : w1.heap.size < w7.heap.size := block_lt p0
    have lq_q0 : w1.heap.size + 1 < w7.heap.size := block_lt q0
    go_region_held3 (fun W' => W'.cell? ⟨w1.heap.size, 0, none⟩ = some (.int .i64 W) ∧ W'.cell? ⟨w1.heap.size, 1, none⟩ = some (.slice s n cg))
      (first | exact ⟨p0, p1⟩ | exact ⟨World.cell?_alloc_some p0, World.cell?_alloc_some p1⟩ | exact ⟨set2_cell p0 ltz_p0, set2_cell p1 ltz_p1⟩ | go_keep)
      (first | (go_at_call 27; have _t := tok0; (try (first | (obtain ⟨wz, hwz⟩ : ∃ wz, wz = (w7.alloc (.cells #[.int .i64 0, .slice none 0 0] 25)).drew := ⟨_, rfl⟩; rw [← hwz]; have hbz : Below w7.drew.heap.size w7.drew wz := (by rw [hwz]; exact (Below.refl _ _).alloc (Nat.le_refl _) _); have ltz_p0 : w1.heap.size < w7.heap.size := block_lt (show w7.drew.cell? _ = _ from p0); replace p0 := kept hbz ltz_p0 (show w7.drew.cell? _ = _ from p0); have ltz_p1 : w1.heap.size < w7.heap.size := block_lt (show w7.drew.cell? _ = _ from p1); replace p1 := kept hbz ltz_p1 (show w7.drew.cell? _ = _ from p1); have ltz_q0 : w1.heap.size + 1 < w7.heap.size := block_lt (show w7.drew.cell? _ = _ from q0); replace q0 := kept hbz ltz_q0 (show w7.drew.cell? _ = _ from q0); have ltz_q1 : w1.heap.size + 1 < w7.heap.size := block_lt (show w7.drew.cell? _ = _ from q1); replace q1 := kept hbz ltz_q1 (show w7.drew.cell? _ = _ from q1); have ltz_p : ∀ b off, s = some ⟨b, off, none⟩ → 0 < n → b < w7.heap.size := row_lt p.out; replace p := Lib.hid (p.out.bel hbz); have ltz_q : ∀ b off, t = some ⟨b, off, none⟩ → 0 < n → b < w7.heap.size := row_lt q.out; replace q := Lib.hid (q.out.bel hbz); have szb : w.heap.size ≤ w7.heap.size := bb.out.size; replace bb := Lib.hid (bb.out.trans (hbz.mono bb.out.size)); have zb : Box wz w7.heap.size (.int .i64 0) (.slice none 0 0) := (by rw [hwz]; exact ⟨by simp, by simp, fun o => by simp⟩); have z0 := zb.c0; have z1 := zb.c1; have zf := zb.fz; have zb := Lib.hid zb; clear hwz hbz) | (obtain ⟨wz, hwz⟩ : ∃ wz, wz = (w7.drew.alloc (.cells #[.int .i64 0, .slice none 0 0] 25)) := ⟨_, rfl⟩; rw [← hwz]; have hbz : Below w7.drew.heap.size w7.drew wz := (by rw [hwz]; exact (Below.refl _ _).alloc (Nat.le_refl _) _); have ltz_p0 : w1.heap.size < w7.heap.size := block_lt (show w7.drew.cell? _ = _ from p0); replace p0 := kept hbz ltz_p0 (show w7.drew.cell? _ = _ from p0); have ltz_p1 : w1.heap.size < w7.heap.size := block_lt (show w7.drew.cell? _ = _ from p1); replace p1 := kept hbz ltz_p1 (show w7.drew.cell? _ = _ from p1); have ltz_q0 : w1.heap.size + 1 < w7.heap.size := block_lt (show w7.drew.cell? _ = _ from q0); replace q0 := kept hbz ltz_q0 (show w7.drew.cell? _ = _ from q0); have ltz_q1 : w1.heap.size + 1 < w7.heap.size := block_lt (show w7.drew.cell? _ = _ from q1); replace q1 := kept hbz ltz_q1 (show w7.drew.cell? _ = _ from q1); have ltz_p : ∀ b off, s = some ⟨b, off, none⟩ → 0 < n → b < w7.heap.size := row_lt p.out; replace p := Lib.hid (p.out.bel hbz); have ltz_q : ∀ b off, t = some ⟨b, off, none⟩ → 0 < n → b < w7.heap.size := row_lt q.out; replace q := Lib.hid (q.out.bel hbz); have szb : w.heap.size ≤ w7.heap.size := bb.out.size; replace bb := Lib.hid (bb.out.trans (hbz.mono bb.out.size)); have zb : Box wz w7.heap.size (.int .i64 0) (.slice none 0 0) := (by rw [hwz]; exact ⟨by simp, by simp, fun o => by simp⟩); have z0 := zb.c0; have z1 := zb.c1; have zf := zb.fz; have zb := Lib.hid zb; clear hwz hbz))); (try (have kzB := block_lt z0)); (refine (has_impl W s n cg xs i j _ p.out (by omega)).mono ?_); rw [hB.out]; rintro e w8 ⟨rfl, hb⟩; have szw8 := hb.size; (first | replace p0 := kept hb (block_lt p0) p0 | replace p0 := kept hb (block_lt (show w7.drew.cell? _ = _ from p0)) (show w7.drew.cell? _ = _ from p0)); (first | replace p1 := kept hb (block_lt p1) p1 | replace p1 := kept hb (block_lt (show w7.drew.cell? _ = _ from p1)) (show w7.drew.cell? _ = _ from p1)); (first | replace q0 := kept hb (block_lt q0) q0 | replace q0 := kept hb (block_lt (show w7.drew.cell? _ = _ from q0)) (show w7.drew.cell? _ = _ from q0)); (first | replace q1 := kept hb (block_lt q1) q1 | replace q1 := kept hb (block_lt (show w7.drew.cell? _ = _ from q1)) (show w7.drew.cell? _ = _ from q1)); replace p := Lib.hid (p.out.bel hb); replace q := Lib.hid (q.out.bel hb); replace bb := Lib.hid (bb.out.trans (hb.mono bb.out.size)); (try (replace zb := Lib.hid (zb.out.bel hb); replace z0 := zb.out.c0; replace z1 := zb.out.c1; replace zf := zb.out.fz)); clear hb tok0 _t; have tok1 : True := trivial) | (go_at_call 26; have _t := tok1; (try (first | (obtain ⟨wz, hwz⟩ : ∃ wz, wz = (w8.alloc (.cells #[.int .i64 0, .slice none 0 0] 25)) := ⟨_, rfl⟩; rw [← hwz]; have hbz : Below w8.heap.size w8 wz := (by rw [hwz]; exact (Below.refl _ _).alloc (Nat.le_refl _) _); have ltz_p0 : w1.heap.size < w8.heap.size := block_lt (show w8.cell? _ = _ from p0); replace p0 := kept hbz ltz_p0 (show w8.cell? _ = _ from p0); have ltz_p1 : w1.heap.size < w8.heap.size := block_lt (show w8.cell? _ = _ from p1); replace p1 := kept hbz ltz_p1 (show w8.cell? _ = _ from p1); have ltz_q0 : w1.heap.size + 1 < w8.heap.size := block_lt (show w8.cell? _ = _ from q0); replace q0 := kept hbz ltz_q0 (show w8.cell? _ = _ from q0); have ltz_q1 : w1.heap.size + 1 < w8.heap.size := block_lt (show w8.cell? _ = _ from q1); replace q1 := kept hbz ltz_q1 (show w8.cell? _ = _ from q1); have ltz_p : ∀ b off, s = some ⟨b, off, none⟩ → 0 < n → b < w8.heap.size := row_lt p.out; replace p := Lib.hid (p.out.bel hbz); have ltz_q : ∀ b off, t = some ⟨b, off, none⟩ → 0 < n → b < w8.heap.size := row_lt q.out; replace q := Lib.hid (q.out.bel hbz); have szb : w.heap.size ≤ w8.heap.size := bb.out.size; replace bb := Lib.hid (bb.out.trans (hbz.mono bb.out.size)); have zb : Box wz w8.heap.size (.int .i64 0) (.slice none 0 0) := (by rw [hwz]; exact ⟨by simp, by simp, fun o => by simp⟩); have z0 := zb.c0; have z1 := zb.c1; have zf := zb.fz; have zb := Lib.hid zb; clear hwz hbz))); (try (have kzB := block_lt z0)); (refine (hO.out _ _ _ p.out).mono ?_); rintro e w9 ⟨⟨ac, cc, rfl, ho⟩, hb⟩; have szw9 := hb.size; have hoz := Lib.hid ho; replace p0 := kept hb (block_lt p0) p0; replace p1 := kept hb (block_lt p1) p1; replace q0 := kept hb (block_lt q0) q0; replace q1 := kept hb (block_lt q1) q1; replace p := Lib.hid (p.out.bel hb); replace q := Lib.hid (q.out.bel hb); replace bb := Lib.hid (bb.out.trans (hb.mono bb.out.size)); (try (replace zb := Lib.hid (zb.out.bel hb); replace z0 := zb.out.c0; replace z1 := zb.out.c1; replace zf := zb.out.fz)); clear hb ho tok1 _t; have tok2 : True := trivial))
    all_goals
      first | (have c0 := set2_c0 (u0 := .int .i64 W) (u1 := .slice ac n cc) z0; have c1 := set2_c1 (u0 := .int .i64 W) (u1 := .slice ac n cc) z1; replace p0 := set2_cell (u0 := .int .i64 W) (u1 := .slice ac n cc) p0 ltz_p0; replace p1 := set2_cell (u0 := .int .i64 W) (u1 := .slice ac n cc) p1 ltz_p1; replace q0 := set2_cell (u0 := .int .i64 W) (u1 := .slice ac n cc) q0 ltz_q0; replace q1 := set2_cell (u0 := .int .i64 W) (u1 := .slice ac n cc) q1 ltz_q1; replace p := Lib.hid (set2_old (u0 := .int .i64 W) (u1 := .slice ac n cc) p.out ltz_p); replace q := Lib.hid (set2_old (u0 := .int .i64 W) (u1 := .slice ac n cc) q.out ltz_q); have c := Lib.hid (set2_row (u0 := .int .i64 W) (u1 := .slice ac n cc) hoz.out.row (own_far hoz.out kzB)); replace bb := Lib.hid (set2_bel (u0 := .int .i64 W) (u1 := .slice ac n cc) bb.out szb)) | (have c0 : (w9.alloc (.cells #[.int .i64 W, .slice ac n cc] 25)).cell? ⟨w9.heap.size, 0, none⟩ = some (.int .i64 W) := (by simp); have c1 : (w9.alloc (.cells #[.int .i64 W, .slice ac n cc] 25)).cell? ⟨w9.heap.size, 1, none⟩ = some (.slice ac n cc) := (by simp); replace p0 := World.cell?_alloc_some (o := .cells #[.int .i64 W, .slice ac n cc] 25) p0; replace p1 := World.cell?_alloc_some (o := .cells #[.int .i64 W, .slice ac n cc] 25) p1; replace q0 := World.cell?_alloc_some (o := .cells #[.int .i64 W, .slice ac n cc] 25) q0; replace q1 := World.cell?_alloc_some (o := .cells #[.int .i64 W, .slice ac n cc] 25) q1; replace p := Lib.hid (p.out.alloc (.cells #[.int .i64 W, .slice ac n cc] 25)); replace q := Lib.hid (q.out.alloc (.cells #[.int .i64 W, .slice ac n cc] 25)); have c := Lib.hid (hoz.out.row.alloc (.cells #[.int .i64 W, .slice ac n cc] 25)); replace bb := Lib.hid (bb.out.alloc bb.out.size (.cells #[.int .i64 W, .slice ac n cc] 25)))
      go_wp2_with fail
      go_meet
      exact ⟨_, ac, cc, rfl, rfl, p0, p1, q0, q1, c0, c1, p, q, c, bb⟩
  case rest =>
    clear p0 p1 q0 q1 p q bb
    obtain ⟨kc, ac, cc, rfl, rfl, p0, p1, q0, q1, c0, c1, p, q, c, bb⟩ := hcut
    obtain ⟨wq1, rfl⟩ : ∃ wq1 : World, wq1 = wc := ⟨_, rfl⟩
    go_wp2_with fail
    refine (other_ok hJ.out _ _ _ q.out).mono ?_
    rintro e w10 ⟨⟨ao, co, rfl, ho⟩, hb⟩
    have o := Lib.hid ho.row
    have szw10 := hb.size
    replace p0 := kept hb (block_lt p0) p0
    replace p1 := kept hb (block_lt p1) p1
    replace q0 := kept hb (block_lt q0) q0
    replace q1 := kept hb (block_lt q1) q1
    replace c0 := kept hb (block_lt c0) c0
    replace c1 := kept hb (block_lt c1) c1
    replace p := Lib.hid (p.out.bel hb)
    replace q := Lib.hid (q.out.bel hb)
    replace c := Lib.hid (c.out.bel hb)
    replace bb := Lib.hid (bb.out.trans (hb.mono bb.out.size))
    clear hb
    clear ho
    have hbx : Below w10.heap.size w10 (w10.alloc (.cells #[.int .i64 W, .slice ao n co] 25)) := (Below.refl _ _).alloc (Nat.le_refl _) _
    replace p0 := kept hbx (block_lt p0) p0
    replace p1 := kept hbx (block_lt p1) p1
    replace q0 := kept hbx (block_lt q0) q0
    replace q1 := kept hbx (block_lt q1) q1
    replace c0 := kept hbx (block_lt c0) c0
    replace c1 := kept hbx (block_lt c1) c1
    replace p := Lib.hid (p.out.bel hbx)
    replace q := Lib.hid (q.out.bel hbx)
    replace c := Lib.hid (c.out.bel hbx)
    replace o := Lib.hid (o.out.bel hbx)
    replace bb := Lib.hid (bb.out.trans (hbx.mono bb.out.size))
    clear hbx
    have o0 : (w10.alloc (.cells #[.int .i64 W, .slice ao n co] 25)).cell? ⟨w10.heap.size, 0, none⟩ = some (.int .i64 W) := by simp
    have o1 : (w10.alloc (.cells #[.int .i64 W, .slice ao n co] 25)).cell? ⟨w10.heap.size, 1, none⟩ = some (.slice ao n co) := by simp
    rcases hd.out with hd | hd
    · skip
      have ws : IntKind.i64.wrap (f2 - f) = 1 := by rw [hd]; rfl
      go_wp2_with fail
      refine (far_ok hP.out hJ.out hf2.out _ _ _ _ _ c.out q.out).mono ?_
      rintro e w11 ⟨rfl, hb⟩
      have szw11 : w10.heap.size + 1 ≤ w11.heap.size := by have := hb.size; simpa using this
      replace p0 := kept hb (block_lt p0) p0
      replace p1 := kept hb (block_lt p1) p1
      replace q0 := kept hb (block_lt q0) q0
      replace q1 := kept hb (block_lt q1) q1
      replace c0 := kept hb (block_lt c0) c0
      replace c1 := kept hb (block_lt c1) c1
      replace o0 := kept hb (block_lt o0) o0
      replace o1 := kept hb (block_lt o1) o1
      replace p := Lib.hid (p.out.bel hb)
      replace q := Lib.hid (q.out.bel hb)
      replace c := Lib.hid (c.out.bel hb)
      replace o := Lib.hid (o.out.bel hb)
      replace bb := Lib.hid (bb.out.trans (hb.mono bb.out.size))
      clear hb
      have HP := p
      have HC := c
      have HO := o
      have g_p0 := fun p : Bw w11 => bw_cell p0 p
      have g_p1 := fun p : Bw w11 => bw_cell p1 p
      have g_q0 := fun p : Bw w11 => bw_cell q0 p
      have g_q1 := fun p : Bw w11 => bw_cell q1 p
      have g_c0 := fun p : Bw w11 => bw_cell c0 p
      have g_c1 := fun p : Bw w11 => bw_cell c1 p
      have g_o0 := fun p : Bw w11 => bw_cell o0 p
      have g_o1 := fun p : Bw w11 => bw_cell o1 p
      have cc0 : ∀ p : Bw w11, Calls Try.prog 23 #[.agg #[.int .i64 W, .slice s n cg], .agg #[.int .i64 W, .slice ac n cc]] p.v (fun e w' => e = .returned (.int .i64 1) ∧ ∃ q : Bw w11, w' = q.v) := fun p => bw_of (far_ok hI.out hP.out h1.out _ _ _ _ p.v (HP.out.bel p.h) (HC.out.bel p.h))
      replace cc0 := Lib.hid cc0
      have cc1 : ∀ p : Bw w11, Calls Try.prog 23 #[.agg #[.int .i64 W, .slice s n cg], .agg #[.int .i64 W, .slice ao n co]] p.v (fun e w' => e = .returned (.int .i64 (m - f)) ∧ ∃ q : Bw w11, w' = q.v) := fun p => bw_of (far_ok hI.out hOt.out hov.out _ _ _ _ p.v (HP.out.bel p.h) (HO.out.bel p.h))
      replace cc1 := Lib.hid cc1
      go_wp2_with fail
      refine wp_region_bw (by kernel_rfl) (by kernel_rfl) ?_
      repeat (go_big_quiet_step (first | (with_reducible exact cc0.out _) | (with_reducible exact cc1.out _)))
      refine wpQuiet_nil ?_
      intro _ hw'
      obtain ⟨pq, rfl⟩ := hw'
      have hb := pq.h
      clear g_p0 g_p1 g_q0 g_q1 g_c0 g_c1 g_o0 g_o1 cc0 cc1
      generalize pq.v = w12 at hb ⊢
      clear pq
      have szw12 := hb.size
      replace p0 := kept hb (block_lt p0) p0
      replace p1 := kept hb (block_lt p1) p1
      replace q0 := kept hb (block_lt q0) q0
      replace q1 := kept hb (block_lt q1) q1
      replace c0 := kept hb (block_lt c0) c0
      replace c1 := kept hb (block_lt c1) c1
      replace o0 := kept hb (block_lt o0) o0
      replace o1 := kept hb (block_lt o1) o1
      replace p := Lib.hid (p.out.bel hb)
      replace q := Lib.hid (q.out.bel hb)
      replace c := Lib.hid (c.out.bel hb)
      replace o := Lib.hid (o.out.bel hb)
      replace bb := Lib.hid (bb.out.trans (hb.mono bb.out.size))
      clear hb
      go_wp2_with fail
      go_ret
      exact ⟨rfl, bb.out⟩
    · skip
      have ws : IntKind.i64.wrap (f2 - f) = -1 := by rw [hd]; rfl
      go_wp2_with fail
      refine (far_ok hP.out hJ.out hf2.out _ _ _ _ _ c.out q.out).mono ?_
      rintro e w13 ⟨rfl, hb⟩
      have szw13 : w10.heap.size + 1 ≤ w13.heap.size := by have := hb.size; simpa using this
      replace p0 := kept hb (block_lt p0) p0
      replace p1 := kept hb (block_lt p1) p1
      replace q0 := kept hb (block_lt q0) q0
      replace q1 := kept hb (block_lt q1) q1
      replace c0 := kept hb (block_lt c0) c0
      replace c1 := kept hb (block_lt c1) c1
      replace o0 := kept hb (block_lt o0) o0
      replace o1 := kept hb (block_lt o1) o1
      replace p := Lib.hid (p.out.bel hb)
      replace q := Lib.hid (q.out.bel hb)
      replace c := Lib.hid (c.out.bel hb)
      replace o := Lib.hid (o.out.bel hb)
      replace bb := Lib.hid (bb.out.trans (hb.mono bb.out.size))
      clear hb
      have HP := p
      have HC := c
      have HO := o
      have g_p0 := fun p : Bw w13 => bw_cell p0 p
      have g_p1 := fun p : Bw w13 => bw_cell p1 p
      have g_q0 := fun p : Bw w13 => bw_cell q0 p
      have g_q1 := fun p : Bw w13 => bw_cell q1 p
      have g_c0 := fun p : Bw w13 => bw_cell c0 p
      have g_c1 := fun p : Bw w13 => bw_cell c1 p
      have g_o0 := fun p : Bw w13 => bw_cell o0 p
      have g_o1 := fun p : Bw w13 => bw_cell o1 p
      have cc0 : ∀ p : Bw w13, Calls Try.prog 23 #[.agg #[.int .i64 W, .slice s n cg], .agg #[.int .i64 W, .slice ac n cc]] p.v (fun e w' => e = .returned (.int .i64 1) ∧ ∃ q : Bw w13, w' = q.v) := fun p => bw_of (far_ok hI.out hP.out h1.out _ _ _ _ p.v (HP.out.bel p.h) (HC.out.bel p.h))
      replace cc0 := Lib.hid cc0
      have cc1 : ∀ p : Bw w13, Calls Try.prog 23 #[.agg #[.int .i64 W, .slice s n cg], .agg #[.int .i64 W, .slice ao n co]] p.v (fun e w' => e = .returned (.int .i64 (m - f)) ∧ ∃ q : Bw w13, w' = q.v) := fun p => bw_of (far_ok hI.out hOt.out hov.out _ _ _ _ p.v (HP.out.bel p.h) (HO.out.bel p.h))
      replace cc1 := Lib.hid cc1
      go_wp2_with fail
      refine wp_region_bw (by kernel_rfl) (by kernel_rfl) ?_
      repeat (go_big_quiet_step (first | (with_reducible exact cc0.out _) | (with_reducible exact cc1.out _)))
      refine wpQuiet_nil ?_
      intro _ hw'
      obtain ⟨pq, rfl⟩ := hw'
      have hb := pq.h
      clear g_p0 g_p1 g_q0 g_q1 g_c0 g_c1 g_o0 g_o1 cc0 cc1
      generalize pq.v = w14 at hb ⊢
      clear pq
      have szw14 := hb.size
      replace p0 := kept hb (block_lt p0) p0
      replace p1 := kept hb (block_lt p1) p1
      replace q0 := kept hb (block_lt q0) q0
      replace q1 := kept hb (block_lt q1) q1
      replace c0 := kept hb (block_lt c0) c0
      replace c1 := kept hb (block_lt c1) c1
      replace o0 := kept hb (block_lt o0) o0
      replace o1 := kept hb (block_lt o1) o1
      replace p := Lib.hid (p.out.bel hb)
      replace q := Lib.hid (q.out.bel hb)
      replace c := Lib.hid (c.out.bel hb)
      replace o := Lib.hid (o.out.bel hb)
      replace bb := Lib.hid (bb.out.trans (hb.mono bb.out.size))
      clear hb
      go_wp2_with fail
      go_ret
      exact ⟨rfl, bb.out⟩

set_option maxRecDepth 100000 in
theorem lifted (os : Os) (started : os.Started) (H : Type) (enc : TypeId × Value → H) :
    ReturnsInHanded {} Try.checked os 4 .any (Rows.fnDistanceOtherSpec.pre6 enc Try.prog Try.f4 Rows.fnDistanceOtherRow.domain false) (Rows.fnDistanceOtherSpec.post enc Try.prog Try.f4 false true false false) := by
  refine returnsInHanded_of_change (C := Try.checked) own started (by kernel_rfl) Try.func4
    (ChangeSpec.witness6 (enc := enc) (C := Try.checked) false ⟨#[], #[.slice none 0 0, .slice none 0 0], []⟩ 8 (by kernel_rfl) (by kernel_rfl) (by kernel_rfl) (by kernel_rfl)) ?_
  intro W base args ds gs before hval0 hW hcnd _
  have hval : ∀ (j : Nat) t v, Try.f4.params[j]? = some t → args[j]? = some v → Value.okWide Try.prog W .any base t v := hval0
  have hW' := hW
  obtain ⟨p, q, hA0, hV, rfl, hfz, hnd⟩ := hW
  have hA : DataW.TrodAll enc Try.prog W 0 (fun _ => true) true Try.f4.params.toList args.toList ds p := hA0
  rw [Try.params4] at hA hval
  obtain ⟨v0, vs0, d0, ds0, p0, q0, hargs, rfl, rfl, h0, r0⟩ := trodAll_cons hA
  obtain ⟨v1, vs1, d1, ds1, p1, q1, rfl, rfl, rfl, h1, r1⟩ := trodAll_cons r0
  obtain ⟨rfl, rfl, rfl⟩ := trodAll_nil r1
  obtain rfl : args = #[v0, v1] := by cases args; simp_all
  obtain ⟨rfl, rfl⟩ := trodVars_none hV
  have k0 := h0
  have lt0 : ∀ x ∈ p0, x.block < W.heap.size := by obtain ⟨m, hm⟩ := k0; exact DataW.trod_lt m _ _ _ hm
  obtain ⟨a0, len0, cap0, z0, rfl, w0, l0, m0⟩ := open_code (hval 0 22 v0 rfl rfl) h0
  have k1 := h1
  have lt1 : ∀ x ∈ p1, x.block < W.heap.size := by obtain ⟨m, hm⟩ := k1; exact DataW.trod_lt m _ _ _ hm
  obtain ⟨a1, len1, cap1, z1, rfl, w1, l1, m1⟩ := open_code (hval 1 22 v1 rfl rfl) h1
  clear hA0 hval0
  refine (walk a0 len0 cap0 z0 a1 len1 cap1 z1 W w0 l0 m0 w1 l1 m1).mono fun e W' ⟨he, bel⟩ => ?_
  subst he
  exact ⟨_, rfl, _, _, _, [], _, [], hW', trodAll_mk1 (shut_bool Try.underlying4 _), (trodAll_cons_mk (Below.trod laidOut (by kernel_rfl) (of_decide_eq_true (by kernel_rfl)) k0 bel lt0) (trodAll_cons_mk (Below.trod laidOut (by kernel_rfl) (of_decide_eq_true (by kernel_rfl)) k1 bel lt1) trodAll_mk0)), rfl, bel.frame _, fun h => by cases h⟩

theorem closed : joinedFacts Try.prog 4 Try.f4 Rows.fnDistanceOtherSpec Rows.fnDistanceOtherRow = true := by
  simp only [joinedFacts, Bool.and_eq_true]
  repeat' apply And.intro
  all_goals first | with_reducible exact mayEnterOk | (with_reducible rw [liftsFinalOk]; kernel_rfl) | (with_reducible rw [makeOk]; kernel_rfl) | kernel_rfl

theorem over : Rows.fnDistanceOtherRow.holds Try.pinned (OpenSpec.ofChange Rows.fnDistanceOtherSpec) :=
  OpenClaim.holds_of_wide 4 Try.f4 rfl rfl rfl rfl rfl rfl rfl ⟨rfl, rfl, rfl, rfl, rfl⟩ rfl rfl rfl rfl rfl (by kernel_rfl) Try.func4 closed
    (of_decide_eq_true (by kernel_rfl)) (by unfold Func.isWrapper; first | (rw [if_pos (by decide +kernel)]; kernel_rfl) | (rw [if_neg (by decide +kernel)]; exact ⟨rfl, rfl⟩))
    (fun os started H enc _ => lifted os started H enc)

theorem proved : Rows.FnDistanceOtherSaid := over
#print axioms proved
end Go.Proofs.Ytgamkmkpmcenpaa.LFDistanceOther

