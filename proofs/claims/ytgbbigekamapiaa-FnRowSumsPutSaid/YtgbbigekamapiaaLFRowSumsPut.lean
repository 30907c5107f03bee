/-
  For any two slices of bytes the law FnRowSumsPut answers true: one cell changed changes the sums of its row and its column by 1, and no others; nothing that was there is written; no condition.
-/
import Derived.Test.YtgbbigekamapiaaO
import Derived.Test.YtgbbigekamapiaaK
import Derived.Deep.RegionLaw
import Derived.Test.YtgbbigekamapiaaEp
import Derived.Test.YtgbbigekamapiaaA
namespace Go.Proofs.Ytgbbigekamapiaa.LFRowSumsPut
set_option maxRecDepth 100000
open Go.ChangeShapes Go.WideShapes Go.ChangeAt Go.RowKit Go.Joins

set_option maxHeartbeats 6000000 in
set_option maxRecDepth 100000 in
theorem walk (a : Option Addr) (len cap : Nat) (zs : List Int) (a2 : Option Addr) (len2 cap2 : Nat) (zs2 : List Int) (w : World) (h : Bys w a len zs) (hl : len ≤ cap) (hm : cap ≤ 9223372036854775807) (_ : Bys w a2 len2 zs2) (_ : len2 ≤ cap2) (_ : cap2 ≤ 9223372036854775807) :
    Calls Try.prog 7 #[.slice a len cap, .slice a2 len2 cap2] w fun e w' => e = .returned (.bool true) ∧ Below w.heap.size w w' := by
  by_cases hbig : 1048576 < len
  · clear h
    go_enter Try.func7, Try.ntmps7
    go_wp2_with fail
    go_ret
    exact ⟨rfl, Below.refl _ _⟩
  by_cases hbig2 : 1048576 < len2
  · clear h
    go_enter Try.func7, Try.ntmps7
    go_wp2_with fail
    go_ret
    exact ⟨rfl, Below.refl _ _⟩
  go_enter Try.func7, Try.ntmps7
  go_wp2_with fail
  refine (draw_DrawRowSums a len cap zs _ h hl hm).mono ?_
  rintro e w1 ⟨W, s, n, cg, xs, rfl, hR, hn, hb1⟩
  clear h hl hm
  have bb := Lib.hid hb1
  have p := Lib.hid hR
  clear hR hb1
  have hbx : Below w1.heap.size w1 (w1.alloc (.cells #[.int .i64 W, .slice s n cg] 25)) := (Below.refl _ _).alloc (Nat.le_refl _) _
  replace p := Lib.hid (p.out.bel hbx)
  replace bb := Lib.hid (bb.out.trans (hbx.mono bb.out.size))
  clear hbx
  have p0 : (w1.alloc (.cells #[.int .i64 W, .slice s n cg] 25)).cell? ⟨w1.heap.size, 0, none⟩ = some (.int .i64 W) := by simp
  have p1 : (w1.alloc (.cells #[.int .i64 W, .slice s n cg] 25)).cell? ⟨w1.heap.size, 1, none⟩ = some (.slice s n cg) := by simp
  by_cases hv : validB W xs = true
  case neg =>
    have hv : validB W xs = false := by simpa using hv
    go_wp2_with fail
    refine (rs_no hv hn.1 _ _ _ p.out).mono ?_
    rintro e w2 ⟨⟨aoo, coo, rfl, ho⟩, hb⟩
    have oo := Lib.hid ho.row
    have szw2 : w1.heap.size + 1 ≤ w2.heap.size := by have := hb.size; simpa using this
    replace p0 := kept hb (block_lt p0) p0
    replace p1 := kept hb (block_lt p1) p1
    replace p := Lib.hid (p.out.bel hb)
    replace bb := Lib.hid (bb.out.trans (hb.mono bb.out.size))
    clear hb
    clear ho
    go_wp2_with fail
    refine (rs_sno hv hn.1 _ _ _ p.out).mono ?_
    rintro e w3 ⟨⟨aow, cow, rfl, ho⟩, hb⟩
    have ow := Lib.hid ho.row
    have szw3 := hb.size
    replace p0 := kept hb (block_lt p0) p0
    replace p1 := kept hb (block_lt p1) p1
    replace p := Lib.hid (p.out.bel hb)
    replace oo := Lib.hid (oo.out.bel hb)
    replace bb := Lib.hid (bb.out.trans (hb.mono bb.out.size))
    clear hb
    clear ho
    go_wp2_with fail
    refine (same_yes _ _ _ _ _ [] _ oo.out ow.out (by omega)).mono ?_
    rintro e w4 ⟨rfl, hb⟩
    have szw4 := hb.size
    replace p0 := kept hb (block_lt p0) p0
    replace p1 := kept hb (block_lt p1) p1
    replace p := Lib.hid (p.out.bel hb)
    replace oo := Lib.hid (oo.out.bel hb)
    replace ow := Lib.hid (ow.out.bel hb)
    replace bb := Lib.hid (bb.out.trans (hb.mono bb.out.size))
    clear hb
    go_wp2_with fail
    refine (same_yes _ _ _ _ _ [] _ oo.out ow.out (by omega)).mono ?_
    rintro e w5 ⟨rfl, hb⟩
    have szw5 := hb.size
    replace p0 := kept hb (block_lt p0) p0
    replace p1 := kept hb (block_lt p1) p1
    replace p := Lib.hid (p.out.bel hb)
    replace oo := Lib.hid (oo.out.bel hb)
    replace ow := Lib.hid (ow.out.bel hb)
    replace bb := Lib.hid (bb.out.trans (hb.mono bb.out.size))
    clear hb
    go_wp2_with fail
    go_ret
    exact ⟨rfl, bb.out⟩
  have hI0 := validB_W hv
  obtain ⟨W, rfl⟩ := Int.eq_ofNat_of_zero_le (by omega : 0 ≤ W)
  have hI : Im W n xs := Im.of hv p.out.1
  have hW6 := hI.w6
  have hW1 := hI.w1
  have hn1 := hI.l1
  have hn6 := hI.l6
  have hI := Lib.hid hI
  clear hv hI0
  go_wp2_with fail
  refine (rs_ok hI.out _ _ _ p.out).mono ?_
  rintro e w6 ⟨⟨aoo, coo, rfl, ho⟩, hb⟩
  have oo := Lib.hid ho.row
  have szw6 : w1.heap.size + 1 ≤ w6.heap.size := by have := hb.size; simpa using this
  replace p0 := kept hb (block_lt p0) p0
  replace p1 := kept hb (block_lt p1) p1
  replace p := Lib.hid (p.out.bel hb)
  replace bb := Lib.hid (bb.out.trans (hb.mono bb.out.size))
  clear hb
  clear ho
  go_wp2_with fail
  refine (rs_sok hI.out _ _ _ p.out).mono ?_
  rintro e w7 ⟨⟨aow, cow, rfl, ho⟩, hb⟩
  have ow := Lib.hid ho.row
  have szw7 := hb.size
  replace p0 := kept hb (block_lt p0) p0
  replace p1 := kept hb (block_lt p1) p1
  replace p := Lib.hid (p.out.bel hb)
  replace oo := Lib.hid (oo.out.bel hb)
  replace bb := Lib.hid (bb.out.trans (hb.mono bb.out.size))
  clear hb
  clear ho
  go_wp2_with fail
  refine (same_yes _ _ _ _ _ (rsL xs W n) _ oo.out ow.out (by omega)).mono ?_
  rintro e w8 ⟨rfl, hb⟩
  have szw8 := hb.size
  replace p0 := kept hb (block_lt p0) p0
  replace p1 := kept hb (block_lt p1) p1
  replace p := Lib.hid (p.out.bel hb)
  replace oo := Lib.hid (oo.out.bel hb)
  replace ow := Lib.hid (ow.out.bel hb)
  replace bb := Lib.hid (bb.out.trans (hb.mono bb.out.size))
  clear hb
  clear ow
  have k0 : len2 % n < n := Nat.mod_lt _ (by omega)
  have l0 : len2 / n % W < W := Nat.mod_lt _ (by omega)
  have hmod : ((len2 : Int) % (n : Int)) = ((len2 % n : Nat) : Int) := (Int.natCast_emod _ _).symm
  have hmod2 : (((len2 : Int) / (n : Int)) % (W : Int)) = ((len2 / n % W : Nat) : Int) := by rw [Int.natCast_emod, Int.natCast_ediv]
  have hdiv : ((len2 : Int) / (n : Int)) = ((len2 / n : Nat) : Int) := (Int.natCast_ediv _ _).symm
  have hdl : len2 / n ≤ len2 := Nat.div_le_self _ _
  have hd0 : 0 ≤ (len2 : Int) / (n : Int) := Int.ediv_nonneg (by omega) (by omega)
  have hwd : IntKind.i64.wrap ((len2 : Int) / (n : Int)) = (len2 : Int) / (n : Int) := by rw [hdiv]; exact IntWalk.i64_in _ ⟨by omega, by omega⟩
  have hwd2 : wrap64 ((len2 : Int) / (n : Int)) = (len2 : Int) / (n : Int) := by rw [hdiv]; unfold wrap64; omega
  generalize len2 % n = i at k0 hmod
  generalize len2 / n % W = j at l0 hmod2
  have hmod3 : ((len2 : Int) / (n : Int)).tmod (W : Int) = (j : Int) := by rw [Int.tmod_eq_emod_of_nonneg hd0]; exact hmod2
  replace hmod := Lib.hid hmod
  replace hmod3 := Lib.hid hmod3
  clear hdiv hdl hmod2 hd0
  have e1 := hI.out.flip_rs k0 l0
  have e2 := hI.out.flip_cs k0 l0
  have bi := hI.out.rs_bd k0
  have bj := hI.out.cs_bd l0
  have hP := hI.out.put k0 l0 (!hasB W xs i j)
  have hO := fun s cg w hR => put_ok hI.out k0 l0 (!hasB W xs i j) s cg w hR
  have hp1 := hP.rs
  have hp2 := hP.cs
  rw [e1] at hp1
  rw [e2] at hp2
  have hfit := fitB_4 hP.valid (decide_eq_true hp1) (decide_eq_true hp2)
  have lR : (rsL xs W n).length = n := rs_len _ _ _
  have lC : (csL xs n W).length = W := cs_len _ _ _
  obtain ⟨B, hB⟩ : ∃ B, hasB W xs i j = B := ⟨_, rfl⟩
  rw [hB] at hO hfit hP
  obtain ⟨ys, hys⟩ : ∃ ys, putL xs i j (!B) = ys := ⟨_, rfl⟩
  rw [hys] at hO hfit hP
  have hlY := hP.hl
  obtain ⟨u, hu⟩ : ∃ u, (rsL xs W n).getD i 0 = u := ⟨_, rfl⟩
  obtain ⟨v, hv⟩ : ∃ v, (csL xs n W).getD j 0 = v := ⟨_, rfl⟩
  rw [hu] at bi hfit
  rw [hv] at bj hfit
  have fT : Hid (B = true → fitB W ys ((rsL xs W n).set i (u + -1)) ((csL xs n W).set j (v + -1)) = true) := fun h => by rw [h] at hfit; exact hfit
  have fF : Hid (B = false → fitB W ys ((rsL xs W n).set i (u + 1)) ((csL xs n W).set j (v + 1)) = true) := fun h => by rw [h] at hfit; exact hfit
  replace hO := Lib.hid hO
  replace hB := Lib.hid hB
  replace hlY := Lib.hid hlY
  replace hu := Lib.hid hu
  replace hv := Lib.hid hv
  clear e1 e2 hp1 hp2 hP hys hfit
  go_wp2_with fail
  rw [hmod.out]
  go_quiet (fail)
  rw [hmod3.out]
  have hdr : Below w8.heap.size w8 (w8.drewN nq) := below_drewN (Below.refl _ _) nq
  replace p0 := kept hdr (block_lt p0) p0
  replace p1 := kept hdr (block_lt p1) p1
  replace p := Lib.hid (p.out.bel hdr)
  replace oo := Lib.hid (oo.out.bel hdr)
  replace bb := Lib.hid (bb.out.trans (hdr.mono bb.out.size))
  clear hdr hwd hwd2
  generalize hwq : w8.drewN nq = w9 at *
  clear hwq
  go_upto_region 10 with fail
  go_cut [10, 11] (fun s10 s11 wx => ∃ (kq : Nat) (aq : Option Addr) (cq : Nat), s10 = .pointer (some ⟨kq, 0, none⟩) ∧ s11 = .bool true ∧ wx.cell? ⟨w1.heap.size, 0, none⟩ = some (.int .i64 W) ∧ wx.cell? ⟨w1.heap.size, 1, none⟩ = some (.slice s n cg) ∧ wx.cell? ⟨kq, 0, none⟩ = some (.int .i64 W) ∧ wx.cell? ⟨kq, 1, none⟩ = some (.slice aq n cq) ∧ Hid (Row wx s n (xs)) ∧ Hid (Row wx aoo n (rsL xs W n)) ∧ Hid (Row wx aq n (ys)) ∧ Hid (Below w.heap.size w wx))
  case first =>
    have tok0 : True := trivial
    go_wp2_with fail
    replace p := Lib.hid (p.out.bel ((Below.refl _ _).drew))
    replace oo := Lib.hid (oo.out.bel ((Below.refl _ _).drew))
    replace bb := Lib.hid bb.out.drew
    have lq_p0 : w1.heap.size < w9.heap.size := block_lt p0
    go_region_held3 (fun W' => W'.cell? ⟨w1.heap.size, 0, none⟩ = some (.int .i64 W) ∧ W'.cell? ⟨w1.heap.size, 1, none⟩ = some (.slice s n cg))
      (first | exact ⟨p0, p1⟩ | exact ⟨World.cell?_alloc_some p0, World.cell?_alloc_some p1⟩ | exact ⟨set2_cell p0 ltz_p0, set2_cell p1 ltz_p1⟩ | go_keep)
      (first | (go_at_call 21; have _t := tok0; (try (first | (obtain ⟨wz, hwz⟩ : ∃ wz, wz = (w9.alloc (.cells #[.int .i64 0, .slice none 0 0] 25)).drew := ⟨_, rfl⟩; rw [← hwz]; have hbz : Below w9.drew.heap.size w9.drew wz := (by rw [hwz]; exact (Below.refl _ _).alloc (Nat.le_refl _) _); have ltz_p0 : w1.heap.size < w9.heap.size := block_lt (show w9.drew.cell? _ = _ from p0); replace p0 := kept hbz ltz_p0 (show w9.drew.cell? _ = _ from p0); have ltz_p1 : w1.heap.size < w9.heap.size := block_lt (show w9.drew.cell? _ = _ from p1); replace p1 := kept hbz ltz_p1 (show w9.drew.cell? _ = _ from p1); have ltz_p : ∀ b off, s = some ⟨b, off, none⟩ → 0 < n → b < w9.heap.size := row_lt p.out; replace p := Lib.hid (p.out.bel hbz); have ltz_oo : ∀ b off, aoo = some ⟨b, off, none⟩ → 0 < n → b < w9.heap.size := row_lt oo.out; replace oo := Lib.hid (oo.out.bel hbz); have szb : w.heap.size ≤ w9.heap.size := bb.out.size; replace bb := Lib.hid (bb.out.trans (hbz.mono bb.out.size)); have zb : Box wz w9.heap.size (.int .i64 0) (.slice none 0 0) := (by rw [hwz]; exact ⟨by simp, by simp, fun o => by simp⟩); have z0 := zb.c0; have z1 := zb.c1; have zf := zb.fz; have zb := Lib.hid zb; clear hwz hbz) | (obtain ⟨wz, hwz⟩ : ∃ wz, wz = (w9.drew.alloc (.cells #[.int .i64 0, .slice none 0 0] 25)) := ⟨_, rfl⟩; rw [← hwz]; have hbz : Below w9.drew.heap.size w9.drew wz := (by rw [hwz]; exact (Below.refl _ _).alloc (Nat.le_refl _) _); have ltz_p0 : w1.heap.size < w9.heap.size := block_lt (show w9.drew.cell? _ = _ from p0); replace p0 := kept hbz ltz_p0 (show w9.drew.cell? _ = _ from p0); have ltz_p1 : w1.heap.size < w9.heap.size := block_lt (show w9.drew.cell? _ = _ from p1); replace p1 := kept hbz ltz_p1 (show w9.drew.cell? _ = _ from p1); have ltz_p : ∀ b off, s = some ⟨b, off, none⟩ → 0 < n → b < w9.heap.size := row_lt p.out; replace p := Lib.hid (p.out.bel hbz); have ltz_oo : ∀ b off, aoo = some ⟨b, off, none⟩ → 0 < n → b < w9.heap.size := row_lt oo.out; replace oo := Lib.hid (oo.out.bel hbz); have szb : w.heap.size ≤ w9.heap.size := bb.out.size; replace bb := Lib.hid (bb.out.trans (hbz.mono bb.out.size)); have zb : Box wz w9.heap.size (.int .i64 0) (.slice none 0 0) := (by rw [hwz]; exact ⟨by simp, by simp, fun o => by simp⟩); have z0 := zb.c0; have z1 := zb.c1; have zf := zb.fz; have zb := Lib.hid zb; clear hwz hbz))); (try (have kzB := block_lt z0)); (refine (has_impl W s n cg xs i j _ p.out (by omega)).mono ?_); rw [hB.out]; rintro e w10 ⟨rfl, hb⟩; have szw10 := hb.size; (first | replace p0 := kept hb (block_lt p0) p0 | replace p0 := kept hb (block_lt (show w9.drew.cell? _ = _ from p0)) (show w9.drew.cell? _ = _ from p0)); (first | replace p1 := kept hb (block_lt p1) p1 | replace p1 := kept hb (block_lt (show w9.drew.cell? _ = _ from p1)) (show w9.drew.cell? _ = _ from p1)); replace p := Lib.hid (p.out.bel hb); replace oo := Lib.hid (oo.out.bel hb); replace bb := Lib.hid (bb.out.trans (hb.mono bb.out.size)); (try (replace zb := Lib.hid (zb.out.bel hb); replace z0 := zb.out.c0; replace z1 := zb.out.c1; replace zf := zb.out.fz)); clear hb tok0 _t; have tok1 : True := trivial) | (go_at_call 18; have _t := tok1; (try (first | (obtain ⟨wz, hwz⟩ : ∃ wz, wz = (w10.alloc (.cells #[.int .i64 0, .slice none 0 0] 25)) := ⟨_, rfl⟩; rw [← hwz]; have hbz : Below w10.heap.size w10 wz := (by rw [hwz]; exact (Below.refl _ _).alloc (Nat.le_refl _) _); have ltz_p0 : w1.heap.size < w10.heap.size := block_lt (show w10.cell? _ = _ from p0); replace p0 := kept hbz ltz_p0 (show w10.cell? _ = _ from p0); have ltz_p1 : w1.heap.size < w10.heap.size := block_lt (show w10.cell? _ = _ from p1); replace p1 := kept hbz ltz_p1 (show w10.cell? _ = _ from p1); have ltz_p : ∀ b off, s = some ⟨b, off, none⟩ → 0 < n → b < w10.heap.size := row_lt p.out; replace p := Lib.hid (p.out.bel hbz); have ltz_oo : ∀ b off, aoo = some ⟨b, off, none⟩ → 0 < n → b < w10.heap.size := row_lt oo.out; replace oo := Lib.hid (oo.out.bel hbz); have szb : w.heap.size ≤ w10.heap.size := bb.out.size; replace bb := Lib.hid (bb.out.trans (hbz.mono bb.out.size)); have zb : Box wz w10.heap.size (.int .i64 0) (.slice none 0 0) := (by rw [hwz]; exact ⟨by simp, by simp, fun o => by simp⟩); have z0 := zb.c0; have z1 := zb.c1; have zf := zb.fz; have zb := Lib.hid zb; clear hwz hbz))); (try (have kzB := block_lt z0)); (refine (hO.out _ _ _ p.out).mono ?_); rintro e w11 ⟨⟨aq, cq, rfl, ho⟩, hb⟩; have szw11 := hb.size; have hoz := Lib.hid ho; replace p0 := kept hb (block_lt p0) p0; replace p1 := kept hb (block_lt p1) p1; replace p := Lib.hid (p.out.bel hb); replace oo := Lib.hid (oo.out.bel hb); replace bb := Lib.hid (bb.out.trans (hb.mono bb.out.size)); (try (replace zb := Lib.hid (zb.out.bel hb); replace z0 := zb.out.c0; replace z1 := zb.out.c1; replace zf := zb.out.fz)); clear hb ho tok1 _t; have tok2 : True := trivial))
    all_goals
      first | (have q0 := set2_c0 (u0 := .int .i64 W) (u1 := .slice aq n cq) z0; have q1 := set2_c1 (u0 := .int .i64 W) (u1 := .slice aq n cq) z1; replace p0 := set2_cell (u0 := .int .i64 W) (u1 := .slice aq n cq) p0 ltz_p0; replace p1 := set2_cell (u0 := .int .i64 W) (u1 := .slice aq n cq) p1 ltz_p1; replace p := Lib.hid (set2_old (u0 := .int .i64 W) (u1 := .slice aq n cq) p.out ltz_p); replace oo := Lib.hid (set2_old (u0 := .int .i64 W) (u1 := .slice aq n cq) oo.out ltz_oo); have q := Lib.hid (set2_row (u0 := .int .i64 W) (u1 := .slice aq n cq) hoz.out.row (own_far hoz.out kzB)); replace bb := Lib.hid (set2_bel (u0 := .int .i64 W) (u1 := .slice aq n cq) bb.out szb)) | (have q0 : (w11.alloc (.cells #[.int .i64 W, .slice aq n cq] 25)).cell? ⟨w11.heap.size, 0, none⟩ = some (.int .i64 W) := (by simp); have q1 : (w11.alloc (.cells #[.int .i64 W, .slice aq n cq] 25)).cell? ⟨w11.heap.size, 1, none⟩ = some (.slice aq n cq) := (by simp); replace p0 := World.cell?_alloc_some (o := .cells #[.int .i64 W, .slice aq n cq] 25) p0; replace p1 := World.cell?_alloc_some (o := .cells #[.int .i64 W, .slice aq n cq] 25) p1; replace p := Lib.hid (p.out.alloc (.cells #[.int .i64 W, .slice aq n cq] 25)); replace oo := Lib.hid (oo.out.alloc (.cells #[.int .i64 W, .slice aq n cq] 25)); have q := Lib.hid (hoz.out.row.alloc (.cells #[.int .i64 W, .slice aq n cq] 25)); replace bb := Lib.hid (bb.out.alloc bb.out.size (.cells #[.int .i64 W, .slice aq n cq] 25)))
      go_wp2_with fail
      go_meet
      exact ⟨_, aq, cq, rfl, rfl, p0, p1, q0, q1, p, oo, q, bb⟩
  case rest =>
    clear p0 p1 p oo bb
    obtain ⟨kq, aq, cq, rfl, rfl, p0, p1, q0, q1, p, oo, q, bb⟩ := hcut
    go_wp2_with fail
    refine (has_impl W s n cg xs i j _ p.out (by omega)).mono ?_
    rintro e w12 ⟨rfl, hb⟩
    have szw12 := hb.size
    replace p0 := kept hb (block_lt p0) p0
    replace p1 := kept hb (block_lt p1) p1
    replace q0 := kept hb (block_lt q0) q0
    replace q1 := kept hb (block_lt q1) q1
    replace p := Lib.hid (p.out.bel hb)
    replace oo := Lib.hid (oo.out.bel hb)
    replace q := Lib.hid (q.out.bel hb)
    replace bb := Lib.hid (bb.out.trans (hb.mono bb.out.size))
    clear hb
    rw [hB.out]
    cases B
    · skip
      obtain ⟨r_b, r_o, rfl, r_h⟩ := row_at oo.out (show 0 < n by omega)
      have r_n := Lib.hid (row_news oo.out (by omega))
      clear r_h
      have r_l := oo.out.1
      have lt_r_p := row_lt p.out
      have lt_r_oo := row_lt oo.out
      have lt_r_q := row_lt q.out
      have lt_r_p0 := block_lt p0
      have lt_r_p1 := block_lt p1
      have lt_r_q0 := block_lt q0
      have lt_r_q1 := block_lt q1
      have r_s := bb.out.size
      obtain ⟨r_i, r_i1, r_i2, r_i3, r_i4⟩ := info_parts infoInt
      go_wp2_with (at_builtin; refine wpList_append_own _ rfl _ _ 23 rfl w12.heap.size 3 r_i (.int .i64 0) 1 8 Try.underlying23 r_i1 r_i2 r_i3 r_i4 rfl (by decide) _ 0 [] rfl (World.ownsRow_lit w12 #[] 0 (Nat.le_refl _) (by decide) rfl) ⟨r_b, r_o, none⟩ n coo ((rsL xs W n).map (Value.int .i64)) rfl ?c1 ?c2 ?c3 ?c4 ?c5 ?c6 ?_)
      case c1 => simp only [List.length_map]; omega
      case c2 => exact fun j u hj => World.cell?_alloc_some (r_n.out j u hj)
      case c3 => exact ints_oneCell _ _
      case c4 => unfold maxLen; omega
      case c5 => omega
      case c6 => simp
      intro v' w13 hown hgr hnil
      obtain ⟨ar, cr, rfl, ho⟩ := own_of (xs := rsL xs W n) (n := n) (by simpa using hown)
      have hb : Below w12.heap.size w12 w13 := ((Below.refl _ _).alloc (Nat.le_refl _) _).grown hgr (by simp) (fun k hk => by simp [Value.ownBlock] at hk; omega)
      clear hown hgr hnil r_n r_i1 r_i2 r_i3 r_i4
      obtain ⟨gr, rfl⟩ : ∃ g, ar = some ⟨g, 0, none⟩ := by
        rcases ho.cases with ⟨_, h, _⟩ | ⟨g, h, _⟩
        · omega
        · exact ⟨g, h⟩
      have r := Lib.hid ho
      have rg_r := rng_own ho
      clear ho
      have szw13 := hb.size
      replace p0 := kept hb (block_lt p0) p0
      replace p1 := kept hb (block_lt p1) p1
      replace q0 := kept hb (block_lt q0) q0
      replace q1 := kept hb (block_lt q1) q1
      replace p := Lib.hid (p.out.bel hb)
      replace oo := Lib.hid (oo.out.bel hb)
      replace q := Lib.hid (q.out.bel hb)
      replace bb := Lib.hid (bb.out.trans (hb.mono bb.out.size))
      clear hb
      have hrc := row_at oo.out k0
      obtain ⟨ob, oi, e, hrc⟩ := hrc
      cases e
      rw [hu.out] at hrc
      have i1 : IntKind.i64.wrap (u + 1) = u + 1 := IntWalk.i64_in _ ⟨by omega, by omega⟩
      have hck := own_cell r.out (i := i) (by omega)
      have hfz := r.out.frozen
      have hst := Lib.hid (r.out.set i (u + 1))
      have hg5 : w13.grownBy (w13.setCell ⟨gr, i, none⟩ (.int .i64 (u + 1))) (rowOf (some ⟨gr, 0, none⟩)) := grown_set (World.grownBy.refl _ _)
      rw [hu.out] at hck
      go_upto_region 16 with fail
      replace p0 := hg5.cell p0 (ne_rowOf rg_r (.inl lt_r_p0))
      replace p1 := hg5.cell p1 (ne_rowOf rg_r (.inl lt_r_p1))
      replace q0 := hg5.cell q0 (ne_rowOf rg_r (.inl lt_r_q0))
      replace q1 := hg5.cell q1 (ne_rowOf rg_r (.inl lt_r_q1))
      replace p := Lib.hid (p.out.apart hg5 (fun b o e hn => ne_rowOf rg_r (.inl (lt_r_p b o e hn))))
      replace oo := Lib.hid (oo.out.apart hg5 (fun b o e hn => ne_rowOf rg_r (.inl (lt_r_oo b o e hn))))
      replace q := Lib.hid (q.out.apart hg5 (fun b o e hn => ne_rowOf rg_r (.inl (lt_r_q b o e hn))))
      replace bb := Lib.hid (bb.out.setCell (show w.heap.size ≤ (⟨gr, i, none⟩ : Addr).block by have := (rg_r _ rfl).1; simp at this ⊢; omega) (.int .i64 (u + 1)))
      replace r := hst
      clear hck hfz hst hg5
      generalize hwq : w13.setCell ⟨gr, i, none⟩ (.int .i64 (u + 1)) = w14 at *
      have szw14 : w13.heap.size ≤ w14.heap.size := by rw [← hwq]; simp [World.setCell]
      clear hwq
      have hbe : Below w14.heap.size w14 (w14.alloc (.cells #[] 3)) := (Below.refl _ _).alloc (Nat.le_refl _) _
      have he : OwnI (w14.alloc (.cells #[] 3)) w14.heap.size (some ⟨w14.heap.size, 0, none⟩) 0 0 [] := own_empty w14 w14.heap.size w14.heap.size rfl (Nat.le_refl _)
      have rgr := own_ge r.out
      have lt_c_p := row_lt p.out
      have lt_c_oo := row_lt oo.out
      have lt_c_q := row_lt q.out
      have lt_c_r := row_lt r.out.row
      have lt_c_p0 := block_lt p0
      have lt_c_p1 := block_lt p1
      have lt_c_q0 := block_lt q0
      have lt_c_q1 := block_lt q1
      replace p0 := kept hbe (block_lt p0) p0
      replace p1 := kept hbe (block_lt p1) p1
      replace q0 := kept hbe (block_lt q0) q0
      replace q1 := kept hbe (block_lt q1) q1
      replace p := Lib.hid (p.out.bel hbe)
      replace oo := Lib.hid (oo.out.bel hbe)
      replace q := Lib.hid (q.out.bel hbe)
      replace r := Lib.hid (r.out.bel hbe)
      replace bb := Lib.hid (bb.out.trans (hbe.mono bb.out.size))
      clear hbe
      have em := Lib.hid he
      clear he
      go_wp2_with fail
      refine (cs_ok hI.out _ _ _ p.out).mono ?_
      rintro e w15 ⟨⟨acs, ccs, rfl, ho⟩, hb⟩
      have szw15 : w14.heap.size + 1 ≤ w15.heap.size := by have := hb.size; simpa using this
      replace p0 := kept hb (block_lt p0) p0
      replace p1 := kept hb (block_lt p1) p1
      replace q0 := kept hb (block_lt q0) q0
      replace q1 := kept hb (block_lt q1) q1
      replace p := Lib.hid (p.out.bel hb)
      replace oo := Lib.hid (oo.out.bel hb)
      replace q := Lib.hid (q.out.bel hb)
      replace r := Lib.hid (r.out.bel hb)
      replace em := Lib.hid (em.out.bel hb)
      replace bb := Lib.hid (bb.out.trans (hb.mono bb.out.size))
      have cs := Lib.hid ho.row
      clear ho hb
      obtain ⟨cb, co, rfl, ch⟩ := row_at cs.out (show 0 < W by omega)
      have cn := Lib.hid (row_news cs.out (by omega))
      clear ch
      have bbs := bb.out.size
      obtain ⟨ci, ci1, ci2, ci3, ci4⟩ := info_parts infoInt
      go_wp2_with (at_builtin; refine wpList_append_own _ rfl _ _ 23 rfl w14.heap.size 3 ci (.int .i64 0) 1 8 Try.underlying23 ci1 ci2 ci3 ci4 rfl (by decide) _ 0 [] rfl em.out ⟨cb, co, none⟩ W ccs ((csL xs n W).map (Value.int .i64)) rfl ?c1 ?c2 ?c3 ?c4 ?c5 ?c6 ?_)
      case c1 => simp only [List.length_map]; omega
      case c2 => exact cn.out
      case c3 => exact ints_oneCell _ _
      case c4 => unfold maxLen; omega
      case c5 => omega
      case c6 => omega
      intro v' w16 hown hgr hnil
      obtain ⟨ac, cc, rfl, ho⟩ := own_of (xs := csL xs n W) (n := W) (by simpa using hown)
      have hb : Below w14.heap.size w15 w16 := (Below.refl _ _).grown hgr (by omega) (fun k hk => by simp [Value.ownBlock] at hk; omega)
      clear hown hgr hnil cn ci1 ci2 ci3 ci4
      obtain ⟨gc, rfl⟩ : ∃ g, ac = some ⟨g, 0, none⟩ := by
        rcases ho.cases with ⟨_, h, _⟩ | ⟨g, h, _⟩
        · omega
        · exact ⟨g, h⟩
      have c := Lib.hid ho
      have rg_c := rng_own ho
      have szw16 := hb.size
      clear ho em
      replace p0 := kept hb lt_c_p0 p0
      replace p1 := kept hb lt_c_p1 p1
      replace q0 := kept hb lt_c_q0 q0
      replace q1 := kept hb lt_c_q1 q1
      replace p := Lib.hid (row_cut p.out hb lt_c_p)
      replace oo := Lib.hid (row_cut oo.out hb lt_c_oo)
      replace q := Lib.hid (row_cut q.out hb lt_c_q)
      replace r := Lib.hid (own_cut r.out hb (fun g hg => by cases hg; omega))
      replace bb := Lib.hid (bb.out.trans (hb.mono (by omega)))
      clear cs
      have i2 : IntKind.i64.wrap (v + 1) = v + 1 := IntWalk.i64_in _ ⟨by omega, by omega⟩
      have hck := own_cell c.out (i := j) (by omega)
      have hfz := c.out.frozen
      have hst := Lib.hid (c.out.set j (v + 1))
      have hg5 : w16.grownBy (w16.setCell ⟨gc, j, none⟩ (.int .i64 (v + 1))) (rowOf (some ⟨gc, 0, none⟩)) := grown_set (World.grownBy.refl _ _)
      rw [hv.out] at hck
      go_upto_region 18 with fail
      replace p0 := hg5.cell p0 (ne_rowOf rg_c (.inl lt_c_p0))
      replace p1 := hg5.cell p1 (ne_rowOf rg_c (.inl lt_c_p1))
      replace q0 := hg5.cell q0 (ne_rowOf rg_c (.inl lt_c_q0))
      replace q1 := hg5.cell q1 (ne_rowOf rg_c (.inl lt_c_q1))
      replace p := Lib.hid (p.out.apart hg5 (fun b o e hn => ne_rowOf rg_c (.inl (lt_c_p b o e hn))))
      replace oo := Lib.hid (oo.out.apart hg5 (fun b o e hn => ne_rowOf rg_c (.inl (lt_c_oo b o e hn))))
      replace q := Lib.hid (q.out.apart hg5 (fun b o e hn => ne_rowOf rg_c (.inl (lt_c_q b o e hn))))
      replace r := Lib.hid (r.out.apart2 hg5 rg_r rg_c (by omega))
      replace bb := Lib.hid (bb.out.setCell (show w.heap.size ≤ (⟨gc, j, none⟩ : Addr).block by have := (rg_c _ rfl).1; simp at this ⊢; omega) (.int .i64 (v + 1)))
      replace c := hst
      clear hck hfz hst hg5
      generalize hwq : w16.setCell ⟨gc, j, none⟩ (.int .i64 (v + 1)) = w17 at *
      have szw17 : w16.heap.size ≤ w17.heap.size := by rw [← hwq]; simp [World.setCell]
      clear hwq
      go_wp2_with fail
      refine (fit_impl W aq _ _ n n W cq _ _ ys _ _ _ q.out r.out.row c.out.row (by omega) (by omega) (by omega)).mono ?_
      rintro e w18 ⟨rfl, hb⟩
      have szw18 := hb.size
      replace p0 := kept hb (block_lt p0) p0
      replace p1 := kept hb (block_lt p1) p1
      replace q0 := kept hb (block_lt q0) q0
      replace q1 := kept hb (block_lt q1) q1
      replace p := Lib.hid (p.out.bel hb)
      replace oo := Lib.hid (oo.out.bel hb)
      replace q := Lib.hid (q.out.bel hb)
      replace r := Lib.hid (r.out.bel hb)
      replace c := Lib.hid (c.out.bel hb)
      replace bb := Lib.hid (bb.out.trans (hb.mono bb.out.size))
      clear hb
      rw [fF.out (by simp)]
      go_wp2_with fail
      go_ret
      exact ⟨rfl, bb.out⟩
    · skip
      obtain ⟨r_b, r_o, rfl, r_h⟩ := row_at oo.out (show 0 < n by omega)
      have r_n := Lib.hid (row_news oo.out (by omega))
      clear r_h
      have r_l := oo.out.1
      have lt_r_p := row_lt p.out
      have lt_r_oo := row_lt oo.out
      have lt_r_q := row_lt q.out
      have lt_r_p0 := block_lt p0
      have lt_r_p1 := block_lt p1
      have lt_r_q0 := block_lt q0
      have lt_r_q1 := block_lt q1
      have r_s := bb.out.size
      obtain ⟨r_i, r_i1, r_i2, r_i3, r_i4⟩ := info_parts infoInt
      go_wp2_with (at_builtin; refine wpList_append_own _ rfl _ _ 23 rfl w12.heap.size 3 r_i (.int .i64 0) 1 8 Try.underlying23 r_i1 r_i2 r_i3 r_i4 rfl (by decide) _ 0 [] rfl (World.ownsRow_lit w12 #[] 0 (Nat.le_refl _) (by decide) rfl) ⟨r_b, r_o, none⟩ n coo ((rsL xs W n).map (Value.int .i64)) rfl ?c1 ?c2 ?c3 ?c4 ?c5 ?c6 ?_)
      case c1 => simp only [List.length_map]; omega
      case c2 => exact fun j u hj => World.cell?_alloc_some (r_n.out j u hj)
      case c3 => exact ints_oneCell _ _
      case c4 => unfold maxLen; omega
      case c5 => omega
      case c6 => simp
      intro v' w19 hown hgr hnil
      obtain ⟨ar, cr, rfl, ho⟩ := own_of (xs := rsL xs W n) (n := n) (by simpa using hown)
      have hb : Below w12.heap.size w12 w19 := ((Below.refl _ _).alloc (Nat.le_refl _) _).grown hgr (by simp) (fun k hk => by simp [Value.ownBlock] at hk; omega)
      clear hown hgr hnil r_n r_i1 r_i2 r_i3 r_i4
      obtain ⟨gr, rfl⟩ : ∃ g, ar = some ⟨g, 0, none⟩ := by
        rcases ho.cases with ⟨_, h, _⟩ | ⟨g, h, _⟩
        · omega
        · exact ⟨g, h⟩
      have r := Lib.hid ho
      have rg_r := rng_own ho
      clear ho
      have szw19 := hb.size
      replace p0 := kept hb (block_lt p0) p0
      replace p1 := kept hb (block_lt p1) p1
      replace q0 := kept hb (block_lt q0) q0
      replace q1 := kept hb (block_lt q1) q1
      replace p := Lib.hid (p.out.bel hb)
      replace oo := Lib.hid (oo.out.bel hb)
      replace q := Lib.hid (q.out.bel hb)
      replace bb := Lib.hid (bb.out.trans (hb.mono bb.out.size))
      clear hb
      have hrc := row_at oo.out k0
      obtain ⟨ob, oi, e, hrc⟩ := hrc
      cases e
      rw [hu.out] at hrc
      have i1 : IntKind.i64.wrap (u + -1) = u + -1 := IntWalk.i64_in _ ⟨by omega, by omega⟩
      have hck := own_cell r.out (i := i) (by omega)
      have hfz := r.out.frozen
      have hst := Lib.hid (r.out.set i (u + -1))
      have hg5 : w19.grownBy (w19.setCell ⟨gr, i, none⟩ (.int .i64 (u + -1))) (rowOf (some ⟨gr, 0, none⟩)) := grown_set (World.grownBy.refl _ _)
      rw [hu.out] at hck
      go_upto_region 16 with fail
      replace p0 := hg5.cell p0 (ne_rowOf rg_r (.inl lt_r_p0))
      replace p1 := hg5.cell p1 (ne_rowOf rg_r (.inl lt_r_p1))
      replace q0 := hg5.cell q0 (ne_rowOf rg_r (.inl lt_r_q0))
      replace q1 := hg5.cell q1 (ne_rowOf rg_r (.inl lt_r_q1))
      replace p := Lib.hid (p.out.apart hg5 (fun b o e hn => ne_rowOf rg_r (.inl (lt_r_p b o e hn))))
      replace oo := Lib.hid (oo.out.apart hg5 (fun b o e hn => ne_rowOf rg_r (.inl (lt_r_oo b o e hn))))
      replace q := Lib.hid (q.out.apart hg5 (fun b o e hn => ne_rowOf rg_r (.inl (lt_r_q b o e hn))))
      replace bb := Lib.hid (bb.out.setCell (show w.heap.size ≤ (⟨gr, i, none⟩ : Addr).block by have := (rg_r _ rfl).1; simp at this ⊢; omega) (.int .i64 (u + -1)))
      replace r := hst
      clear hck hfz hst hg5
      generalize hwq : w19.setCell ⟨gr, i, none⟩ (.int .i64 (u + -1)) = w20 at *
      have szw20 : w19.heap.size ≤ w20.heap.size := by rw [← hwq]; simp [World.setCell]
      clear hwq
      have hbe : Below w20.heap.size w20 (w20.alloc (.cells #[] 3)) := (Below.refl _ _).alloc (Nat.le_refl _) _
      have he : OwnI (w20.alloc (.cells #[] 3)) w20.heap.size (some ⟨w20.heap.size, 0, none⟩) 0 0 [] := own_empty w20 w20.heap.size w20.heap.size rfl (Nat.le_refl _)
      have rgr := own_ge r.out
      have lt_c_p := row_lt p.out
      have lt_c_oo := row_lt oo.out
      have lt_c_q := row_lt q.out
      have lt_c_r := row_lt r.out.row
      have lt_c_p0 := block_lt p0
      have lt_c_p1 := block_lt p1
      have lt_c_q0 := block_lt q0
      have lt_c_q1 := block_lt q1
      replace p0 := kept hbe (block_lt p0) p0
      replace p1 := kept hbe (block_lt p1) p1
      replace q0 := kept hbe (block_lt q0) q0
      replace q1 := kept hbe (block_lt q1) q1
      replace p := Lib.hid (p.out.bel hbe)
      replace oo := Lib.hid (oo.out.bel hbe)
      replace q := Lib.hid (q.out.bel hbe)
      replace r := Lib.hid (r.out.bel hbe)
      replace bb := Lib.hid (bb.out.trans (hbe.mono bb.out.size))
      clear hbe
      have em := Lib.hid he
      clear he
      go_wp2_with fail
      refine (cs_ok hI.out _ _ _ p.out).mono ?_
      rintro e w21 ⟨⟨acs, ccs, rfl, ho⟩, hb⟩
      have szw21 : w20.heap.size + 1 ≤ w21.heap.size := by have := hb.size; simpa using this
      replace p0 := kept hb (block_lt p0) p0
      replace p1 := kept hb (block_lt p1) p1
      replace q0 := kept hb (block_lt q0) q0
      replace q1 := kept hb (block_lt q1) q1
      replace p := Lib.hid (p.out.bel hb)
      replace oo := Lib.hid (oo.out.bel hb)
      replace q := Lib.hid (q.out.bel hb)
      replace r := Lib.hid (r.out.bel hb)
      replace em := Lib.hid (em.out.bel hb)
      replace bb := Lib.hid (bb.out.trans (hb.mono bb.out.size))
      have cs := Lib.hid ho.row
      clear ho hb
      obtain ⟨cb, co, rfl, ch⟩ := row_at cs.out (show 0 < W by omega)
      have cn := Lib.hid (row_news cs.out (by omega))
      clear ch
      have bbs := bb.out.size
      obtain ⟨ci, ci1, ci2, ci3, ci4⟩ := info_parts infoInt
      go_wp2_with (at_builtin; refine wpList_append_own _ rfl _ _ 23 rfl w20.heap.size 3 ci (.int .i64 0) 1 8 Try.underlying23 ci1 ci2 ci3 ci4 rfl (by decide) _ 0 [] rfl em.out ⟨cb, co, none⟩ W ccs ((csL xs n W).map (Value.int .i64)) rfl ?c1 ?c2 ?c3 ?c4 ?c5 ?c6 ?_)
      case c1 => simp only [List.length_map]; omega
      case c2 => exact cn.out
      case c3 => exact ints_oneCell _ _
      case c4 => unfold maxLen; omega
      case c5 => omega
      case c6 => omega
      intro v' w22 hown hgr hnil
      obtain ⟨ac, cc, rfl, ho⟩ := own_of (xs := csL xs n W) (n := W) (by simpa using hown)
      have hb : Below w20.heap.size w21 w22 := (Below.refl _ _).grown hgr (by omega) (fun k hk => by simp [Value.ownBlock] at hk; omega)
      clear hown hgr hnil cn ci1 ci2 ci3 ci4
      obtain ⟨gc, rfl⟩ : ∃ g, ac = some ⟨g, 0, none⟩ := by
        rcases ho.cases with ⟨_, h, _⟩ | ⟨g, h, _⟩
        · omega
        · exact ⟨g, h⟩
      have c := Lib.hid ho
      have rg_c := rng_own ho
      have szw22 := hb.size
      clear ho em
      replace p0 := kept hb lt_c_p0 p0
      replace p1 := kept hb lt_c_p1 p1
      replace q0 := kept hb lt_c_q0 q0
      replace q1 := kept hb lt_c_q1 q1
      replace p := Lib.hid (row_cut p.out hb lt_c_p)
      replace oo := Lib.hid (row_cut oo.out hb lt_c_oo)
      replace q := Lib.hid (row_cut q.out hb lt_c_q)
      replace r := Lib.hid (own_cut r.out hb (fun g hg => by cases hg; omega))
      replace bb := Lib.hid (bb.out.trans (hb.mono (by omega)))
      clear cs
      have i2 : IntKind.i64.wrap (v + -1) = v + -1 := IntWalk.i64_in _ ⟨by omega, by omega⟩
      have hck := own_cell c.out (i := j) (by omega)
      have hfz := c.out.frozen
      have hst := Lib.hid (c.out.set j (v + -1))
      have hg5 : w22.grownBy (w22.setCell ⟨gc, j, none⟩ (.int .i64 (v + -1))) (rowOf (some ⟨gc, 0, none⟩)) := grown_set (World.grownBy.refl _ _)
      rw [hv.out] at hck
      go_upto_region 18 with fail
      replace p0 := hg5.cell p0 (ne_rowOf rg_c (.inl lt_c_p0))
      replace p1 := hg5.cell p1 (ne_rowOf rg_c (.inl lt_c_p1))
      replace q0 := hg5.cell q0 (ne_rowOf rg_c (.inl lt_c_q0))
      replace q1 := hg5.cell q1 (ne_rowOf rg_c (.inl lt_c_q1))
      replace p := Lib.hid (p.out.apart hg5 (fun b o e hn => ne_rowOf rg_c (.inl (lt_c_p b o e hn))))
      replace oo := Lib.hid (oo.out.apart hg5 (fun b o e hn => ne_rowOf rg_c (.inl (lt_c_oo b o e hn))))
      replace q := Lib.hid (q.out.apart hg5 (fun b o e hn => ne_rowOf rg_c (.inl (lt_c_q b o e hn))))
      replace r := Lib.hid (r.out.apart2 hg5 rg_r rg_c (by omega))
      replace bb := Lib.hid (bb.out.setCell (show w.heap.size ≤ (⟨gc, j, none⟩ : Addr).block by have := (rg_c _ rfl).1; simp at this ⊢; omega) (.int .i64 (v + -1)))
      replace c := hst
      clear hck hfz hst hg5
      generalize hwq : w22.setCell ⟨gc, j, none⟩ (.int .i64 (v + -1)) = w23 at *
      have szw23 : w22.heap.size ≤ w23.heap.size := by rw [← hwq]; simp [World.setCell]
      clear hwq
      go_wp2_with fail
      refine (fit_impl W aq _ _ n n W cq _ _ ys _ _ _ q.out r.out.row c.out.row (by omega) (by omega) (by omega)).mono ?_
      rintro e w24 ⟨rfl, hb⟩
      have szw24 := hb.size
      replace p0 := kept hb (block_lt p0) p0
      replace p1 := kept hb (block_lt p1) p1
      replace q0 := kept hb (block_lt q0) q0
      replace q1 := kept hb (block_lt q1) q1
      replace p := Lib.hid (p.out.bel hb)
      replace oo := Lib.hid (oo.out.bel hb)
      replace q := Lib.hid (q.out.bel hb)
      replace r := Lib.hid (r.out.bel hb)
      replace c := Lib.hid (c.out.bel hb)
      replace bb := Lib.hid (bb.out.trans (hb.mono bb.out.size))
      clear hb
      rw [fT.out (by simp)]
      go_wp2_with fail
      go_ret
      exact ⟨rfl, bb.out⟩

set_option maxRecDepth 100000 in
theorem lifted (os : Os) (started : os.Started) (H : Type) (enc : TypeId × Value → H) :
    ReturnsInHanded {} Try.checked os 7 .any (Rows.fnRowSumsPutSpec.pre6 enc Try.prog Try.f7 Rows.fnRowSumsPutRow.domain false) (Rows.fnRowSumsPutSpec.post enc Try.prog Try.f7 false true false false) := by
  refine returnsInHanded_of_change (C := Try.checked) own started (by kernel_rfl) Try.func7
    (ChangeSpec.witness6 (enc := enc) (C := Try.checked) false ⟨#[], #[.slice none 0 0, .slice none 0 0], []⟩ 8 (by kernel_rfl) (by kernel_rfl) (by kernel_rfl) (by kernel_rfl)) ?_
  intro W base args ds gs before hval0 hW hcnd _
  have hval : ∀ (j : Nat) t v, Try.f7.params[j]? = some t → args[j]? = some v → Value.okWide Try.prog W .any base t v := hval0
  have hW' := hW
  obtain ⟨p, q, hA0, hV, rfl, hfz, hnd⟩ := hW
  have hA : DataW.TrodAll enc Try.prog W 0 (fun _ => true) true Try.f7.params.toList args.toList ds p := hA0
  rw [Try.params7] at hA hval
  obtain ⟨v0, vs0, d0, ds0, p0, q0, hargs, rfl, rfl, h0, r0⟩ := trodAll_cons hA
  obtain ⟨v1, vs1, d1, ds1, p1, q1, rfl, rfl, rfl, h1, r1⟩ := trodAll_cons r0
  obtain ⟨rfl, rfl, rfl⟩ := trodAll_nil r1
  obtain rfl : args = #[v0, v1] := by cases args; simp_all
  obtain ⟨rfl, rfl⟩ := trodVars_none hV
  have k0 := h0
  have lt0 : ∀ x ∈ p0, x.block < W.heap.size := by obtain ⟨m, hm⟩ := k0; exact DataW.trod_lt m _ _ _ hm
  obtain ⟨a0, len0, cap0, z0, rfl, w0, l0, m0⟩ := open_code (hval 0 22 v0 rfl rfl) h0
  have k1 := h1
  have lt1 : ∀ x ∈ p1, x.block < W.heap.size := by obtain ⟨m, hm⟩ := k1; exact DataW.trod_lt m _ _ _ hm
  obtain ⟨a1, len1, cap1, z1, rfl, w1, l1, m1⟩ := open_code (hval 1 22 v1 rfl rfl) h1
  clear hA0 hval0
  refine (walk a0 len0 cap0 z0 a1 len1 cap1 z1 W w0 l0 m0 w1 l1 m1).mono fun e W' ⟨he, bel⟩ => ?_
  subst he
  exact ⟨_, rfl, _, _, _, [], _, [], hW', trodAll_mk1 (shut_bool Try.underlying4 _), (trodAll_cons_mk (Below.trod laidOut (by kernel_rfl) (of_decide_eq_true (by kernel_rfl)) k0 bel lt0) (trodAll_cons_mk (Below.trod laidOut (by kernel_rfl) (of_decide_eq_true (by kernel_rfl)) k1 bel lt1) trodAll_mk0)), rfl, bel.frame _, fun h => by cases h⟩

theorem closed : joinedFacts Try.prog 7 Try.f7 Rows.fnRowSumsPutSpec Rows.fnRowSumsPutRow = true := by
  simp only [joinedFacts, Bool.and_eq_true]
  repeat' apply And.intro
  all_goals first | with_reducible exact mayEnterOk | (with_reducible rw [liftsFinalOk]; kernel_rfl) | (with_reducible rw [makeOk]; kernel_rfl) | kernel_rfl

theorem over : Rows.fnRowSumsPutRow.holds Try.pinned (OpenSpec.ofChange Rows.fnRowSumsPutSpec) :=
  OpenClaim.holds_of_wide 7 Try.f7 rfl rfl rfl rfl rfl rfl rfl ⟨rfl, rfl, rfl, rfl, rfl⟩ rfl rfl rfl rfl rfl (by kernel_rfl) Try.func7 closed
    (of_decide_eq_true (by kernel_rfl)) (by unfold Func.isWrapper; first | (rw [if_pos (by decide +kernel)]; kernel_rfl) | (rw [if_neg (by decide +kernel)]; exact ⟨rfl, rfl⟩))
    (fun os started H enc _ => lifted os started H enc)

theorem proved : Rows.FnRowSumsPutSaid := over
#print axioms proved
end Go.Proofs.Ytgbbigekamapiaa.LFRowSumsPut

