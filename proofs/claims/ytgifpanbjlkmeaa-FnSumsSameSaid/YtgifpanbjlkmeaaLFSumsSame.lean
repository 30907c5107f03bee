/-
  For every slice of bytes the law FnSumsSame answers true: two images with the same sums have them exchanged, turned, mirrored, and with the other cells; nothing that was there is written; no condition.
-/
import Derived.Test.YtgifpanbjlkmeaaO
import Derived.Test.YtgifpanbjlkmeaaZ
import Derived.Deep.RegionLaw
import Derived.Test.YtgifpanbjlkmeaaSp
import Derived.Test.YtgifpanbjlkmeaaSd
namespace Go.Proofs.Ytgifpanbjlkmeaa.LFSumsSame
open Go.ChangeShapes Go.WideShapes Go.ChangeAt Go.RowKit Go.Joins

set_option maxHeartbeats 6000000 in
set_option maxRecDepth 100000 in
theorem walk (a : Option Addr) (len cap : Nat) (zs : List Int) (w : World) (h : Bys w a len zs) (hl : len ≤ cap) (hm : cap ≤ 9223372036854775807) :
    Calls Try.prog 15 #[.slice a len cap] w fun e w' => e = .returned (.bool true) ∧ Below w.heap.size w w' := by
  by_cases hbig : 1048576 < len
  · clear h
    go_enter Try.func15, Try.ntmps15
    go_wp2_with fail
    go_ret
    exact ⟨rfl, Below.refl _ _⟩
  go_enter Try.func15, Try.ntmps15
  go_wp2_with fail
  refine (draw_DrawSumsSame a len cap zs _ h hl hm).mono ?_
  rintro e w1 ⟨V, s, n, cg, xs, V2, t, m, ch, ys, rfl, hX, hY, hnm, hb1⟩
  clear h hl hm
  have bb := Lib.hid hb1
  have p := Lib.hid hX
  have q := Lib.hid hY
  obtain ⟨w2, hw2⟩ : ∃ w2, w2 = (w1.alloc (.cells #[.int .i64 V, .slice s n cg] 25)).alloc (.cells #[.int .i64 V2, .slice t m ch] 25) := ⟨_, rfl⟩
  have hb : Below w1.heap.size w1 w2 := by subst hw2; exact ((Below.refl _ _).alloc (Nat.le_refl _) _).alloc (by simp) _
  have p0 : w2.cell? ⟨w1.heap.size, 0, none⟩ = some (.int .i64 V) := by subst hw2; go_simp
  have p1 : w2.cell? ⟨w1.heap.size, 1, none⟩ = some (.slice s n cg) := by subst hw2; go_simp
  have q0 : w2.cell? ⟨w1.heap.size + 1, 0, none⟩ = some (.int .i64 V2) := by subst hw2; go_simp
  have q1 : w2.cell? ⟨w1.heap.size + 1, 1, none⟩ = some (.slice t m ch) := by subst hw2; go_simp
  clear hX hY hb1
  have szw2 := hb.size
  replace p := Lib.hid (p.out.bel hb)
  replace q := Lib.hid (q.out.bel hb)
  replace bb := Lib.hid (bb.out.trans (hb.mono bb.out.size))
  clear hb
  go_wp2_with fail
  rw [← hw2]
  clear hw2
  obtain ⟨B, hB⟩ : ∃ B, sameB V xs V2 ys = B := ⟨_, rfl⟩
  refine (same_impl V V2 s t n m cg ch xs ys _ p.out q.out (by omega) (by omega)).mono ?_
  rintro e w3 ⟨rfl, hb⟩
  have szw3 := hb.size
  replace p0 := kept hb (block_lt p0) p0
  replace p1 := kept hb (block_lt p1) p1
  replace q0 := kept hb (block_lt q0) q0
  replace q1 := kept hb (block_lt q1) q1
  replace p := Lib.hid (p.out.bel hb)
  replace q := Lib.hid (q.out.bel hb)
  replace bb := Lib.hid (bb.out.trans (hb.mono bb.out.size))
  clear hb
  go_wp2_with fail
  refine (same_spec2 V V2 s t n m cg ch xs ys _ p.out q.out (by omega) (by omega)).mono ?_
  rintro e w4 ⟨rfl, hb⟩
  have szw4 := hb.size
  replace p0 := kept hb (block_lt p0) p0
  replace p1 := kept hb (block_lt p1) p1
  replace q0 := kept hb (block_lt q0) q0
  replace q1 := kept hb (block_lt q1) q1
  replace p := Lib.hid (p.out.bel hb)
  replace q := Lib.hid (q.out.bel hb)
  replace bb := Lib.hid (bb.out.trans (hb.mono bb.out.size))
  clear hb
  rw [hB]
  by_cases hv : B = true
  case neg =>
    have hv : B = false := by simpa using hv
    subst hv
    go_wp2_with fail
    go_ret
    exact ⟨rfl, bb.out⟩
  subst hv
  have hs := same_parts hB
  obtain ⟨hv1, hv2, hrs, hcs⟩ := hs
  have hI0 := validB_W hv1
  have hI1 := validB_W hv2
  obtain ⟨W, rfl⟩ := Int.eq_ofNat_of_zero_le (by omega : 0 ≤ V)
  obtain ⟨W2, rfl⟩ := Int.eq_ofNat_of_zero_le (by omega : 0 ≤ V2)
  have hI : Im W n xs := Im.of hv1 p.out.1
  have hJ : Im W2 m ys := Im.of hv2 q.out.1
  rw [hI.rs, hJ.rs] at hrs
  rw [hI.cs, hJ.cs] at hcs
  have e1 : n = m := by have := congrArg List.length hrs; rwa [rs_len, rs_len] at this
  have e2 : W = W2 := by have := congrArg List.length hcs; rwa [cs_len, cs_len] at this
  subst e1 e2
  have hW6 := hI.w6
  have hW1 := hI.w1
  have hn1 := hI.l1
  have hn6 := hI.l6
  clear hv1 hv2 hI0 hI1 hB
  have g0 := hJ.same hI hrs.symm hcs.symm
  have g1 := hI.same_turn hJ hrs hcs
  have g2 := hI.same_mir hJ hrs hcs
  have g3 := hI.same_oth hJ hrs hcs
  have g4 := hI.same hI rfl rfl
  have t1 := fun s cg w hR => turn_ok hI s cg w hR
  have t2 := fun s cg w hR => turn_ok hJ s cg w hR
  have m1 := fun s cg w hR => mirror_ok hI s cg w hR
  have m2 := fun s cg w hR => mirror_ok hJ s cg w hR
  have v1 := fun s cg w hR => other_ok hI s cg w hR
  have v2 := fun s cg w hR => other_ok hJ s cg w hR
  generalize turnL xs W n = tx at g1 t1
  generalize turnL ys W n = ty at g1 t2
  generalize mirL xs W n = mx at g2 m1
  generalize mirL ys W n = my at g2 m2
  generalize othL xs W n = ox at g3 v1
  generalize othL ys W n = oy at g3 v2
  replace g0 := Lib.hid g0
  replace g1 := Lib.hid g1
  replace g2 := Lib.hid g2
  replace g3 := Lib.hid g3
  replace g4 := Lib.hid g4
  replace t1 := Lib.hid t1
  replace t2 := Lib.hid t2
  replace m1 := Lib.hid m1
  replace m2 := Lib.hid m2
  replace v1 := Lib.hid v1
  replace v2 := Lib.hid v2
  clear hrs hcs hI hJ
  go_wp2_with fail
  refine (t1.out _ _ _ p.out).mono ?_
  rintro e w5 ⟨⟨ax, cx, rfl, ho⟩, hb⟩
  have x := Lib.hid ho.row
  have szw5 := hb.size
  replace p0 := kept hb (block_lt p0) p0
  replace p1 := kept hb (block_lt p1) p1
  replace q0 := kept hb (block_lt q0) q0
  replace q1 := kept hb (block_lt q1) q1
  replace p := Lib.hid (p.out.bel hb)
  replace q := Lib.hid (q.out.bel hb)
  replace bb := Lib.hid (bb.out.trans (hb.mono bb.out.size))
  clear hb
  clear ho
  have hbx : Below w5.heap.size w5 (w5.alloc (.cells #[.int .i64 n, .slice ax W cx] 25)) := (Below.refl _ _).alloc (Nat.le_refl _) _
  replace p0 := kept hbx (block_lt p0) p0
  replace p1 := kept hbx (block_lt p1) p1
  replace q0 := kept hbx (block_lt q0) q0
  replace q1 := kept hbx (block_lt q1) q1
  replace p := Lib.hid (p.out.bel hbx)
  replace q := Lib.hid (q.out.bel hbx)
  replace x := Lib.hid (x.out.bel hbx)
  replace bb := Lib.hid (bb.out.trans (hbx.mono bb.out.size))
  clear hbx
  have x0 : (w5.alloc (.cells #[.int .i64 n, .slice ax W cx] 25)).cell? ⟨w5.heap.size, 0, none⟩ = some (.int .i64 n) := by simp
  have x1 : (w5.alloc (.cells #[.int .i64 n, .slice ax W cx] 25)).cell? ⟨w5.heap.size, 1, none⟩ = some (.slice ax W cx) := by simp
  go_wp2_with fail
  refine (t2.out _ _ _ q.out).mono ?_
  rintro e w6 ⟨⟨ay, cy, rfl, ho⟩, hb⟩
  have y := Lib.hid ho.row
  have szw6 : w5.heap.size + 1 ≤ w6.heap.size := by have := hb.size; simpa using this
  replace p0 := kept hb (block_lt p0) p0
  replace p1 := kept hb (block_lt p1) p1
  replace q0 := kept hb (block_lt q0) q0
  replace q1 := kept hb (block_lt q1) q1
  replace x0 := kept hb (block_lt x0) x0
  replace x1 := kept hb (block_lt x1) x1
  replace p := Lib.hid (p.out.bel hb)
  replace q := Lib.hid (q.out.bel hb)
  replace x := Lib.hid (x.out.bel hb)
  replace bb := Lib.hid (bb.out.trans (hb.mono bb.out.size))
  clear hb
  clear ho
  have hbx : Below w6.heap.size w6 (w6.alloc (.cells #[.int .i64 n, .slice ay W cy] 25)) := (Below.refl _ _).alloc (Nat.le_refl _) _
  replace p0 := kept hbx (block_lt p0) p0
  replace p1 := kept hbx (block_lt p1) p1
  replace q0 := kept hbx (block_lt q0) q0
  replace q1 := kept hbx (block_lt q1) q1
  replace x0 := kept hbx (block_lt x0) x0
  replace x1 := kept hbx (block_lt x1) x1
  replace p := Lib.hid (p.out.bel hbx)
  replace q := Lib.hid (q.out.bel hbx)
  replace x := Lib.hid (x.out.bel hbx)
  replace y := Lib.hid (y.out.bel hbx)
  replace bb := Lib.hid (bb.out.trans (hbx.mono bb.out.size))
  clear hbx
  have y0 : (w6.alloc (.cells #[.int .i64 n, .slice ay W cy] 25)).cell? ⟨w6.heap.size, 0, none⟩ = some (.int .i64 n) := by simp
  have y1 : (w6.alloc (.cells #[.int .i64 n, .slice ay W cy] 25)).cell? ⟨w6.heap.size, 1, none⟩ = some (.slice ay W cy) := by simp
  go_wp2_with fail
  refine (m1.out _ _ _ p.out).mono ?_
  rintro e w7 ⟨⟨ac, cc, rfl, ho⟩, hb⟩
  have c := Lib.hid ho.row
  have szw7 : w6.heap.size + 1 ≤ w7.heap.size := by have := hb.size; simpa using this
  replace p0 := kept hb (block_lt p0) p0
  replace p1 := kept hb (block_lt p1) p1
  replace q0 := kept hb (block_lt q0) q0
  replace q1 := kept hb (block_lt q1) q1
  replace x0 := kept hb (block_lt x0) x0
  replace x1 := kept hb (block_lt x1) x1
  replace y0 := kept hb (block_lt y0) y0
  replace y1 := kept hb (block_lt y1) y1
  replace p := Lib.hid (p.out.bel hb)
  replace q := Lib.hid (q.out.bel hb)
  replace x := Lib.hid (x.out.bel hb)
  replace y := Lib.hid (y.out.bel hb)
  replace bb := Lib.hid (bb.out.trans (hb.mono bb.out.size))
  clear hb
  clear ho
  have hbx : Below w7.heap.size w7 (w7.alloc (.cells #[.int .i64 W, .slice ac n cc] 25)) := (Below.refl _ _).alloc (Nat.le_refl _) _
  replace p0 := kept hbx (block_lt p0) p0
  replace p1 := kept hbx (block_lt p1) p1
  replace q0 := kept hbx (block_lt q0) q0
  replace q1 := kept hbx (block_lt q1) q1
  replace x0 := kept hbx (block_lt x0) x0
  replace x1 := kept hbx (block_lt x1) x1
  replace y0 := kept hbx (block_lt y0) y0
  replace y1 := kept hbx (block_lt y1) y1
  replace p := Lib.hid (p.out.bel hbx)
  replace q := Lib.hid (q.out.bel hbx)
  replace x := Lib.hid (x.out.bel hbx)
  replace y := Lib.hid (y.out.bel hbx)
  replace c := Lib.hid (c.out.bel hbx)
  replace bb := Lib.hid (bb.out.trans (hbx.mono bb.out.size))
  clear hbx
  have c0 : (w7.alloc (.cells #[.int .i64 W, .slice ac n cc] 25)).cell? ⟨w7.heap.size, 0, none⟩ = some (.int .i64 W) := by simp
  have c1 : (w7.alloc (.cells #[.int .i64 W, .slice ac n cc] 25)).cell? ⟨w7.heap.size, 1, none⟩ = some (.slice ac n cc) := by simp
  go_wp2_with fail
  refine (m2.out _ _ _ q.out).mono ?_
  rintro e w8 ⟨⟨ad, cd, rfl, ho⟩, hb⟩
  have d := Lib.hid ho.row
  have szw8 : w7.heap.size + 1 ≤ w8.heap.size := by have := hb.size; simpa using this
  replace p0 := kept hb (block_lt p0) p0
  replace p1 := kept hb (block_lt p1) p1
  replace q0 := kept hb (block_lt q0) q0
  replace q1 := kept hb (block_lt q1) q1
  replace x0 := kept hb (block_lt x0) x0
  replace x1 := kept hb (block_lt x1) x1
  replace y0 := kept hb (block_lt y0) y0
  replace y1 := kept hb (block_lt y1) y1
  replace c0 := kept hb (block_lt c0) c0
  replace c1 := kept hb (block_lt c1) c1
  replace p := Lib.hid (p.out.bel hb)
  replace q := Lib.hid (q.out.bel hb)
  replace x := Lib.hid (x.out.bel hb)
  replace y := Lib.hid (y.out.bel hb)
  replace c := Lib.hid (c.out.bel hb)
  replace bb := Lib.hid (bb.out.trans (hb.mono bb.out.size))
  clear hb
  clear ho
  have hbx : Below w8.heap.size w8 (w8.alloc (.cells #[.int .i64 W, .slice ad n cd] 25)) := (Below.refl _ _).alloc (Nat.le_refl _) _
  replace p0 := kept hbx (block_lt p0) p0
  replace p1 := kept hbx (block_lt p1) p1
  replace q0 := kept hbx (block_lt q0) q0
  replace q1 := kept hbx (block_lt q1) q1
  replace x0 := kept hbx (block_lt x0) x0
  replace x1 := kept hbx (block_lt x1) x1
  replace y0 := kept hbx (block_lt y0) y0
  replace y1 := kept hbx (block_lt y1) y1
  replace c0 := kept hbx (block_lt c0) c0
  replace c1 := kept hbx (block_lt c1) c1
  replace p := Lib.hid (p.out.bel hbx)
  replace q := Lib.hid (q.out.bel hbx)
  replace x := Lib.hid (x.out.bel hbx)
  replace y := Lib.hid (y.out.bel hbx)
  replace c := Lib.hid (c.out.bel hbx)
  replace d := Lib.hid (d.out.bel hbx)
  replace bb := Lib.hid (bb.out.trans (hbx.mono bb.out.size))
  clear hbx
  have d0 : (w8.alloc (.cells #[.int .i64 W, .slice ad n cd] 25)).cell? ⟨w8.heap.size, 0, none⟩ = some (.int .i64 W) := by simp
  have d1 : (w8.alloc (.cells #[.int .i64 W, .slice ad n cd] 25)).cell? ⟨w8.heap.size, 1, none⟩ = some (.slice ad n cd) := by simp
  go_wp2_with fail
  refine (v1.out _ _ _ p.out).mono ?_
  rintro e w9 ⟨⟨ae, ce, rfl, ho⟩, hb⟩
  have e := Lib.hid ho.row
  have szw9 : w8.heap.size + 1 ≤ w9.heap.size := by have := hb.size; simpa using this
  replace p0 := kept hb (block_lt p0) p0
  replace p1 := kept hb (block_lt p1) p1
  replace q0 := kept hb (block_lt q0) q0
  replace q1 := kept hb (block_lt q1) q1
  replace x0 := kept hb (block_lt x0) x0
  replace x1 := kept hb (block_lt x1) x1
  replace y0 := kept hb (block_lt y0) y0
  replace y1 := kept hb (block_lt y1) y1
  replace c0 := kept hb (block_lt c0) c0
  replace c1 := kept hb (block_lt c1) c1
  replace d0 := kept hb (block_lt d0) d0
  replace d1 := kept hb (block_lt d1) d1
  replace p := Lib.hid (p.out.bel hb)
  replace q := Lib.hid (q.out.bel hb)
  replace x := Lib.hid (x.out.bel hb)
  replace y := Lib.hid (y.out.bel hb)
  replace c := Lib.hid (c.out.bel hb)
  replace d := Lib.hid (d.out.bel hb)
  replace bb := Lib.hid (bb.out.trans (hb.mono bb.out.size))
  clear hb
  clear ho
  have hbx : Below w9.heap.size w9 (w9.alloc (.cells #[.int .i64 W, .slice ae n ce] 25)) := (Below.refl _ _).alloc (Nat.le_refl _) _
  replace p0 := kept hbx (block_lt p0) p0
  replace p1 := kept hbx (block_lt p1) p1
  replace q0 := kept hbx (block_lt q0) q0
  replace q1 := kept hbx (block_lt q1) q1
  replace x0 := kept hbx (block_lt x0) x0
  replace x1 := kept hbx (block_lt x1) x1
  replace y0 := kept hbx (block_lt y0) y0
  replace y1 := kept hbx (block_lt y1) y1
  replace c0 := kept hbx (block_lt c0) c0
  replace c1 := kept hbx (block_lt c1) c1
  replace d0 := kept hbx (block_lt d0) d0
  replace d1 := kept hbx (block_lt d1) d1
  replace p := Lib.hid (p.out.bel hbx)
  replace q := Lib.hid (q.out.bel hbx)
  replace x := Lib.hid (x.out.bel hbx)
  replace y := Lib.hid (y.out.bel hbx)
  replace c := Lib.hid (c.out.bel hbx)
  replace d := Lib.hid (d.out.bel hbx)
  replace e := Lib.hid (e.out.bel hbx)
  replace bb := Lib.hid (bb.out.trans (hbx.mono bb.out.size))
  clear hbx
  have e0 : (w9.alloc (.cells #[.int .i64 W, .slice ae n ce] 25)).cell? ⟨w9.heap.size, 0, none⟩ = some (.int .i64 W) := by simp
  have e1 : (w9.alloc (.cells #[.int .i64 W, .slice ae n ce] 25)).cell? ⟨w9.heap.size, 1, none⟩ = some (.slice ae n ce) := by simp
  go_wp2_with fail
  refine (v2.out _ _ _ q.out).mono ?_
  rintro e w10 ⟨⟨af, cf, rfl, ho⟩, hb⟩
  have f := Lib.hid ho.row
  have szw10 : w9.heap.size + 1 ≤ w10.heap.size := by have := hb.size; simpa using this
  replace p0 := kept hb (block_lt p0) p0
  replace p1 := kept hb (block_lt p1) p1
  replace q0 := kept hb (block_lt q0) q0
  replace q1 := kept hb (block_lt q1) q1
  replace x0 := kept hb (block_lt x0) x0
  replace x1 := kept hb (block_lt x1) x1
  replace y0 := kept hb (block_lt y0) y0
  replace y1 := kept hb (block_lt y1) y1
  replace c0 := kept hb (block_lt c0) c0
  replace c1 := kept hb (block_lt c1) c1
  replace d0 := kept hb (block_lt d0) d0
  replace d1 := kept hb (block_lt d1) d1
  replace e0 := kept hb (block_lt e0) e0
  replace e1 := kept hb (block_lt e1) e1
  replace p := Lib.hid (p.out.bel hb)
  replace q := Lib.hid (q.out.bel hb)
  replace x := Lib.hid (x.out.bel hb)
  replace y := Lib.hid (y.out.bel hb)
  replace c := Lib.hid (c.out.bel hb)
  replace d := Lib.hid (d.out.bel hb)
  replace e := Lib.hid (e.out.bel hb)
  replace bb := Lib.hid (bb.out.trans (hb.mono bb.out.size))
  clear hb
  clear ho
  have hbx : Below w10.heap.size w10 (w10.alloc (.cells #[.int .i64 W, .slice af n cf] 25)) := (Below.refl _ _).alloc (Nat.le_refl _) _
  replace p0 := kept hbx (block_lt p0) p0
  replace p1 := kept hbx (block_lt p1) p1
  replace q0 := kept hbx (block_lt q0) q0
  replace q1 := kept hbx (block_lt q1) q1
  replace x0 := kept hbx (block_lt x0) x0
  replace x1 := kept hbx (block_lt x1) x1
  replace y0 := kept hbx (block_lt y0) y0
  replace y1 := kept hbx (block_lt y1) y1
  replace c0 := kept hbx (block_lt c0) c0
  replace c1 := kept hbx (block_lt c1) c1
  replace d0 := kept hbx (block_lt d0) d0
  replace d1 := kept hbx (block_lt d1) d1
  replace e0 := kept hbx (block_lt e0) e0
  replace e1 := kept hbx (block_lt e1) e1
  replace p := Lib.hid (p.out.bel hbx)
  replace q := Lib.hid (q.out.bel hbx)
  replace x := Lib.hid (x.out.bel hbx)
  replace y := Lib.hid (y.out.bel hbx)
  replace c := Lib.hid (c.out.bel hbx)
  replace d := Lib.hid (d.out.bel hbx)
  replace e := Lib.hid (e.out.bel hbx)
  replace f := Lib.hid (f.out.bel hbx)
  replace bb := Lib.hid (bb.out.trans (hbx.mono bb.out.size))
  clear hbx
  have f0 : (w10.alloc (.cells #[.int .i64 W, .slice af n cf] 25)).cell? ⟨w10.heap.size, 0, none⟩ = some (.int .i64 W) := by simp
  have f1 : (w10.alloc (.cells #[.int .i64 W, .slice af n cf] 25)).cell? ⟨w10.heap.size, 1, none⟩ = some (.slice af n cf) := by simp
  go_wp2_with fail
  refine (same_impl _ _ _ _ _ _ _ _ _ _ _ q.out p.out (by omega) (by omega)).mono ?_
  rintro e w11 ⟨rfl, hb⟩
  have szw11 : w10.heap.size + 1 ≤ w11.heap.size := by have := hb.size; simpa using this
  replace p0 := kept hb (block_lt p0) p0
  replace p1 := kept hb (block_lt p1) p1
  replace q0 := kept hb (block_lt q0) q0
  replace q1 := kept hb (block_lt q1) q1
  replace x0 := kept hb (block_lt x0) x0
  replace x1 := kept hb (block_lt x1) x1
  replace y0 := kept hb (block_lt y0) y0
  replace y1 := kept hb (block_lt y1) y1
  replace c0 := kept hb (block_lt c0) c0
  replace c1 := kept hb (block_lt c1) c1
  replace d0 := kept hb (block_lt d0) d0
  replace d1 := kept hb (block_lt d1) d1
  replace e0 := kept hb (block_lt e0) e0
  replace e1 := kept hb (block_lt e1) e1
  replace f0 := kept hb (block_lt f0) f0
  replace f1 := kept hb (block_lt f1) f1
  replace p := Lib.hid (p.out.bel hb)
  replace q := Lib.hid (q.out.bel hb)
  replace x := Lib.hid (x.out.bel hb)
  replace y := Lib.hid (y.out.bel hb)
  replace c := Lib.hid (c.out.bel hb)
  replace d := Lib.hid (d.out.bel hb)
  replace e := Lib.hid (e.out.bel hb)
  replace f := Lib.hid (f.out.bel hb)
  replace bb := Lib.hid (bb.out.trans (hb.mono bb.out.size))
  clear hb
  rw [g0.out]
  go_wp2_with fail
  refine (same_impl _ _ _ _ _ _ _ _ _ _ _ x.out y.out (by omega) (by omega)).mono ?_
  rintro e w12 ⟨rfl, hb⟩
  have szw12 := hb.size
  replace p0 := kept hb (block_lt p0) p0
  replace p1 := kept hb (block_lt p1) p1
  replace q0 := kept hb (block_lt q0) q0
  replace q1 := kept hb (block_lt q1) q1
  replace x0 := kept hb (block_lt x0) x0
  replace x1 := kept hb (block_lt x1) x1
  replace y0 := kept hb (block_lt y0) y0
  replace y1 := kept hb (block_lt y1) y1
  replace c0 := kept hb (block_lt c0) c0
  replace c1 := kept hb (block_lt c1) c1
  replace d0 := kept hb (block_lt d0) d0
  replace d1 := kept hb (block_lt d1) d1
  replace e0 := kept hb (block_lt e0) e0
  replace e1 := kept hb (block_lt e1) e1
  replace f0 := kept hb (block_lt f0) f0
  replace f1 := kept hb (block_lt f1) f1
  replace p := Lib.hid (p.out.bel hb)
  replace q := Lib.hid (q.out.bel hb)
  replace x := Lib.hid (x.out.bel hb)
  replace y := Lib.hid (y.out.bel hb)
  replace c := Lib.hid (c.out.bel hb)
  replace d := Lib.hid (d.out.bel hb)
  replace e := Lib.hid (e.out.bel hb)
  replace f := Lib.hid (f.out.bel hb)
  replace bb := Lib.hid (bb.out.trans (hb.mono bb.out.size))
  clear hb
  rw [g1.out]
  go_wp2_with fail
  refine (same_impl _ _ _ _ _ _ _ _ _ _ _ c.out d.out (by omega) (by omega)).mono ?_
  rintro e w13 ⟨rfl, hb⟩
  have szw13 := hb.size
  replace p0 := kept hb (block_lt p0) p0
  replace p1 := kept hb (block_lt p1) p1
  replace q0 := kept hb (block_lt q0) q0
  replace q1 := kept hb (block_lt q1) q1
  replace x0 := kept hb (block_lt x0) x0
  replace x1 := kept hb (block_lt x1) x1
  replace y0 := kept hb (block_lt y0) y0
  replace y1 := kept hb (block_lt y1) y1
  replace c0 := kept hb (block_lt c0) c0
  replace c1 := kept hb (block_lt c1) c1
  replace d0 := kept hb (block_lt d0) d0
  replace d1 := kept hb (block_lt d1) d1
  replace e0 := kept hb (block_lt e0) e0
  replace e1 := kept hb (block_lt e1) e1
  replace f0 := kept hb (block_lt f0) f0
  replace f1 := kept hb (block_lt f1) f1
  replace p := Lib.hid (p.out.bel hb)
  replace q := Lib.hid (q.out.bel hb)
  replace x := Lib.hid (x.out.bel hb)
  replace y := Lib.hid (y.out.bel hb)
  replace c := Lib.hid (c.out.bel hb)
  replace d := Lib.hid (d.out.bel hb)
  replace e := Lib.hid (e.out.bel hb)
  replace f := Lib.hid (f.out.bel hb)
  replace bb := Lib.hid (bb.out.trans (hb.mono bb.out.size))
  clear hb
  rw [g2.out]
  go_wp2_with fail
  refine (same_impl _ _ _ _ _ _ _ _ _ _ _ e.out f.out (by omega) (by omega)).mono ?_
  rintro e w14 ⟨rfl, hb⟩
  have szw14 := hb.size
  replace p0 := kept hb (block_lt p0) p0
  replace p1 := kept hb (block_lt p1) p1
  replace q0 := kept hb (block_lt q0) q0
  replace q1 := kept hb (block_lt q1) q1
  replace x0 := kept hb (block_lt x0) x0
  replace x1 := kept hb (block_lt x1) x1
  replace y0 := kept hb (block_lt y0) y0
  replace y1 := kept hb (block_lt y1) y1
  replace c0 := kept hb (block_lt c0) c0
  replace c1 := kept hb (block_lt c1) c1
  replace d0 := kept hb (block_lt d0) d0
  replace d1 := kept hb (block_lt d1) d1
  replace e0 := kept hb (block_lt e0) e0
  replace e1 := kept hb (block_lt e1) e1
  replace f0 := kept hb (block_lt f0) f0
  replace f1 := kept hb (block_lt f1) f1
  replace p := Lib.hid (p.out.bel hb)
  replace q := Lib.hid (q.out.bel hb)
  replace x := Lib.hid (x.out.bel hb)
  replace y := Lib.hid (y.out.bel hb)
  replace c := Lib.hid (c.out.bel hb)
  replace d := Lib.hid (d.out.bel hb)
  replace e := Lib.hid (e.out.bel hb)
  replace f := Lib.hid (f.out.bel hb)
  replace bb := Lib.hid (bb.out.trans (hb.mono bb.out.size))
  clear hb
  rw [g3.out]
  go_wp2_with fail
  refine (same_impl _ _ _ _ _ _ _ _ _ _ _ p.out p.out (by omega) (by omega)).mono ?_
  rintro e w15 ⟨rfl, hb⟩
  have szw15 := hb.size
  replace p0 := kept hb (block_lt p0) p0
  replace p1 := kept hb (block_lt p1) p1
  replace q0 := kept hb (block_lt q0) q0
  replace q1 := kept hb (block_lt q1) q1
  replace x0 := kept hb (block_lt x0) x0
  replace x1 := kept hb (block_lt x1) x1
  replace y0 := kept hb (block_lt y0) y0
  replace y1 := kept hb (block_lt y1) y1
  replace c0 := kept hb (block_lt c0) c0
  replace c1 := kept hb (block_lt c1) c1
  replace d0 := kept hb (block_lt d0) d0
  replace d1 := kept hb (block_lt d1) d1
  replace e0 := kept hb (block_lt e0) e0
  replace e1 := kept hb (block_lt e1) e1
  replace f0 := kept hb (block_lt f0) f0
  replace f1 := kept hb (block_lt f1) f1
  replace p := Lib.hid (p.out.bel hb)
  replace q := Lib.hid (q.out.bel hb)
  replace x := Lib.hid (x.out.bel hb)
  replace y := Lib.hid (y.out.bel hb)
  replace c := Lib.hid (c.out.bel hb)
  replace d := Lib.hid (d.out.bel hb)
  replace e := Lib.hid (e.out.bel hb)
  replace f := Lib.hid (f.out.bel hb)
  replace bb := Lib.hid (bb.out.trans (hb.mono bb.out.size))
  clear hb
  rw [g4.out]
  go_wp2_with fail
  go_ret
  exact ⟨rfl, bb.out⟩

set_option maxRecDepth 100000 in
theorem lifted (os : Os) (started : os.Started) (H : Type) (enc : TypeId × Value → H) :
    ReturnsInHanded {} Try.checked os 15 .any (Rows.fnSumsSameSpec.pre6 enc Try.prog Try.f15 Rows.fnSumsSameRow.domain false) (Rows.fnSumsSameSpec.post enc Try.prog Try.f15 false true false false) := by
  refine returnsInHanded_of_change (C := Try.checked) own started (by kernel_rfl) Try.func15
    (ChangeSpec.witness6 (enc := enc) (C := Try.checked) false ⟨#[], #[.slice none 0 0], []⟩ 8 (by kernel_rfl) (by kernel_rfl) (by kernel_rfl) (by kernel_rfl)) ?_
  intro W base args ds gs before hval0 hW hcnd _
  have hval : ∀ (j : Nat) t v, Try.f15.params[j]? = some t → args[j]? = some v → Value.okWide Try.prog W .any base t v := hval0
  have hW' := hW
  obtain ⟨p, q, hA0, hV, rfl, hfz, hnd⟩ := hW
  have hA : DataW.TrodAll enc Try.prog W 0 (fun _ => true) true Try.f15.params.toList args.toList ds p := hA0
  rw [Try.params15] at hA hval
  obtain ⟨v0, vs0, d0, ds0, p0, q0, hargs, rfl, rfl, h0, r0⟩ := trodAll_cons hA
  obtain ⟨rfl, rfl, rfl⟩ := trodAll_nil r0
  obtain rfl : args = #[v0] := by cases args; simp_all
  obtain ⟨rfl, rfl⟩ := trodVars_none hV
  have k0 := h0
  have lt0 : ∀ x ∈ p0, x.block < W.heap.size := by obtain ⟨m, hm⟩ := k0; exact DataW.trod_lt m _ _ _ hm
  obtain ⟨a0, len0, cap0, z0, rfl, w0, l0, m0⟩ := open_code (hval 0 22 v0 rfl rfl) h0
  clear hA0 hval0
  refine (walk a0 len0 cap0 z0 W w0 l0 m0).mono fun e W' ⟨he, bel⟩ => ?_
  subst he
  exact ⟨_, rfl, _, _, _, [], _, [], hW', trodAll_mk1 (shut_bool Try.underlying4 _), (trodAll_cons_mk (Below.trod laidOut (by kernel_rfl) (of_decide_eq_true (by kernel_rfl)) k0 bel lt0) trodAll_mk0), rfl, bel.frame _, fun h => by cases h⟩

theorem closed : joinedFacts Try.prog 15 Try.f15 Rows.fnSumsSameSpec Rows.fnSumsSameRow = true := by
  simp only [joinedFacts, Bool.and_eq_true]
  repeat' apply And.intro
  all_goals first | with_reducible exact mayEnterOk | (with_reducible rw [liftsFinalOk]; kernel_rfl) | (with_reducible rw [makeOk]; kernel_rfl) | kernel_rfl

theorem over : Rows.fnSumsSameRow.holds Try.pinned (OpenSpec.ofChange Rows.fnSumsSameSpec) :=
  OpenClaim.holds_of_wide 15 Try.f15 rfl rfl rfl rfl rfl rfl rfl ⟨rfl, rfl, rfl, rfl, rfl⟩ rfl rfl rfl rfl rfl (by kernel_rfl) Try.func15 closed
    (of_decide_eq_true (by kernel_rfl)) (by unfold Func.isWrapper; first | (rw [if_pos (by decide +kernel)]; kernel_rfl) | (rw [if_neg (by decide +kernel)]; exact ⟨rfl, rfl⟩))
    (fun os started H enc _ => lifted os started H enc)

theorem proved : Rows.FnSumsSameSaid := over
#print axioms proved
end Go.Proofs.Ytgifpanbjlkmeaa.LFSumsSame

