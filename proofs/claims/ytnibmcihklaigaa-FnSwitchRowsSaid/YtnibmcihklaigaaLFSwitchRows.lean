/-
  For every slice of bytes the law FnSwitchRows answers true: equal rows have no switch, and a switch keeps the sum of its rows' numbers; nothing that was there is written; no condition.
-/
import Derived.Test.YtnibmcihklaigaaO
import Derived.Test.YtnibmcihklaigaaK
import Derived.Deep.RegionLaw
import Derived.Test.YtnibmcihklaigaaKh
namespace Go.Proofs.Ytnibmcihklaigaa.LFSwitchRows
open Go.ChangeShapes Go.WideShapes Go.ChangeAt Go.RowKit Go.Joins

set_option maxHeartbeats 1000000 in
set_option maxRecDepth 100000 in
theorem walk (a : Option Addr) (len cap : Nat) (zs : List Int) (w : World) (h : Bys w a len zs) (hl : len ≤ cap) (hm : cap ≤ 9223372036854775807) :
    Calls Try.prog 16 #[.slice a len cap] w fun e w' => e = .returned (.bool true) ∧ Below w.heap.size w w' := by
  by_cases hbig : 1048576 < len
  · clear h
    go_enter Try.func16, Try.ntmps16
    go_wp2_with fail
    go_ret
    exact ⟨rfl, Below.refl _ _⟩
  go_enter Try.func16, Try.ntmps16
  go_wp2_with fail
  refine (draw_DrawSwitchDo a len cap zs _ h hl hm).mono ?_
  rintro e w1 ⟨W, s, n, cg, xs, A, B, C, D, rfl, hR, hn, hsm, _, hb1⟩
  clear h hl hm
  have bb := Lib.hid hb1
  have p := Lib.hid hR
  obtain ⟨w2, hw2⟩ : ∃ w2, w2 = (w1.alloc (.cells #[.int .i64 W, .slice s n cg] 25)).alloc (.cells #[.int .i64 A, .int .i64 B, .int .i64 C, .int .i64 D] 27) := ⟨_, rfl⟩
  have hb : Below w1.heap.size w1 w2 := by subst hw2; exact ((Below.refl _ _).alloc (Nat.le_refl _) _).alloc (by simp) _
  have p0 : w2.cell? ⟨w1.heap.size, 0, none⟩ = some (.int .i64 W) := by subst hw2; go_simp
  have p1 : w2.cell? ⟨w1.heap.size, 1, none⟩ = some (.slice s n cg) := by subst hw2; go_simp
  have s0 : w2.cell? ⟨w1.heap.size + 1, 0, none⟩ = some (.int .i64 A) := by subst hw2; go_simp
  have s1 : w2.cell? ⟨w1.heap.size + 1, 1, none⟩ = some (.int .i64 B) := by subst hw2; go_simp
  have s2 : w2.cell? ⟨w1.heap.size + 1, 2, none⟩ = some (.int .i64 C) := by subst hw2; go_simp
  have s3 : w2.cell? ⟨w1.heap.size + 1, 3, none⟩ = some (.int .i64 D) := by subst hw2; go_simp
  clear hR hb1
  have szw2 := hb.size
  replace p := Lib.hid (p.out.bel hb)
  replace bb := Lib.hid (bb.out.trans (hb.mono bb.out.size))
  clear hb
  go_wp2_with fail
  rw [← hw2]
  clear hw2
  obtain ⟨K, hK⟩ : ∃ K, okB W xs A B C D = K := ⟨_, rfl⟩
  by_cases hKt : K = true
  case neg =>
    have hKt : K = false := by simpa using hKt
    subst hKt
    replace hK := Lib.hid hK
    refine (do_no hK.out (by omega) _ _ _ p.out).mono ?_
    rintro e w3 ⟨⟨ao, co, rfl, ho⟩, hb⟩
    have o := Lib.hid ho.row
    have szw3 := hb.size
    replace p0 := kept hb (block_lt p0) p0
    replace p1 := kept hb (block_lt p1) p1
    replace s0 := kept hb (block_lt s0) s0
    replace s1 := kept hb (block_lt s1) s1
    replace s2 := kept hb (block_lt s2) s2
    replace s3 := kept hb (block_lt s3) s3
    replace p := Lib.hid (p.out.bel hb)
    replace bb := Lib.hid (bb.out.trans (hb.mono bb.out.size))
    clear hb
    clear ho
    have hbx : Below w3.heap.size w3 (w3.alloc (.cells #[.int .i64 0, .slice ao 0 co] 25)) := (Below.refl _ _).alloc (Nat.le_refl _) _
    replace p0 := kept hbx (block_lt p0) p0
    replace p1 := kept hbx (block_lt p1) p1
    replace s0 := kept hbx (block_lt s0) s0
    replace s1 := kept hbx (block_lt s1) s1
    replace s2 := kept hbx (block_lt s2) s2
    replace s3 := kept hbx (block_lt s3) s3
    replace p := Lib.hid (p.out.bel hbx)
    replace o := Lib.hid (o.out.bel hbx)
    replace bb := Lib.hid (bb.out.trans (hbx.mono bb.out.size))
    clear hbx
    have o0 : (w3.alloc (.cells #[.int .i64 0, .slice ao 0 co] 25)).cell? ⟨w3.heap.size, 0, none⟩ = some (.int .i64 0) := by simp
    have o1 : (w3.alloc (.cells #[.int .i64 0, .slice ao 0 co] 25)).cell? ⟨w3.heap.size, 1, none⟩ = some (.slice ao 0 co) := by simp
    go_wp2_with fail
    refine (dos_no hK.out (by omega) _ _ _ p.out).mono ?_
    rintro e w4 ⟨⟨aow, cow, rfl, ho⟩, hb⟩
    have ow := Lib.hid ho.row
    have szw4 : w3.heap.size + 1 ≤ w4.heap.size := by have := hb.size; simpa using this
    replace p0 := kept hb (block_lt p0) p0
    replace p1 := kept hb (block_lt p1) p1
    replace s0 := kept hb (block_lt s0) s0
    replace s1 := kept hb (block_lt s1) s1
    replace s2 := kept hb (block_lt s2) s2
    replace s3 := kept hb (block_lt s3) s3
    replace o0 := kept hb (block_lt o0) o0
    replace o1 := kept hb (block_lt o1) o1
    replace p := Lib.hid (p.out.bel hb)
    replace o := Lib.hid (o.out.bel hb)
    replace bb := Lib.hid (bb.out.trans (hb.mono bb.out.size))
    clear hb
    clear ho
    have hbx : Below w4.heap.size w4 (w4.alloc (.cells #[.int .i64 0, .slice aow 0 cow] 25)) := (Below.refl _ _).alloc (Nat.le_refl _) _
    replace p0 := kept hbx (block_lt p0) p0
    replace p1 := kept hbx (block_lt p1) p1
    replace s0 := kept hbx (block_lt s0) s0
    replace s1 := kept hbx (block_lt s1) s1
    replace s2 := kept hbx (block_lt s2) s2
    replace s3 := kept hbx (block_lt s3) s3
    replace o0 := kept hbx (block_lt o0) o0
    replace o1 := kept hbx (block_lt o1) o1
    replace p := Lib.hid (p.out.bel hbx)
    replace o := Lib.hid (o.out.bel hbx)
    replace ow := Lib.hid (ow.out.bel hbx)
    replace bb := Lib.hid (bb.out.trans (hbx.mono bb.out.size))
    clear hbx
    have ow0 : (w4.alloc (.cells #[.int .i64 0, .slice aow 0 cow] 25)).cell? ⟨w4.heap.size, 0, none⟩ = some (.int .i64 0) := by simp
    have ow1 : (w4.alloc (.cells #[.int .i64 0, .slice aow 0 cow] 25)).cell? ⟨w4.heap.size, 1, none⟩ = some (.slice aow 0 cow) := by simp
    go_wp2_with fail
    refine (sameImage_yes _ _ _ _ _ _ [] _ o.out ow.out (by omega)).mono ?_
    rintro e w5 ⟨rfl, hb⟩
    have szw5 : w4.heap.size + 1 ≤ w5.heap.size := by have := hb.size; simpa using this
    replace p0 := kept hb (block_lt p0) p0
    replace p1 := kept hb (block_lt p1) p1
    replace s0 := kept hb (block_lt s0) s0
    replace s1 := kept hb (block_lt s1) s1
    replace s2 := kept hb (block_lt s2) s2
    replace s3 := kept hb (block_lt s3) s3
    replace o0 := kept hb (block_lt o0) o0
    replace o1 := kept hb (block_lt o1) o1
    replace ow0 := kept hb (block_lt ow0) ow0
    replace ow1 := kept hb (block_lt ow1) ow1
    replace p := Lib.hid (p.out.bel hb)
    replace o := Lib.hid (o.out.bel hb)
    replace ow := Lib.hid (ow.out.bel hb)
    replace bb := Lib.hid (bb.out.trans (hb.mono bb.out.size))
    clear hb
    go_wp2_with fail
    refine (sameImage_yes _ _ _ _ _ _ [] _ o.out ow.out (by omega)).mono ?_
    rintro e w6 ⟨rfl, hb⟩
    have szw6 := hb.size
    replace p0 := kept hb (block_lt p0) p0
    replace p1 := kept hb (block_lt p1) p1
    replace s0 := kept hb (block_lt s0) s0
    replace s1 := kept hb (block_lt s1) s1
    replace s2 := kept hb (block_lt s2) s2
    replace s3 := kept hb (block_lt s3) s3
    replace o0 := kept hb (block_lt o0) o0
    replace o1 := kept hb (block_lt o1) o1
    replace ow0 := kept hb (block_lt ow0) ow0
    replace ow1 := kept hb (block_lt ow1) ow1
    replace p := Lib.hid (p.out.bel hb)
    replace o := Lib.hid (o.out.bel hb)
    replace ow := Lib.hid (ow.out.bel hb)
    replace bb := Lib.hid (bb.out.trans (hb.mono bb.out.size))
    clear hb
    go_wp2_with fail
    go_ret
    exact ⟨rfl, bb.out⟩
  subst hKt
  have hv := okB_valid hK
  have hI0 := validB_W hv
  obtain ⟨W, rfl⟩ := Int.eq_ofNat_of_zero_le (by omega : 0 ≤ W)
  have hI : Im W n xs := Im.of hv p.out.1
  obtain ⟨A, B, C, D, rfl, rfl, rfl, rfl, hAB, hBn, hCD, hDW, hsw⟩ := okB_im hI hK
  have hW6 := hI.w6
  have hW1 := hI.w1
  have hn1 := hI.l1
  have hn6 := hI.l6
  clear hv hI0 hsm
  obtain ⟨L, hL⟩ : ∃ L, flL xs W n A B C D = L := ⟨_, rfl⟩
  have hJ : Im W n L := hL ▸ fl_im hI A B C D
  have hK2 : okB W L A B C D = true := hL ▸ ok_done hI hAB hBn hCD hDW hsw
  replace hK := Lib.hid hK
  replace hK2 := Lib.hid hK2
  replace hL := Lib.hid hL
  replace hI := Lib.hid hI
  replace hJ := Lib.hid hJ
  replace hsw := Lib.hid hsw
  refine (do_ok hI.out hK.out hL.out _ _ _ p.out).mono ?_
  rintro e w7 ⟨⟨ao, co, rfl, ho⟩, hb⟩
  have o := Lib.hid ho.row
  have szw7 := hb.size
  replace p0 := kept hb (block_lt p0) p0
  replace p1 := kept hb (block_lt p1) p1
  replace s0 := kept hb (block_lt s0) s0
  replace s1 := kept hb (block_lt s1) s1
  replace s2 := kept hb (block_lt s2) s2
  replace s3 := kept hb (block_lt s3) s3
  replace p := Lib.hid (p.out.bel hb)
  replace bb := Lib.hid (bb.out.trans (hb.mono bb.out.size))
  clear hb
  clear ho
  have hbx : Below w7.heap.size w7 (w7.alloc (.cells #[.int .i64 W, .slice ao n co] 25)) := (Below.refl _ _).alloc (Nat.le_refl _) _
  replace p0 := kept hbx (block_lt p0) p0
  replace p1 := kept hbx (block_lt p1) p1
  replace s0 := kept hbx (block_lt s0) s0
  replace s1 := kept hbx (block_lt s1) s1
  replace s2 := kept hbx (block_lt s2) s2
  replace s3 := kept hbx (block_lt s3) s3
  replace p := Lib.hid (p.out.bel hbx)
  replace o := Lib.hid (o.out.bel hbx)
  replace bb := Lib.hid (bb.out.trans (hbx.mono bb.out.size))
  clear hbx
  have o0 : (w7.alloc (.cells #[.int .i64 W, .slice ao n co] 25)).cell? ⟨w7.heap.size, 0, none⟩ = some (.int .i64 W) := by simp
  have o1 : (w7.alloc (.cells #[.int .i64 W, .slice ao n co] 25)).cell? ⟨w7.heap.size, 1, none⟩ = some (.slice ao n co) := by simp
  go_wp2_with fail
  refine (dos_ok hI.out hK.out hL.out _ _ _ p.out).mono ?_
  rintro e w8 ⟨⟨aow, cow, rfl, ho⟩, hb⟩
  have ow := Lib.hid ho.row
  have szw8 : w7.heap.size + 1 ≤ w8.heap.size := by have := hb.size; simpa using this
  replace p0 := kept hb (block_lt p0) p0
  replace p1 := kept hb (block_lt p1) p1
  replace s0 := kept hb (block_lt s0) s0
  replace s1 := kept hb (block_lt s1) s1
  replace s2 := kept hb (block_lt s2) s2
  replace s3 := kept hb (block_lt s3) s3
  replace o0 := kept hb (block_lt o0) o0
  replace o1 := kept hb (block_lt o1) o1
  replace p := Lib.hid (p.out.bel hb)
  replace o := Lib.hid (o.out.bel hb)
  replace bb := Lib.hid (bb.out.trans (hb.mono bb.out.size))
  clear hb
  clear ho
  have hbx : Below w8.heap.size w8 (w8.alloc (.cells #[.int .i64 W, .slice aow n cow] 25)) := (Below.refl _ _).alloc (Nat.le_refl _) _
  replace p0 := kept hbx (block_lt p0) p0
  replace p1 := kept hbx (block_lt p1) p1
  replace s0 := kept hbx (block_lt s0) s0
  replace s1 := kept hbx (block_lt s1) s1
  replace s2 := kept hbx (block_lt s2) s2
  replace s3 := kept hbx (block_lt s3) s3
  replace o0 := kept hbx (block_lt o0) o0
  replace o1 := kept hbx (block_lt o1) o1
  replace p := Lib.hid (p.out.bel hbx)
  replace o := Lib.hid (o.out.bel hbx)
  replace ow := Lib.hid (ow.out.bel hbx)
  replace bb := Lib.hid (bb.out.trans (hbx.mono bb.out.size))
  clear hbx
  have ow0 : (w8.alloc (.cells #[.int .i64 W, .slice aow n cow] 25)).cell? ⟨w8.heap.size, 0, none⟩ = some (.int .i64 W) := by simp
  have ow1 : (w8.alloc (.cells #[.int .i64 W, .slice aow n cow] 25)).cell? ⟨w8.heap.size, 1, none⟩ = some (.slice aow n cow) := by simp
  go_wp2_with fail
  refine (sameImage_yes _ _ _ _ _ _ L _ o.out ow.out (by omega)).mono ?_
  rintro e w9 ⟨rfl, hb⟩
  have szw9 : w8.heap.size + 1 ≤ w9.heap.size := by have := hb.size; simpa using this
  replace p0 := kept hb (block_lt p0) p0
  replace p1 := kept hb (block_lt p1) p1
  replace s0 := kept hb (block_lt s0) s0
  replace s1 := kept hb (block_lt s1) s1
  replace s2 := kept hb (block_lt s2) s2
  replace s3 := kept hb (block_lt s3) s3
  replace o0 := kept hb (block_lt o0) o0
  replace o1 := kept hb (block_lt o1) o1
  replace ow0 := kept hb (block_lt ow0) ow0
  replace ow1 := kept hb (block_lt ow1) ow1
  replace p := Lib.hid (p.out.bel hb)
  replace o := Lib.hid (o.out.bel hb)
  replace ow := Lib.hid (ow.out.bel hb)
  replace bb := Lib.hid (bb.out.trans (hb.mono bb.out.size))
  clear hb
  clear ow0 ow1 ow
  have hA : A < n := by omega
  have hC : C < W := by omega
  have f1 := fl_sum hI.out hA hBn hCD hDW hsw.out
  rw [hL.out] at f1
  have hT := hI.out.turn
  have hU := hJ.out.turn
  have eU : turnL L W n = flL (turnL xs W n) n W C D A B := by rw [← hL.out]; exact fl_turn hI.out A B C D
  have f2 := fl_sum hT hC hDW hAB hBn ((sw_turned hI.out hA hBn hC hDW).trans hsw.out)
  rw [← eU] at f2
  have xb := fun i hi => (hI.out.row i hi)
  have lb := fun i hi => (hJ.out.row i hi)
  have tb := fun i hi => (hT.row i hi)
  have ub := fun i hi => (hU.row i hi)
  have xA := xb A hA
  have xB := xb B hBn
  have lA := lb A hA
  have lB := lb B hBn
  have tC := tb C hC
  have tD := tb D hDW
  have uC := ub C hC
  have uD := ub D hDW
  have pW := pw_63 hW6
  have pn := pw_63 hn6
  clear xb lb tb ub eU
  obtain ⟨T, hTe⟩ : ∃ T, turnL xs W n = T := ⟨_, rfl⟩
  obtain ⟨U, hUe⟩ : ∃ U, turnL L W n = U := ⟨_, rfl⟩
  have ht := fun s cg w hR => turn_ok hI.out s cg w hR
  have hu := fun s cg w hR => turn_ok hJ.out s cg w hR
  rw [hTe] at ht f2 tC tD
  rw [hUe] at hu f2 uC uD
  replace ht := Lib.hid ht
  replace hu := Lib.hid hu
  clear hT hU hTe hUe
  obtain ⟨bp, op, rfl, xcA⟩ := row_at p.out hA
  obtain ⟨bp', op', e, xcB⟩ := row_at p.out hBn
  cases e
  generalize xs.getD A 0 = x1 at f1 xA xcA
  generalize xs.getD B 0 = x2 at f1 xB xcB
  have hx : (x1 == x2) = false := by simpa using f1.2
  have hx2 : (x1 != x2) = true := by simpa using f1.2
  replace f1 := Lib.hid f1
  replace f2 := Lib.hid f2
  go_wp2_with fail
  go_quiet (fail)
  have hdr : Below w9.heap.size w9 (w9.drewN nq) := below_drewN (Below.refl _ _) nq
  replace p0 := kept hdr (block_lt p0) p0
  replace p1 := kept hdr (block_lt p1) p1
  replace s0 := kept hdr (block_lt s0) s0
  replace s1 := kept hdr (block_lt s1) s1
  replace s2 := kept hdr (block_lt s2) s2
  replace s3 := kept hdr (block_lt s3) s3
  replace o0 := kept hdr (block_lt o0) o0
  replace o1 := kept hdr (block_lt o1) o1
  replace xcA := kept hdr (block_lt xcA) xcA
  replace xcB := kept hdr (block_lt xcB) xcB
  replace p := Lib.hid (p.out.bel hdr)
  replace o := Lib.hid (o.out.bel hdr)
  replace bb := Lib.hid (bb.out.trans (hdr.mono bb.out.size))
  clear hdr
  generalize hwq : w9.drewN nq = w10 at *
  clear hwq
  go_wp2_with fail
  refine (ht.out _ _ _ p.out).mono ?_
  rintro e w11 ⟨⟨au, cu, rfl, ho⟩, hb⟩
  have u := Lib.hid ho.row
  have szw11 := hb.size
  replace p0 := kept hb (block_lt p0) p0
  replace p1 := kept hb (block_lt p1) p1
  replace s0 := kept hb (block_lt s0) s0
  replace s1 := kept hb (block_lt s1) s1
  replace s2 := kept hb (block_lt s2) s2
  replace s3 := kept hb (block_lt s3) s3
  replace o0 := kept hb (block_lt o0) o0
  replace o1 := kept hb (block_lt o1) o1
  replace xcA := kept hb (block_lt xcA) xcA
  replace xcB := kept hb (block_lt xcB) xcB
  replace p := Lib.hid (p.out.bel hb)
  replace o := Lib.hid (o.out.bel hb)
  replace bb := Lib.hid (bb.out.trans (hb.mono bb.out.size))
  clear hb
  clear ho
  have hbx : Below w11.heap.size w11 (w11.alloc (.cells #[.int .i64 n, .slice au W cu] 25)) := (Below.refl _ _).alloc (Nat.le_refl _) _
  replace p0 := kept hbx (block_lt p0) p0
  replace p1 := kept hbx (block_lt p1) p1
  replace s0 := kept hbx (block_lt s0) s0
  replace s1 := kept hbx (block_lt s1) s1
  replace s2 := kept hbx (block_lt s2) s2
  replace s3 := kept hbx (block_lt s3) s3
  replace o0 := kept hbx (block_lt o0) o0
  replace o1 := kept hbx (block_lt o1) o1
  replace xcA := kept hbx (block_lt xcA) xcA
  replace xcB := kept hbx (block_lt xcB) xcB
  replace p := Lib.hid (p.out.bel hbx)
  replace o := Lib.hid (o.out.bel hbx)
  replace u := Lib.hid (u.out.bel hbx)
  replace bb := Lib.hid (bb.out.trans (hbx.mono bb.out.size))
  clear hbx
  have u0 : (w11.alloc (.cells #[.int .i64 n, .slice au W cu] 25)).cell? ⟨w11.heap.size, 0, none⟩ = some (.int .i64 n) := by simp
  have u1 : (w11.alloc (.cells #[.int .i64 n, .slice au W cu] 25)).cell? ⟨w11.heap.size, 1, none⟩ = some (.slice au W cu) := by simp
  go_wp2_with fail
  refine (hu.out _ _ _ o.out).mono ?_
  rintro e w12 ⟨⟨av, cv, rfl, ho⟩, hb⟩
  have v := Lib.hid ho.row
  have szw12 : w11.heap.size + 1 ≤ w12.heap.size := by have := hb.size; simpa using this
  replace p0 := kept hb (block_lt p0) p0
  replace p1 := kept hb (block_lt p1) p1
  replace s0 := kept hb (block_lt s0) s0
  replace s1 := kept hb (block_lt s1) s1
  replace s2 := kept hb (block_lt s2) s2
  replace s3 := kept hb (block_lt s3) s3
  replace o0 := kept hb (block_lt o0) o0
  replace o1 := kept hb (block_lt o1) o1
  replace xcA := kept hb (block_lt xcA) xcA
  replace xcB := kept hb (block_lt xcB) xcB
  replace u0 := kept hb (block_lt u0) u0
  replace u1 := kept hb (block_lt u1) u1
  replace p := Lib.hid (p.out.bel hb)
  replace o := Lib.hid (o.out.bel hb)
  replace u := Lib.hid (u.out.bel hb)
  replace bb := Lib.hid (bb.out.trans (hb.mono bb.out.size))
  clear hb
  clear ho
  have hbx : Below w12.heap.size w12 (w12.alloc (.cells #[.int .i64 n, .slice av W cv] 25)) := (Below.refl _ _).alloc (Nat.le_refl _) _
  replace p0 := kept hbx (block_lt p0) p0
  replace p1 := kept hbx (block_lt p1) p1
  replace s0 := kept hbx (block_lt s0) s0
  replace s1 := kept hbx (block_lt s1) s1
  replace s2 := kept hbx (block_lt s2) s2
  replace s3 := kept hbx (block_lt s3) s3
  replace o0 := kept hbx (block_lt o0) o0
  replace o1 := kept hbx (block_lt o1) o1
  replace xcA := kept hbx (block_lt xcA) xcA
  replace xcB := kept hbx (block_lt xcB) xcB
  replace u0 := kept hbx (block_lt u0) u0
  replace u1 := kept hbx (block_lt u1) u1
  replace p := Lib.hid (p.out.bel hbx)
  replace o := Lib.hid (o.out.bel hbx)
  replace u := Lib.hid (u.out.bel hbx)
  replace v := Lib.hid (v.out.bel hbx)
  replace bb := Lib.hid (bb.out.trans (hbx.mono bb.out.size))
  clear hbx
  have v0 : (w12.alloc (.cells #[.int .i64 n, .slice av W cv] 25)).cell? ⟨w12.heap.size, 0, none⟩ = some (.int .i64 n) := by simp
  have v1 : (w12.alloc (.cells #[.int .i64 n, .slice av W cv] 25)).cell? ⟨w12.heap.size, 1, none⟩ = some (.slice av W cv) := by simp
  obtain ⟨bu, ou, eu, ucC⟩ := row_at u.out hC
  subst eu
  obtain ⟨bu', ou', eu, ucD⟩ := row_at u.out hDW
  cases eu
  obtain ⟨bv, ov, ev, vcC⟩ := row_at v.out hC
  subst ev
  obtain ⟨bv', ov', ev, vcD⟩ := row_at v.out hDW
  cases ev
  obtain ⟨bo, oo, eo, ocA⟩ := row_at o.out hA
  subst eo
  obtain ⟨bo', oo', eo, ocB⟩ := row_at o.out hBn
  cases eo
  have g1 := f1.out
  have g2 := f2.out
  clear f1 f2
  generalize L.getD A 0 = l1 at g1 lA ocA
  generalize L.getD B 0 = l2 at g1 lB ocB
  generalize T.getD C 0 = t1 at g2 tC ucC
  generalize T.getD D 0 = t2 at g2 tD ucD
  generalize U.getD C 0 = u1 at g2 uC vcC
  generalize U.getD D 0 = u2 at g2 uD vcD
  have m1 : (t1 == t2) = false := by simpa using g2.2
  have m2 : (t1 != t2) = true := by simpa using g2.2
  have m3 : (l1 + l2 == x1 + x2) = true := by simpa using g1.1
  have m4 : (u1 + u2 == t1 + t2) = true := by simpa using g2.1
  have v1 : IntKind.i64.wrap (l1 + l2) = l1 + l2 := IntWalk.i64_in _ ⟨by omega, by omega⟩
  have v2 : IntKind.i64.wrap (x1 + x2) = x1 + x2 := IntWalk.i64_in _ ⟨by omega, by omega⟩
  have v3 : IntKind.i64.wrap (u1 + u2) = u1 + u2 := IntWalk.i64_in _ ⟨by omega, by omega⟩
  have v4 : IntKind.i64.wrap (t1 + t2) = t1 + t2 := IntWalk.i64_in _ ⟨by omega, by omega⟩
  clear g1 g2
  go_wp2_with fail
  go_quiet (fail)
  go_wp2_with fail
  go_ret
  exact ⟨rfl, below_drewN bb.out _⟩

set_option maxRecDepth 100000 in
theorem lifted (os : Os) (started : os.Started) (H : Type) (enc : TypeId × Value → H) :
    ReturnsInHanded {} Try.checked os 16 .any (Rows.fnSwitchRowsSpec.pre6 enc Try.prog Try.f16 Rows.fnSwitchRowsRow.domain false) (Rows.fnSwitchRowsSpec.post enc Try.prog Try.f16 false true false false) := by
  refine returnsInHanded_of_change (C := Try.checked) own started (by kernel_rfl) Try.func16
    (ChangeSpec.witness6 (enc := enc) (C := Try.checked) false ⟨#[], #[.slice none 0 0], []⟩ 8 (by kernel_rfl) (by kernel_rfl) (by kernel_rfl) (by kernel_rfl)) ?_
  intro W base args ds gs before hval0 hW hcnd _
  have hval : ∀ (j : Nat) t v, Try.f16.params[j]? = some t → args[j]? = some v → Value.okWide Try.prog W .any base t v := hval0
  have hW' := hW
  obtain ⟨p, q, hA0, hV, rfl, hfz, hnd⟩ := hW
  have hA : DataW.TrodAll enc Try.prog W 0 (fun _ => true) true Try.f16.params.toList args.toList ds p := hA0
  rw [Try.params16] at hA hval
  obtain ⟨v0, vs0, d0, ds0, p0, q0, hargs, rfl, rfl, h0, r0⟩ := trodAll_cons hA
  obtain ⟨rfl, rfl, rfl⟩ := trodAll_nil r0
  obtain rfl : args = #[v0] := by cases args; simp_all
  obtain ⟨rfl, rfl⟩ := trodVars_none hV
  have k0 := h0
  have lt0 : ∀ x ∈ p0, x.block < W.heap.size := by obtain ⟨m, hm⟩ := k0; exact DataW.trod_lt m _ _ _ hm
  obtain ⟨a0, len0, cap0, z0, rfl, w0, l0, m0⟩ := open_code (hval 0 22 v0 rfl rfl) h0
  clear hA0 hval0
  refine (walk a0 len0 cap0 z0 W w0 l0 m0).mono fun e W' ⟨he, bel⟩ => ?_
  subst he
  exact ⟨_, rfl, _, _, _, [], _, [], hW', trodAll_mk1 (shut_bool Try.underlying4 _), (trodAll_cons_mk (Below.trod laidOut (by kernel_rfl) (of_decide_eq_true (by kernel_rfl)) k0 bel lt0) trodAll_mk0), rfl, bel.frame _, fun h => by cases h⟩

theorem closed : joinedFacts Try.prog 16 Try.f16 Rows.fnSwitchRowsSpec Rows.fnSwitchRowsRow = true := by
  simp only [joinedFacts, Bool.and_eq_true]
  repeat' apply And.intro
  all_goals first | with_reducible exact mayEnterOk | (with_reducible rw [liftsFinalOk]; kernel_rfl) | (with_reducible rw [makeOk]; kernel_rfl) | kernel_rfl

theorem over : Rows.fnSwitchRowsRow.holds Try.pinned (OpenSpec.ofChange Rows.fnSwitchRowsSpec) :=
  OpenClaim.holds_of_wide 16 Try.f16 rfl rfl rfl rfl rfl rfl rfl ⟨rfl, rfl, rfl, rfl, rfl⟩ rfl rfl rfl rfl rfl (by kernel_rfl) Try.func16 closed
    (of_decide_eq_true (by kernel_rfl)) (by unfold Func.isWrapper; first | (rw [if_pos (by decide +kernel)]; kernel_rfl) | (rw [if_neg (by decide +kernel)]; exact ⟨rfl, rfl⟩))
    (fun os started H enc _ => lifted os started H enc)

theorem proved : Rows.FnSwitchRowsSaid := over
#print axioms proved
end Go.Proofs.Ytnibmcihklaigaa.LFSwitchRows

