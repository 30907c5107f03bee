/-
  For every slice of bytes the law FnSwitchDiagonal answers true: a switch is seen on the diagonals; nothing that was there is written; no condition.
-/
import Derived.Test.YtemmfnlnhekclaaO
import Derived.Test.YtemmfnlnhekclaaK
import Derived.Deep.RegionLaw
import Derived.Test.YtemmfnlnhekclaaZi
import Derived.Test.YtemmfnlnhekclaaZb
import Derived.Test.YtemmfnlnhekclaaEp
import Derived.Test.YtemmfnlnhekclaaKc
namespace Go.Proofs.Ytemmfnlnhekclaa.LFSwitchDiagonal
open Go.ChangeShapes Go.WideShapes Go.ChangeAt Go.RowKit Go.Joins

set_option maxHeartbeats 4000000 in
set_option maxRecDepth 100000 in
theorem walk (a : Option Addr) (len cap : Nat) (zs : List Int) (w : World) (h : Bys w a len zs) (hl : len ≤ cap) (hm : cap ≤ 9223372036854775807) :
    Calls Try.prog 14 #[.slice a len cap] w fun e w' => e = .returned (.bool true) ∧ Below w.heap.size w w' := by
  by_cases hbig : 1048576 < len
  · clear h
    go_enter Try.func14, Try.ntmps14
    go_wp2_with fail
    go_ret
    exact ⟨rfl, Below.refl _ _⟩
  go_enter Try.func14, Try.ntmps14
  go_wp2_with fail
  refine (draw_DrawSwitchDo a len cap zs _ h hl hm).mono ?_
  rintro e w1 ⟨W, s, n, cg, xs, A, B, C, D, rfl, hR, hn, hsm, _, hb1⟩
  clear h hl hm
  have bb := Lib.hid hb1
  have p := Lib.hid hR
  obtain ⟨w2, hw2⟩ : ∃ w2, w2 = (w1.alloc (.cells #[.int .i64 W, .slice s n cg] 35)).alloc (.cells #[.int .i64 A, .int .i64 B, .int .i64 C, .int .i64 D] 48) := ⟨_, rfl⟩
  have hb : Below w1.heap.size w1 w2 := by subst hw2; exact ((Below.refl _ _).alloc (Nat.le_refl _) _).alloc (by simp) _
  have p0 : w2.cell? ⟨w1.heap.size, 0, none⟩ = some (.int .i64 W) := by subst hw2; go_simp
  have p1 : w2.cell? ⟨w1.heap.size, 1, none⟩ = some (.slice s n cg) := by subst hw2; go_simp
  have s0 : w2.cell? ⟨w1.heap.size + 1, 0, none⟩ = some (.int .i64 A) := by subst hw2; go_simp
  have s1 : w2.cell? ⟨w1.heap.size + 1, 1, none⟩ = some (.int .i64 B) := by subst hw2; go_simp
  have s2 : w2.cell? ⟨w1.heap.size + 1, 2, none⟩ = some (.int .i64 C) := by subst hw2; go_simp
  have s3 : w2.cell? ⟨w1.heap.size + 1, 3, none⟩ = some (.int .i64 D) := by subst hw2; go_simp
  clear hR hb1
  have szw2 := hb.size
  replace p := Lib.hid (p.out.bel hb)
  replace bb := Lib.hid (bb.out.trans (hb.mono bb.out.size))
  clear hb
  go_wp2_with fail
  rw [← hw2]
  clear hw2
  obtain ⟨K, hK⟩ : ∃ K, okB W xs A B C D = K := ⟨_, rfl⟩
  by_cases hKt : K = true
  case neg =>
    have hKt : K = false := by simpa using hKt
    subst hKt
    replace hK := Lib.hid hK
    refine (do_no hK.out (by omega) _ _ _ p.out).mono ?_
    rintro e w3 ⟨⟨ao, co, rfl, ho⟩, hb⟩
    have o := Lib.hid ho.row
    have szw3 := hb.size
    replace p0 := kept hb (block_lt p0) p0
    replace p1 := kept hb (block_lt p1) p1
    replace s0 := kept hb (block_lt s0) s0
    replace s1 := kept hb (block_lt s1) s1
    replace s2 := kept hb (block_lt s2) s2
    replace s3 := kept hb (block_lt s3) s3
    replace p := Lib.hid (p.out.bel hb)
    replace bb := Lib.hid (bb.out.trans (hb.mono bb.out.size))
    clear hb
    clear ho
    have hbx : Below w3.heap.size w3 (w3.alloc (.cells #[.int .i64 0, .slice ao 0 co] 35)) := (Below.refl _ _).alloc (Nat.le_refl _) _
    replace p0 := kept hbx (block_lt p0) p0
    replace p1 := kept hbx (block_lt p1) p1
    replace s0 := kept hbx (block_lt s0) s0
    replace s1 := kept hbx (block_lt s1) s1
    replace s2 := kept hbx (block_lt s2) s2
    replace s3 := kept hbx (block_lt s3) s3
    replace p := Lib.hid (p.out.bel hbx)
    replace o := Lib.hid (o.out.bel hbx)
    replace bb := Lib.hid (bb.out.trans (hbx.mono bb.out.size))
    clear hbx
    have o0 : (w3.alloc (.cells #[.int .i64 0, .slice ao 0 co] 35)).cell? ⟨w3.heap.size, 0, none⟩ = some (.int .i64 0) := by simp
    have o1 : (w3.alloc (.cells #[.int .i64 0, .slice ao 0 co] 35)).cell? ⟨w3.heap.size, 1, none⟩ = some (.slice ao 0 co) := by simp
    go_wp2_with fail
    refine (dos_no hK.out (by omega) _ _ _ p.out).mono ?_
    rintro e w4 ⟨⟨aow, cow, rfl, ho⟩, hb⟩
    have ow := Lib.hid ho.row
    have szw4 : w3.heap.size + 1 ≤ w4.heap.size := by have := hb.size; simpa using this
    replace p0 := kept hb (block_lt p0) p0
    replace p1 := kept hb (block_lt p1) p1
    replace s0 := kept hb (block_lt s0) s0
    replace s1 := kept hb (block_lt s1) s1
    replace s2 := kept hb (block_lt s2) s2
    replace s3 := kept hb (block_lt s3) s3
    replace o0 := kept hb (block_lt o0) o0
    replace o1 := kept hb (block_lt o1) o1
    replace p := Lib.hid (p.out.bel hb)
    replace o := Lib.hid (o.out.bel hb)
    replace bb := Lib.hid (bb.out.trans (hb.mono bb.out.size))
    clear hb
    clear ho
    have hbx : Below w4.heap.size w4 (w4.alloc (.cells #[.int .i64 0, .slice aow 0 cow] 35)) := (Below.refl _ _).alloc (Nat.le_refl _) _
    replace p0 := kept hbx (block_lt p0) p0
    replace p1 := kept hbx (block_lt p1) p1
    replace s0 := kept hbx (block_lt s0) s0
    replace s1 := kept hbx (block_lt s1) s1
    replace s2 := kept hbx (block_lt s2) s2
    replace s3 := kept hbx (block_lt s3) s3
    replace o0 := kept hbx (block_lt o0) o0
    replace o1 := kept hbx (block_lt o1) o1
    replace p := Lib.hid (p.out.bel hbx)
    replace o := Lib.hid (o.out.bel hbx)
    replace ow := Lib.hid (ow.out.bel hbx)
    replace bb := Lib.hid (bb.out.trans (hbx.mono bb.out.size))
    clear hbx
    have ow0 : (w4.alloc (.cells #[.int .i64 0, .slice aow 0 cow] 35)).cell? ⟨w4.heap.size, 0, none⟩ = some (.int .i64 0) := by simp
    have ow1 : (w4.alloc (.cells #[.int .i64 0, .slice aow 0 cow] 35)).cell? ⟨w4.heap.size, 1, none⟩ = some (.slice aow 0 cow) := by simp
    go_wp2_with fail
    refine (sameImage_yes _ _ _ _ _ _ [] _ o.out ow.out (by omega)).mono ?_
    rintro e w5 ⟨rfl, hb⟩
    have szw5 : w4.heap.size + 1 ≤ w5.heap.size := by have := hb.size; simpa using this
    replace p0 := kept hb (block_lt p0) p0
    replace p1 := kept hb (block_lt p1) p1
    replace s0 := kept hb (block_lt s0) s0
    replace s1 := kept hb (block_lt s1) s1
    replace s2 := kept hb (block_lt s2) s2
    replace s3 := kept hb (block_lt s3) s3
    replace o0 := kept hb (block_lt o0) o0
    replace o1 := kept hb (block_lt o1) o1
    replace ow0 := kept hb (block_lt ow0) ow0
    replace ow1 := kept hb (block_lt ow1) ow1
    replace p := Lib.hid (p.out.bel hb)
    replace o := Lib.hid (o.out.bel hb)
    replace ow := Lib.hid (ow.out.bel hb)
    replace bb := Lib.hid (bb.out.trans (hb.mono bb.out.size))
    clear hb
    go_wp2_with fail
    refine (sameImage_yes _ _ _ _ _ _ [] _ o.out ow.out (by omega)).mono ?_
    rintro e w6 ⟨rfl, hb⟩
    have szw6 := hb.size
    replace p0 := kept hb (block_lt p0) p0
    replace p1 := kept hb (block_lt p1) p1
    replace s0 := kept hb (block_lt s0) s0
    replace s1 := kept hb (block_lt s1) s1
    replace s2 := kept hb (block_lt s2) s2
    replace s3 := kept hb (block_lt s3) s3
    replace o0 := kept hb (block_lt o0) o0
    replace o1 := kept hb (block_lt o1) o1
    replace ow0 := kept hb (block_lt ow0) ow0
    replace ow1 := kept hb (block_lt ow1) ow1
    replace p := Lib.hid (p.out.bel hb)
    replace o := Lib.hid (o.out.bel hb)
    replace ow := Lib.hid (ow.out.bel hb)
    replace bb := Lib.hid (bb.out.trans (hb.mono bb.out.size))
    clear hb
    go_wp2_with fail
    go_ret
    exact ⟨rfl, bb.out⟩
  subst hKt
  have hv := okB_valid hK
  have hI0 := validB_W hv
  obtain ⟨W, rfl⟩ := Int.eq_ofNat_of_zero_le (by omega : 0 ≤ W)
  have hI : Im W n xs := Im.of hv p.out.1
  obtain ⟨A, B, C, D, rfl, rfl, rfl, rfl, hAB, hBn, hCD, hDW, hsw⟩ := okB_im hI hK
  have hW6 := hI.w6
  have hW1 := hI.w1
  have hn1 := hI.l1
  have hn6 := hI.l6
  clear hv hI0 hsm
  obtain ⟨L, hL⟩ : ∃ L, flL xs W n A B C D = L := ⟨_, rfl⟩
  have hJ : Im W n L := hL ▸ fl_im hI A B C D
  have hK2 : okB W L A B C D = true := hL ▸ ok_done hI hAB hBn hCD hDW hsw
  replace hK := Lib.hid hK
  replace hK2 := Lib.hid hK2
  replace hL := Lib.hid hL
  replace hI := Lib.hid hI
  replace hJ := Lib.hid hJ
  replace hsw := Lib.hid hsw
  refine (do_ok hI.out hK.out hL.out _ _ _ p.out).mono ?_
  rintro e w7 ⟨⟨ao, co, rfl, ho⟩, hb⟩
  have o := Lib.hid ho.row
  have szw7 := hb.size
  replace p0 := kept hb (block_lt p0) p0
  replace p1 := kept hb (block_lt p1) p1
  replace s0 := kept hb (block_lt s0) s0
  replace s1 := kept hb (block_lt s1) s1
  replace s2 := kept hb (block_lt s2) s2
  replace s3 := kept hb (block_lt s3) s3
  replace p := Lib.hid (p.out.bel hb)
  replace bb := Lib.hid (bb.out.trans (hb.mono bb.out.size))
  clear hb
  clear ho
  have hbx : Below w7.heap.size w7 (w7.alloc (.cells #[.int .i64 W, .slice ao n co] 35)) := (Below.refl _ _).alloc (Nat.le_refl _) _
  replace p0 := kept hbx (block_lt p0) p0
  replace p1 := kept hbx (block_lt p1) p1
  replace s0 := kept hbx (block_lt s0) s0
  replace s1 := kept hbx (block_lt s1) s1
  replace s2 := kept hbx (block_lt s2) s2
  replace s3 := kept hbx (block_lt s3) s3
  replace p := Lib.hid (p.out.bel hbx)
  replace o := Lib.hid (o.out.bel hbx)
  replace bb := Lib.hid (bb.out.trans (hbx.mono bb.out.size))
  clear hbx
  have o0 : (w7.alloc (.cells #[.int .i64 W, .slice ao n co] 35)).cell? ⟨w7.heap.size, 0, none⟩ = some (.int .i64 W) := by simp
  have o1 : (w7.alloc (.cells #[.int .i64 W, .slice ao n co] 35)).cell? ⟨w7.heap.size, 1, none⟩ = some (.slice ao n co) := by simp
  go_wp2_with fail
  refine (dos_ok hI.out hK.out hL.out _ _ _ p.out).mono ?_
  rintro e w8 ⟨⟨aow, cow, rfl, ho⟩, hb⟩
  have ow := Lib.hid ho.row
  have szw8 : w7.heap.size + 1 ≤ w8.heap.size := by have := hb.size; simpa using this
  replace p0 := kept hb (block_lt p0) p0
  replace p1 := kept hb (block_lt p1) p1
  replace s0 := kept hb (block_lt s0) s0
  replace s1 := kept hb (block_lt s1) s1
  replace s2 := kept hb (block_lt s2) s2
  replace s3 := kept hb (block_lt s3) s3
  replace o0 := kept hb (block_lt o0) o0
  replace o1 := kept hb (block_lt o1) o1
  replace p := Lib.hid (p.out.bel hb)
  replace o := Lib.hid (o.out.bel hb)
  replace bb := Lib.hid (bb.out.trans (hb.mono bb.out.size))
  clear hb
  clear ho
  have hbx : Below w8.heap.size w8 (w8.alloc (.cells #[.int .i64 W, .slice aow n cow] 35)) := (Below.refl _ _).alloc (Nat.le_refl _) _
  replace p0 := kept hbx (block_lt p0) p0
  replace p1 := kept hbx (block_lt p1) p1
  replace s0 := kept hbx (block_lt s0) s0
  replace s1 := kept hbx (block_lt s1) s1
  replace s2 := kept hbx (block_lt s2) s2
  replace s3 := kept hbx (block_lt s3) s3
  replace o0 := kept hbx (block_lt o0) o0
  replace o1 := kept hbx (block_lt o1) o1
  replace p := Lib.hid (p.out.bel hbx)
  replace o := Lib.hid (o.out.bel hbx)
  replace ow := Lib.hid (ow.out.bel hbx)
  replace bb := Lib.hid (bb.out.trans (hbx.mono bb.out.size))
  clear hbx
  have ow0 : (w8.alloc (.cells #[.int .i64 W, .slice aow n cow] 35)).cell? ⟨w8.heap.size, 0, none⟩ = some (.int .i64 W) := by simp
  have ow1 : (w8.alloc (.cells #[.int .i64 W, .slice aow n cow] 35)).cell? ⟨w8.heap.size, 1, none⟩ = some (.slice aow n cow) := by simp
  go_wp2_with fail
  refine (sameImage_yes _ _ _ _ _ _ L _ o.out ow.out (by omega)).mono ?_
  rintro e w9 ⟨rfl, hb⟩
  have szw9 : w8.heap.size + 1 ≤ w9.heap.size := by have := hb.size; simpa using this
  replace p0 := kept hb (block_lt p0) p0
  replace p1 := kept hb (block_lt p1) p1
  replace s0 := kept hb (block_lt s0) s0
  replace s1 := kept hb (block_lt s1) s1
  replace s2 := kept hb (block_lt s2) s2
  replace s3 := kept hb (block_lt s3) s3
  replace o0 := kept hb (block_lt o0) o0
  replace o1 := kept hb (block_lt o1) o1
  replace ow0 := kept hb (block_lt ow0) ow0
  replace ow1 := kept hb (block_lt ow1) ow1
  replace p := Lib.hid (p.out.bel hb)
  replace o := Lib.hid (o.out.bel hb)
  replace ow := Lib.hid (ow.out.bel hb)
  replace bb := Lib.hid (bb.out.trans (hb.mono bb.out.size))
  clear hb
  clear ow0 ow1 ow
  have hne := ds_switch hI.out hAB hBn hCD hDW
  rw [hL.out] at hne
  have b2 := (nmN_bd (d := 2) (by omega) hn1 hn6 hW1 hW6).2
  have b3 := (nmN_bd (d := 3) (by omega) hn1 hn6 hW1 hW6).2
  obtain ⟨N2, hN2⟩ : ∃ N2, numN 2 n W = N2 := ⟨_, rfl⟩
  obtain ⟨N3, hN3⟩ : ∃ N3, numN 3 n W = N3 := ⟨_, rfl⟩
  obtain ⟨L2, hL2⟩ : ∃ L2, dsL 2 xs W n = L2 := ⟨_, rfl⟩
  obtain ⟨M2, hM2⟩ : ∃ M2, dsL 2 L W n = M2 := ⟨_, rfl⟩
  obtain ⟨L3, hL3⟩ : ∃ L3, dsL 3 xs W n = L3 := ⟨_, rfl⟩
  obtain ⟨M3, hM3⟩ : ∃ M3, dsL 3 L W n = M3 := ⟨_, rfl⟩
  rw [hL2, hM2, hL3, hM3] at hne
  rw [hN2] at b2
  rw [hN3] at b3
  have cS2 : Hid (∀ (a a' : Option Addr) (c c' : Nat) (wx : World), Row wx a N2 L2 → Row wx a' N2 M2 → Calls Try.prog 29 #[.slice a N2 c, .slice a' N2 c'] wx fun e w' => e = .returned (.bool false) ∧ Below wx.heap.size wx w') := fun a a' c c' wx h1 h2 => by
    have h := same_laws a a' N2 N2 c c' L2 M2 wx h1 h2 (by omega) (by omega)
    rw [decide_eq_false (fun e => hne.1 e.symm)] at h; exact h
  have cS3 : Hid (∀ (a a' : Option Addr) (c c' : Nat) (wx : World), Row wx a N3 L3 → Row wx a' N3 M3 → Calls Try.prog 29 #[.slice a N3 c, .slice a' N3 c'] wx fun e w' => e = .returned (.bool false) ∧ Below wx.heap.size wx w') := fun a a' c c' wx h1 h2 => by
    have h := same_laws a a' N3 N3 c c' L3 M3 wx h1 h2 (by omega) (by omega)
    rw [decide_eq_false (fun e => hne.2 e.symm)] at h; exact h
  replace hN2 := Lib.hid hN2
  replace hN3 := Lib.hid hN3
  replace hL2 := Lib.hid hL2
  replace hL3 := Lib.hid hL3
  replace hM2 := Lib.hid hM2
  replace hM3 := Lib.hid hM3
  clear hne
  have tok0 : True := trivial
  go_wp2_with fail
  go_region_law (first | ((go_simp; go_at_call 27; have _t := tok0; (with_reducible refine (ds_ok (D := 2) hI.out (show 2 < 8 by omega) (by decide) hL2.out hN2.out _ _ _ (p.out.bel ((Below.refl _ _).drew))).mono ?_); rintro e w10 ⟨⟨au1, cu1, rfl, ho⟩, hb⟩; have szw10 := hb.size; have u1 := Lib.hid ho.row; replace p0 := kept hb (block_lt (show w9.drew.cell? _ = _ from p0)) (show w9.drew.cell? _ = _ from p0); replace p1 := kept hb (block_lt (show w9.drew.cell? _ = _ from p1)) (show w9.drew.cell? _ = _ from p1); replace s0 := kept hb (block_lt (show w9.drew.cell? _ = _ from s0)) (show w9.drew.cell? _ = _ from s0); replace s1 := kept hb (block_lt (show w9.drew.cell? _ = _ from s1)) (show w9.drew.cell? _ = _ from s1); replace s2 := kept hb (block_lt (show w9.drew.cell? _ = _ from s2)) (show w9.drew.cell? _ = _ from s2); replace s3 := kept hb (block_lt (show w9.drew.cell? _ = _ from s3)) (show w9.drew.cell? _ = _ from s3); replace o0 := kept hb (block_lt (show w9.drew.cell? _ = _ from o0)) (show w9.drew.cell? _ = _ from o0); replace o1 := kept hb (block_lt (show w9.drew.cell? _ = _ from o1)) (show w9.drew.cell? _ = _ from o1); replace p := Lib.hid ((p.out.bel ((Below.refl _ _).drew)).bel hb); replace o := Lib.hid ((o.out.bel ((Below.refl _ _).drew)).bel hb); replace bb := Lib.hid (bb.out.drew.trans (hb.mono bb.out.drew.size)); clear hb ho tok0 _t; have tok1 : True := trivial)) | ((go_simp; go_at_call 27; have _t := tok1; (with_reducible refine (ds_ok (D := 2) hJ.out (show 2 < 8 by omega) (by decide) hM2.out hN2.out _ _ _ o.out).mono ?_); rintro e w11 ⟨⟨au2, cu2, rfl, ho⟩, hb⟩; have szw11 := hb.size; have u2 := Lib.hid ho.row; replace p0 := kept hb (block_lt p0) p0; replace p1 := kept hb (block_lt p1) p1; replace s0 := kept hb (block_lt s0) s0; replace s1 := kept hb (block_lt s1) s1; replace s2 := kept hb (block_lt s2) s2; replace s3 := kept hb (block_lt s3) s3; replace o0 := kept hb (block_lt o0) o0; replace o1 := kept hb (block_lt o1) o1; replace p := Lib.hid (p.out.bel hb); replace o := Lib.hid (o.out.bel hb); replace u1 := Lib.hid (u1.out.bel hb); replace bb := Lib.hid (bb.out.trans (hb.mono bb.out.size)); clear hb ho tok1 _t; have tok2 : True := trivial)) | ((go_simp; go_at_call 29; have _t := tok2; (with_reducible refine (cS2.out _ _ _ _ _ u1.out u2.out).mono ?_); rintro e w12 ⟨rfl, hb⟩; have szw12 := hb.size; replace p0 := kept hb (block_lt p0) p0; replace p1 := kept hb (block_lt p1) p1; replace s0 := kept hb (block_lt s0) s0; replace s1 := kept hb (block_lt s1) s1; replace s2 := kept hb (block_lt s2) s2; replace s3 := kept hb (block_lt s3) s3; replace o0 := kept hb (block_lt o0) o0; replace o1 := kept hb (block_lt o1) o1; replace p := Lib.hid (p.out.bel hb); replace o := Lib.hid (o.out.bel hb); replace u1 := Lib.hid (u1.out.bel hb); replace u2 := Lib.hid (u2.out.bel hb); replace bb := Lib.hid (bb.out.trans (hb.mono bb.out.size)); clear hb tok2 _t; have tok3 : True := trivial)) | ((go_simp; go_at_call 27; have _t := tok3; (with_reducible refine (ds_ok (D := 3) hI.out (show 3 < 8 by omega) (by decide) hL3.out hN3.out _ _ _ p.out).mono ?_); rintro e w13 ⟨⟨au3, cu3, rfl, ho⟩, hb⟩; have szw13 := hb.size; have u3 := Lib.hid ho.row; replace p0 := kept hb (block_lt p0) p0; replace p1 := kept hb (block_lt p1) p1; replace s0 := kept hb (block_lt s0) s0; replace s1 := kept hb (block_lt s1) s1; replace s2 := kept hb (block_lt s2) s2; replace s3 := kept hb (block_lt s3) s3; replace o0 := kept hb (block_lt o0) o0; replace o1 := kept hb (block_lt o1) o1; replace p := Lib.hid (p.out.bel hb); replace o := Lib.hid (o.out.bel hb); replace u1 := Lib.hid (u1.out.bel hb); replace u2 := Lib.hid (u2.out.bel hb); replace bb := Lib.hid (bb.out.trans (hb.mono bb.out.size)); clear hb ho tok3 _t; have tok4 : True := trivial)) | ((go_simp; go_at_call 27; have _t := tok4; (with_reducible refine (ds_ok (D := 3) hJ.out (show 3 < 8 by omega) (by decide) hM3.out hN3.out _ _ _ o.out).mono ?_); rintro e w14 ⟨⟨au4, cu4, rfl, ho⟩, hb⟩; have szw14 := hb.size; have u4 := Lib.hid ho.row; replace p0 := kept hb (block_lt p0) p0; replace p1 := kept hb (block_lt p1) p1; replace s0 := kept hb (block_lt s0) s0; replace s1 := kept hb (block_lt s1) s1; replace s2 := kept hb (block_lt s2) s2; replace s3 := kept hb (block_lt s3) s3; replace o0 := kept hb (block_lt o0) o0; replace o1 := kept hb (block_lt o1) o1; replace p := Lib.hid (p.out.bel hb); replace o := Lib.hid (o.out.bel hb); replace u1 := Lib.hid (u1.out.bel hb); replace u2 := Lib.hid (u2.out.bel hb); replace u3 := Lib.hid (u3.out.bel hb); replace bb := Lib.hid (bb.out.trans (hb.mono bb.out.size)); clear hb ho tok4 _t; have tok5 : True := trivial)) | ((go_simp; go_at_call 29; have _t := tok5; (with_reducible refine (cS3.out _ _ _ _ _ u3.out u4.out).mono ?_); rintro e w15 ⟨rfl, hb⟩; have szw15 := hb.size; replace p0 := kept hb (block_lt p0) p0; replace p1 := kept hb (block_lt p1) p1; replace s0 := kept hb (block_lt s0) s0; replace s1 := kept hb (block_lt s1) s1; replace s2 := kept hb (block_lt s2) s2; replace s3 := kept hb (block_lt s3) s3; replace o0 := kept hb (block_lt o0) o0; replace o1 := kept hb (block_lt o1) o1; replace p := Lib.hid (p.out.bel hb); replace o := Lib.hid (o.out.bel hb); replace u1 := Lib.hid (u1.out.bel hb); replace u2 := Lib.hid (u2.out.bel hb); replace u3 := Lib.hid (u3.out.bel hb); replace u4 := Lib.hid (u4.out.bel hb); replace bb := Lib.hid (bb.out.trans (hb.mono bb.out.size)); clear hb tok5 _t; have tok6 : True := trivial)))
  all_goals
    go_wp2_with fail
    go_ret
    exact ⟨rfl, bb.out⟩

set_option maxRecDepth 100000 in
theorem lifted (os : Os) (started : os.Started) (H : Type) (enc : TypeId × Value → H) :
    ReturnsInHanded {} Try.checked os 14 .any (Rows.fnSwitchDiagonalSpec.pre6 enc Try.prog Try.f14 Rows.fnSwitchDiagonalRow.domain false) (Rows.fnSwitchDiagonalSpec.post enc Try.prog Try.f14 false true false false) := by
  refine returnsInHanded_of_change (C := Try.checked) own started (by kernel_rfl) Try.func14
    (ChangeSpec.witness6 (enc := enc) (C := Try.checked) false ⟨#[], #[.slice none 0 0], []⟩ 8 (by kernel_rfl) (by kernel_rfl) (by kernel_rfl) (by kernel_rfl)) ?_
  intro W base args ds gs before hval0 hW hcnd _
  have hval : ∀ (j : Nat) t v, Try.f14.params[j]? = some t → args[j]? = some v → Value.okWide Try.prog W .any base t v := hval0
  have hW' := hW
  obtain ⟨p, q, hA0, hV, rfl, hfz, hnd⟩ := hW
  have hA : DataW.TrodAll enc Try.prog W 0 (fun _ => true) true Try.f14.params.toList args.toList ds p := hA0
  rw [Try.params14] at hA hval
  obtain ⟨v0, vs0, d0, ds0, p0, q0, hargs, rfl, rfl, h0, r0⟩ := trodAll_cons hA
  obtain ⟨rfl, rfl, rfl⟩ := trodAll_nil r0
  obtain rfl : args = #[v0] := by cases args; simp_all
  obtain ⟨rfl, rfl⟩ := trodVars_none hV
  have k0 := h0
  have lt0 : ∀ x ∈ p0, x.block < W.heap.size := by obtain ⟨m, hm⟩ := k0; exact DataW.trod_lt m _ _ _ hm
  obtain ⟨a0, len0, cap0, z0, rfl, w0, l0, m0⟩ := open_code (hval 0 22 v0 rfl rfl) h0
  clear hA0 hval0
  refine (walk a0 len0 cap0 z0 W w0 l0 m0).mono fun e W' ⟨he, bel⟩ => ?_
  subst he
  exact ⟨_, rfl, _, _, _, [], _, [], hW', trodAll_mk1 (shut_bool Try.underlying4 _), (trodAll_cons_mk (Below.trod laidOut (by kernel_rfl) (of_decide_eq_true (by kernel_rfl)) k0 bel lt0) trodAll_mk0), rfl, bel.frame _, fun h => by cases h⟩

theorem closed : joinedFacts Try.prog 14 Try.f14 Rows.fnSwitchDiagonalSpec Rows.fnSwitchDiagonalRow = true := by
  simp only [joinedFacts, Bool.and_eq_true]
  repeat' apply And.intro
  all_goals first | with_reducible exact mayEnterOk | (with_reducible rw [liftsFinalOk]; kernel_rfl) | (with_reducible rw [makeOk]; kernel_rfl) | kernel_rfl

theorem over : Rows.fnSwitchDiagonalRow.holds Try.pinned (OpenSpec.ofChange Rows.fnSwitchDiagonalSpec) :=
  OpenClaim.holds_of_wide 14 Try.f14 rfl rfl rfl rfl rfl rfl rfl ⟨rfl, rfl, rfl, rfl, rfl⟩ rfl rfl rfl rfl rfl (by kernel_rfl) Try.func14 closed
    (of_decide_eq_true (by kernel_rfl)) (by unfold Func.isWrapper; first | (rw [if_pos (by decide +kernel)]; kernel_rfl) | (rw [if_neg (by decide +kernel)]; exact ⟨rfl, rfl⟩))
    (fun os started H enc _ => lifted os started H enc)

theorem proved : Rows.FnSwitchDiagonalSaid := over
#print axioms proved
end Go.Proofs.Ytemmfnlnhekclaa.LFSwitchDiagonal

