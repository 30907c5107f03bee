/-
  For every slice of bytes the law FnSwitchOrder answers true: switches of other rows have any order; nothing that was there is written; no condition.
-/
import Derived.Test.YtnibmcihklaigaaO
import Derived.Test.YtnibmcihklaigaaK
import Derived.Deep.RegionLaw
import Derived.Test.YtnibmcihklaigaaKh
namespace Go.Proofs.Ytnibmcihklaigaa.LFSwitchOrder
open Go.ChangeShapes Go.WideShapes Go.ChangeAt Go.RowKit Go.Joins

set_option maxHeartbeats 2000000 in
set_option maxRecDepth 100000 in
theorem walk (a : Option Addr) (len cap : Nat) (zs : List Int) (w : World) (h : Bys w a len zs) (hl : len ≤ cap) (hm : cap ≤ 9223372036854775807) :
    Calls Try.prog 14 #[.slice a len cap] w fun e w' => e = .returned (.bool true) ∧ Below w.heap.size w w' := by
  by_cases hbig : 1048576 < len
  · clear h
    go_enter Try.func14, Try.ntmps14
    go_wp2_with fail
    go_ret
    exact ⟨rfl, Below.refl _ _⟩
  go_enter Try.func14, Try.ntmps14
  go_wp2_with fail
  refine (draw_DrawSwitchDo a len cap zs _ h hl hm).mono ?_
  rintro e w1 ⟨W, s, n, cg, xs, A, B, C, D, rfl, hR, hn, hsm, _, hb1⟩
  clear h hl hm
  have bb := Lib.hid hb1
  have p := Lib.hid hR
  obtain ⟨w2, hw2⟩ : ∃ w2, w2 = (w1.alloc (.cells #[.int .i64 W, .slice s n cg] 25)).alloc (.cells #[.int .i64 A, .int .i64 B, .int .i64 C, .int .i64 D] 27) := ⟨_, rfl⟩
  have hb : Below w1.heap.size w1 w2 := by subst hw2; exact ((Below.refl _ _).alloc (Nat.le_refl _) _).alloc (by simp) _
  have p0 : w2.cell? ⟨w1.heap.size, 0, none⟩ = some (.int .i64 W) := by subst hw2; go_simp
  have p1 : w2.cell? ⟨w1.heap.size, 1, none⟩ = some (.slice s n cg) := by subst hw2; go_simp
  have s0 : w2.cell? ⟨w1.heap.size + 1, 0, none⟩ = some (.int .i64 A) := by subst hw2; go_simp
  have s1 : w2.cell? ⟨w1.heap.size + 1, 1, none⟩ = some (.int .i64 B) := by subst hw2; go_simp
  have s2 : w2.cell? ⟨w1.heap.size + 1, 2, none⟩ = some (.int .i64 C) := by subst hw2; go_simp
  have s3 : w2.cell? ⟨w1.heap.size + 1, 3, none⟩ = some (.int .i64 D) := by subst hw2; go_simp
  clear hR hb1
  have szw2 := hb.size
  replace p := Lib.hid (p.out.bel hb)
  replace bb := Lib.hid (bb.out.trans (hb.mono bb.out.size))
  clear hb
  go_wp2_with fail
  rw [← hw2]
  clear hw2
  obtain ⟨K, hK⟩ : ∃ K, okB W xs A B C D = K := ⟨_, rfl⟩
  by_cases hKt : K = true
  case neg =>
    have hKt : K = false := by simpa using hKt
    subst hKt
    replace hK := Lib.hid hK
    refine (do_no hK.out (by omega) _ _ _ p.out).mono ?_
    rintro e w3 ⟨⟨ao, co, rfl, ho⟩, hb⟩
    have o := Lib.hid ho.row
    have szw3 := hb.size
    replace p0 := kept hb (block_lt p0) p0
    replace p1 := kept hb (block_lt p1) p1
    replace s0 := kept hb (block_lt s0) s0
    replace s1 := kept hb (block_lt s1) s1
    replace s2 := kept hb (block_lt s2) s2
    replace s3 := kept hb (block_lt s3) s3
    replace p := Lib.hid (p.out.bel hb)
    replace bb := Lib.hid (bb.out.trans (hb.mono bb.out.size))
    clear hb
    clear ho
    have hbx : Below w3.heap.size w3 (w3.alloc (.cells #[.int .i64 0, .slice ao 0 co] 25)) := (Below.refl _ _).alloc (Nat.le_refl _) _
    replace p0 := kept hbx (block_lt p0) p0
    replace p1 := kept hbx (block_lt p1) p1
    replace s0 := kept hbx (block_lt s0) s0
    replace s1 := kept hbx (block_lt s1) s1
    replace s2 := kept hbx (block_lt s2) s2
    replace s3 := kept hbx (block_lt s3) s3
    replace p := Lib.hid (p.out.bel hbx)
    replace o := Lib.hid (o.out.bel hbx)
    replace bb := Lib.hid (bb.out.trans (hbx.mono bb.out.size))
    clear hbx
    have o0 : (w3.alloc (.cells #[.int .i64 0, .slice ao 0 co] 25)).cell? ⟨w3.heap.size, 0, none⟩ = some (.int .i64 0) := by simp
    have o1 : (w3.alloc (.cells #[.int .i64 0, .slice ao 0 co] 25)).cell? ⟨w3.heap.size, 1, none⟩ = some (.slice ao 0 co) := by simp
    go_wp2_with fail
    refine (dos_no hK.out (by omega) _ _ _ p.out).mono ?_
    rintro e w4 ⟨⟨aow, cow, rfl, ho⟩, hb⟩
    have ow := Lib.hid ho.row
    have szw4 : w3.heap.size + 1 ≤ w4.heap.size := by have := hb.size; simpa using this
    replace p0 := kept hb (block_lt p0) p0
    replace p1 := kept hb (block_lt p1) p1
    replace s0 := kept hb (block_lt s0) s0
    replace s1 := kept hb (block_lt s1) s1
    replace s2 := kept hb (block_lt s2) s2
    replace s3 := kept hb (block_lt s3) s3
    replace o0 := kept hb (block_lt o0) o0
    replace o1 := kept hb (block_lt o1) o1
    replace p := Lib.hid (p.out.bel hb)
    replace o := Lib.hid (o.out.bel hb)
    replace bb := Lib.hid (bb.out.trans (hb.mono bb.out.size))
    clear hb
    clear ho
    have hbx : Below w4.heap.size w4 (w4.alloc (.cells #[.int .i64 0, .slice aow 0 cow] 25)) := (Below.refl _ _).alloc (Nat.le_refl _) _
    replace p0 := kept hbx (block_lt p0) p0
    replace p1 := kept hbx (block_lt p1) p1
    replace s0 := kept hbx (block_lt s0) s0
    replace s1 := kept hbx (block_lt s1) s1
    replace s2 := kept hbx (block_lt s2) s2
    replace s3 := kept hbx (block_lt s3) s3
    replace o0 := kept hbx (block_lt o0) o0
    replace o1 := kept hbx (block_lt o1) o1
    replace p := Lib.hid (p.out.bel hbx)
    replace o := Lib.hid (o.out.bel hbx)
    replace ow := Lib.hid (ow.out.bel hbx)
    replace bb := Lib.hid (bb.out.trans (hbx.mono bb.out.size))
    clear hbx
    have ow0 : (w4.alloc (.cells #[.int .i64 0, .slice aow 0 cow] 25)).cell? ⟨w4.heap.size, 0, none⟩ = some (.int .i64 0) := by simp
    have ow1 : (w4.alloc (.cells #[.int .i64 0, .slice aow 0 cow] 25)).cell? ⟨w4.heap.size, 1, none⟩ = some (.slice aow 0 cow) := by simp
    go_wp2_with fail
    refine (sameImage_yes _ _ _ _ _ _ [] _ o.out ow.out (by omega)).mono ?_
    rintro e w5 ⟨rfl, hb⟩
    have szw5 : w4.heap.size + 1 ≤ w5.heap.size := by have := hb.size; simpa using this
    replace p0 := kept hb (block_lt p0) p0
    replace p1 := kept hb (block_lt p1) p1
    replace s0 := kept hb (block_lt s0) s0
    replace s1 := kept hb (block_lt s1) s1
    replace s2 := kept hb (block_lt s2) s2
    replace s3 := kept hb (block_lt s3) s3
    replace o0 := kept hb (block_lt o0) o0
    replace o1 := kept hb (block_lt o1) o1
    replace ow0 := kept hb (block_lt ow0) ow0
    replace ow1 := kept hb (block_lt ow1) ow1
    replace p := Lib.hid (p.out.bel hb)
    replace o := Lib.hid (o.out.bel hb)
    replace ow := Lib.hid (ow.out.bel hb)
    replace bb := Lib.hid (bb.out.trans (hb.mono bb.out.size))
    clear hb
    go_wp2_with fail
    refine (sameImage_yes _ _ _ _ _ _ [] _ o.out ow.out (by omega)).mono ?_
    rintro e w6 ⟨rfl, hb⟩
    have szw6 := hb.size
    replace p0 := kept hb (block_lt p0) p0
    replace p1 := kept hb (block_lt p1) p1
    replace s0 := kept hb (block_lt s0) s0
    replace s1 := kept hb (block_lt s1) s1
    replace s2 := kept hb (block_lt s2) s2
    replace s3 := kept hb (block_lt s3) s3
    replace o0 := kept hb (block_lt o0) o0
    replace o1 := kept hb (block_lt o1) o1
    replace ow0 := kept hb (block_lt ow0) ow0
    replace ow1 := kept hb (block_lt ow1) ow1
    replace p := Lib.hid (p.out.bel hb)
    replace o := Lib.hid (o.out.bel hb)
    replace ow := Lib.hid (ow.out.bel hb)
    replace bb := Lib.hid (bb.out.trans (hb.mono bb.out.size))
    clear hb
    go_wp2_with fail
    go_ret
    exact ⟨rfl, bb.out⟩
  subst hKt
  have hv := okB_valid hK
  have hI0 := validB_W hv
  obtain ⟨W, rfl⟩ := Int.eq_ofNat_of_zero_le (by omega : 0 ≤ W)
  have hI : Im W n xs := Im.of hv p.out.1
  obtain ⟨A, B, C, D, rfl, rfl, rfl, rfl, hAB, hBn, hCD, hDW, hsw⟩ := okB_im hI hK
  have hW6 := hI.w6
  have hW1 := hI.w1
  have hn1 := hI.l1
  have hn6 := hI.l6
  clear hv hI0 hsm
  obtain ⟨L, hL⟩ : ∃ L, flL xs W n A B C D = L := ⟨_, rfl⟩
  have hJ : Im W n L := hL ▸ fl_im hI A B C D
  have hK2 : okB W L A B C D = true := hL ▸ ok_done hI hAB hBn hCD hDW hsw
  replace hK := Lib.hid hK
  replace hK2 := Lib.hid hK2
  replace hL := Lib.hid hL
  replace hI := Lib.hid hI
  replace hJ := Lib.hid hJ
  replace hsw := Lib.hid hsw
  refine (do_ok hI.out hK.out hL.out _ _ _ p.out).mono ?_
  rintro e w7 ⟨⟨ao, co, rfl, ho⟩, hb⟩
  have o := Lib.hid ho.row
  have szw7 := hb.size
  replace p0 := kept hb (block_lt p0) p0
  replace p1 := kept hb (block_lt p1) p1
  replace s0 := kept hb (block_lt s0) s0
  replace s1 := kept hb (block_lt s1) s1
  replace s2 := kept hb (block_lt s2) s2
  replace s3 := kept hb (block_lt s3) s3
  replace p := Lib.hid (p.out.bel hb)
  replace bb := Lib.hid (bb.out.trans (hb.mono bb.out.size))
  clear hb
  clear ho
  have hbx : Below w7.heap.size w7 (w7.alloc (.cells #[.int .i64 W, .slice ao n co] 25)) := (Below.refl _ _).alloc (Nat.le_refl _) _
  replace p0 := kept hbx (block_lt p0) p0
  replace p1 := kept hbx (block_lt p1) p1
  replace s0 := kept hbx (block_lt s0) s0
  replace s1 := kept hbx (block_lt s1) s1
  replace s2 := kept hbx (block_lt s2) s2
  replace s3 := kept hbx (block_lt s3) s3
  replace p := Lib.hid (p.out.bel hbx)
  replace o := Lib.hid (o.out.bel hbx)
  replace bb := Lib.hid (bb.out.trans (hbx.mono bb.out.size))
  clear hbx
  have o0 : (w7.alloc (.cells #[.int .i64 W, .slice ao n co] 25)).cell? ⟨w7.heap.size, 0, none⟩ = some (.int .i64 W) := by simp
  have o1 : (w7.alloc (.cells #[.int .i64 W, .slice ao n co] 25)).cell? ⟨w7.heap.size, 1, none⟩ = some (.slice ao n co) := by simp
  go_wp2_with fail
  refine (dos_ok hI.out hK.out hL.out _ _ _ p.out).mono ?_
  rintro e w8 ⟨⟨aow, cow, rfl, ho⟩, hb⟩
  have ow := Lib.hid ho.row
  have szw8 : w7.heap.size + 1 ≤ w8.heap.size := by have := hb.size; simpa using this
  replace p0 := kept hb (block_lt p0) p0
  replace p1 := kept hb (block_lt p1) p1
  replace s0 := kept hb (block_lt s0) s0
  replace s1 := kept hb (block_lt s1) s1
  replace s2 := kept hb (block_lt s2) s2
  replace s3 := kept hb (block_lt s3) s3
  replace o0 := kept hb (block_lt o0) o0
  replace o1 := kept hb (block_lt o1) o1
  replace p := Lib.hid (p.out.bel hb)
  replace o := Lib.hid (o.out.bel hb)
  replace bb := Lib.hid (bb.out.trans (hb.mono bb.out.size))
  clear hb
  clear ho
  have hbx : Below w8.heap.size w8 (w8.alloc (.cells #[.int .i64 W, .slice aow n cow] 25)) := (Below.refl _ _).alloc (Nat.le_refl _) _
  replace p0 := kept hbx (block_lt p0) p0
  replace p1 := kept hbx (block_lt p1) p1
  replace s0 := kept hbx (block_lt s0) s0
  replace s1 := kept hbx (block_lt s1) s1
  replace s2 := kept hbx (block_lt s2) s2
  replace s3 := kept hbx (block_lt s3) s3
  replace o0 := kept hbx (block_lt o0) o0
  replace o1 := kept hbx (block_lt o1) o1
  replace p := Lib.hid (p.out.bel hbx)
  replace o := Lib.hid (o.out.bel hbx)
  replace ow := Lib.hid (ow.out.bel hbx)
  replace bb := Lib.hid (bb.out.trans (hbx.mono bb.out.size))
  clear hbx
  have ow0 : (w8.alloc (.cells #[.int .i64 W, .slice aow n cow] 25)).cell? ⟨w8.heap.size, 0, none⟩ = some (.int .i64 W) := by simp
  have ow1 : (w8.alloc (.cells #[.int .i64 W, .slice aow n cow] 25)).cell? ⟨w8.heap.size, 1, none⟩ = some (.slice aow n cow) := by simp
  go_wp2_with fail
  refine (sameImage_yes _ _ _ _ _ _ L _ o.out ow.out (by omega)).mono ?_
  rintro e w9 ⟨rfl, hb⟩
  have szw9 : w8.heap.size + 1 ≤ w9.heap.size := by have := hb.size; simpa using this
  replace p0 := kept hb (block_lt p0) p0
  replace p1 := kept hb (block_lt p1) p1
  replace s0 := kept hb (block_lt s0) s0
  replace s1 := kept hb (block_lt s1) s1
  replace s2 := kept hb (block_lt s2) s2
  replace s3 := kept hb (block_lt s3) s3
  replace o0 := kept hb (block_lt o0) o0
  replace o1 := kept hb (block_lt o1) o1
  replace ow0 := kept hb (block_lt ow0) ow0
  replace ow1 := kept hb (block_lt ow1) ow1
  replace p := Lib.hid (p.out.bel hb)
  replace o := Lib.hid (o.out.bel hb)
  replace ow := Lib.hid (ow.out.bel hb)
  replace bb := Lib.hid (bb.out.trans (hb.mono bb.out.size))
  clear hb
  clear ow0 ow1 ow
  have hlS := list_im hJ.out
  have hin : (A, B, C, D) ∈ swL (cellOf L) W n := by
    refine swl_mem.2 ⟨hAB, hBn, hCD, hDW, ?_⟩
    rw [← okB_yes hJ.out hAB hBn hCD hDW]; exact hK2.out
  have hlen := swl_135 (cellOf L) (W := W) (n := n) (by omega) (by omega)
  have hm := swl_len (cellOf L) W n
  obtain ⟨Z, hZ⟩ : ∃ Z, swL (cellOf L) W n = Z := ⟨_, rfl⟩
  rw [hZ] at hin hlS hlen hm
  obtain ⟨M, hN⟩ : ∃ M, Z.length = M + 1 := ⟨Z.length - 1, by have := List.length_pos_of_mem hin; omega⟩
  rw [hN] at hlen hm
  have hML : M < Z.length := hN ▸ Nat.lt_succ_self M
  obtain ⟨P, Q, R, S, hz, hPQ, hQn, hRS, hSW, htw⟩ : ∃ P Q R S : Nat, Z[M]'hML = (P, Q, R, S) ∧ P < Q ∧ Q < n ∧ R < S ∧ S < W ∧ swC (cellOf L) P Q R S = true := by
    obtain ⟨⟨P, Q, R, S⟩, e⟩ : ∃ t, Z[M]'hML = t := ⟨_, rfl⟩
    have := List.getElem_mem hML
    rw [e, ← hZ] at this
    exact ⟨P, Q, R, S, e, swl_mem.1 this⟩
  replace hm := Lib.hid hm.symm
  replace hz := Lib.hid hz
  replace htw := Lib.hid htw
  replace hlS := Lib.hid hlS
  replace hN := Lib.hid hN
  clear hin hZ
  go_wp2_with fail
  refine (swlist_iN hlS.out hN.out (by omega) _ _ _ o.out).mono ?_
  rintro e w10 ⟨⟨al, cl, rfl, ho⟩, hb⟩
  have l := Lib.hid ho
  have szw10 := hb.size
  replace p0 := kept hb (block_lt p0) p0
  replace p1 := kept hb (block_lt p1) p1
  replace s0 := kept hb (block_lt s0) s0
  replace s1 := kept hb (block_lt s1) s1
  replace s2 := kept hb (block_lt s2) s2
  replace s3 := kept hb (block_lt s3) s3
  replace o0 := kept hb (block_lt o0) o0
  replace o1 := kept hb (block_lt o1) o1
  replace p := Lib.hid (p.out.bel hb)
  replace o := Lib.hid (o.out.bel hb)
  replace bb := Lib.hid (bb.out.trans (hb.mono bb.out.size))
  clear hb
  clear ho
  obtain ⟨gl, el, l0, l1, l2, l3⟩ := srow_at l.out (show M < M + 1 by omega) hz.out
  subst el
  have l0k := l0
  have l1k := l1
  have l2k := l2
  have l3k := l3
  have hbx : Below w10.heap.size w10 (w10.alloc (.cells #[.int .i64 P, .int .i64 Q, .int .i64 R, .int .i64 S] 27)) := (Below.refl _ _).alloc (Nat.le_refl _) _
  replace p0 := kept hbx (block_lt p0) p0
  replace p1 := kept hbx (block_lt p1) p1
  replace s0 := kept hbx (block_lt s0) s0
  replace s1 := kept hbx (block_lt s1) s1
  replace s2 := kept hbx (block_lt s2) s2
  replace s3 := kept hbx (block_lt s3) s3
  replace o0 := kept hbx (block_lt o0) o0
  replace o1 := kept hbx (block_lt o1) o1
  replace l0 := kept hbx (block_lt l0) l0
  replace l1 := kept hbx (block_lt l1) l1
  replace l2 := kept hbx (block_lt l2) l2
  replace l3 := kept hbx (block_lt l3) l3
  replace p := Lib.hid (p.out.bel hbx)
  replace o := Lib.hid (o.out.bel hbx)
  replace l := Lib.hid (l.out.bel hbx)
  replace bb := Lib.hid (bb.out.trans (hbx.mono bb.out.size))
  clear hbx
  have t0 : (w10.alloc (.cells #[.int .i64 P, .int .i64 Q, .int .i64 R, .int .i64 S] 27)).cell? ⟨w10.heap.size, 0, none⟩ = some (.int .i64 P) := by simp
  have t1 : (w10.alloc (.cells #[.int .i64 P, .int .i64 Q, .int .i64 R, .int .i64 S] 27)).cell? ⟨w10.heap.size, 1, none⟩ = some (.int .i64 Q) := by simp
  have t2 : (w10.alloc (.cells #[.int .i64 P, .int .i64 Q, .int .i64 R, .int .i64 S] 27)).cell? ⟨w10.heap.size, 2, none⟩ = some (.int .i64 R) := by simp
  have t3 : (w10.alloc (.cells #[.int .i64 P, .int .i64 Q, .int .i64 R, .int .i64 S] 27)).cell? ⟨w10.heap.size, 3, none⟩ = some (.int .i64 S) := by simp
  by_cases c0 : P = A
  case pos =>
    subst c0
    go_wp2_with fail
    refine (many_ok hJ.out hm.out _ _ _ o.out).mono ?_
    rintro e w11 ⟨rfl, hb⟩
    have szw11 : w10.heap.size + 1 ≤ w11.heap.size := by have := hb.size; simpa using this
    replace p0 := kept hb (block_lt p0) p0
    replace p1 := kept hb (block_lt p1) p1
    replace s0 := kept hb (block_lt s0) s0
    replace s1 := kept hb (block_lt s1) s1
    replace s2 := kept hb (block_lt s2) s2
    replace s3 := kept hb (block_lt s3) s3
    replace o0 := kept hb (block_lt o0) o0
    replace o1 := kept hb (block_lt o1) o1
    replace l0 := kept hb (block_lt l0) l0
    replace l1 := kept hb (block_lt l1) l1
    replace l2 := kept hb (block_lt l2) l2
    replace l3 := kept hb (block_lt l3) l3
    replace t0 := kept hb (block_lt t0) t0
    replace t1 := kept hb (block_lt t1) t1
    replace t2 := kept hb (block_lt t2) t2
    replace t3 := kept hb (block_lt t3) t3
    replace p := Lib.hid (p.out.bel hb)
    replace o := Lib.hid (o.out.bel hb)
    replace l := Lib.hid (l.out.bel hb)
    replace bb := Lib.hid (bb.out.trans (hb.mono bb.out.size))
    clear hb
    go_wp2_with fail
    go_ret
    exact ⟨rfl, bb.out⟩
  have d0 : ((P : Int) == (A : Int)) = false := by simpa using (show ¬ (P : Int) = A by omega)
  by_cases c1 : P = B
  case pos =>
    subst c1
    go_wp2_with fail
    refine (many_ok hJ.out hm.out _ _ _ o.out).mono ?_
    rintro e w12 ⟨rfl, hb⟩
    have szw12 : w10.heap.size + 1 ≤ w12.heap.size := by have := hb.size; simpa using this
    replace p0 := kept hb (block_lt p0) p0
    replace p1 := kept hb (block_lt p1) p1
    replace s0 := kept hb (block_lt s0) s0
    replace s1 := kept hb (block_lt s1) s1
    replace s2 := kept hb (block_lt s2) s2
    replace s3 := kept hb (block_lt s3) s3
    replace o0 := kept hb (block_lt o0) o0
    replace o1 := kept hb (block_lt o1) o1
    replace l0 := kept hb (block_lt l0) l0
    replace l1 := kept hb (block_lt l1) l1
    replace l2 := kept hb (block_lt l2) l2
    replace l3 := kept hb (block_lt l3) l3
    replace t0 := kept hb (block_lt t0) t0
    replace t1 := kept hb (block_lt t1) t1
    replace t2 := kept hb (block_lt t2) t2
    replace t3 := kept hb (block_lt t3) t3
    replace p := Lib.hid (p.out.bel hb)
    replace o := Lib.hid (o.out.bel hb)
    replace l := Lib.hid (l.out.bel hb)
    replace bb := Lib.hid (bb.out.trans (hb.mono bb.out.size))
    clear hb
    go_wp2_with fail
    go_ret
    exact ⟨rfl, bb.out⟩
  have d1 : ((P : Int) == (B : Int)) = false := by simpa using (show ¬ (P : Int) = B by omega)
  by_cases c2 : Q = A
  case pos =>
    subst c2
    go_wp2_with fail
    refine (many_ok hJ.out hm.out _ _ _ o.out).mono ?_
    rintro e w13 ⟨rfl, hb⟩
    have szw13 : w10.heap.size + 1 ≤ w13.heap.size := by have := hb.size; simpa using this
    replace p0 := kept hb (block_lt p0) p0
    replace p1 := kept hb (block_lt p1) p1
    replace s0 := kept hb (block_lt s0) s0
    replace s1 := kept hb (block_lt s1) s1
    replace s2 := kept hb (block_lt s2) s2
    replace s3 := kept hb (block_lt s3) s3
    replace o0 := kept hb (block_lt o0) o0
    replace o1 := kept hb (block_lt o1) o1
    replace l0 := kept hb (block_lt l0) l0
    replace l1 := kept hb (block_lt l1) l1
    replace l2 := kept hb (block_lt l2) l2
    replace l3 := kept hb (block_lt l3) l3
    replace t0 := kept hb (block_lt t0) t0
    replace t1 := kept hb (block_lt t1) t1
    replace t2 := kept hb (block_lt t2) t2
    replace t3 := kept hb (block_lt t3) t3
    replace p := Lib.hid (p.out.bel hb)
    replace o := Lib.hid (o.out.bel hb)
    replace l := Lib.hid (l.out.bel hb)
    replace bb := Lib.hid (bb.out.trans (hb.mono bb.out.size))
    clear hb
    go_wp2_with fail
    go_ret
    exact ⟨rfl, bb.out⟩
  have d2 : ((Q : Int) == (A : Int)) = false := by simpa using (show ¬ (Q : Int) = A by omega)
  by_cases c3 : Q = B
  case pos =>
    subst c3
    go_wp2_with fail
    refine (many_ok hJ.out hm.out _ _ _ o.out).mono ?_
    rintro e w14 ⟨rfl, hb⟩
    have szw14 : w10.heap.size + 1 ≤ w14.heap.size := by have := hb.size; simpa using this
    replace p0 := kept hb (block_lt p0) p0
    replace p1 := kept hb (block_lt p1) p1
    replace s0 := kept hb (block_lt s0) s0
    replace s1 := kept hb (block_lt s1) s1
    replace s2 := kept hb (block_lt s2) s2
    replace s3 := kept hb (block_lt s3) s3
    replace o0 := kept hb (block_lt o0) o0
    replace o1 := kept hb (block_lt o1) o1
    replace l0 := kept hb (block_lt l0) l0
    replace l1 := kept hb (block_lt l1) l1
    replace l2 := kept hb (block_lt l2) l2
    replace l3 := kept hb (block_lt l3) l3
    replace t0 := kept hb (block_lt t0) t0
    replace t1 := kept hb (block_lt t1) t1
    replace t2 := kept hb (block_lt t2) t2
    replace t3 := kept hb (block_lt t3) t3
    replace p := Lib.hid (p.out.bel hb)
    replace o := Lib.hid (o.out.bel hb)
    replace l := Lib.hid (l.out.bel hb)
    replace bb := Lib.hid (bb.out.trans (hb.mono bb.out.size))
    clear hb
    go_wp2_with fail
    go_ret
    exact ⟨rfl, bb.out⟩
  have d3 : ((Q : Int) == (B : Int)) = false := by simpa using (show ¬ (Q : Int) = B by omega)
  have u1 : okB W L P Q R S = true := (okB_yes hJ.out hPQ hQn hRS hSW).trans htw.out
  have u2 : okB W xs P Q R S = true := by
    rw [okB_yes hI.out hPQ hQn hRS hSW, ← sw_far hI.out (A := A) (B := B) (C := C) (D := D) (by omega) hQn (by omega) hSW c0 c1 c2 c3, hL.out]; exact htw.out
  obtain ⟨X, hX⟩ : ∃ X, flL L W n P Q R S = X := ⟨_, rfl⟩
  obtain ⟨V, hV⟩ : ∃ V, flL xs W n P Q R S = V := ⟨_, rfl⟩
  have hIV : Im W n V := hV ▸ fl_im hI.out P Q R S
  have u3 : okB W V A B C D = true := by
    rw [okB_yes hIV hAB hBn hCD hDW, ← hV, sw_far hI.out (by omega) hBn (by omega) hDW (Ne.symm c0) (Ne.symm c2) (Ne.symm c1) (Ne.symm c3)]; exact hsw.out
  have hXV : flL V W n A B C D = X := by
    rw [← hX, ← hV, ← hL.out]; exact (fl_order hI.out c0 c1 c2 c3).symm
  replace u1 := Lib.hid u1
  replace u2 := Lib.hid u2
  replace u3 := Lib.hid u3
  replace hX := Lib.hid hX
  replace hV := Lib.hid hV
  replace hIV := Lib.hid hIV
  replace hXV := Lib.hid hXV
  clear c0 c1 c2 c3
  go_wp2_with fail
  refine (do_ok hJ.out u1.out hX.out _ _ _ o.out).mono ?_
  rintro e w15 ⟨⟨ax, cx, rfl, ho⟩, hb⟩
  have x := Lib.hid ho.row
  have szw15 : w10.heap.size + 1 ≤ w15.heap.size := by have := hb.size; simpa using this
  replace p0 := kept hb (block_lt p0) p0
  replace p1 := kept hb (block_lt p1) p1
  replace s0 := kept hb (block_lt s0) s0
  replace s1 := kept hb (block_lt s1) s1
  replace s2 := kept hb (block_lt s2) s2
  replace s3 := kept hb (block_lt s3) s3
  replace o0 := kept hb (block_lt o0) o0
  replace o1 := kept hb (block_lt o1) o1
  replace l0 := kept hb (block_lt l0) l0
  replace l1 := kept hb (block_lt l1) l1
  replace l2 := kept hb (block_lt l2) l2
  replace l3 := kept hb (block_lt l3) l3
  replace t0 := kept hb (block_lt t0) t0
  replace t1 := kept hb (block_lt t1) t1
  replace t2 := kept hb (block_lt t2) t2
  replace t3 := kept hb (block_lt t3) t3
  replace p := Lib.hid (p.out.bel hb)
  replace o := Lib.hid (o.out.bel hb)
  replace l := Lib.hid (l.out.bel hb)
  replace bb := Lib.hid (bb.out.trans (hb.mono bb.out.size))
  clear hb
  clear ho
  have hbx : Below w15.heap.size w15 (w15.alloc (.cells #[.int .i64 W, .slice ax n cx] 25)) := (Below.refl _ _).alloc (Nat.le_refl _) _
  replace p0 := kept hbx (block_lt p0) p0
  replace p1 := kept hbx (block_lt p1) p1
  replace s0 := kept hbx (block_lt s0) s0
  replace s1 := kept hbx (block_lt s1) s1
  replace s2 := kept hbx (block_lt s2) s2
  replace s3 := kept hbx (block_lt s3) s3
  replace o0 := kept hbx (block_lt o0) o0
  replace o1 := kept hbx (block_lt o1) o1
  replace l0 := kept hbx (block_lt l0) l0
  replace l1 := kept hbx (block_lt l1) l1
  replace l2 := kept hbx (block_lt l2) l2
  replace l3 := kept hbx (block_lt l3) l3
  replace t0 := kept hbx (block_lt t0) t0
  replace t1 := kept hbx (block_lt t1) t1
  replace t2 := kept hbx (block_lt t2) t2
  replace t3 := kept hbx (block_lt t3) t3
  replace p := Lib.hid (p.out.bel hbx)
  replace o := Lib.hid (o.out.bel hbx)
  replace l := Lib.hid (l.out.bel hbx)
  replace x := Lib.hid (x.out.bel hbx)
  replace bb := Lib.hid (bb.out.trans (hbx.mono bb.out.size))
  clear hbx
  have x0 : (w15.alloc (.cells #[.int .i64 W, .slice ax n cx] 25)).cell? ⟨w15.heap.size, 0, none⟩ = some (.int .i64 W) := by simp
  have x1 : (w15.alloc (.cells #[.int .i64 W, .slice ax n cx] 25)).cell? ⟨w15.heap.size, 1, none⟩ = some (.slice ax n cx) := by simp
  go_wp2_with fail
  refine (do_ok hI.out u2.out hV.out _ _ _ p.out).mono ?_
  rintro e w16 ⟨⟨av, cv, rfl, ho⟩, hb⟩
  have v := Lib.hid ho.row
  have szw16 : w15.heap.size + 1 ≤ w16.heap.size := by have := hb.size; simpa using this
  replace p0 := kept hb (block_lt p0) p0
  replace p1 := kept hb (block_lt p1) p1
  replace s0 := kept hb (block_lt s0) s0
  replace s1 := kept hb (block_lt s1) s1
  replace s2 := kept hb (block_lt s2) s2
  replace s3 := kept hb (block_lt s3) s3
  replace o0 := kept hb (block_lt o0) o0
  replace o1 := kept hb (block_lt o1) o1
  replace l0 := kept hb (block_lt l0) l0
  replace l1 := kept hb (block_lt l1) l1
  replace l2 := kept hb (block_lt l2) l2
  replace l3 := kept hb (block_lt l3) l3
  replace t0 := kept hb (block_lt t0) t0
  replace t1 := kept hb (block_lt t1) t1
  replace t2 := kept hb (block_lt t2) t2
  replace t3 := kept hb (block_lt t3) t3
  replace x0 := kept hb (block_lt x0) x0
  replace x1 := kept hb (block_lt x1) x1
  replace p := Lib.hid (p.out.bel hb)
  replace o := Lib.hid (o.out.bel hb)
  replace l := Lib.hid (l.out.bel hb)
  replace x := Lib.hid (x.out.bel hb)
  replace bb := Lib.hid (bb.out.trans (hb.mono bb.out.size))
  clear hb
  clear ho
  have hbx : Below w16.heap.size w16 (w16.alloc (.cells #[.int .i64 W, .slice av n cv] 25)) := (Below.refl _ _).alloc (Nat.le_refl _) _
  replace p0 := kept hbx (block_lt p0) p0
  replace p1 := kept hbx (block_lt p1) p1
  replace s0 := kept hbx (block_lt s0) s0
  replace s1 := kept hbx (block_lt s1) s1
  replace s2 := kept hbx (block_lt s2) s2
  replace s3 := kept hbx (block_lt s3) s3
  replace o0 := kept hbx (block_lt o0) o0
  replace o1 := kept hbx (block_lt o1) o1
  replace l0 := kept hbx (block_lt l0) l0
  replace l1 := kept hbx (block_lt l1) l1
  replace l2 := kept hbx (block_lt l2) l2
  replace l3 := kept hbx (block_lt l3) l3
  replace t0 := kept hbx (block_lt t0) t0
  replace t1 := kept hbx (block_lt t1) t1
  replace t2 := kept hbx (block_lt t2) t2
  replace t3 := kept hbx (block_lt t3) t3
  replace x0 := kept hbx (block_lt x0) x0
  replace x1 := kept hbx (block_lt x1) x1
  replace p := Lib.hid (p.out.bel hbx)
  replace o := Lib.hid (o.out.bel hbx)
  replace l := Lib.hid (l.out.bel hbx)
  replace x := Lib.hid (x.out.bel hbx)
  replace v := Lib.hid (v.out.bel hbx)
  replace bb := Lib.hid (bb.out.trans (hbx.mono bb.out.size))
  clear hbx
  have v0 : (w16.alloc (.cells #[.int .i64 W, .slice av n cv] 25)).cell? ⟨w16.heap.size, 0, none⟩ = some (.int .i64 W) := by simp
  have v1 : (w16.alloc (.cells #[.int .i64 W, .slice av n cv] 25)).cell? ⟨w16.heap.size, 1, none⟩ = some (.slice av n cv) := by simp
  go_wp2_with fail
  refine (do_ok hIV.out u3.out hXV.out _ _ _ v.out).mono ?_
  rintro e w17 ⟨⟨az, cz, rfl, ho⟩, hb⟩
  have z := Lib.hid ho.row
  have szw17 : w16.heap.size + 1 ≤ w17.heap.size := by have := hb.size; simpa using this
  replace p0 := kept hb (block_lt p0) p0
  replace p1 := kept hb (block_lt p1) p1
  replace s0 := kept hb (block_lt s0) s0
  replace s1 := kept hb (block_lt s1) s1
  replace s2 := kept hb (block_lt s2) s2
  replace s3 := kept hb (block_lt s3) s3
  replace o0 := kept hb (block_lt o0) o0
  replace o1 := kept hb (block_lt o1) o1
  replace l0 := kept hb (block_lt l0) l0
  replace l1 := kept hb (block_lt l1) l1
  replace l2 := kept hb (block_lt l2) l2
  replace l3 := kept hb (block_lt l3) l3
  replace t0 := kept hb (block_lt t0) t0
  replace t1 := kept hb (block_lt t1) t1
  replace t2 := kept hb (block_lt t2) t2
  replace t3 := kept hb (block_lt t3) t3
  replace x0 := kept hb (block_lt x0) x0
  replace x1 := kept hb (block_lt x1) x1
  replace v0 := kept hb (block_lt v0) v0
  replace v1 := kept hb (block_lt v1) v1
  replace p := Lib.hid (p.out.bel hb)
  replace o := Lib.hid (o.out.bel hb)
  replace l := Lib.hid (l.out.bel hb)
  replace x := Lib.hid (x.out.bel hb)
  replace v := Lib.hid (v.out.bel hb)
  replace bb := Lib.hid (bb.out.trans (hb.mono bb.out.size))
  clear hb
  clear ho
  have hbx : Below w17.heap.size w17 (w17.alloc (.cells #[.int .i64 W, .slice az n cz] 25)) := (Below.refl _ _).alloc (Nat.le_refl _) _
  replace p0 := kept hbx (block_lt p0) p0
  replace p1 := kept hbx (block_lt p1) p1
  replace s0 := kept hbx (block_lt s0) s0
  replace s1 := kept hbx (block_lt s1) s1
  replace s2 := kept hbx (block_lt s2) s2
  replace s3 := kept hbx (block_lt s3) s3
  replace o0 := kept hbx (block_lt o0) o0
  replace o1 := kept hbx (block_lt o1) o1
  replace l0 := kept hbx (block_lt l0) l0
  replace l1 := kept hbx (block_lt l1) l1
  replace l2 := kept hbx (block_lt l2) l2
  replace l3 := kept hbx (block_lt l3) l3
  replace t0 := kept hbx (block_lt t0) t0
  replace t1 := kept hbx (block_lt t1) t1
  replace t2 := kept hbx (block_lt t2) t2
  replace t3 := kept hbx (block_lt t3) t3
  replace x0 := kept hbx (block_lt x0) x0
  replace x1 := kept hbx (block_lt x1) x1
  replace v0 := kept hbx (block_lt v0) v0
  replace v1 := kept hbx (block_lt v1) v1
  replace p := Lib.hid (p.out.bel hbx)
  replace o := Lib.hid (o.out.bel hbx)
  replace l := Lib.hid (l.out.bel hbx)
  replace x := Lib.hid (x.out.bel hbx)
  replace v := Lib.hid (v.out.bel hbx)
  replace z := Lib.hid (z.out.bel hbx)
  replace bb := Lib.hid (bb.out.trans (hbx.mono bb.out.size))
  clear hbx
  have z0 : (w17.alloc (.cells #[.int .i64 W, .slice az n cz] 25)).cell? ⟨w17.heap.size, 0, none⟩ = some (.int .i64 W) := by simp
  have z1 : (w17.alloc (.cells #[.int .i64 W, .slice az n cz] 25)).cell? ⟨w17.heap.size, 1, none⟩ = some (.slice az n cz) := by simp
  go_wp2_with fail
  refine (sameImage_yes _ _ _ _ _ _ X _ x.out z.out (by omega)).mono ?_
  rintro e w18 ⟨rfl, hb⟩
  have szw18 : w17.heap.size + 1 ≤ w18.heap.size := by have := hb.size; simpa using this
  replace p0 := kept hb (block_lt p0) p0
  replace p1 := kept hb (block_lt p1) p1
  replace s0 := kept hb (block_lt s0) s0
  replace s1 := kept hb (block_lt s1) s1
  replace s2 := kept hb (block_lt s2) s2
  replace s3 := kept hb (block_lt s3) s3
  replace o0 := kept hb (block_lt o0) o0
  replace o1 := kept hb (block_lt o1) o1
  replace l0 := kept hb (block_lt l0) l0
  replace l1 := kept hb (block_lt l1) l1
  replace l2 := kept hb (block_lt l2) l2
  replace l3 := kept hb (block_lt l3) l3
  replace t0 := kept hb (block_lt t0) t0
  replace t1 := kept hb (block_lt t1) t1
  replace t2 := kept hb (block_lt t2) t2
  replace t3 := kept hb (block_lt t3) t3
  replace x0 := kept hb (block_lt x0) x0
  replace x1 := kept hb (block_lt x1) x1
  replace v0 := kept hb (block_lt v0) v0
  replace v1 := kept hb (block_lt v1) v1
  replace z0 := kept hb (block_lt z0) z0
  replace z1 := kept hb (block_lt z1) z1
  replace p := Lib.hid (p.out.bel hb)
  replace o := Lib.hid (o.out.bel hb)
  replace l := Lib.hid (l.out.bel hb)
  replace x := Lib.hid (x.out.bel hb)
  replace v := Lib.hid (v.out.bel hb)
  replace z := Lib.hid (z.out.bel hb)
  replace bb := Lib.hid (bb.out.trans (hb.mono bb.out.size))
  clear hb
  go_wp2_with fail
  go_ret
  exact ⟨rfl, bb.out⟩

set_option maxRecDepth 100000 in
theorem lifted (os : Os) (started : os.Started) (H : Type) (enc : TypeId × Value → H) :
    ReturnsInHanded {} Try.checked os 14 .any (Rows.fnSwitchOrderSpec.pre6 enc Try.prog Try.f14 Rows.fnSwitchOrderRow.domain false) (Rows.fnSwitchOrderSpec.post enc Try.prog Try.f14 false true false false) := by
  refine returnsInHanded_of_change (C := Try.checked) own started (by kernel_rfl) Try.func14
    (ChangeSpec.witness6 (enc := enc) (C := Try.checked) false ⟨#[], #[.slice none 0 0], []⟩ 8 (by kernel_rfl) (by kernel_rfl) (by kernel_rfl) (by kernel_rfl)) ?_
  intro W base args ds gs before hval0 hW hcnd _
  have hval : ∀ (j : Nat) t v, Try.f14.params[j]? = some t → args[j]? = some v → Value.okWide Try.prog W .any base t v := hval0
  have hW' := hW
  obtain ⟨p, q, hA0, hV, rfl, hfz, hnd⟩ := hW
  have hA : DataW.TrodAll enc Try.prog W 0 (fun _ => true) true Try.f14.params.toList args.toList ds p := hA0
  rw [Try.params14] at hA hval
  obtain ⟨v0, vs0, d0, ds0, p0, q0, hargs, rfl, rfl, h0, r0⟩ := trodAll_cons hA
  obtain ⟨rfl, rfl, rfl⟩ := trodAll_nil r0
  obtain rfl : args = #[v0] := by cases args; simp_all
  obtain ⟨rfl, rfl⟩ := trodVars_none hV
  have k0 := h0
  have lt0 : ∀ x ∈ p0, x.block < W.heap.size := by obtain ⟨m, hm⟩ := k0; exact DataW.trod_lt m _ _ _ hm
  obtain ⟨a0, len0, cap0, z0, rfl, w0, l0, m0⟩ := open_code (hval 0 22 v0 rfl rfl) h0
  clear hA0 hval0
  refine (walk a0 len0 cap0 z0 W w0 l0 m0).mono fun e W' ⟨he, bel⟩ => ?_
  subst he
  exact ⟨_, rfl, _, _, _, [], _, [], hW', trodAll_mk1 (shut_bool Try.underlying4 _), (trodAll_cons_mk (Below.trod laidOut (by kernel_rfl) (of_decide_eq_true (by kernel_rfl)) k0 bel lt0) trodAll_mk0), rfl, bel.frame _, fun h => by cases h⟩

theorem closed : joinedFacts Try.prog 14 Try.f14 Rows.fnSwitchOrderSpec Rows.fnSwitchOrderRow = true := by
  simp only [joinedFacts, Bool.and_eq_true]
  repeat' apply And.intro
  all_goals first | with_reducible exact mayEnterOk | (with_reducible rw [liftsFinalOk]; kernel_rfl) | (with_reducible rw [makeOk]; kernel_rfl) | kernel_rfl

theorem over : Rows.fnSwitchOrderRow.holds Try.pinned (OpenSpec.ofChange Rows.fnSwitchOrderSpec) :=
  OpenClaim.holds_of_wide 14 Try.f14 rfl rfl rfl rfl rfl rfl rfl ⟨rfl, rfl, rfl, rfl, rfl⟩ rfl rfl rfl rfl rfl (by kernel_rfl) Try.func14 closed
    (of_decide_eq_true (by kernel_rfl)) (by unfold Func.isWrapper; first | (rw [if_pos (by decide +kernel)]; kernel_rfl) | (rw [if_neg (by decide +kernel)]; exact ⟨rfl, rfl⟩))
    (fun os started H enc _ => lifted os started H enc)

theorem proved : Rows.FnSwitchOrderSaid := over
#print axioms proved
end Go.Proofs.Ytnibmcihklaigaa.LFSwitchOrder

