/-
  For every slice of bytes the law FnPathTurn answers true: a path turns; nothing that was there is written; no condition.
-/
import Derived.Test.YtgamkmkpmcenpaaO
import Derived.Test.YtgamkmkpmcenpaaK
import Derived.Deep.RegionLaw
import Derived.Test.YtgamkmkpmcenpaaWg
namespace Go.Proofs.Ytgamkmkpmcenpaa.LFPathTurn
open Go.ChangeShapes Go.WideShapes Go.ChangeAt Go.RowKit Go.Joins

set_option maxHeartbeats 2000000 in
set_option maxRecDepth 100000 in
theorem walk (a : Option Addr) (len cap : Nat) (zs : List Int) (w : World) (h : Bys w a len zs) (hl : len ≤ cap) (hm : cap ≤ 9223372036854775807) :
    Calls Try.prog 16 #[.slice a len cap] w fun e w' => e = .returned (.bool true) ∧ Below w.heap.size w w' := by
  by_cases hbig : 1048576 < len
  · clear h
    go_enter Try.func16, Try.ntmps16
    go_wp2_with fail
    go_ret
    exact ⟨rfl, Below.refl _ _⟩
  go_enter Try.func16, Try.ntmps16
  go_wp2_with fail
  refine (draw_DrawSwitchPath a len cap zs _ h hl hm).mono ?_
  rintro e w1 ⟨V, s, n, cg, xs, V2, t, m, ch, ys, rfl, hX, hY, hnm, hb1⟩
  clear h hl hm
  have bb := Lib.hid hb1
  have p := Lib.hid hX
  have q := Lib.hid hY
  obtain ⟨w2, hw2⟩ : ∃ w2, w2 = (w1.alloc (.cells #[.int .i64 V, .slice s n cg] 25)).alloc (.cells #[.int .i64 V2, .slice t m ch] 25) := ⟨_, rfl⟩
  have hb : Below w1.heap.size w1 w2 := by subst hw2; exact ((Below.refl _ _).alloc (Nat.le_refl _) _).alloc (by simp) _
  have p0 : w2.cell? ⟨w1.heap.size, 0, none⟩ = some (.int .i64 V) := by subst hw2; go_simp
  have p1 : w2.cell? ⟨w1.heap.size, 1, none⟩ = some (.slice s n cg) := by subst hw2; go_simp
  have q0 : w2.cell? ⟨w1.heap.size + 1, 0, none⟩ = some (.int .i64 V2) := by subst hw2; go_simp
  have q1 : w2.cell? ⟨w1.heap.size + 1, 1, none⟩ = some (.slice t m ch) := by subst hw2; go_simp
  clear hX hY hb1
  have szw2 := hb.size
  replace p := Lib.hid (p.out.bel hb)
  replace q := Lib.hid (q.out.bel hb)
  replace bb := Lib.hid (bb.out.trans (hb.mono bb.out.size))
  clear hb
  go_wp2_with fail
  rw [← hw2]
  clear hw2
  by_cases hv : sameB V xs V2 ys = true
  case neg =>
    have hv : sameB V xs V2 ys = false := by simpa using hv
    refine (path_no hv (by omega) (by omega) _ _ _ _ _ p.out q.out).mono ?_
    rintro e w3 ⟨⟨al, cl, rfl, ho, hcl⟩, hb⟩
    have l := Lib.hid ho
    have szw3 := hb.size
    replace p0 := kept hb (block_lt p0) p0
    replace p1 := kept hb (block_lt p1) p1
    replace q0 := kept hb (block_lt q0) q0
    replace q1 := kept hb (block_lt q1) q1
    replace p := Lib.hid (p.out.bel hb)
    replace q := Lib.hid (q.out.bel hb)
    replace bb := Lib.hid (bb.out.trans (hb.mono bb.out.size))
    clear hb
    clear ho
    go_wp2_with fail
    refine (paths_no hv (by omega) (by omega) _ _ _ _ _ p.out q.out).mono ?_
    rintro e w4 ⟨⟨alw, clw, rfl, ho, hclw⟩, hb⟩
    have lw := Lib.hid ho
    have szw4 := hb.size
    replace p0 := kept hb (block_lt p0) p0
    replace p1 := kept hb (block_lt p1) p1
    replace q0 := kept hb (block_lt q0) q0
    replace q1 := kept hb (block_lt q1) q1
    replace p := Lib.hid (p.out.bel hb)
    replace q := Lib.hid (q.out.bel hb)
    replace l := Lib.hid (l.out.bel hb)
    replace bb := Lib.hid (bb.out.trans (hb.mono bb.out.size))
    clear hb
    clear ho
    go_wp2_with fail
    refine (sameSw_yes _ _ 0 _ _ [] _ l.out lw.out (by omega)).mono ?_
    rintro e w5 ⟨rfl, hb⟩
    have szw5 := hb.size
    replace p0 := kept hb (block_lt p0) p0
    replace p1 := kept hb (block_lt p1) p1
    replace q0 := kept hb (block_lt q0) q0
    replace q1 := kept hb (block_lt q1) q1
    replace p := Lib.hid (p.out.bel hb)
    replace q := Lib.hid (q.out.bel hb)
    replace l := Lib.hid (l.out.bel hb)
    replace lw := Lib.hid (lw.out.bel hb)
    replace bb := Lib.hid (bb.out.trans (hb.mono bb.out.size))
    clear hb
    go_wp2_with fail
    refine (sameSw_yes _ _ 0 _ _ [] _ l.out lw.out (by omega)).mono ?_
    rintro e w6 ⟨rfl, hb⟩
    have szw6 := hb.size
    replace p0 := kept hb (block_lt p0) p0
    replace p1 := kept hb (block_lt p1) p1
    replace q0 := kept hb (block_lt q0) q0
    replace q1 := kept hb (block_lt q1) q1
    replace p := Lib.hid (p.out.bel hb)
    replace q := Lib.hid (q.out.bel hb)
    replace l := Lib.hid (l.out.bel hb)
    replace lw := Lib.hid (lw.out.bel hb)
    replace bb := Lib.hid (bb.out.trans (hb.mono bb.out.size))
    clear hb
    go_wp2_with fail
    go_ret
    exact ⟨rfl, bb.out⟩
  obtain ⟨W, rfl, rfl, rfl, hI, hJ, hsum⟩ := same_im p.out.1 q.out.1 hv
  have hW6 := hI.w6
  have hW1 := hI.w1
  have hn1 := hI.l1
  have hn6 := hI.l6
  have hpl := path_len hI hJ hsum
  have h18 := path_18 hI hJ hsum
  have hrun := path_run hI hJ hsum
  obtain ⟨L, hL⟩ : ∃ L, pathL W n xs ys = L := ⟨_, rfl⟩
  obtain ⟨N, hN⟩ : ∃ N, L.length = N := ⟨_, rfl⟩
  rw [hL] at hpl h18 hrun
  rw [hN] at hpl h18
  replace hpl := Lib.hid hpl
  replace hrun := Lib.hid hrun
  replace hsum := Lib.hid hsum
  replace hv := Lib.hid hv
  replace hI := Lib.hid hI
  replace hJ := Lib.hid hJ
  replace hL := Lib.hid hL
  replace hN := Lib.hid hN
  refine (path_ok hI.out hJ.out hsum.out hL.out hN.out _ _ _ _ _ p.out q.out).mono ?_
  rintro e w7 ⟨⟨al, cl, rfl, ho, hcl⟩, hb⟩
  have l := Lib.hid ho
  have szw7 := hb.size
  replace p0 := kept hb (block_lt p0) p0
  replace p1 := kept hb (block_lt p1) p1
  replace q0 := kept hb (block_lt q0) q0
  replace q1 := kept hb (block_lt q1) q1
  replace p := Lib.hid (p.out.bel hb)
  replace q := Lib.hid (q.out.bel hb)
  replace bb := Lib.hid (bb.out.trans (hb.mono bb.out.size))
  clear hb
  clear ho
  go_wp2_with fail
  refine (paths_ok hI.out hJ.out hsum.out hL.out hN.out _ _ _ _ _ p.out q.out).mono ?_
  rintro e w8 ⟨⟨alw, clw, rfl, ho, hclw⟩, hb⟩
  have lw := Lib.hid ho
  have szw8 := hb.size
  replace p0 := kept hb (block_lt p0) p0
  replace p1 := kept hb (block_lt p1) p1
  replace q0 := kept hb (block_lt q0) q0
  replace q1 := kept hb (block_lt q1) q1
  replace p := Lib.hid (p.out.bel hb)
  replace q := Lib.hid (q.out.bel hb)
  replace l := Lib.hid (l.out.bel hb)
  replace bb := Lib.hid (bb.out.trans (hb.mono bb.out.size))
  clear hb
  clear ho
  go_wp2_with fail
  refine (sameSw_yes _ _ N _ _ L _ l.out lw.out (by omega)).mono ?_
  rintro e w9 ⟨rfl, hb⟩
  have szw9 := hb.size
  replace p0 := kept hb (block_lt p0) p0
  replace p1 := kept hb (block_lt p1) p1
  replace q0 := kept hb (block_lt q0) q0
  replace q1 := kept hb (block_lt q1) q1
  replace p := Lib.hid (p.out.bel hb)
  replace q := Lib.hid (q.out.bel hb)
  replace l := Lib.hid (l.out.bel hb)
  replace lw := Lib.hid (lw.out.bel hb)
  replace bb := Lib.hid (bb.out.trans (hb.mono bb.out.size))
  clear hb
  clear lw
  clear hclw hcl
  have lN : Hid ((L.map castQ).length = N) := Lib.hid (by rw [List.length_map]; exact hN.out)
  have lq := Lib.hid l.out.q
  have hrt := Lib.hid (run_turn hI.out hrun.out)
  go_wp2_with fail
  refine (turn_ok hI.out _ _ _ p.out).mono ?_
  rintro e w10 ⟨⟨ax, cx, rfl, ho⟩, hb⟩
  have x := Lib.hid ho.row
  have szw10 := hb.size
  replace p0 := kept hb (block_lt p0) p0
  replace p1 := kept hb (block_lt p1) p1
  replace q0 := kept hb (block_lt q0) q0
  replace q1 := kept hb (block_lt q1) q1
  replace p := Lib.hid (p.out.bel hb)
  replace q := Lib.hid (q.out.bel hb)
  replace l := Lib.hid (l.out.bel hb)
  replace lq := Lib.hid (lq.out.bel hb)
  replace bb := Lib.hid (bb.out.trans (hb.mono bb.out.size))
  clear hb
  clear ho
  have hbx : Below w10.heap.size w10 (w10.alloc (.cells #[.int .i64 n, .slice ax W cx] 25)) := (Below.refl _ _).alloc (Nat.le_refl _) _
  replace p0 := kept hbx (block_lt p0) p0
  replace p1 := kept hbx (block_lt p1) p1
  replace q0 := kept hbx (block_lt q0) q0
  replace q1 := kept hbx (block_lt q1) q1
  replace p := Lib.hid (p.out.bel hbx)
  replace q := Lib.hid (q.out.bel hbx)
  replace l := Lib.hid (l.out.bel hbx)
  replace lq := Lib.hid (lq.out.bel hbx)
  replace x := Lib.hid (x.out.bel hbx)
  replace bb := Lib.hid (bb.out.trans (hbx.mono bb.out.size))
  clear hbx
  have x0 : (w10.alloc (.cells #[.int .i64 n, .slice ax W cx] 25)).cell? ⟨w10.heap.size, 0, none⟩ = some (.int .i64 n) := by simp
  have x1 : (w10.alloc (.cells #[.int .i64 n, .slice ax W cx] 25)).cell? ⟨w10.heap.size, 1, none⟩ = some (.slice ax W cx) := by simp
  go_wp2_with fail
  refine (turn_ok hJ.out _ _ _ q.out).mono ?_
  rintro e w11 ⟨⟨au, cu, rfl, ho⟩, hb⟩
  have u := Lib.hid ho.row
  have szw11 : w10.heap.size + 1 ≤ w11.heap.size := by have := hb.size; simpa using this
  replace p0 := kept hb (block_lt p0) p0
  replace p1 := kept hb (block_lt p1) p1
  replace q0 := kept hb (block_lt q0) q0
  replace q1 := kept hb (block_lt q1) q1
  replace x0 := kept hb (block_lt x0) x0
  replace x1 := kept hb (block_lt x1) x1
  replace p := Lib.hid (p.out.bel hb)
  replace q := Lib.hid (q.out.bel hb)
  replace l := Lib.hid (l.out.bel hb)
  replace lq := Lib.hid (lq.out.bel hb)
  replace x := Lib.hid (x.out.bel hb)
  replace bb := Lib.hid (bb.out.trans (hb.mono bb.out.size))
  clear hb
  clear ho
  have hbx : Below w11.heap.size w11 (w11.alloc (.cells #[.int .i64 n, .slice au W cu] 25)) := (Below.refl _ _).alloc (Nat.le_refl _) _
  replace p0 := kept hbx (block_lt p0) p0
  replace p1 := kept hbx (block_lt p1) p1
  replace q0 := kept hbx (block_lt q0) q0
  replace q1 := kept hbx (block_lt q1) q1
  replace x0 := kept hbx (block_lt x0) x0
  replace x1 := kept hbx (block_lt x1) x1
  replace p := Lib.hid (p.out.bel hbx)
  replace q := Lib.hid (q.out.bel hbx)
  replace l := Lib.hid (l.out.bel hbx)
  replace lq := Lib.hid (lq.out.bel hbx)
  replace x := Lib.hid (x.out.bel hbx)
  replace u := Lib.hid (u.out.bel hbx)
  replace bb := Lib.hid (bb.out.trans (hbx.mono bb.out.size))
  clear hbx
  have u0 : (w11.alloc (.cells #[.int .i64 n, .slice au W cu] 25)).cell? ⟨w11.heap.size, 0, none⟩ = some (.int .i64 n) := by simp
  have u1 : (w11.alloc (.cells #[.int .i64 n, .slice au W cu] 25)).cell? ⟨w11.heap.size, 1, none⟩ = some (.slice au W cu) := by simp
  go_upto_region 10 with fail
  obtain ⟨w12, hwn⟩ : ∃ w12, w11.alloc (.cells #[.int .i64 n, .slice au W cu] 25) = w12 := ⟨_, rfl⟩
  have szw12 : w11.heap.size + 1 ≤ w12.heap.size := by rw [← hwn]; simp
  rw [hwn] at p0 p1 q0 q1 x0 x1 u0 u1 p q l lq x u bb
  (try rw [hwn])
  clear hwn
  have hO0 : Hid ((w12.alloc (.cells #[] 37)).ownsRow w12.heap.size 37 4 (.slice (some ⟨w12.heap.size, 0, none⟩) 0 0) 0 ((flatQ ([])).map (Value.int .i64))) := by
    have := own_none w12 w12.heap.size (Nat.le_refl _)
    exact Lib.hid (by simpa [OwnS, flatS, flatQ] using this)
  have hb0 : Hid (Below w12.heap.size w12 (w12.alloc (.cells #[] 37))) := (Below.refl _ _).alloc (Nat.le_refl _) _
  have hg0 : w12.heap.size ≤ w12.heap.size := Nat.le_refl _
  go_wp2_with fail
  go_loopw [13, 14] (fun o i wr => ∃ (k g c : Nat), k ≤ N ∧ i = .int .i64 k ∧ o = .slice (some ⟨g, 0, none⟩) k c ∧ w12.heap.size ≤ g ∧ Hid (wr.ownsRow w12.heap.size 37 4 (.slice (some ⟨g, 0, none⟩) k c) k ((flatQ (((L.map castQ).take k).map turnQ)).map (Value.int .i64))) ∧ Hid (Below w12.heap.size w12 wr)) (fun _ i _ => N - (intOf i).toNat)
  case atStart => exact ⟨0, w12.heap.size, 0, Nat.zero_le _, rfl, rfl, hg0, hO0, hb0⟩
  case round =>
    clear hO0 hb0 hg0
    obtain ⟨k, g, c, hk, rfl, rfl, hg, hO, hbK⟩ := hrel
    by_cases hlt : k < N
    case pos =>
      obtain ⟨⟨A, B, C, D⟩, hz⟩ : ∃ t, (L.map castQ)[k]'(by rw [lN.out]; exact hlt) = t := ⟨_, rfl⟩
      obtain ⟨bl, ol, ea, c0, c1, c2, c3⟩ := lq.out.at hlt hz
      cases ea
      have lbl : bl < w12.heap.size := block_lt c0
      replace c0 := kept hbK.out lbl c0
      replace c1 := kept hbK.out lbl c1
      replace c2 := kept hbK.out lbl c2
      replace c3 := kept hbK.out lbl c3
      have ng : some bl ≠ some g := by simp; omega
      have hdr : ((L.map castQ).take (k + 1)).map turnQ = ((L.map castQ).take k).map turnQ ++ [(C, D, A, B)] := by
        rw [List.take_succ_eq_append_getElem (by rw [lN.out]; exact hlt), hz, List.map_append]; rfl
      have hfl : Hid (flatQ (((L.map castQ).take (k + 1)).map turnQ) = flatQ (((L.map castQ).take k).map turnQ) ++ [C, D, A, B]) := Lib.hid (by rw [hdr, qflat_app, qflat_one])
      have hown := hO.out
      have hbz := hbK.out.size
      have jj0 : (0 : Int) ≤ (k : Int) := Int.natCast_nonneg _
      have jjn : (k : Int) < (N : Int) := by omega
      have hcc : Hid (wr.cell? ⟨bl, ol + k * 4, none⟩ = some (.int .i64 A)) := c0
      clear hdr
      go_wp2_with fail
      go_region_held3 (fun U => U.cell? ⟨bl, ol + k * 4, none⟩ = some (.int .i64 A) ∧ U.cell? ⟨bl, ol + k * 4 + 1, none⟩ = some (.int .i64 B) ∧ U.cell? ⟨bl, ol + k * 4 + 2, none⟩ = some (.int .i64 C) ∧ U.cell? ⟨bl, ol + k * 4 + 3, none⟩ = some (.int .i64 D))
        (first | exact ⟨c0, c1, c2, c3⟩ | exact ⟨World.cell?_alloc_some c0, World.cell?_alloc_some c1, World.cell?_alloc_some c2, World.cell?_alloc_some c3⟩ | go_keep | exact ⟨hgr.cell (World.cell?_alloc_some c0) ng, hgr.cell (World.cell?_alloc_some c1) ng, hgr.cell (World.cell?_alloc_some c2) ng, hgr.cell (World.cell?_alloc_some c3) ng⟩)
        (first | ((refine step_append_sw (by rfl) _ _ (by rfl) w12.heap.size g k c (flatQ (((L.map castQ).take k).map turnQ)) (by rfl) ((World.ownsRow.alloc hown _).drew) wr.heap.size (by rfl) C D A B (by simp) (by simp) (by simp) (by simp) (by omega) (by simp; omega) _ rfl ?_); intro g' c' w6 hown1 hgr hlies))
      have hb6 : Below w12.heap.size w12 w6 := ((hbK.out.alloc hbz _).drew).grown hgr (Nat.le_trans hbz (by simp)) (fun k hk => by cases hk; omega)
      have hg' : w12.heap.size ≤ g' := by rcases hlies with h | h <;> (try simp at h) <;> omega
      have hO6 : Hid (w6.ownsRow w12.heap.size 37 4 (.slice (some ⟨g', 0, none⟩) (k + 1) c') (k + 1) ((flatQ (((L.map castQ).take (k + 1)).map turnQ)).map (Value.int .i64))) := Lib.hid (by rw [hfl.out, List.map_append]; exact hown1)
      have bb6 := Lib.hid hb6
      clear hown1 hgr hlies hb6 hown c0 c1 c2 c3 hbK hcc
      go_wp2_with fail
      exact ⟨⟨k + 1, g', c', by omega, by go_num, rfl, hg', hO6, bb6⟩, by simp [intOf]; omega⟩
    have ek : N = k := by omega
    subst ek
    have bk : Hid (QRow wr (some ⟨g, 0, none⟩) N ((L.map castQ).map turnQ)) := Lib.hid (by have := qrow_of hO.out; rwa [show (L.map castQ).take N = L.map castQ by rw [← lN.out, List.take_length]] at this)
    have hb := hbK.out
    clear hO hbK
    have szwr := hb.size
    replace p0 := kept hb (block_lt p0) p0
    replace p1 := kept hb (block_lt p1) p1
    replace q0 := kept hb (block_lt q0) q0
    replace q1 := kept hb (block_lt q1) q1
    replace x0 := kept hb (block_lt x0) x0
    replace x1 := kept hb (block_lt x1) x1
    replace u0 := kept hb (block_lt u0) u0
    replace u1 := kept hb (block_lt u1) u1
    replace p := Lib.hid (p.out.bel hb)
    replace q := Lib.hid (q.out.bel hb)
    replace l := Lib.hid (l.out.bel hb)
    replace lq := Lib.hid (lq.out.bel hb)
    replace x := Lib.hid (x.out.bel hb)
    replace u := Lib.hid (u.out.bel hb)
    replace bb := Lib.hid (bb.out.trans (hb.mono bb.out.size))
    clear hb
    go_wp2_with fail
    refine (run_ok hI.out.turn hrt.out (by omega) _ _ _ _ _ x.out bk.out).mono ?_
    rintro e w13 ⟨⟨az, cz, rfl, ho⟩, hb⟩
    have z := Lib.hid ho.row
    have szw13 := hb.size
    replace p0 := kept hb (block_lt p0) p0
    replace p1 := kept hb (block_lt p1) p1
    replace q0 := kept hb (block_lt q0) q0
    replace q1 := kept hb (block_lt q1) q1
    replace x0 := kept hb (block_lt x0) x0
    replace x1 := kept hb (block_lt x1) x1
    replace u0 := kept hb (block_lt u0) u0
    replace u1 := kept hb (block_lt u1) u1
    replace p := Lib.hid (p.out.bel hb)
    replace q := Lib.hid (q.out.bel hb)
    replace l := Lib.hid (l.out.bel hb)
    replace lq := Lib.hid (lq.out.bel hb)
    replace x := Lib.hid (x.out.bel hb)
    replace u := Lib.hid (u.out.bel hb)
    replace bk := Lib.hid (bk.out.bel hb)
    replace bb := Lib.hid (bb.out.trans (hb.mono bb.out.size))
    clear hb
    clear ho
    have hbx : Below w13.heap.size w13 (w13.alloc (.cells #[.int .i64 n, .slice az W cz] 25)) := (Below.refl _ _).alloc (Nat.le_refl _) _
    replace p0 := kept hbx (block_lt p0) p0
    replace p1 := kept hbx (block_lt p1) p1
    replace q0 := kept hbx (block_lt q0) q0
    replace q1 := kept hbx (block_lt q1) q1
    replace x0 := kept hbx (block_lt x0) x0
    replace x1 := kept hbx (block_lt x1) x1
    replace u0 := kept hbx (block_lt u0) u0
    replace u1 := kept hbx (block_lt u1) u1
    replace p := Lib.hid (p.out.bel hbx)
    replace q := Lib.hid (q.out.bel hbx)
    replace l := Lib.hid (l.out.bel hbx)
    replace lq := Lib.hid (lq.out.bel hbx)
    replace x := Lib.hid (x.out.bel hbx)
    replace u := Lib.hid (u.out.bel hbx)
    replace bk := Lib.hid (bk.out.bel hbx)
    replace z := Lib.hid (z.out.bel hbx)
    replace bb := Lib.hid (bb.out.trans (hbx.mono bb.out.size))
    clear hbx
    have z0 : (w13.alloc (.cells #[.int .i64 n, .slice az W cz] 25)).cell? ⟨w13.heap.size, 0, none⟩ = some (.int .i64 n) := by simp
    have z1 : (w13.alloc (.cells #[.int .i64 n, .slice az W cz] 25)).cell? ⟨w13.heap.size, 1, none⟩ = some (.slice az W cz) := by simp
    go_wp2_with fail
    refine (sameImage_yes _ _ _ _ _ _ (turnL ys W n) _ z.out u.out (by omega)).mono ?_
    rintro e w14 ⟨rfl, hb⟩
    have szw14 : w13.heap.size + 1 ≤ w14.heap.size := by have := hb.size; simpa using this
    replace p0 := kept hb (block_lt p0) p0
    replace p1 := kept hb (block_lt p1) p1
    replace q0 := kept hb (block_lt q0) q0
    replace q1 := kept hb (block_lt q1) q1
    replace x0 := kept hb (block_lt x0) x0
    replace x1 := kept hb (block_lt x1) x1
    replace u0 := kept hb (block_lt u0) u0
    replace u1 := kept hb (block_lt u1) u1
    replace z0 := kept hb (block_lt z0) z0
    replace z1 := kept hb (block_lt z1) z1
    replace p := Lib.hid (p.out.bel hb)
    replace q := Lib.hid (q.out.bel hb)
    replace l := Lib.hid (l.out.bel hb)
    replace lq := Lib.hid (lq.out.bel hb)
    replace x := Lib.hid (x.out.bel hb)
    replace u := Lib.hid (u.out.bel hb)
    replace bk := Lib.hid (bk.out.bel hb)
    replace z := Lib.hid (z.out.bel hb)
    replace bb := Lib.hid (bb.out.trans (hb.mono bb.out.size))
    clear hb
    go_wp2_with fail
    go_ret
    exact ⟨rfl, bb.out⟩

set_option maxRecDepth 100000 in
theorem lifted (os : Os) (started : os.Started) (H : Type) (enc : TypeId × Value → H) :
    ReturnsInHanded {} Try.checked os 16 .any (Rows.fnPathTurnSpec.pre6 enc Try.prog Try.f16 Rows.fnPathTurnRow.domain false) (Rows.fnPathTurnSpec.post enc Try.prog Try.f16 false true false false) := by
  refine returnsInHanded_of_change (C := Try.checked) own started (by kernel_rfl) Try.func16
    (ChangeSpec.witness6 (enc := enc) (C := Try.checked) false ⟨#[], #[.slice none 0 0], []⟩ 8 (by kernel_rfl) (by kernel_rfl) (by kernel_rfl) (by kernel_rfl)) ?_
  intro W base args ds gs before hval0 hW hcnd _
  have hval : ∀ (j : Nat) t v, Try.f16.params[j]? = some t → args[j]? = some v → Value.okWide Try.prog W .any base t v := hval0
  have hW' := hW
  obtain ⟨p, q, hA0, hV, rfl, hfz, hnd⟩ := hW
  have hA : DataW.TrodAll enc Try.prog W 0 (fun _ => true) true Try.f16.params.toList args.toList ds p := hA0
  rw [Try.params16] at hA hval
  obtain ⟨v0, vs0, d0, ds0, p0, q0, hargs, rfl, rfl, h0, r0⟩ := trodAll_cons hA
  obtain ⟨rfl, rfl, rfl⟩ := trodAll_nil r0
  obtain rfl : args = #[v0] := by cases args; simp_all
  obtain ⟨rfl, rfl⟩ := trodVars_none hV
  have k0 := h0
  have lt0 : ∀ x ∈ p0, x.block < W.heap.size := by obtain ⟨m, hm⟩ := k0; exact DataW.trod_lt m _ _ _ hm
  obtain ⟨a0, len0, cap0, z0, rfl, w0, l0, m0⟩ := open_code (hval 0 22 v0 rfl rfl) h0
  clear hA0 hval0
  refine (walk a0 len0 cap0 z0 W w0 l0 m0).mono fun e W' ⟨he, bel⟩ => ?_
  subst he
  exact ⟨_, rfl, _, _, _, [], _, [], hW', trodAll_mk1 (shut_bool Try.underlying4 _), (trodAll_cons_mk (Below.trod laidOut (by kernel_rfl) (of_decide_eq_true (by kernel_rfl)) k0 bel lt0) trodAll_mk0), rfl, bel.frame _, fun h => by cases h⟩

theorem closed : joinedFacts Try.prog 16 Try.f16 Rows.fnPathTurnSpec Rows.fnPathTurnRow = true := by
  simp only [joinedFacts, Bool.and_eq_true]
  repeat' apply And.intro
  all_goals first | with_reducible exact mayEnterOk | (with_reducible rw [liftsFinalOk]; kernel_rfl) | (with_reducible rw [makeOk]; kernel_rfl) | kernel_rfl

theorem over : Rows.fnPathTurnRow.holds Try.pinned (OpenSpec.ofChange Rows.fnPathTurnSpec) :=
  OpenClaim.holds_of_wide 16 Try.f16 rfl rfl rfl rfl rfl rfl rfl ⟨rfl, rfl, rfl, rfl, rfl⟩ rfl rfl rfl rfl rfl (by kernel_rfl) Try.func16 closed
    (of_decide_eq_true (by kernel_rfl)) (by unfold Func.isWrapper; first | (rw [if_pos (by decide +kernel)]; kernel_rfl) | (rw [if_neg (by decide +kernel)]; exact ⟨rfl, rfl⟩))
    (fun os started H enc _ => lifted os started H enc)

theorem proved : Rows.FnPathTurnSaid := over
#print axioms proved
end Go.Proofs.Ytgamkmkpmcenpaa.LFPathTurn

