/-
  For every slice of bytes the law FnDirOther answers true: other cells are on the same lines; nothing that was there is written; no condition.
-/
import Derived.Test.YtemmfnlnhekclaaO
import Derived.Test.YtemmfnlnhekclaaK
import Derived.Deep.RegionLaw
import Derived.Test.YtemmfnlnhekclaaZj
import Derived.Test.YtemmfnlnhekclaaZh
import Derived.Test.YtemmfnlnhekclaaEp
import Derived.Test.YtemmfnlnhekclaaA
import Derived.Test.YtemmfnlnhekclaaHc
namespace Go.Proofs.Ytemmfnlnhekclaa.LFDirOther
open Go.ChangeShapes Go.WideShapes Go.ChangeAt Go.RowKit Go.Joins

theorem mkz1 (w1 : World) (Wb : Int) {n : Nat} (hn : n ≤ 1048576) :
    ∃ U0 g k2, U0 = ((w1.alloc (.cells (madeCells #[.int .i64 0] n) 3)).alloc (.cells #[.int .i64 Wb, .slice (some ⟨w1.heap.size, 0, none⟩) n n] 35)).drew ∧ g = w1.heap.size ∧ k2 = w1.heap.size + 1 ∧ Below w1.heap.size w1 U0 ∧ U0.cell? ⟨k2, 0, none⟩ = some (.int .i64 Wb) ∧ U0.cell? ⟨k2, 1, none⟩ = some (.slice (some ⟨g, 0, none⟩) n n) ∧ OwnI U0 w1.heap.size (some ⟨g, 0, none⟩) n n (List.replicate n 0) ∧ k2 ≠ g ∧ w1.heap.size ≤ g :=
  ⟨_, _, _, rfl, rfl, rfl, (((Below.refl _ _).alloc (Nat.le_refl _) _).alloc (by simp) _).drew, by go_simp, by go_simp, (made_own w1 _ n (Nat.le_refl _) hn).bel (((Below.refl _ _).alloc (Nat.le_refl _) _).drew), by omega, Nat.le_refl _⟩
theorem mkz2 (w1 : World) (Wb : Int) {n : Nat} (hn : n ≤ 1048576) :
    ∃ U0 g k2, U0 = ((w1.alloc (.cells #[.int .i64 Wb, .slice (some ⟨w1.heap.size + 1, 0, none⟩) n n] 35)).alloc (.cells (madeCells #[.int .i64 0] n) 3)).drew ∧ g = w1.heap.size + 1 ∧ k2 = w1.heap.size ∧ Below w1.heap.size w1 U0 ∧ U0.cell? ⟨k2, 0, none⟩ = some (.int .i64 Wb) ∧ U0.cell? ⟨k2, 1, none⟩ = some (.slice (some ⟨g, 0, none⟩) n n) ∧ OwnI U0 w1.heap.size (some ⟨g, 0, none⟩) n n (List.replicate n 0) ∧ k2 ≠ g ∧ w1.heap.size ≤ g := by
  have ho := made_own (w1.alloc (.cells #[.int .i64 Wb, .slice (some ⟨w1.heap.size + 1, 0, none⟩) n n] 35)) w1.heap.size n (by simp) hn
  exact ⟨_, _, _, rfl, rfl, rfl, (((Below.refl _ _).alloc (Nat.le_refl _) _).alloc (by simp) _).drew, by go_simp, by go_simp, by simpa using ho.bel ((Below.refl _ _).drew), by omega, by omega⟩

set_option maxHeartbeats 4000000 in
set_option maxRecDepth 100000 in
theorem walk (a : Option Addr) (len cap : Nat) (zs : List Int) (w : World) (h : Bys w a len zs) (hl : len ≤ cap) (hm : cap ≤ 9223372036854775807) :
    Calls Try.prog 10 #[.slice a len cap] w fun e w' => e = .returned (.bool true) ∧ Below w.heap.size w w' := by
  by_cases hbig : 1048576 < len
  · clear h
    go_enter Try.func10, Try.ntmps10
    go_wp2_with fail
    go_ret
    exact ⟨rfl, Below.refl _ _⟩
  go_enter Try.func10, Try.ntmps10
  go_wp2_with fail
  refine (draw_DrawDirSums a len cap zs _ h hl hm).mono ?_
  rintro e w1 ⟨V, s, n, cg, xs, D, rfl, hR, hn, hb1⟩
  clear h hl hm
  have bb := Lib.hid hb1
  have p := Lib.hid hR
  clear hR hb1
  have hbx : Below w1.heap.size w1 (w1.alloc (.cells #[.int .i64 V, .slice s n cg] 35)) := (Below.refl _ _).alloc (Nat.le_refl _) _
  replace p := Lib.hid (p.out.bel hbx)
  replace bb := Lib.hid (bb.out.trans (hbx.mono bb.out.size))
  clear hbx
  have p0 : (w1.alloc (.cells #[.int .i64 V, .slice s n cg] 35)).cell? ⟨w1.heap.size, 0, none⟩ = some (.int .i64 V) := by simp
  have p1 : (w1.alloc (.cells #[.int .i64 V, .slice s n cg] 35)).cell? ⟨w1.heap.size, 1, none⟩ = some (.slice s n cg) := by simp
  by_cases hv : (0 ≤ D ∧ D ≤ 7) ∧ validB V xs = true
  case neg =>
    go_wp2_with fail
    refine (ds_no hv hn.1 _ _ _ p.out).mono ?_
    rintro e w2 ⟨⟨aoo, coo, rfl, ho⟩, hb⟩
    have oo := Lib.hid ho.row
    have szw2 : w1.heap.size + 1 ≤ w2.heap.size := by have := hb.size; simpa using this
    replace p0 := kept hb (block_lt p0) p0
    replace p1 := kept hb (block_lt p1) p1
    replace p := Lib.hid (p.out.bel hb)
    replace bb := Lib.hid (bb.out.trans (hb.mono bb.out.size))
    clear hb
    clear ho
    go_wp2_with fail
    refine (ds_sno hv hn.1 _ _ _ p.out).mono ?_
    rintro e w3 ⟨⟨aow, cow, rfl, ho⟩, hb⟩
    have ow := Lib.hid ho.row
    have szw3 := hb.size
    replace p0 := kept hb (block_lt p0) p0
    replace p1 := kept hb (block_lt p1) p1
    replace p := Lib.hid (p.out.bel hb)
    replace oo := Lib.hid (oo.out.bel hb)
    replace bb := Lib.hid (bb.out.trans (hb.mono bb.out.size))
    clear hb
    clear ho
    go_wp2_with fail
    refine (same_yes _ _ _ _ _ [] _ oo.out ow.out (by omega)).mono ?_
    rintro e w4 ⟨rfl, hb⟩
    have szw4 := hb.size
    replace p0 := kept hb (block_lt p0) p0
    replace p1 := kept hb (block_lt p1) p1
    replace p := Lib.hid (p.out.bel hb)
    replace oo := Lib.hid (oo.out.bel hb)
    replace ow := Lib.hid (ow.out.bel hb)
    replace bb := Lib.hid (bb.out.trans (hb.mono bb.out.size))
    clear hb
    go_wp2_with fail
    refine (same_yes _ _ _ _ _ [] _ oo.out ow.out (by omega)).mono ?_
    rintro e w5 ⟨rfl, hb⟩
    have szw5 := hb.size
    replace p0 := kept hb (block_lt p0) p0
    replace p1 := kept hb (block_lt p1) p1
    replace p := Lib.hid (p.out.bel hb)
    replace oo := Lib.hid (oo.out.bel hb)
    replace ow := Lib.hid (ow.out.bel hb)
    replace bb := Lib.hid (bb.out.trans (hb.mono bb.out.size))
    clear hb
    go_wp2_with fail
    go_ret
    exact ⟨rfl, bb.out⟩
  obtain ⟨hD, hv2⟩ := hv
  have hI0 := validB_W hv2
  obtain ⟨W, rfl⟩ := Int.eq_ofNat_of_zero_le (by omega : 0 ≤ V)
  obtain ⟨d, rfl⟩ := Int.eq_ofNat_of_zero_le hD.1
  have hd : d < 8 := by omega
  have hI : Im W n xs := Im.of hv2 p.out.1
  clear hv2 hI0 hD
  have hW6 := hI.w6
  have hW1 := hI.w1
  have hn1 := hI.l1
  have hn6 := hI.l6
  have hNb := nmN_bd hd hn1 hn6 hW1 hW6
  have hNi := num_int hd hn1 hW1
  have hLb := Lib.hid (fun k (hk : k < numN d n W) => ds_bd hI hd hk)
  obtain ⟨L, hL⟩ : ∃ L, dsL d xs W n = L := ⟨_, rfl⟩
  obtain ⟨N, hN⟩ : ∃ N, numN d n W = N := ⟨_, rfl⟩
  rw [hN] at hNb hNi hLb
  rw [hL] at hLb
  have hN0 : ((N : Int) == 0) = false := by rw [beq_eq_false_iff_ne]; omega
  have hT := hI.oth
  have hZ : Im W n (List.replicate n 0) := by
    rw [← rows_zero]
    exact ⟨hW1, hW6, hn1, hn6, rows_len _ _, fun i hi => by rw [rows_get _ hi]; have := pw_pos W; have := pw_63 hW6; omega⟩
  have hF := hZ.oth
  have hsm := fun k (hk : k < numN d n W) => ds_oth (xs := xs) (ys := othL xs W n) (zs := othL (List.replicate n 0) W n) (d := d) (k := k) (W := W) (n := n) (fun i j hi hj => hI.oth_bit hi hj) (fun i j hi hj => by
    show bitI ((othL (List.replicate n 0) W n).getD i 0) j = 1
    rw [hZ.oth_bit hi hj, ← rows_zero, rows_get _ hi]; have : bitI 0 j = 0 := by unfold bitI; simp
    rw [this]; rfl) hk
  have hMb := fun k (hk : k < numN d n W) => ds_bd hT hd hk
  obtain ⟨M, hM⟩ : ∃ M, dsL d (othL xs W n) W n = M := ⟨_, rfl⟩
  obtain ⟨Q, hQ⟩ : ∃ Q, dsL d (othL (List.replicate n 0) W n) W n = Q := ⟨_, rfl⟩
  rw [hM] at hMb
  rw [hN] at hMb hsm
  rw [hM, hQ, hL] at hsm
  replace hMb := Lib.hid hMb
  replace hsm := Lib.hid hsm
  replace hM := Lib.hid hM
  replace hQ := Lib.hid hQ
  replace hT := Lib.hid hT
  replace hZ := Lib.hid hZ
  replace hF := Lib.hid hF
  replace hL := Lib.hid hL
  replace hN := Lib.hid hN
  replace hI := Lib.hid hI
  replace hNi := Lib.hid hNi
  go_wp2_with fail
  refine (ds_ok hI.out hd rfl hL.out hN.out _ _ _ p.out).mono ?_
  rintro e w6 ⟨⟨aoo, coo, rfl, ho⟩, hb⟩
  have oo := Lib.hid ho.row
  have szw6 : w1.heap.size + 1 ≤ w6.heap.size := by have := hb.size; simpa using this
  replace p0 := kept hb (block_lt p0) p0
  replace p1 := kept hb (block_lt p1) p1
  replace p := Lib.hid (p.out.bel hb)
  replace bb := Lib.hid (bb.out.trans (hb.mono bb.out.size))
  clear hb
  clear ho
  go_wp2_with fail
  refine (ds_sok hI.out hd rfl hL.out hN.out _ _ _ p.out).mono ?_
  rintro e w7 ⟨⟨aow, cow, rfl, ho⟩, hb⟩
  have ow := Lib.hid ho.row
  have szw7 := hb.size
  replace p0 := kept hb (block_lt p0) p0
  replace p1 := kept hb (block_lt p1) p1
  replace p := Lib.hid (p.out.bel hb)
  replace oo := Lib.hid (oo.out.bel hb)
  replace bb := Lib.hid (bb.out.trans (hb.mono bb.out.size))
  clear hb
  clear ho
  go_wp2_with fail
  refine (same_yes _ _ _ _ _ L _ oo.out ow.out (by omega)).mono ?_
  rintro e w8 ⟨rfl, hb⟩
  have szw8 := hb.size
  replace p0 := kept hb (block_lt p0) p0
  replace p1 := kept hb (block_lt p1) p1
  replace p := Lib.hid (p.out.bel hb)
  replace oo := Lib.hid (oo.out.bel hb)
  replace ow := Lib.hid (ow.out.bel hb)
  replace bb := Lib.hid (bb.out.trans (hb.mono bb.out.size))
  clear hb
  clear ow
  go_wp2_with fail
  refine (other_ok hI.out _ _ _ p.out).mono ?_
  rintro e w9 ⟨⟨ab, cb, rfl, ho⟩, hb⟩
  have b := Lib.hid ho.row
  have szw9 := hb.size
  replace p0 := kept hb (block_lt p0) p0
  replace p1 := kept hb (block_lt p1) p1
  replace p := Lib.hid (p.out.bel hb)
  replace oo := Lib.hid (oo.out.bel hb)
  replace bb := Lib.hid (bb.out.trans (hb.mono bb.out.size))
  clear hb
  clear ho
  have hbx : Below w9.heap.size w9 (w9.alloc (.cells #[.int .i64 W, .slice ab n cb] 35)) := (Below.refl _ _).alloc (Nat.le_refl _) _
  replace p0 := kept hbx (block_lt p0) p0
  replace p1 := kept hbx (block_lt p1) p1
  replace p := Lib.hid (p.out.bel hbx)
  replace oo := Lib.hid (oo.out.bel hbx)
  replace b := Lib.hid (b.out.bel hbx)
  replace bb := Lib.hid (bb.out.trans (hbx.mono bb.out.size))
  clear hbx
  have b0 : (w9.alloc (.cells #[.int .i64 W, .slice ab n cb] 35)).cell? ⟨w9.heap.size, 0, none⟩ = some (.int .i64 W) := by simp
  have b1 : (w9.alloc (.cells #[.int .i64 W, .slice ab n cb] 35)).cell? ⟨w9.heap.size, 1, none⟩ = some (.slice ab n cb) := by simp
  go_wp2_with fail
  refine (ds_ok hT.out hd rfl hM.out hN.out _ _ _ b.out).mono ?_
  rintro e w10 ⟨⟨ax, cx, rfl, ho⟩, hb⟩
  have x := Lib.hid ho.row
  have szw10 : w9.heap.size + 1 ≤ w10.heap.size := by have := hb.size; simpa using this
  replace p0 := kept hb (block_lt p0) p0
  replace p1 := kept hb (block_lt p1) p1
  replace b0 := kept hb (block_lt b0) b0
  replace b1 := kept hb (block_lt b1) b1
  replace p := Lib.hid (p.out.bel hb)
  replace oo := Lib.hid (oo.out.bel hb)
  replace b := Lib.hid (b.out.bel hb)
  replace bb := Lib.hid (bb.out.trans (hb.mono bb.out.size))
  clear hb
  clear ho
  clear b0 b1 b
  have hmk := fun wx => run_make_row' (P := Try.prog) 33 3 (.int .i64 0) 8 Try.underlying33 infoInt rfl .i64 .i64 n (by omega) (by omega) wx
  go_upto_region 10 with fail
  have M1 := Lib.hid (mkz1 w10 (W : Int) (n := n) (by omega))
  have M2 := Lib.hid (mkz2 w10 (W : Int) (n := n) (by omega))
  go_region_held3 (fun W' => W'.cell? ⟨w1.heap.size, 0, none⟩ = some (.int .i64 W) ∧ W'.cell? ⟨w1.heap.size, 1, none⟩ = some (.slice s n cg))
    (first | go_keep) (fail)
  · go_upto_region 11 with fail
    obtain ⟨U0, g2, k2, eU, eg, ekk, hb, z0, z1, oz, hne, hge⟩ := M1.out
    rw [← eU, ← ekk, ← eg]
    clear M1 M2 eU eg ekk hmk hne hge
    have z := Lib.hid oz.row
    clear oz
    have szU0 := hb.size
    replace p0 := kept hb (block_lt p0) p0
    replace p1 := kept hb (block_lt p1) p1
    replace p := Lib.hid (p.out.bel hb)
    replace oo := Lib.hid (oo.out.bel hb)
    replace x := Lib.hid (x.out.bel hb)
    replace bb := Lib.hid (bb.out.trans (hb.mono bb.out.size))
    clear hb
    go_wp2_with fail
    refine (other_ok hZ.out _ _ _ z.out).mono ?_
    rintro e w11 ⟨⟨af, cf, rfl, ho⟩, hb⟩
    have f := Lib.hid ho.row
    have szw11 := hb.size
    replace p0 := kept hb (block_lt p0) p0
    replace p1 := kept hb (block_lt p1) p1
    replace z0 := kept hb (block_lt z0) z0
    replace z1 := kept hb (block_lt z1) z1
    replace p := Lib.hid (p.out.bel hb)
    replace oo := Lib.hid (oo.out.bel hb)
    replace x := Lib.hid (x.out.bel hb)
    replace z := Lib.hid (z.out.bel hb)
    replace bb := Lib.hid (bb.out.trans (hb.mono bb.out.size))
    clear hb
    clear ho
    have hbx : Below w11.heap.size w11 (w11.alloc (.cells #[.int .i64 W, .slice af n cf] 35)) := (Below.refl _ _).alloc (Nat.le_refl _) _
    replace p0 := kept hbx (block_lt p0) p0
    replace p1 := kept hbx (block_lt p1) p1
    replace z0 := kept hbx (block_lt z0) z0
    replace z1 := kept hbx (block_lt z1) z1
    replace p := Lib.hid (p.out.bel hbx)
    replace oo := Lib.hid (oo.out.bel hbx)
    replace x := Lib.hid (x.out.bel hbx)
    replace z := Lib.hid (z.out.bel hbx)
    replace f := Lib.hid (f.out.bel hbx)
    replace bb := Lib.hid (bb.out.trans (hbx.mono bb.out.size))
    clear hbx
    have f0 : (w11.alloc (.cells #[.int .i64 W, .slice af n cf] 35)).cell? ⟨w11.heap.size, 0, none⟩ = some (.int .i64 W) := by simp
    have f1 : (w11.alloc (.cells #[.int .i64 W, .slice af n cf] 35)).cell? ⟨w11.heap.size, 1, none⟩ = some (.slice af n cf) := by simp
    go_wp2_with fail
    refine (ds_ok hF.out hd rfl hQ.out hN.out _ _ _ f.out).mono ?_
    rintro e w12 ⟨⟨av, cv, rfl, ho⟩, hb⟩
    have v := Lib.hid ho.row
    have szw12 : w11.heap.size + 1 ≤ w12.heap.size := by have := hb.size; simpa using this
    replace p0 := kept hb (block_lt p0) p0
    replace p1 := kept hb (block_lt p1) p1
    replace z0 := kept hb (block_lt z0) z0
    replace z1 := kept hb (block_lt z1) z1
    replace f0 := kept hb (block_lt f0) f0
    replace f1 := kept hb (block_lt f1) f1
    replace p := Lib.hid (p.out.bel hb)
    replace oo := Lib.hid (oo.out.bel hb)
    replace x := Lib.hid (x.out.bel hb)
    replace z := Lib.hid (z.out.bel hb)
    replace f := Lib.hid (f.out.bel hb)
    replace bb := Lib.hid (bb.out.trans (hb.mono bb.out.size))
    clear hb
    clear ho
    clear f0 f1 f z0 z1 z
    go_wp2_with fail
    go_loopw [14] (fun i wr => ∃ k : Nat, k ≤ N ∧ i = .int .i64 k ∧ wr.cell? ⟨w1.heap.size, 0, none⟩ = some (.int .i64 W) ∧ wr.cell? ⟨w1.heap.size, 1, none⟩ = some (.slice s n cg) ∧ Hid (Row wr s n xs) ∧ Hid (Row wr aoo N L) ∧ Hid (Row wr ax N M) ∧ Hid (Row wr av N Q) ∧ Hid (Below w.heap.size w wr)) (fun i _ => N - (intOf i).toNat)
    case atStart => exact ⟨0, Nat.zero_le _, rfl, p0, p1, p, oo, x, v, bb⟩
    case round =>
      clear p0 p1 p oo x v bb
      obtain ⟨k, hk, rfl, p0, p1, p, oo, x, v, bb⟩ := hrel
      obtain ⟨w13, rfl⟩ : ∃ w13 : World, w13 = wr := ⟨_, rfl⟩
      by_cases hlt : k < N
      case pos =>
        obtain ⟨b1_, o1_, e1_, hc1⟩ := row_at oo.out hlt
        obtain ⟨b2_, o2_, e2_, hc2⟩ := row_at x.out hlt
        obtain ⟨b3_, o3_, e3_, hc3⟩ := row_at v.out hlt
        subst e1_
        subst e2_
        subst e3_
        have h1 := hLb.out k hlt
        have h2 := hMb.out k hlt
        have h3 := hsm.out k hlt
        obtain ⟨u1, hu1⟩ : ∃ u, L.getD k 0 = u := ⟨_, rfl⟩
        obtain ⟨u2, hu2⟩ : ∃ u, M.getD k 0 = u := ⟨_, rfl⟩
        obtain ⟨u3, hu3⟩ : ∃ u, Q.getD k 0 = u := ⟨_, rfl⟩
        rw [hu1] at hc1 h1 h3
        rw [hu2] at hc2 h2 h3
        rw [hu3] at hc3 h3
        replace hu1 := Lib.hid hu1
        replace hu2 := Lib.hid hu2
        replace hu3 := Lib.hid hu3
        go_wp2_with fail
        go_quiet (fail)
        have hdr : Below w13.heap.size w13 (w13.drewN nq) := below_drewN (Below.refl _ _) nq
        replace p0 := kept hdr (block_lt p0) p0
        replace p1 := kept hdr (block_lt p1) p1
        replace p := Lib.hid (p.out.bel hdr)
        replace oo := Lib.hid (oo.out.bel hdr)
        replace x := Lib.hid (x.out.bel hdr)
        replace v := Lib.hid (v.out.bel hdr)
        replace bb := Lib.hid (bb.out.trans (hdr.mono bb.out.size))
        clear hdr
        generalize hwq : w13.drewN nq = w14 at *
        clear hwq
        go_wp2_with fail
        skip
        exact ⟨⟨k + 1, by omega, by go_num, p0, p1, p, oo, x, v, bb⟩, by simp [intOf]; omega⟩
      obtain rfl : N = k := by omega
      clear hlt hk
      go_wp2_with fail
      go_ret
      exact ⟨rfl, bb.out⟩
  · go_upto_region 11 with fail
    obtain ⟨U0, g2, k2, eU, eg, ekk, hb, z0, z1, oz, hne, hge⟩ := M2.out
    rw [← eU, ← eg, ← ekk]
    clear M1 M2 eU eg ekk hmk hne hge
    have z := Lib.hid oz.row
    clear oz
    have szU0 := hb.size
    replace p0 := kept hb (block_lt p0) p0
    replace p1 := kept hb (block_lt p1) p1
    replace p := Lib.hid (p.out.bel hb)
    replace oo := Lib.hid (oo.out.bel hb)
    replace x := Lib.hid (x.out.bel hb)
    replace bb := Lib.hid (bb.out.trans (hb.mono bb.out.size))
    clear hb
    go_wp2_with fail
    refine (other_ok hZ.out _ _ _ z.out).mono ?_
    rintro e w11 ⟨⟨af, cf, rfl, ho⟩, hb⟩
    have f := Lib.hid ho.row
    have szw11 := hb.size
    replace p0 := kept hb (block_lt p0) p0
    replace p1 := kept hb (block_lt p1) p1
    replace z0 := kept hb (block_lt z0) z0
    replace z1 := kept hb (block_lt z1) z1
    replace p := Lib.hid (p.out.bel hb)
    replace oo := Lib.hid (oo.out.bel hb)
    replace x := Lib.hid (x.out.bel hb)
    replace z := Lib.hid (z.out.bel hb)
    replace bb := Lib.hid (bb.out.trans (hb.mono bb.out.size))
    clear hb
    clear ho
    have hbx : Below w11.heap.size w11 (w11.alloc (.cells #[.int .i64 W, .slice af n cf] 35)) := (Below.refl _ _).alloc (Nat.le_refl _) _
    replace p0 := kept hbx (block_lt p0) p0
    replace p1 := kept hbx (block_lt p1) p1
    replace z0 := kept hbx (block_lt z0) z0
    replace z1 := kept hbx (block_lt z1) z1
    replace p := Lib.hid (p.out.bel hbx)
    replace oo := Lib.hid (oo.out.bel hbx)
    replace x := Lib.hid (x.out.bel hbx)
    replace z := Lib.hid (z.out.bel hbx)
    replace f := Lib.hid (f.out.bel hbx)
    replace bb := Lib.hid (bb.out.trans (hbx.mono bb.out.size))
    clear hbx
    have f0 : (w11.alloc (.cells #[.int .i64 W, .slice af n cf] 35)).cell? ⟨w11.heap.size, 0, none⟩ = some (.int .i64 W) := by simp
    have f1 : (w11.alloc (.cells #[.int .i64 W, .slice af n cf] 35)).cell? ⟨w11.heap.size, 1, none⟩ = some (.slice af n cf) := by simp
    go_wp2_with fail
    refine (ds_ok hF.out hd rfl hQ.out hN.out _ _ _ f.out).mono ?_
    rintro e w12 ⟨⟨av, cv, rfl, ho⟩, hb⟩
    have v := Lib.hid ho.row
    have szw12 : w11.heap.size + 1 ≤ w12.heap.size := by have := hb.size; simpa using this
    replace p0 := kept hb (block_lt p0) p0
    replace p1 := kept hb (block_lt p1) p1
    replace z0 := kept hb (block_lt z0) z0
    replace z1 := kept hb (block_lt z1) z1
    replace f0 := kept hb (block_lt f0) f0
    replace f1 := kept hb (block_lt f1) f1
    replace p := Lib.hid (p.out.bel hb)
    replace oo := Lib.hid (oo.out.bel hb)
    replace x := Lib.hid (x.out.bel hb)
    replace z := Lib.hid (z.out.bel hb)
    replace f := Lib.hid (f.out.bel hb)
    replace bb := Lib.hid (bb.out.trans (hb.mono bb.out.size))
    clear hb
    clear ho
    clear f0 f1 f z0 z1 z
    go_wp2_with fail
    go_loopw [14] (fun i wr => ∃ k : Nat, k ≤ N ∧ i = .int .i64 k ∧ wr.cell? ⟨w1.heap.size, 0, none⟩ = some (.int .i64 W) ∧ wr.cell? ⟨w1.heap.size, 1, none⟩ = some (.slice s n cg) ∧ Hid (Row wr s n xs) ∧ Hid (Row wr aoo N L) ∧ Hid (Row wr ax N M) ∧ Hid (Row wr av N Q) ∧ Hid (Below w.heap.size w wr)) (fun i _ => N - (intOf i).toNat)
    case atStart => exact ⟨0, Nat.zero_le _, rfl, p0, p1, p, oo, x, v, bb⟩
    case round =>
      clear p0 p1 p oo x v bb
      obtain ⟨k, hk, rfl, p0, p1, p, oo, x, v, bb⟩ := hrel
      obtain ⟨w13, rfl⟩ : ∃ w13 : World, w13 = wr := ⟨_, rfl⟩
      by_cases hlt : k < N
      case pos =>
        obtain ⟨b1_, o1_, e1_, hc1⟩ := row_at oo.out hlt
        obtain ⟨b2_, o2_, e2_, hc2⟩ := row_at x.out hlt
        obtain ⟨b3_, o3_, e3_, hc3⟩ := row_at v.out hlt
        subst e1_
        subst e2_
        subst e3_
        have h1 := hLb.out k hlt
        have h2 := hMb.out k hlt
        have h3 := hsm.out k hlt
        obtain ⟨u1, hu1⟩ : ∃ u, L.getD k 0 = u := ⟨_, rfl⟩
        obtain ⟨u2, hu2⟩ : ∃ u, M.getD k 0 = u := ⟨_, rfl⟩
        obtain ⟨u3, hu3⟩ : ∃ u, Q.getD k 0 = u := ⟨_, rfl⟩
        rw [hu1] at hc1 h1 h3
        rw [hu2] at hc2 h2 h3
        rw [hu3] at hc3 h3
        replace hu1 := Lib.hid hu1
        replace hu2 := Lib.hid hu2
        replace hu3 := Lib.hid hu3
        go_wp2_with fail
        go_quiet (fail)
        have hdr : Below w13.heap.size w13 (w13.drewN nq) := below_drewN (Below.refl _ _) nq
        replace p0 := kept hdr (block_lt p0) p0
        replace p1 := kept hdr (block_lt p1) p1
        replace p := Lib.hid (p.out.bel hdr)
        replace oo := Lib.hid (oo.out.bel hdr)
        replace x := Lib.hid (x.out.bel hdr)
        replace v := Lib.hid (v.out.bel hdr)
        replace bb := Lib.hid (bb.out.trans (hdr.mono bb.out.size))
        clear hdr
        generalize hwq : w13.drewN nq = w14 at *
        clear hwq
        go_wp2_with fail
        skip
        exact ⟨⟨k + 1, by omega, by go_num, p0, p1, p, oo, x, v, bb⟩, by simp [intOf]; omega⟩
      obtain rfl : N = k := by omega
      clear hlt hk
      go_wp2_with fail
      go_ret
      exact ⟨rfl, bb.out⟩

set_option maxRecDepth 100000 in
theorem lifted (os : Os) (started : os.Started) (H : Type) (enc : TypeId × Value → H) :
    ReturnsInHanded {} Try.checked os 10 .any (Rows.fnDirOtherSpec.pre6 enc Try.prog Try.f10 Rows.fnDirOtherRow.domain false) (Rows.fnDirOtherSpec.post enc Try.prog Try.f10 false true false false) := by
  refine returnsInHanded_of_change (C := Try.checked) own started (by kernel_rfl) Try.func10
    (ChangeSpec.witness6 (enc := enc) (C := Try.checked) false ⟨#[], #[.slice none 0 0], []⟩ 8 (by kernel_rfl) (by kernel_rfl) (by kernel_rfl) (by kernel_rfl)) ?_
  intro W base args ds gs before hval0 hW hcnd _
  have hval : ∀ (j : Nat) t v, Try.f10.params[j]? = some t → args[j]? = some v → Value.okWide Try.prog W .any base t v := hval0
  have hW' := hW
  obtain ⟨p, q, hA0, hV, rfl, hfz, hnd⟩ := hW
  have hA : DataW.TrodAll enc Try.prog W 0 (fun _ => true) true Try.f10.params.toList args.toList ds p := hA0
  rw [Try.params10] at hA hval
  obtain ⟨v0, vs0, d0, ds0, p0, q0, hargs, rfl, rfl, h0, r0⟩ := trodAll_cons hA
  obtain ⟨rfl, rfl, rfl⟩ := trodAll_nil r0
  obtain rfl : args = #[v0] := by cases args; simp_all
  obtain ⟨rfl, rfl⟩ := trodVars_none hV
  have k0 := h0
  have lt0 : ∀ x ∈ p0, x.block < W.heap.size := by obtain ⟨m, hm⟩ := k0; exact DataW.trod_lt m _ _ _ hm
  obtain ⟨a0, len0, cap0, z0, rfl, w0, l0, m0⟩ := open_code (hval 0 22 v0 rfl rfl) h0
  clear hA0 hval0
  refine (walk a0 len0 cap0 z0 W w0 l0 m0).mono fun e W' ⟨he, bel⟩ => ?_
  subst he
  exact ⟨_, rfl, _, _, _, [], _, [], hW', trodAll_mk1 (shut_bool Try.underlying4 _), (trodAll_cons_mk (Below.trod laidOut (by kernel_rfl) (of_decide_eq_true (by kernel_rfl)) k0 bel lt0) trodAll_mk0), rfl, bel.frame _, fun h => by cases h⟩

theorem closed : joinedFacts Try.prog 10 Try.f10 Rows.fnDirOtherSpec Rows.fnDirOtherRow = true := by
  simp only [joinedFacts, Bool.and_eq_true]
  repeat' apply And.intro
  all_goals first | with_reducible exact mayEnterOk | (with_reducible rw [liftsFinalOk]; kernel_rfl) | (with_reducible rw [makeOk]; kernel_rfl) | kernel_rfl

theorem over : Rows.fnDirOtherRow.holds Try.pinned (OpenSpec.ofChange Rows.fnDirOtherSpec) :=
  OpenClaim.holds_of_wide 10 Try.f10 rfl rfl rfl rfl rfl rfl rfl ⟨rfl, rfl, rfl, rfl, rfl⟩ rfl rfl rfl rfl rfl (by kernel_rfl) Try.func10 closed
    (of_decide_eq_true (by kernel_rfl)) (by unfold Func.isWrapper; first | (rw [if_pos (by decide +kernel)]; kernel_rfl) | (rw [if_neg (by decide +kernel)]; exact ⟨rfl, rfl⟩))
    (fun os started H enc _ => lifted os started H enc)

theorem proved : Rows.FnDirOtherSaid := over
#print axioms proved
end Go.Proofs.Ytemmfnlnhekclaa.LFDirOther

