/-
  For any two slices of bytes the law FnDirPut answers true: one cell is on one line; nothing that was there is written; no condition.
-/
import Derived.Test.YtemmfnlnhekclaaO
import Derived.Test.YtemmfnlnhekclaaK
import Derived.Deep.RegionLaw
import Derived.Test.YtemmfnlnhekclaaZj
import Derived.Test.YtemmfnlnhekclaaZh
import Derived.Test.YtemmfnlnhekclaaEp
import Derived.Test.YtemmfnlnhekclaaA
namespace Go.Proofs.Ytemmfnlnhekclaa.LFDirPut
open Go.ChangeShapes Go.WideShapes Go.ChangeAt Go.RowKit Go.Joins

theorem abs_nn (x : Int) : 0 ≤ absI x := by unfold absI; split <;> omega
theorem abs_near {M L : List Int} {N : Nat} (h : sumI (fun k => absI (M.getD k 0 - L.getD k 0)) N = 1) (k : Nat) (hk : k < N) : -1 ≤ M.getD k 0 - L.getD k 0 ∧ M.getD k 0 - L.getD k 0 ≤ 1 := by
  have h1 : absI (M.getD k 0 - L.getD k 0) ≤ 1 := by
    rw [← h]
    have key : ∀ n, k < n → absI (M.getD k 0 - L.getD k 0) ≤ sumI (fun k => absI (M.getD k 0 - L.getD k 0)) n := by
      intro n hn
      induction n with
      | zero => omega
      | succ n ih =>
        have h2 : 0 ≤ sumI (fun k => absI (M.getD k 0 - L.getD k 0)) n := sum_low fun i _ => abs_nn _
        have h3 := abs_nn (M.getD n 0 - L.getD n 0)
        simp only [sumI]
        by_cases e : k = n
        · subst e; omega
        · have := ih (by omega); omega
    exact key N hk
  revert h1; unfold absI; split <;> omega
theorem abs_part {M L : List Int} {N : Nat} (h : sumI (fun k => absI (M.getD k 0 - L.getD k 0)) N = 1) {k : Nat} (hk : k ≤ N) : 0 ≤ sumI (fun k => absI (M.getD k 0 - L.getD k 0)) k ∧ sumI (fun k => absI (M.getD k 0 - L.getD k 0)) k ≤ 1000 := by
  refine ⟨sum_low fun i _ => abs_nn _, ?_⟩
  have key : ∀ n, k ≤ n → sumI (fun k => absI (M.getD k 0 - L.getD k 0)) k ≤ sumI (fun k => absI (M.getD k 0 - L.getD k 0)) n := by
    intro n hn
    induction n with
    | zero =>
      have e : k = 0 := by omega
      subst e; exact Int.le_refl _
    | succ n ih =>
      by_cases e : k = n + 1
      · subst e; exact Int.le_refl _
      · have := ih (by omega); have := abs_nn (M.getD n 0 - L.getD n 0); simp only [sumI]; omega
  have := key N hk; omega

set_option maxHeartbeats 4000000 in
set_option maxRecDepth 100000 in
theorem walk (a : Option Addr) (len cap : Nat) (zs : List Int) (a2 : Option Addr) (len2 cap2 : Nat) (zs2 : List Int) (w : World) (h : Bys w a len zs) (hl : len ≤ cap) (hm : cap ≤ 9223372036854775807) (_ : Bys w a2 len2 zs2) (_ : len2 ≤ cap2) (_ : cap2 ≤ 9223372036854775807) :
    Calls Try.prog 7 #[.slice a len cap, .slice a2 len2 cap2] w fun e w' => e = .returned (.bool true) ∧ Below w.heap.size w w' := by
  by_cases hbig : 1048576 < len
  · clear h
    go_enter Try.func7, Try.ntmps7
    go_wp2_with fail
    go_ret
    exact ⟨rfl, Below.refl _ _⟩
  by_cases hbig2 : 1048576 < len2
  · clear h
    go_enter Try.func7, Try.ntmps7
    go_wp2_with fail
    go_ret
    exact ⟨rfl, Below.refl _ _⟩
  go_enter Try.func7, Try.ntmps7
  go_wp2_with fail
  refine (draw_DrawDirSums a len cap zs _ h hl hm).mono ?_
  rintro e w1 ⟨V, s, n, cg, xs, D, rfl, hR, hn, hb1⟩
  clear h hl hm
  have bb := Lib.hid hb1
  have p := Lib.hid hR
  clear hR hb1
  have hbx : Below w1.heap.size w1 (w1.alloc (.cells #[.int .i64 V, .slice s n cg] 35)) := (Below.refl _ _).alloc (Nat.le_refl _) _
  replace p := Lib.hid (p.out.bel hbx)
  replace bb := Lib.hid (bb.out.trans (hbx.mono bb.out.size))
  clear hbx
  have p0 : (w1.alloc (.cells #[.int .i64 V, .slice s n cg] 35)).cell? ⟨w1.heap.size, 0, none⟩ = some (.int .i64 V) := by simp
  have p1 : (w1.alloc (.cells #[.int .i64 V, .slice s n cg] 35)).cell? ⟨w1.heap.size, 1, none⟩ = some (.slice s n cg) := by simp
  by_cases hv : (0 ≤ D ∧ D ≤ 7) ∧ validB V xs = true
  case neg =>
    go_wp2_with fail
    refine (ds_no hv hn.1 _ _ _ p.out).mono ?_
    rintro e w2 ⟨⟨aoo, coo, rfl, ho⟩, hb⟩
    have oo := Lib.hid ho.row
    have szw2 : w1.heap.size + 1 ≤ w2.heap.size := by have := hb.size; simpa using this
    replace p0 := kept hb (block_lt p0) p0
    replace p1 := kept hb (block_lt p1) p1
    replace p := Lib.hid (p.out.bel hb)
    replace bb := Lib.hid (bb.out.trans (hb.mono bb.out.size))
    clear hb
    clear ho
    go_wp2_with fail
    refine (ds_sno hv hn.1 _ _ _ p.out).mono ?_
    rintro e w3 ⟨⟨aow, cow, rfl, ho⟩, hb⟩
    have ow := Lib.hid ho.row
    have szw3 := hb.size
    replace p0 := kept hb (block_lt p0) p0
    replace p1 := kept hb (block_lt p1) p1
    replace p := Lib.hid (p.out.bel hb)
    replace oo := Lib.hid (oo.out.bel hb)
    replace bb := Lib.hid (bb.out.trans (hb.mono bb.out.size))
    clear hb
    clear ho
    go_wp2_with fail
    refine (same_yes _ _ _ _ _ [] _ oo.out ow.out (by omega)).mono ?_
    rintro e w4 ⟨rfl, hb⟩
    have szw4 := hb.size
    replace p0 := kept hb (block_lt p0) p0
    replace p1 := kept hb (block_lt p1) p1
    replace p := Lib.hid (p.out.bel hb)
    replace oo := Lib.hid (oo.out.bel hb)
    replace ow := Lib.hid (ow.out.bel hb)
    replace bb := Lib.hid (bb.out.trans (hb.mono bb.out.size))
    clear hb
    go_wp2_with fail
    refine (same_yes _ _ _ _ _ [] _ oo.out ow.out (by omega)).mono ?_
    rintro e w5 ⟨rfl, hb⟩
    have szw5 := hb.size
    replace p0 := kept hb (block_lt p0) p0
    replace p1 := kept hb (block_lt p1) p1
    replace p := Lib.hid (p.out.bel hb)
    replace oo := Lib.hid (oo.out.bel hb)
    replace ow := Lib.hid (ow.out.bel hb)
    replace bb := Lib.hid (bb.out.trans (hb.mono bb.out.size))
    clear hb
    go_wp2_with fail
    go_ret
    exact ⟨rfl, bb.out⟩
  obtain ⟨hD, hv2⟩ := hv
  have hI0 := validB_W hv2
  obtain ⟨W, rfl⟩ := Int.eq_ofNat_of_zero_le (by omega : 0 ≤ V)
  obtain ⟨d, rfl⟩ := Int.eq_ofNat_of_zero_le hD.1
  have hd : d < 8 := by omega
  have hI : Im W n xs := Im.of hv2 p.out.1
  clear hv2 hI0 hD
  have hW6 := hI.w6
  have hW1 := hI.w1
  have hn1 := hI.l1
  have hn6 := hI.l6
  have hNb := nmN_bd hd hn1 hn6 hW1 hW6
  have hNi := num_int hd hn1 hW1
  have hLb := Lib.hid (fun k (hk : k < numN d n W) => ds_bd hI hd hk)
  obtain ⟨L, hL⟩ : ∃ L, dsL d xs W n = L := ⟨_, rfl⟩
  obtain ⟨N, hN⟩ : ∃ N, numN d n W = N := ⟨_, rfl⟩
  rw [hN] at hNb hNi hLb
  rw [hL] at hLb
  have hN0 : ((N : Int) == 0) = false := by rw [beq_eq_false_iff_ne]; omega
  
  replace hL := Lib.hid hL
  replace hN := Lib.hid hN
  replace hI := Lib.hid hI
  replace hNi := Lib.hid hNi
  go_wp2_with fail
  refine (ds_ok hI.out hd rfl hL.out hN.out _ _ _ p.out).mono ?_
  rintro e w6 ⟨⟨aoo, coo, rfl, ho⟩, hb⟩
  have oo := Lib.hid ho.row
  have szw6 : w1.heap.size + 1 ≤ w6.heap.size := by have := hb.size; simpa using this
  replace p0 := kept hb (block_lt p0) p0
  replace p1 := kept hb (block_lt p1) p1
  replace p := Lib.hid (p.out.bel hb)
  replace bb := Lib.hid (bb.out.trans (hb.mono bb.out.size))
  clear hb
  clear ho
  go_wp2_with fail
  refine (ds_sok hI.out hd rfl hL.out hN.out _ _ _ p.out).mono ?_
  rintro e w7 ⟨⟨aow, cow, rfl, ho⟩, hb⟩
  have ow := Lib.hid ho.row
  have szw7 := hb.size
  replace p0 := kept hb (block_lt p0) p0
  replace p1 := kept hb (block_lt p1) p1
  replace p := Lib.hid (p.out.bel hb)
  replace oo := Lib.hid (oo.out.bel hb)
  replace bb := Lib.hid (bb.out.trans (hb.mono bb.out.size))
  clear hb
  clear ho
  go_wp2_with fail
  refine (same_yes _ _ _ _ _ L _ oo.out ow.out (by omega)).mono ?_
  rintro e w8 ⟨rfl, hb⟩
  have szw8 := hb.size
  replace p0 := kept hb (block_lt p0) p0
  replace p1 := kept hb (block_lt p1) p1
  replace p := Lib.hid (p.out.bel hb)
  replace oo := Lib.hid (oo.out.bel hb)
  replace ow := Lib.hid (ow.out.bel hb)
  replace bb := Lib.hid (bb.out.trans (hb.mono bb.out.size))
  clear hb
  clear ow
  have k0 : len2 % n < n := Nat.mod_lt _ (by omega)
  have l0 : len2 / n % W < W := Nat.mod_lt _ (by omega)
  have hmod : ((len2 : Int) % (n : Int)) = ((len2 % n : Nat) : Int) := (Int.natCast_emod _ _).symm
  have hmod2 : (((len2 : Int) / (n : Int)) % (W : Int)) = ((len2 / n % W : Nat) : Int) := by rw [Int.natCast_emod, Int.natCast_ediv]
  have hdiv : ((len2 : Int) / (n : Int)) = ((len2 / n : Nat) : Int) := (Int.natCast_ediv _ _).symm
  have hdl : len2 / n ≤ len2 := Nat.div_le_self _ _
  have hd0 : 0 ≤ (len2 : Int) / (n : Int) := Int.ediv_nonneg (by omega) (by omega)
  have hwd : IntKind.i64.wrap ((len2 : Int) / (n : Int)) = (len2 : Int) / (n : Int) := by rw [hdiv]; exact IntWalk.i64_in _ ⟨by omega, by omega⟩
  have hwd2 : wrap64 ((len2 : Int) / (n : Int)) = (len2 : Int) / (n : Int) := by rw [hdiv]; unfold wrap64; omega
  generalize len2 % n = i at k0 hmod
  generalize len2 / n % W = j at l0 hmod2
  have hmod3 : ((len2 : Int) / (n : Int)).tmod (W : Int) = (j : Int) := by rw [Int.tmod_eq_emod_of_nonneg hd0]; exact hmod2
  replace hmod := Lib.hid hmod
  replace hmod3 := Lib.hid hmod3
  clear hdiv hdl hmod2 hd0
  have hP := hI.out.put k0 l0 (!hasB W xs i j)
  have hO := Lib.hid (fun s cg w hR => put_ok hI.out k0 l0 (!hasB W xs i j) s cg w hR)
  have hds := ds_put hI.out hd k0 l0
  obtain ⟨B, hB⟩ : ∃ B, hasB W xs i j = B := ⟨_, rfl⟩
  rw [hB] at hO hP hds
  obtain ⟨Y, hY⟩ : ∃ Y, putL xs i j (!B) = Y := ⟨_, rfl⟩
  rw [hY] at hO hP hds
  have hMb := Lib.hid (fun k (hk : k < numN d n W) => ds_bd hP hd hk)
  obtain ⟨M, hM⟩ : ∃ M, dsL d Y W n = M := ⟨_, rfl⟩
  rw [hM, hL.out, hN.out] at hds
  rw [hM, hN.out] at hMb
  have hnr := Lib.hid (abs_near hds)
  obtain ⟨S, hS⟩ : ∃ S : Nat → Int, (fun k => sumI (fun k => absI (M.getD k 0 - L.getD k 0)) k) = S := ⟨_, rfl⟩
  have hSN : Hid (S N = 1) := by rw [← hS]; exact hds
  have hS0 : Hid (S 0 = 0) := by rw [← hS]; rfl
  have hS1 : Hid (∀ k, S (k + 1) = S k + absI (M.getD k 0 - L.getD k 0)) := fun k => by rw [← hS]; rfl
  have hSb : Hid (∀ k, k ≤ N → 0 ≤ S k ∧ S k ≤ 1000) := fun k hk => by rw [← hS]; exact abs_part hds hk
  replace hP := Lib.hid hP
  replace hM := Lib.hid hM
  replace hY := Lib.hid hY
  replace hB := Lib.hid hB
  clear hds hS
  go_wp2_with fail
  rw [hmod.out]
  go_quiet (fail)
  rw [hmod3.out]
  have hdr : Below w8.heap.size w8 (w8.drewN nq) := below_drewN (Below.refl _ _) nq
  replace p0 := kept hdr (block_lt p0) p0
  replace p1 := kept hdr (block_lt p1) p1
  replace p := Lib.hid (p.out.bel hdr)
  replace oo := Lib.hid (oo.out.bel hdr)
  replace bb := Lib.hid (bb.out.trans (hdr.mono bb.out.size))
  clear hdr hwd hwd2
  generalize hwq : w8.drewN nq = w9 at *
  clear hwq
  go_upto_region 10 with fail
  go_cut [11, 12] (fun s11 s12 wx => ∃ (kq : Nat) (aq : Option Addr) (cq : Nat), s11 = .pointer (some ⟨kq, 0, none⟩) ∧ s12 = .bool true ∧ wx.cell? ⟨w1.heap.size, 0, none⟩ = some (.int .i64 W) ∧ wx.cell? ⟨w1.heap.size, 1, none⟩ = some (.slice s n cg) ∧ wx.cell? ⟨kq, 0, none⟩ = some (.int .i64 W) ∧ wx.cell? ⟨kq, 1, none⟩ = some (.slice aq n cq) ∧ Hid (Row wx s n (xs)) ∧ Hid (Row wx aoo N (L)) ∧ Hid (Row wx aq n (Y)) ∧ Hid (Below w.heap.size w wx))
  case first =>
    have tok0 : True := trivial
    go_wp2_with fail
    replace p := Lib.hid (p.out.bel ((Below.refl _ _).drew))
    replace oo := Lib.hid (oo.out.bel ((Below.refl _ _).drew))
    replace bb := Lib.hid bb.out.drew
    have lq_p0 : w1.heap.size < w9.heap.size := block_lt p0
    go_region_held3 (fun W' => W'.cell? ⟨w1.heap.size, 0, none⟩ = some (.int .i64 W) ∧ W'.cell? ⟨w1.heap.size, 1, none⟩ = some (.slice s n cg))
      (first | exact ⟨p0, p1⟩ | exact ⟨World.cell?_alloc_some p0, World.cell?_alloc_some p1⟩ | exact ⟨set2_cell p0 ltz_p0, set2_cell p1 ltz_p1⟩ | go_keep)
      (first | (go_at_call 35; have _t := tok0; (try (first | (obtain ⟨wz, hwz⟩ : ∃ wz, wz = (w9.alloc (.cells #[.int .i64 0, .slice none 0 0] 35)).drew := ⟨_, rfl⟩; rw [← hwz]; have hbz : Below w9.drew.heap.size w9.drew wz := (by rw [hwz]; exact (Below.refl _ _).alloc (Nat.le_refl _) _); have ltz_p0 : w1.heap.size < w9.heap.size := block_lt (show w9.drew.cell? _ = _ from p0); replace p0 := kept hbz ltz_p0 (show w9.drew.cell? _ = _ from p0); have ltz_p1 : w1.heap.size < w9.heap.size := block_lt (show w9.drew.cell? _ = _ from p1); replace p1 := kept hbz ltz_p1 (show w9.drew.cell? _ = _ from p1); have ltz_p : ∀ b off, s = some ⟨b, off, none⟩ → 0 < n → b < w9.heap.size := row_lt p.out; replace p := Lib.hid (p.out.bel hbz); have ltz_oo : ∀ b off, aoo = some ⟨b, off, none⟩ → 0 < N → b < w9.heap.size := row_lt oo.out; replace oo := Lib.hid (oo.out.bel hbz); have szb : w.heap.size ≤ w9.heap.size := bb.out.size; replace bb := Lib.hid (bb.out.trans (hbz.mono bb.out.size)); have zb : Box wz w9.heap.size (.int .i64 0) (.slice none 0 0) := (by rw [hwz]; exact ⟨by simp, by simp, fun o => by simp⟩); have z0 := zb.c0; have z1 := zb.c1; have zf := zb.fz; have zb := Lib.hid zb; clear hwz hbz) | (obtain ⟨wz, hwz⟩ : ∃ wz, wz = (w9.drew.alloc (.cells #[.int .i64 0, .slice none 0 0] 35)) := ⟨_, rfl⟩; rw [← hwz]; have hbz : Below w9.drew.heap.size w9.drew wz := (by rw [hwz]; exact (Below.refl _ _).alloc (Nat.le_refl _) _); have ltz_p0 : w1.heap.size < w9.heap.size := block_lt (show w9.drew.cell? _ = _ from p0); replace p0 := kept hbz ltz_p0 (show w9.drew.cell? _ = _ from p0); have ltz_p1 : w1.heap.size < w9.heap.size := block_lt (show w9.drew.cell? _ = _ from p1); replace p1 := kept hbz ltz_p1 (show w9.drew.cell? _ = _ from p1); have ltz_p : ∀ b off, s = some ⟨b, off, none⟩ → 0 < n → b < w9.heap.size := row_lt p.out; replace p := Lib.hid (p.out.bel hbz); have ltz_oo : ∀ b off, aoo = some ⟨b, off, none⟩ → 0 < N → b < w9.heap.size := row_lt oo.out; replace oo := Lib.hid (oo.out.bel hbz); have szb : w.heap.size ≤ w9.heap.size := bb.out.size; replace bb := Lib.hid (bb.out.trans (hbz.mono bb.out.size)); have zb : Box wz w9.heap.size (.int .i64 0) (.slice none 0 0) := (by rw [hwz]; exact ⟨by simp, by simp, fun o => by simp⟩); have z0 := zb.c0; have z1 := zb.c1; have zf := zb.fz; have zb := Lib.hid zb; clear hwz hbz))); (try (have kzB := block_lt z0)); (refine (has_impl W s n cg xs i j _ p.out (by omega)).mono ?_); rw [hB.out]; rintro e w10 ⟨rfl, hb⟩; have szw10 := hb.size; (first | replace p0 := kept hb (block_lt p0) p0 | replace p0 := kept hb (block_lt (show w9.drew.cell? _ = _ from p0)) (show w9.drew.cell? _ = _ from p0)); (first | replace p1 := kept hb (block_lt p1) p1 | replace p1 := kept hb (block_lt (show w9.drew.cell? _ = _ from p1)) (show w9.drew.cell? _ = _ from p1)); replace p := Lib.hid (p.out.bel hb); replace oo := Lib.hid (oo.out.bel hb); replace bb := Lib.hid (bb.out.trans (hb.mono bb.out.size)); (try (replace zb := Lib.hid (zb.out.bel hb); replace z0 := zb.out.c0; replace z1 := zb.out.c1; replace zf := zb.out.fz)); clear hb tok0 _t; have tok1 : True := trivial) | (go_at_call 34; have _t := tok1; (try (first | (obtain ⟨wz, hwz⟩ : ∃ wz, wz = (w10.alloc (.cells #[.int .i64 0, .slice none 0 0] 35)) := ⟨_, rfl⟩; rw [← hwz]; have hbz : Below w10.heap.size w10 wz := (by rw [hwz]; exact (Below.refl _ _).alloc (Nat.le_refl _) _); have ltz_p0 : w1.heap.size < w10.heap.size := block_lt (show w10.cell? _ = _ from p0); replace p0 := kept hbz ltz_p0 (show w10.cell? _ = _ from p0); have ltz_p1 : w1.heap.size < w10.heap.size := block_lt (show w10.cell? _ = _ from p1); replace p1 := kept hbz ltz_p1 (show w10.cell? _ = _ from p1); have ltz_p : ∀ b off, s = some ⟨b, off, none⟩ → 0 < n → b < w10.heap.size := row_lt p.out; replace p := Lib.hid (p.out.bel hbz); have ltz_oo : ∀ b off, aoo = some ⟨b, off, none⟩ → 0 < N → b < w10.heap.size := row_lt oo.out; replace oo := Lib.hid (oo.out.bel hbz); have szb : w.heap.size ≤ w10.heap.size := bb.out.size; replace bb := Lib.hid (bb.out.trans (hbz.mono bb.out.size)); have zb : Box wz w10.heap.size (.int .i64 0) (.slice none 0 0) := (by rw [hwz]; exact ⟨by simp, by simp, fun o => by simp⟩); have z0 := zb.c0; have z1 := zb.c1; have zf := zb.fz; have zb := Lib.hid zb; clear hwz hbz))); (try (have kzB := block_lt z0)); (refine (hO.out _ _ _ p.out).mono ?_); rintro e w11 ⟨⟨aq, cq, rfl, ho⟩, hb⟩; have szw11 := hb.size; have hoz := Lib.hid ho; replace p0 := kept hb (block_lt p0) p0; replace p1 := kept hb (block_lt p1) p1; replace p := Lib.hid (p.out.bel hb); replace oo := Lib.hid (oo.out.bel hb); replace bb := Lib.hid (bb.out.trans (hb.mono bb.out.size)); (try (replace zb := Lib.hid (zb.out.bel hb); replace z0 := zb.out.c0; replace z1 := zb.out.c1; replace zf := zb.out.fz)); clear hb ho tok1 _t; have tok2 : True := trivial))
    all_goals
      first | (have q0 := set2_c0 (u0 := .int .i64 W) (u1 := .slice aq n cq) z0; have q1 := set2_c1 (u0 := .int .i64 W) (u1 := .slice aq n cq) z1; replace p0 := set2_cell (u0 := .int .i64 W) (u1 := .slice aq n cq) p0 ltz_p0; replace p1 := set2_cell (u0 := .int .i64 W) (u1 := .slice aq n cq) p1 ltz_p1; replace p := Lib.hid (set2_old (u0 := .int .i64 W) (u1 := .slice aq n cq) p.out ltz_p); replace oo := Lib.hid (set2_old (u0 := .int .i64 W) (u1 := .slice aq n cq) oo.out ltz_oo); have q := Lib.hid (set2_row (u0 := .int .i64 W) (u1 := .slice aq n cq) hoz.out.row (own_far hoz.out kzB)); replace bb := Lib.hid (set2_bel (u0 := .int .i64 W) (u1 := .slice aq n cq) bb.out szb)) | (have q0 : (w11.alloc (.cells #[.int .i64 W, .slice aq n cq] 35)).cell? ⟨w11.heap.size, 0, none⟩ = some (.int .i64 W) := (by simp); have q1 : (w11.alloc (.cells #[.int .i64 W, .slice aq n cq] 35)).cell? ⟨w11.heap.size, 1, none⟩ = some (.slice aq n cq) := (by simp); replace p0 := World.cell?_alloc_some (o := .cells #[.int .i64 W, .slice aq n cq] 35) p0; replace p1 := World.cell?_alloc_some (o := .cells #[.int .i64 W, .slice aq n cq] 35) p1; replace p := Lib.hid (p.out.alloc (.cells #[.int .i64 W, .slice aq n cq] 35)); replace oo := Lib.hid (oo.out.alloc (.cells #[.int .i64 W, .slice aq n cq] 35)); have q := Lib.hid (hoz.out.row.alloc (.cells #[.int .i64 W, .slice aq n cq] 35)); replace bb := Lib.hid (bb.out.alloc bb.out.size (.cells #[.int .i64 W, .slice aq n cq] 35)))
      go_wp2_with fail
      go_meet
      exact ⟨_, aq, cq, rfl, rfl, p0, p1, q0, q1, p, oo, q, bb⟩
  case rest =>
    clear p0 p1 p oo bb
    obtain ⟨kq, aq, cq, rfl, rfl, p0, p1, q0, q1, p, oo, q, bb⟩ := hcut
    go_wp2_with fail
    refine (ds_ok hP.out hd rfl hM.out hN.out _ _ _ q.out).mono ?_
    rintro e w12 ⟨⟨ax, cx, rfl, ho⟩, hb⟩
    have x := Lib.hid ho.row
    have szw12 := hb.size
    replace p0 := kept hb (block_lt p0) p0
    replace p1 := kept hb (block_lt p1) p1
    replace q0 := kept hb (block_lt q0) q0
    replace q1 := kept hb (block_lt q1) q1
    replace p := Lib.hid (p.out.bel hb)
    replace oo := Lib.hid (oo.out.bel hb)
    replace q := Lib.hid (q.out.bel hb)
    replace bb := Lib.hid (bb.out.trans (hb.mono bb.out.size))
    clear hb
    clear ho
    go_wp2_with fail
    go_loopw [14, 15] (fun c t wr => ∃ k : Nat, k ≤ N ∧ t = .int .i64 k ∧ c = .int .i64 (S k) ∧ wr.cell? ⟨w1.heap.size, 0, none⟩ = some (.int .i64 W) ∧ wr.cell? ⟨w1.heap.size, 1, none⟩ = some (.slice s n cg) ∧ wr.cell? ⟨kq, 0, none⟩ = some (.int .i64 W) ∧ wr.cell? ⟨kq, 1, none⟩ = some (.slice aq n cq) ∧ Hid (Row wr s n xs) ∧ Hid (Row wr aoo N L) ∧ Hid (Row wr aq n Y) ∧ Hid (Row wr ax N M) ∧ Hid (Below w.heap.size w wr)) (fun _ t _ => N - (intOf t).toNat)
    case atStart => exact ⟨0, Nat.zero_le _, rfl, by rw [hS0.out], p0, p1, q0, q1, p, oo, q, x, bb⟩
    case round =>
      clear p0 p1 q0 q1 p oo q x bb
      obtain ⟨k, hk, rfl, rfl, p0, p1, q0, q1, p, oo, q, x, bb⟩ := hrel
      obtain ⟨w13, rfl⟩ : ∃ w13 : World, w13 = wr := ⟨_, rfl⟩
      by_cases hlt : k < N
      case pos =>
        obtain ⟨bx, ox, ex, hc⟩ := row_at oo.out hlt
        obtain ⟨by_, oy, ey, hc'⟩ := row_at x.out hlt
        subst ex
        subst ey
        have h1 := hLb.out k hlt
        have h2 := hMb.out k hlt
        have h3 := hnr.out k hlt
        have h4 := hS1.out k
        have h5 := hSb.out k hk
        obtain ⟨v, hv0⟩ : ∃ v, L.getD k 0 = v := ⟨_, rfl⟩
        obtain ⟨u, hu0⟩ : ∃ u, M.getD k 0 = u := ⟨_, rfl⟩
        obtain ⟨f, hf0⟩ : ∃ f, S k = f := ⟨_, rfl⟩
        rw [hv0] at hc h1 h3 h4
        rw [hu0] at hc' h2 h3 h4
        rw [hf0] at h4 h5
        rw [hf0]
        obtain ⟨p1_, hp1⟩ : ∃ e, u - v = e := ⟨_, rfl⟩
        obtain ⟨p2_, hp2⟩ : ∃ e, v - u = e := ⟨_, rfl⟩
        obtain ⟨m, hm⟩ : ∃ m, absI (u - v) = m := ⟨_, rfl⟩
        rw [hm] at h4
        have hif : (if p1_ < p2_ then p2_ else p1_) = m := by rw [← hm, ← hp1, ← hp2]; unfold absI; split <;> split <;> omega
        have hmx : ∀ ts t (wx : World), (Builtin.max_ ts t #[.int .i64 p1_, .int .i64 p2_]).run Try.prog wx = .ok (.int .i64 m) wx := fun ts t wx => by
          rw [← hif]; simp [Builtin.max_, Builtin.max2]
        have hm0 : 0 ≤ m ∧ m ≤ 1 := by rw [← hm]; unfold absI; split <;> omega
        have hpb : -6 ≤ p1_ ∧ p1_ ≤ 6 := by omega
        have hpb2 : -6 ≤ p2_ ∧ p2_ ≤ 6 := by omega
        replace hv0 := Lib.hid hv0
        replace hu0 := Lib.hid hu0
        replace hf0 := Lib.hid hf0
        replace hm := Lib.hid hm
        replace h4 := Lib.hid h4
        go_wp2_with fail
        go_quiet (fail)
        have hdr : Below w13.heap.size w13 (w13.drewN nq) := below_drewN (Below.refl _ _) nq
        replace p0 := kept hdr (block_lt p0) p0
        replace p1 := kept hdr (block_lt p1) p1
        replace q0 := kept hdr (block_lt q0) q0
        replace q1 := kept hdr (block_lt q1) q1
        replace p := Lib.hid (p.out.bel hdr)
        replace oo := Lib.hid (oo.out.bel hdr)
        replace q := Lib.hid (q.out.bel hdr)
        replace x := Lib.hid (x.out.bel hdr)
        replace bb := Lib.hid (bb.out.trans (hdr.mono bb.out.size))
        clear hdr
        generalize hwq : w13.drewN nq = w14 at *
        clear hwq
        go_wp2_with fail
        skip
        exact ⟨⟨k + 1, by omega, by go_num, by rw [h4.out], p0, p1, q0, q1, p, oo, q, x, bb⟩, by simp [intOf]; omega⟩
      obtain rfl : N = k := by omega
      rw [hSN.out]
      go_wp2_with fail
      go_ret
      exact ⟨rfl, bb.out⟩

set_option maxRecDepth 100000 in
theorem lifted (os : Os) (started : os.Started) (H : Type) (enc : TypeId × Value → H) :
    ReturnsInHanded {} Try.checked os 7 .any (Rows.fnDirPutSpec.pre6 enc Try.prog Try.f7 Rows.fnDirPutRow.domain false) (Rows.fnDirPutSpec.post enc Try.prog Try.f7 false true false false) := by
  refine returnsInHanded_of_change (C := Try.checked) own started (by kernel_rfl) Try.func7
    (ChangeSpec.witness6 (enc := enc) (C := Try.checked) false ⟨#[], #[.slice none 0 0, .slice none 0 0], []⟩ 8 (by kernel_rfl) (by kernel_rfl) (by kernel_rfl) (by kernel_rfl)) ?_
  intro W base args ds gs before hval0 hW hcnd _
  have hval : ∀ (j : Nat) t v, Try.f7.params[j]? = some t → args[j]? = some v → Value.okWide Try.prog W .any base t v := hval0
  have hW' := hW
  obtain ⟨p, q, hA0, hV, rfl, hfz, hnd⟩ := hW
  have hA : DataW.TrodAll enc Try.prog W 0 (fun _ => true) true Try.f7.params.toList args.toList ds p := hA0
  rw [Try.params7] at hA hval
  obtain ⟨v0, vs0, d0, ds0, p0, q0, hargs, rfl, rfl, h0, r0⟩ := trodAll_cons hA
  obtain ⟨v1, vs1, d1, ds1, p1, q1, rfl, rfl, rfl, h1, r1⟩ := trodAll_cons r0
  obtain ⟨rfl, rfl, rfl⟩ := trodAll_nil r1
  obtain rfl : args = #[v0, v1] := by cases args; simp_all
  obtain ⟨rfl, rfl⟩ := trodVars_none hV
  have k0 := h0
  have lt0 : ∀ x ∈ p0, x.block < W.heap.size := by obtain ⟨m, hm⟩ := k0; exact DataW.trod_lt m _ _ _ hm
  obtain ⟨a0, len0, cap0, z0, rfl, w0, l0, m0⟩ := open_code (hval 0 22 v0 rfl rfl) h0
  have k1 := h1
  have lt1 : ∀ x ∈ p1, x.block < W.heap.size := by obtain ⟨m, hm⟩ := k1; exact DataW.trod_lt m _ _ _ hm
  obtain ⟨a1, len1, cap1, z1, rfl, w1, l1, m1⟩ := open_code (hval 1 22 v1 rfl rfl) h1
  clear hA0 hval0
  refine (walk a0 len0 cap0 z0 a1 len1 cap1 z1 W w0 l0 m0 w1 l1 m1).mono fun e W' ⟨he, bel⟩ => ?_
  subst he
  exact ⟨_, rfl, _, _, _, [], _, [], hW', trodAll_mk1 (shut_bool Try.underlying4 _), (trodAll_cons_mk (Below.trod laidOut (by kernel_rfl) (of_decide_eq_true (by kernel_rfl)) k0 bel lt0) (trodAll_cons_mk (Below.trod laidOut (by kernel_rfl) (of_decide_eq_true (by kernel_rfl)) k1 bel lt1) trodAll_mk0)), rfl, bel.frame _, fun h => by cases h⟩

theorem closed : joinedFacts Try.prog 7 Try.f7 Rows.fnDirPutSpec Rows.fnDirPutRow = true := by
  simp only [joinedFacts, Bool.and_eq_true]
  repeat' apply And.intro
  all_goals first | with_reducible exact mayEnterOk | (with_reducible rw [liftsFinalOk]; kernel_rfl) | (with_reducible rw [makeOk]; kernel_rfl) | kernel_rfl

theorem over : Rows.fnDirPutRow.holds Try.pinned (OpenSpec.ofChange Rows.fnDirPutSpec) :=
  OpenClaim.holds_of_wide 7 Try.f7 rfl rfl rfl rfl rfl rfl rfl ⟨rfl, rfl, rfl, rfl, rfl⟩ rfl rfl rfl rfl rfl (by kernel_rfl) Try.func7 closed
    (of_decide_eq_true (by kernel_rfl)) (by unfold Func.isWrapper; first | (rw [if_pos (by decide +kernel)]; kernel_rfl) | (rw [if_neg (by decide +kernel)]; exact ⟨rfl, rfl⟩))
    (fun os started H enc _ => lifted os started H enc)

theorem proved : Rows.FnDirPutSaid := over
#print axioms proved
end Go.Proofs.Ytemmfnlnhekclaa.LFDirPut

