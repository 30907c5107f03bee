/-
  For any two slices of bytes the law FnRun answers true: switches done in two parts leave the same image, with the same sums; nothing that was there is written; no condition.
-/
import Derived.Test.YtgamkmkpmcenpaaO
import Derived.Test.YtgamkmkpmcenpaaK
import Derived.Deep.RegionLaw
import Derived.Test.YtgamkmkpmcenpaaWg
import Derived.Test.YtgamkmkpmcenpaaSk
namespace Go.Proofs.Ytgamkmkpmcenpaa.LFRun
open Go.ChangeShapes Go.WideShapes Go.ChangeAt Go.RowKit Go.Joins

set_option maxHeartbeats 4000000 in
set_option maxRecDepth 100000 in
theorem walk (a : Option Addr) (len cap : Nat) (zs : List Int) (a2 : Option Addr) (len2 cap2 : Nat) (zs2 : List Int) (w : World) (h : Bys w a len zs) (hl : len ≤ cap) (hm : cap ≤ 9223372036854775807) (_ : Bys w a2 len2 zs2) (_ : len2 ≤ cap2) (_ : cap2 ≤ 9223372036854775807) :
    Calls Try.prog 13 #[.slice a len cap, .slice a2 len2 cap2] w fun e w' => e = .returned (.bool true) ∧ Below w.heap.size w w' := by
  by_cases hbig : 1048576 < len
  · clear h
    go_enter Try.func13, Try.ntmps13
    go_wp2_with fail
    go_ret
    exact ⟨rfl, Below.refl _ _⟩
  by_cases hbig2 : 1048576 < len2
  · clear h
    go_enter Try.func13, Try.ntmps13
    go_wp2_with fail
    go_ret
    exact ⟨rfl, Below.refl _ _⟩
  go_enter Try.func13, Try.ntmps13
  go_wp2_with fail
  refine (draw_DrawSwitchRun a len cap zs _ h hl hm).mono ?_
  rintro e w1 ⟨V, s, n, cg, xs, gl, N, cl, L, rfl, hR, hQ, hn, hN, hb1⟩
  clear h hl hm
  have bb := Lib.hid hb1
  have p := Lib.hid hR
  have l := Lib.hid hQ
  clear hR hQ hb1
  have hbx : Below w1.heap.size w1 (w1.alloc (.cells #[.int .i64 V, .slice s n cg] 25)) := (Below.refl _ _).alloc (Nat.le_refl _) _
  replace p := Lib.hid (p.out.bel hbx)
  replace l := Lib.hid (l.out.bel hbx)
  replace bb := Lib.hid (bb.out.trans (hbx.mono bb.out.size))
  clear hbx
  have p0 : (w1.alloc (.cells #[.int .i64 V, .slice s n cg] 25)).cell? ⟨w1.heap.size, 0, none⟩ = some (.int .i64 V) := by simp
  have p1 : (w1.alloc (.cells #[.int .i64 V, .slice s n cg] 25)).cell? ⟨w1.heap.size, 1, none⟩ = some (.slice s n cg) := by simp
  rcases runOut_im (V := V) p.out.1 (L := L) with hno | ⟨W, ys, rfl, hI, hrun, hJ⟩
  case inl =>
    go_wp2_with fail
    refine (run_no hno (by omega) (by omega) _ _ _ _ _ p.out l.out).mono ?_
    rintro e w2 ⟨⟨ao, co, rfl, ho⟩, hb⟩
    have o := Lib.hid ho.row
    have szw2 : w1.heap.size + 1 ≤ w2.heap.size := by have := hb.size; simpa using this
    replace p0 := kept hb (block_lt p0) p0
    replace p1 := kept hb (block_lt p1) p1
    replace p := Lib.hid (p.out.bel hb)
    replace l := Lib.hid (l.out.bel hb)
    replace bb := Lib.hid (bb.out.trans (hb.mono bb.out.size))
    clear hb
    clear ho
    have hbx : Below w2.heap.size w2 (w2.alloc (.cells #[.int .i64 0, .slice ao 0 co] 25)) := (Below.refl _ _).alloc (Nat.le_refl _) _
    replace p0 := kept hbx (block_lt p0) p0
    replace p1 := kept hbx (block_lt p1) p1
    replace p := Lib.hid (p.out.bel hbx)
    replace l := Lib.hid (l.out.bel hbx)
    replace o := Lib.hid (o.out.bel hbx)
    replace bb := Lib.hid (bb.out.trans (hbx.mono bb.out.size))
    clear hbx
    have o0 : (w2.alloc (.cells #[.int .i64 0, .slice ao 0 co] 25)).cell? ⟨w2.heap.size, 0, none⟩ = some (.int .i64 0) := by simp
    have o1 : (w2.alloc (.cells #[.int .i64 0, .slice ao 0 co] 25)).cell? ⟨w2.heap.size, 1, none⟩ = some (.slice ao 0 co) := by simp
    go_wp2_with fail
    refine (runs_no hno (by omega) (by omega) _ _ _ _ _ p.out l.out).mono ?_
    rintro e w3 ⟨⟨aow, cow, rfl, ho⟩, hb⟩
    have ow := Lib.hid ho.row
    have szw3 : w2.heap.size + 1 ≤ w3.heap.size := by have := hb.size; simpa using this
    replace p0 := kept hb (block_lt p0) p0
    replace p1 := kept hb (block_lt p1) p1
    replace o0 := kept hb (block_lt o0) o0
    replace o1 := kept hb (block_lt o1) o1
    replace p := Lib.hid (p.out.bel hb)
    replace l := Lib.hid (l.out.bel hb)
    replace o := Lib.hid (o.out.bel hb)
    replace bb := Lib.hid (bb.out.trans (hb.mono bb.out.size))
    clear hb
    clear ho
    have hbx : Below w3.heap.size w3 (w3.alloc (.cells #[.int .i64 0, .slice aow 0 cow] 25)) := (Below.refl _ _).alloc (Nat.le_refl _) _
    replace p0 := kept hbx (block_lt p0) p0
    replace p1 := kept hbx (block_lt p1) p1
    replace o0 := kept hbx (block_lt o0) o0
    replace o1 := kept hbx (block_lt o1) o1
    replace p := Lib.hid (p.out.bel hbx)
    replace l := Lib.hid (l.out.bel hbx)
    replace o := Lib.hid (o.out.bel hbx)
    replace ow := Lib.hid (ow.out.bel hbx)
    replace bb := Lib.hid (bb.out.trans (hbx.mono bb.out.size))
    clear hbx
    have ow0 : (w3.alloc (.cells #[.int .i64 0, .slice aow 0 cow] 25)).cell? ⟨w3.heap.size, 0, none⟩ = some (.int .i64 0) := by simp
    have ow1 : (w3.alloc (.cells #[.int .i64 0, .slice aow 0 cow] 25)).cell? ⟨w3.heap.size, 1, none⟩ = some (.slice aow 0 cow) := by simp
    go_wp2_with fail
    refine (sameImage_yes _ _ _ _ _ _ [] _ o.out ow.out (by omega)).mono ?_
    rintro e w4 ⟨rfl, hb⟩
    have szw4 : w3.heap.size + 1 ≤ w4.heap.size := by have := hb.size; simpa using this
    replace p0 := kept hb (block_lt p0) p0
    replace p1 := kept hb (block_lt p1) p1
    replace o0 := kept hb (block_lt o0) o0
    replace o1 := kept hb (block_lt o1) o1
    replace ow0 := kept hb (block_lt ow0) ow0
    replace ow1 := kept hb (block_lt ow1) ow1
    replace p := Lib.hid (p.out.bel hb)
    replace l := Lib.hid (l.out.bel hb)
    replace o := Lib.hid (o.out.bel hb)
    replace ow := Lib.hid (ow.out.bel hb)
    replace bb := Lib.hid (bb.out.trans (hb.mono bb.out.size))
    clear hb
    go_wp2_with fail
    refine (sameImage_yes _ _ _ _ _ _ [] _ o.out ow.out (by omega)).mono ?_
    rintro e w5 ⟨rfl, hb⟩
    have szw5 := hb.size
    replace p0 := kept hb (block_lt p0) p0
    replace p1 := kept hb (block_lt p1) p1
    replace o0 := kept hb (block_lt o0) o0
    replace o1 := kept hb (block_lt o1) o1
    replace ow0 := kept hb (block_lt ow0) ow0
    replace ow1 := kept hb (block_lt ow1) ow1
    replace p := Lib.hid (p.out.bel hb)
    replace l := Lib.hid (l.out.bel hb)
    replace o := Lib.hid (o.out.bel hb)
    replace ow := Lib.hid (ow.out.bel hb)
    replace bb := Lib.hid (bb.out.trans (hb.mono bb.out.size))
    clear hb
    go_wp2_with fail
    go_ret
    exact ⟨rfl, bb.out⟩
  have hW6 := hI.w6
  have hW1 := hI.w1
  have hn1 := hI.l1
  have hn6 := hI.l6
  replace hI := Lib.hid hI
  replace hJ := Lib.hid hJ
  replace hrun := Lib.hid hrun
  go_wp2_with fail
  refine (run_ok hI.out hrun.out (by omega) _ _ _ _ _ p.out l.out).mono ?_
  rintro e w6 ⟨⟨ao, co, rfl, ho⟩, hb⟩
  have o := Lib.hid ho.row
  have szw6 : w1.heap.size + 1 ≤ w6.heap.size := by have := hb.size; simpa using this
  replace p0 := kept hb (block_lt p0) p0
  replace p1 := kept hb (block_lt p1) p1
  replace p := Lib.hid (p.out.bel hb)
  replace l := Lib.hid (l.out.bel hb)
  replace bb := Lib.hid (bb.out.trans (hb.mono bb.out.size))
  clear hb
  clear ho
  have hbx : Below w6.heap.size w6 (w6.alloc (.cells #[.int .i64 W, .slice ao n co] 25)) := (Below.refl _ _).alloc (Nat.le_refl _) _
  replace p0 := kept hbx (block_lt p0) p0
  replace p1 := kept hbx (block_lt p1) p1
  replace p := Lib.hid (p.out.bel hbx)
  replace l := Lib.hid (l.out.bel hbx)
  replace o := Lib.hid (o.out.bel hbx)
  replace bb := Lib.hid (bb.out.trans (hbx.mono bb.out.size))
  clear hbx
  have o0 : (w6.alloc (.cells #[.int .i64 W, .slice ao n co] 25)).cell? ⟨w6.heap.size, 0, none⟩ = some (.int .i64 W) := by simp
  have o1 : (w6.alloc (.cells #[.int .i64 W, .slice ao n co] 25)).cell? ⟨w6.heap.size, 1, none⟩ = some (.slice ao n co) := by simp
  go_wp2_with fail
  refine (runs_ok hI.out hrun.out (by omega) _ _ _ _ _ p.out l.out).mono ?_
  rintro e w7 ⟨⟨aow, cow, rfl, ho⟩, hb⟩
  have ow := Lib.hid ho.row
  have szw7 : w6.heap.size + 1 ≤ w7.heap.size := by have := hb.size; simpa using this
  replace p0 := kept hb (block_lt p0) p0
  replace p1 := kept hb (block_lt p1) p1
  replace o0 := kept hb (block_lt o0) o0
  replace o1 := kept hb (block_lt o1) o1
  replace p := Lib.hid (p.out.bel hb)
  replace l := Lib.hid (l.out.bel hb)
  replace o := Lib.hid (o.out.bel hb)
  replace bb := Lib.hid (bb.out.trans (hb.mono bb.out.size))
  clear hb
  clear ho
  have hbx : Below w7.heap.size w7 (w7.alloc (.cells #[.int .i64 W, .slice aow n cow] 25)) := (Below.refl _ _).alloc (Nat.le_refl _) _
  replace p0 := kept hbx (block_lt p0) p0
  replace p1 := kept hbx (block_lt p1) p1
  replace o0 := kept hbx (block_lt o0) o0
  replace o1 := kept hbx (block_lt o1) o1
  replace p := Lib.hid (p.out.bel hbx)
  replace l := Lib.hid (l.out.bel hbx)
  replace o := Lib.hid (o.out.bel hbx)
  replace ow := Lib.hid (ow.out.bel hbx)
  replace bb := Lib.hid (bb.out.trans (hbx.mono bb.out.size))
  clear hbx
  have ow0 : (w7.alloc (.cells #[.int .i64 W, .slice aow n cow] 25)).cell? ⟨w7.heap.size, 0, none⟩ = some (.int .i64 W) := by simp
  have ow1 : (w7.alloc (.cells #[.int .i64 W, .slice aow n cow] 25)).cell? ⟨w7.heap.size, 1, none⟩ = some (.slice aow n cow) := by simp
  go_wp2_with fail
  refine (sameImage_yes _ _ _ _ _ _ ys _ o.out ow.out (by omega)).mono ?_
  rintro e w8 ⟨rfl, hb⟩
  have szw8 : w7.heap.size + 1 ≤ w8.heap.size := by have := hb.size; simpa using this
  replace p0 := kept hb (block_lt p0) p0
  replace p1 := kept hb (block_lt p1) p1
  replace o0 := kept hb (block_lt o0) o0
  replace o1 := kept hb (block_lt o1) o1
  replace ow0 := kept hb (block_lt ow0) ow0
  replace ow1 := kept hb (block_lt ow1) ow1
  replace p := Lib.hid (p.out.bel hb)
  replace l := Lib.hid (l.out.bel hb)
  replace o := Lib.hid (o.out.bel hb)
  replace ow := Lib.hid (ow.out.bel hb)
  replace bb := Lib.hid (bb.out.trans (hb.mono bb.out.size))
  clear hb
  clear ow0 ow1 ow
  obtain ⟨k, hk⟩ : ∃ k, len2 % (N + 1) = k := ⟨_, rfl⟩
  have kN : k ≤ N := by have := Nat.mod_lt len2 (show 0 < N + 1 by omega); omega
  have hm1 : (len2 : Int) % ((N : Int) + 1) = (k : Int) := by rw [← hk, Int.natCast_emod]; rfl
  have hm2 : (len2 : Int).tmod ((N : Int) + 1) = (k : Int) := by rw [Int.tmod_eq_emod_of_nonneg (by omega)]; exact hm1
  have lN : Hid (L.length = N) := Lib.hid l.out.1
  have hcat := hrun.out
  rw [← List.take_append_drop k L, run_append] at hcat
  obtain ⟨X, hX⟩ : ∃ X, runL W xs (L.take k) = some X := by
    cases e : runL W xs (L.take k) with
    | none => rw [e] at hcat; cases hcat
    | some X => exact ⟨X, rfl⟩
  rw [hX] at hcat
  have hX2 : Hid (runL W X (L.drop k) = some ys) := hcat
  have hIX := Lib.hid (run_im hI.out hX)
  have hsm := Lib.hid (hI.out.same hJ.out (run_sum hI.out hrun.out).1 (run_sum hI.out hrun.out).2)
  have ki0 : (0 : Int) ≤ (k : Int) := Int.natCast_nonneg _
  have kiN : (k : Int) ≤ (N : Int) := by omega
  have kic : (k : Int) ≤ (cl : Int) := by omega
  replace hX := Lib.hid hX
  replace hm1 := Lib.hid hm1
  replace hm2 := Lib.hid hm2
  have lf := Lib.hid l.out.flat
  clear hk hcat
  clear l
  go_upto_region 9 with fail
  first | rw [hm1.out] | rw [hm2.out]
  clear hm1 hm2
  go_upto_region 10 with fail
  go_cut [12, 13] (fun s12 s13 wx => ∃ (kx : Nat) (ax : Option Addr) (cx : Nat), s12 = .pointer (some ⟨kx, 0, none⟩) ∧ s13 = .bool true ∧ wx.cell? ⟨w1.heap.size, 0, none⟩ = some (.int .i64 W) ∧ wx.cell? ⟨w1.heap.size, 1, none⟩ = some (.slice s n cg) ∧ wx.cell? ⟨w6.heap.size, 0, none⟩ = some (.int .i64 W) ∧ wx.cell? ⟨w6.heap.size, 1, none⟩ = some (.slice ao n co) ∧ wx.cell? ⟨kx, 0, none⟩ = some (.int .i64 W) ∧ wx.cell? ⟨kx, 1, none⟩ = some (.slice ax n cx) ∧ Hid (Row wx s n (xs)) ∧ Hid (Row wx ao n (ys)) ∧ Hid (Row wx (some ⟨gl, 0, none⟩ : Option Addr) (N * 4) (flatQ L)) ∧ Hid (Row wx ax n (X)) ∧ Hid (Below w.heap.size w wx))
  case first =>
    have tok0 : True := trivial
    go_wp2_with fail
    replace p := Lib.hid (p.out.bel ((Below.refl _ _).drew))
    replace o := Lib.hid (o.out.bel ((Below.refl _ _).drew))
    replace lf := Lib.hid (lf.out.bel ((Below.refl _ _).drew))
    replace bb := Lib.hid bb.out.drew
    have lq_p0 : w1.heap.size < w8.heap.size := block_lt p0
    have lq_o0 : w6.heap.size < w8.heap.size := block_lt o0
    go_region_held3 (fun W' => W'.cell? ⟨w1.heap.size, 0, none⟩ = some (.int .i64 W) ∧ W'.cell? ⟨w1.heap.size, 1, none⟩ = some (.slice s n cg))
      (first | exact ⟨p0, p1⟩ | exact ⟨World.cell?_alloc_some p0, World.cell?_alloc_some p1⟩ | exact ⟨set2_cell p0 ltz_p0, set2_cell p1 ltz_p1⟩ | go_keep)
      (first | (go_at_call 41; have _t := tok0; (try (first | (obtain ⟨wz, hwz⟩ : ∃ wz, wz = (w8.alloc (.cells #[.int .i64 0, .slice none 0 0] 25)).drew := ⟨_, rfl⟩; rw [← hwz]; have hbz : Below w8.drew.heap.size w8.drew wz := (by rw [hwz]; exact (Below.refl _ _).alloc (Nat.le_refl _) _); have ltz_p0 : w1.heap.size < w8.heap.size := block_lt (show w8.drew.cell? _ = _ from p0); replace p0 := kept hbz ltz_p0 (show w8.drew.cell? _ = _ from p0); have ltz_p1 : w1.heap.size < w8.heap.size := block_lt (show w8.drew.cell? _ = _ from p1); replace p1 := kept hbz ltz_p1 (show w8.drew.cell? _ = _ from p1); have ltz_o0 : w6.heap.size < w8.heap.size := block_lt (show w8.drew.cell? _ = _ from o0); replace o0 := kept hbz ltz_o0 (show w8.drew.cell? _ = _ from o0); have ltz_o1 : w6.heap.size < w8.heap.size := block_lt (show w8.drew.cell? _ = _ from o1); replace o1 := kept hbz ltz_o1 (show w8.drew.cell? _ = _ from o1); have ltz_p : ∀ b off, s = some ⟨b, off, none⟩ → 0 < n → b < w8.heap.size := row_lt p.out; replace p := Lib.hid (p.out.bel hbz); have ltz_o : ∀ b off, ao = some ⟨b, off, none⟩ → 0 < n → b < w8.heap.size := row_lt o.out; replace o := Lib.hid (o.out.bel hbz); have ltz_lf : ∀ b off, (some ⟨gl, 0, none⟩ : Option Addr) = some ⟨b, off, none⟩ → 0 < (N * 4) → b < w8.heap.size := row_lt lf.out; replace lf := Lib.hid (lf.out.bel hbz); have szb : w.heap.size ≤ w8.heap.size := bb.out.size; replace bb := Lib.hid (bb.out.trans (hbz.mono bb.out.size)); have zb : Box wz w8.heap.size (.int .i64 0) (.slice none 0 0) := (by rw [hwz]; exact ⟨by simp, by simp, fun o => by simp⟩); have z0 := zb.c0; have z1 := zb.c1; have zf := zb.fz; have zb := Lib.hid zb; clear hwz hbz) | (obtain ⟨wz, hwz⟩ : ∃ wz, wz = (w8.drew.alloc (.cells #[.int .i64 0, .slice none 0 0] 25)) := ⟨_, rfl⟩; rw [← hwz]; have hbz : Below w8.drew.heap.size w8.drew wz := (by rw [hwz]; exact (Below.refl _ _).alloc (Nat.le_refl _) _); have ltz_p0 : w1.heap.size < w8.heap.size := block_lt (show w8.drew.cell? _ = _ from p0); replace p0 := kept hbz ltz_p0 (show w8.drew.cell? _ = _ from p0); have ltz_p1 : w1.heap.size < w8.heap.size := block_lt (show w8.drew.cell? _ = _ from p1); replace p1 := kept hbz ltz_p1 (show w8.drew.cell? _ = _ from p1); have ltz_o0 : w6.heap.size < w8.heap.size := block_lt (show w8.drew.cell? _ = _ from o0); replace o0 := kept hbz ltz_o0 (show w8.drew.cell? _ = _ from o0); have ltz_o1 : w6.heap.size < w8.heap.size := block_lt (show w8.drew.cell? _ = _ from o1); replace o1 := kept hbz ltz_o1 (show w8.drew.cell? _ = _ from o1); have ltz_p : ∀ b off, s = some ⟨b, off, none⟩ → 0 < n → b < w8.heap.size := row_lt p.out; replace p := Lib.hid (p.out.bel hbz); have ltz_o : ∀ b off, ao = some ⟨b, off, none⟩ → 0 < n → b < w8.heap.size := row_lt o.out; replace o := Lib.hid (o.out.bel hbz); have ltz_lf : ∀ b off, (some ⟨gl, 0, none⟩ : Option Addr) = some ⟨b, off, none⟩ → 0 < (N * 4) → b < w8.heap.size := row_lt lf.out; replace lf := Lib.hid (lf.out.bel hbz); have szb : w.heap.size ≤ w8.heap.size := bb.out.size; replace bb := Lib.hid (bb.out.trans (hbz.mono bb.out.size)); have zb : Box wz w8.heap.size (.int .i64 0) (.slice none 0 0) := (by rw [hwz]; exact ⟨by simp, by simp, fun o => by simp⟩); have z0 := zb.c0; have z1 := zb.c1; have zf := zb.fz; have zb := Lib.hid zb; clear hwz hbz))); (try (have kzB := block_lt z0)); (refine (run_ok hI.out hX.out (by omega) _ _ _ _ _ p.out ((lf.out.q lN.out).take kN)).mono ?_); rintro e w9 ⟨⟨ax, cx, rfl, ho⟩, hb⟩; have szw9 := hb.size; have hoz := Lib.hid ho; (first | replace p0 := kept hb (block_lt p0) p0 | replace p0 := kept hb (block_lt (show w8.drew.cell? _ = _ from p0)) (show w8.drew.cell? _ = _ from p0)); (first | replace p1 := kept hb (block_lt p1) p1 | replace p1 := kept hb (block_lt (show w8.drew.cell? _ = _ from p1)) (show w8.drew.cell? _ = _ from p1)); (first | replace o0 := kept hb (block_lt o0) o0 | replace o0 := kept hb (block_lt (show w8.drew.cell? _ = _ from o0)) (show w8.drew.cell? _ = _ from o0)); (first | replace o1 := kept hb (block_lt o1) o1 | replace o1 := kept hb (block_lt (show w8.drew.cell? _ = _ from o1)) (show w8.drew.cell? _ = _ from o1)); replace p := Lib.hid (p.out.bel hb); replace o := Lib.hid (o.out.bel hb); replace lf := Lib.hid (lf.out.bel hb); replace bb := Lib.hid (bb.out.trans (hb.mono bb.out.size)); (try (replace zb := Lib.hid (zb.out.bel hb); replace z0 := zb.out.c0; replace z1 := zb.out.c1; replace zf := zb.out.fz)); clear hb ho tok0 _t; have tok1 : True := trivial))
    all_goals
      first | (have x0 := set2_c0 (u0 := .int .i64 W) (u1 := .slice ax n cx) z0; have x1 := set2_c1 (u0 := .int .i64 W) (u1 := .slice ax n cx) z1; replace p0 := set2_cell (u0 := .int .i64 W) (u1 := .slice ax n cx) p0 ltz_p0; replace p1 := set2_cell (u0 := .int .i64 W) (u1 := .slice ax n cx) p1 ltz_p1; replace o0 := set2_cell (u0 := .int .i64 W) (u1 := .slice ax n cx) o0 ltz_o0; replace o1 := set2_cell (u0 := .int .i64 W) (u1 := .slice ax n cx) o1 ltz_o1; replace p := Lib.hid (set2_old (u0 := .int .i64 W) (u1 := .slice ax n cx) p.out ltz_p); replace o := Lib.hid (set2_old (u0 := .int .i64 W) (u1 := .slice ax n cx) o.out ltz_o); replace lf := Lib.hid (set2_old (u0 := .int .i64 W) (u1 := .slice ax n cx) lf.out ltz_lf); have x := Lib.hid (set2_row (u0 := .int .i64 W) (u1 := .slice ax n cx) hoz.out.row (own_far hoz.out kzB)); replace bb := Lib.hid (set2_bel (u0 := .int .i64 W) (u1 := .slice ax n cx) bb.out szb)) | (have x0 : (w9.alloc (.cells #[.int .i64 W, .slice ax n cx] 25)).cell? ⟨w9.heap.size, 0, none⟩ = some (.int .i64 W) := (by simp); have x1 : (w9.alloc (.cells #[.int .i64 W, .slice ax n cx] 25)).cell? ⟨w9.heap.size, 1, none⟩ = some (.slice ax n cx) := (by simp); replace p0 := World.cell?_alloc_some (o := .cells #[.int .i64 W, .slice ax n cx] 25) p0; replace p1 := World.cell?_alloc_some (o := .cells #[.int .i64 W, .slice ax n cx] 25) p1; replace o0 := World.cell?_alloc_some (o := .cells #[.int .i64 W, .slice ax n cx] 25) o0; replace o1 := World.cell?_alloc_some (o := .cells #[.int .i64 W, .slice ax n cx] 25) o1; replace p := Lib.hid (p.out.alloc (.cells #[.int .i64 W, .slice ax n cx] 25)); replace o := Lib.hid (o.out.alloc (.cells #[.int .i64 W, .slice ax n cx] 25)); replace lf := Lib.hid (lf.out.alloc (.cells #[.int .i64 W, .slice ax n cx] 25)); have x := Lib.hid (hoz.out.row.alloc (.cells #[.int .i64 W, .slice ax n cx] 25)); replace bb := Lib.hid (bb.out.alloc bb.out.size (.cells #[.int .i64 W, .slice ax n cx] 25)))
      go_wp2_with fail
      go_meet
      exact ⟨_, ax, cx, rfl, rfl, p0, p1, o0, o1, x0, x1, p, o, lf, x, bb⟩
  case rest =>
    clear p0 p1 o0 o1 p o lf bb
    obtain ⟨kx, ax, cx, rfl, rfl, p0, p1, o0, o1, x0, x1, p, o, lf, x, bb⟩ := hcut
    obtain ⟨wq1, rfl⟩ : ∃ wq1 : World, wq1 = wc := ⟨_, rfl⟩
    by_cases hkc : k < cl
    case pos =>
      have hck : ¬ cl = k := by omega
      go_upto_region 11 with fail
      go_cut [14, 15] (fun s14 s15 wx => ∃ (ku : Nat) (au : Option Addr) (cu : Nat), s14 = .pointer (some ⟨ku, 0, none⟩) ∧ s15 = .bool true ∧ wx.cell? ⟨w1.heap.size, 0, none⟩ = some (.int .i64 W) ∧ wx.cell? ⟨w1.heap.size, 1, none⟩ = some (.slice s n cg) ∧ wx.cell? ⟨w6.heap.size, 0, none⟩ = some (.int .i64 W) ∧ wx.cell? ⟨w6.heap.size, 1, none⟩ = some (.slice ao n co) ∧ wx.cell? ⟨kx, 0, none⟩ = some (.int .i64 W) ∧ wx.cell? ⟨kx, 1, none⟩ = some (.slice ax n cx) ∧ wx.cell? ⟨ku, 0, none⟩ = some (.int .i64 W) ∧ wx.cell? ⟨ku, 1, none⟩ = some (.slice au n cu) ∧ Hid (Row wx s n (xs)) ∧ Hid (Row wx ao n (ys)) ∧ Hid (Row wx (some ⟨gl, 0, none⟩ : Option Addr) (N * 4) (flatQ L)) ∧ Hid (Row wx ax n (X)) ∧ Hid (Row wx au n (ys)) ∧ Hid (Below w.heap.size w wx))
      case first =>
        have tok0 : True := trivial
        go_wp2_with fail
        replace p := Lib.hid (p.out.bel ((Below.refl _ _).drew))
        replace o := Lib.hid (o.out.bel ((Below.refl _ _).drew))
        replace lf := Lib.hid (lf.out.bel ((Below.refl _ _).drew))
        replace x := Lib.hid (x.out.bel ((Below.refl _ _).drew))
        replace bb := Lib.hid bb.out.drew
        have lq_p0 : w1.heap.size < wq1.heap.size := block_lt p0
        have lq_o0 : w6.heap.size < wq1.heap.size := block_lt o0
        have lq_x0 : kx < wq1.heap.size := block_lt x0
        go_region_held3 (fun W' => W'.cell? ⟨kx, 0, none⟩ = some (.int .i64 W) ∧ W'.cell? ⟨kx, 1, none⟩ = some (.slice ax n cx))
          (first | exact ⟨x0, x1⟩ | exact ⟨World.cell?_alloc_some x0, World.cell?_alloc_some x1⟩ | exact ⟨set2_cell x0 ltz_x0, set2_cell x1 ltz_x1⟩ | go_keep)
          (first | (go_at_call 41; have _t := tok0; (try (first | (obtain ⟨wz, hwz⟩ : ∃ wz, wz = (wq1.alloc (.cells #[.int .i64 0, .slice none 0 0] 25)).drew := ⟨_, rfl⟩; rw [← hwz]; have hbz : Below wq1.drew.heap.size wq1.drew wz := (by rw [hwz]; exact (Below.refl _ _).alloc (Nat.le_refl _) _); have ltz_p0 : w1.heap.size < wq1.heap.size := block_lt (show wq1.drew.cell? _ = _ from p0); replace p0 := kept hbz ltz_p0 (show wq1.drew.cell? _ = _ from p0); have ltz_p1 : w1.heap.size < wq1.heap.size := block_lt (show wq1.drew.cell? _ = _ from p1); replace p1 := kept hbz ltz_p1 (show wq1.drew.cell? _ = _ from p1); have ltz_o0 : w6.heap.size < wq1.heap.size := block_lt (show wq1.drew.cell? _ = _ from o0); replace o0 := kept hbz ltz_o0 (show wq1.drew.cell? _ = _ from o0); have ltz_o1 : w6.heap.size < wq1.heap.size := block_lt (show wq1.drew.cell? _ = _ from o1); replace o1 := kept hbz ltz_o1 (show wq1.drew.cell? _ = _ from o1); have ltz_x0 : kx < wq1.heap.size := block_lt (show wq1.drew.cell? _ = _ from x0); replace x0 := kept hbz ltz_x0 (show wq1.drew.cell? _ = _ from x0); have ltz_x1 : kx < wq1.heap.size := block_lt (show wq1.drew.cell? _ = _ from x1); replace x1 := kept hbz ltz_x1 (show wq1.drew.cell? _ = _ from x1); have ltz_p : ∀ b off, s = some ⟨b, off, none⟩ → 0 < n → b < wq1.heap.size := row_lt p.out; replace p := Lib.hid (p.out.bel hbz); have ltz_o : ∀ b off, ao = some ⟨b, off, none⟩ → 0 < n → b < wq1.heap.size := row_lt o.out; replace o := Lib.hid (o.out.bel hbz); have ltz_lf : ∀ b off, (some ⟨gl, 0, none⟩ : Option Addr) = some ⟨b, off, none⟩ → 0 < (N * 4) → b < wq1.heap.size := row_lt lf.out; replace lf := Lib.hid (lf.out.bel hbz); have ltz_x : ∀ b off, ax = some ⟨b, off, none⟩ → 0 < n → b < wq1.heap.size := row_lt x.out; replace x := Lib.hid (x.out.bel hbz); have szb : w.heap.size ≤ wq1.heap.size := bb.out.size; replace bb := Lib.hid (bb.out.trans (hbz.mono bb.out.size)); have zb : Box wz wq1.heap.size (.int .i64 0) (.slice none 0 0) := (by rw [hwz]; exact ⟨by simp, by simp, fun o => by simp⟩); have z0 := zb.c0; have z1 := zb.c1; have zf := zb.fz; have zb := Lib.hid zb; clear hwz hbz) | (obtain ⟨wz, hwz⟩ : ∃ wz, wz = (wq1.drew.alloc (.cells #[.int .i64 0, .slice none 0 0] 25)) := ⟨_, rfl⟩; rw [← hwz]; have hbz : Below wq1.drew.heap.size wq1.drew wz := (by rw [hwz]; exact (Below.refl _ _).alloc (Nat.le_refl _) _); have ltz_p0 : w1.heap.size < wq1.heap.size := block_lt (show wq1.drew.cell? _ = _ from p0); replace p0 := kept hbz ltz_p0 (show wq1.drew.cell? _ = _ from p0); have ltz_p1 : w1.heap.size < wq1.heap.size := block_lt (show wq1.drew.cell? _ = _ from p1); replace p1 := kept hbz ltz_p1 (show wq1.drew.cell? _ = _ from p1); have ltz_o0 : w6.heap.size < wq1.heap.size := block_lt (show wq1.drew.cell? _ = _ from o0); replace o0 := kept hbz ltz_o0 (show wq1.drew.cell? _ = _ from o0); have ltz_o1 : w6.heap.size < wq1.heap.size := block_lt (show wq1.drew.cell? _ = _ from o1); replace o1 := kept hbz ltz_o1 (show wq1.drew.cell? _ = _ from o1); have ltz_x0 : kx < wq1.heap.size := block_lt (show wq1.drew.cell? _ = _ from x0); replace x0 := kept hbz ltz_x0 (show wq1.drew.cell? _ = _ from x0); have ltz_x1 : kx < wq1.heap.size := block_lt (show wq1.drew.cell? _ = _ from x1); replace x1 := kept hbz ltz_x1 (show wq1.drew.cell? _ = _ from x1); have ltz_p : ∀ b off, s = some ⟨b, off, none⟩ → 0 < n → b < wq1.heap.size := row_lt p.out; replace p := Lib.hid (p.out.bel hbz); have ltz_o : ∀ b off, ao = some ⟨b, off, none⟩ → 0 < n → b < wq1.heap.size := row_lt o.out; replace o := Lib.hid (o.out.bel hbz); have ltz_lf : ∀ b off, (some ⟨gl, 0, none⟩ : Option Addr) = some ⟨b, off, none⟩ → 0 < (N * 4) → b < wq1.heap.size := row_lt lf.out; replace lf := Lib.hid (lf.out.bel hbz); have ltz_x : ∀ b off, ax = some ⟨b, off, none⟩ → 0 < n → b < wq1.heap.size := row_lt x.out; replace x := Lib.hid (x.out.bel hbz); have szb : w.heap.size ≤ wq1.heap.size := bb.out.size; replace bb := Lib.hid (bb.out.trans (hbz.mono bb.out.size)); have zb : Box wz wq1.heap.size (.int .i64 0) (.slice none 0 0) := (by rw [hwz]; exact ⟨by simp, by simp, fun o => by simp⟩); have z0 := zb.c0; have z1 := zb.c1; have zf := zb.fz; have zb := Lib.hid zb; clear hwz hbz))); (try (have kzB := block_lt z0)); (refine (run_ok hIX.out hX2.out (by omega) _ _ _ _ _ x.out (by have hd := (lf.out.q lN.out).drop kN; rwa [Nat.zero_add] at hd)).mono ?_); rintro e w10 ⟨⟨au, cu, rfl, ho⟩, hb⟩; have szw10 := hb.size; have hoz := Lib.hid ho; (first | replace p0 := kept hb (block_lt p0) p0 | replace p0 := kept hb (block_lt (show wq1.drew.cell? _ = _ from p0)) (show wq1.drew.cell? _ = _ from p0)); (first | replace p1 := kept hb (block_lt p1) p1 | replace p1 := kept hb (block_lt (show wq1.drew.cell? _ = _ from p1)) (show wq1.drew.cell? _ = _ from p1)); (first | replace o0 := kept hb (block_lt o0) o0 | replace o0 := kept hb (block_lt (show wq1.drew.cell? _ = _ from o0)) (show wq1.drew.cell? _ = _ from o0)); (first | replace o1 := kept hb (block_lt o1) o1 | replace o1 := kept hb (block_lt (show wq1.drew.cell? _ = _ from o1)) (show wq1.drew.cell? _ = _ from o1)); (first | replace x0 := kept hb (block_lt x0) x0 | replace x0 := kept hb (block_lt (show wq1.drew.cell? _ = _ from x0)) (show wq1.drew.cell? _ = _ from x0)); (first | replace x1 := kept hb (block_lt x1) x1 | replace x1 := kept hb (block_lt (show wq1.drew.cell? _ = _ from x1)) (show wq1.drew.cell? _ = _ from x1)); replace p := Lib.hid (p.out.bel hb); replace o := Lib.hid (o.out.bel hb); replace lf := Lib.hid (lf.out.bel hb); replace x := Lib.hid (x.out.bel hb); replace bb := Lib.hid (bb.out.trans (hb.mono bb.out.size)); (try (replace zb := Lib.hid (zb.out.bel hb); replace z0 := zb.out.c0; replace z1 := zb.out.c1; replace zf := zb.out.fz)); clear hb ho tok0 _t; have tok1 : True := trivial))
        all_goals
          first | (have u0 := set2_c0 (u0 := .int .i64 W) (u1 := .slice au n cu) z0; have u1 := set2_c1 (u0 := .int .i64 W) (u1 := .slice au n cu) z1; replace p0 := set2_cell (u0 := .int .i64 W) (u1 := .slice au n cu) p0 ltz_p0; replace p1 := set2_cell (u0 := .int .i64 W) (u1 := .slice au n cu) p1 ltz_p1; replace o0 := set2_cell (u0 := .int .i64 W) (u1 := .slice au n cu) o0 ltz_o0; replace o1 := set2_cell (u0 := .int .i64 W) (u1 := .slice au n cu) o1 ltz_o1; replace x0 := set2_cell (u0 := .int .i64 W) (u1 := .slice au n cu) x0 ltz_x0; replace x1 := set2_cell (u0 := .int .i64 W) (u1 := .slice au n cu) x1 ltz_x1; replace p := Lib.hid (set2_old (u0 := .int .i64 W) (u1 := .slice au n cu) p.out ltz_p); replace o := Lib.hid (set2_old (u0 := .int .i64 W) (u1 := .slice au n cu) o.out ltz_o); replace lf := Lib.hid (set2_old (u0 := .int .i64 W) (u1 := .slice au n cu) lf.out ltz_lf); replace x := Lib.hid (set2_old (u0 := .int .i64 W) (u1 := .slice au n cu) x.out ltz_x); have u := Lib.hid (set2_row (u0 := .int .i64 W) (u1 := .slice au n cu) hoz.out.row (own_far hoz.out kzB)); replace bb := Lib.hid (set2_bel (u0 := .int .i64 W) (u1 := .slice au n cu) bb.out szb)) | (have u0 : (w10.alloc (.cells #[.int .i64 W, .slice au n cu] 25)).cell? ⟨w10.heap.size, 0, none⟩ = some (.int .i64 W) := (by simp); have u1 : (w10.alloc (.cells #[.int .i64 W, .slice au n cu] 25)).cell? ⟨w10.heap.size, 1, none⟩ = some (.slice au n cu) := (by simp); replace p0 := World.cell?_alloc_some (o := .cells #[.int .i64 W, .slice au n cu] 25) p0; replace p1 := World.cell?_alloc_some (o := .cells #[.int .i64 W, .slice au n cu] 25) p1; replace o0 := World.cell?_alloc_some (o := .cells #[.int .i64 W, .slice au n cu] 25) o0; replace o1 := World.cell?_alloc_some (o := .cells #[.int .i64 W, .slice au n cu] 25) o1; replace x0 := World.cell?_alloc_some (o := .cells #[.int .i64 W, .slice au n cu] 25) x0; replace x1 := World.cell?_alloc_some (o := .cells #[.int .i64 W, .slice au n cu] 25) x1; replace p := Lib.hid (p.out.alloc (.cells #[.int .i64 W, .slice au n cu] 25)); replace o := Lib.hid (o.out.alloc (.cells #[.int .i64 W, .slice au n cu] 25)); replace lf := Lib.hid (lf.out.alloc (.cells #[.int .i64 W, .slice au n cu] 25)); replace x := Lib.hid (x.out.alloc (.cells #[.int .i64 W, .slice au n cu] 25)); have u := Lib.hid (hoz.out.row.alloc (.cells #[.int .i64 W, .slice au n cu] 25)); replace bb := Lib.hid (bb.out.alloc bb.out.size (.cells #[.int .i64 W, .slice au n cu] 25)))
          go_wp2_with fail
          go_meet
          exact ⟨_, au, cu, rfl, rfl, p0, p1, o0, o1, x0, x1, u0, u1, p, o, lf, x, u, bb⟩
      case rest =>
        clear p0 p1 o0 o1 x0 x1 p o lf x bb
        obtain ⟨ku, au, cu, rfl, rfl, p0, p1, o0, o1, x0, x1, u0, u1, p, o, lf, x, u, bb⟩ := hcut
        go_wp2_with fail
        refine (sameImage_yes _ _ _ _ _ _ ys _ u.out o.out (by omega)).mono ?_
        rintro e w11 ⟨rfl, hb⟩
        have szw11 := hb.size
        replace p0 := kept hb (block_lt p0) p0
        replace p1 := kept hb (block_lt p1) p1
        replace o0 := kept hb (block_lt o0) o0
        replace o1 := kept hb (block_lt o1) o1
        replace x0 := kept hb (block_lt x0) x0
        replace x1 := kept hb (block_lt x1) x1
        replace u0 := kept hb (block_lt u0) u0
        replace u1 := kept hb (block_lt u1) u1
        replace p := Lib.hid (p.out.bel hb)
        replace o := Lib.hid (o.out.bel hb)
        replace lf := Lib.hid (lf.out.bel hb)
        replace x := Lib.hid (x.out.bel hb)
        replace u := Lib.hid (u.out.bel hb)
        replace bb := Lib.hid (bb.out.trans (hb.mono bb.out.size))
        clear hb
        go_wp2_with fail
        refine (same_impl _ _ _ _ _ _ _ _ xs ys _ p.out o.out (by omega) (by omega)).mono ?_
        rintro e w12 ⟨rfl, hb⟩
        have szw12 := hb.size
        replace p0 := kept hb (block_lt p0) p0
        replace p1 := kept hb (block_lt p1) p1
        replace o0 := kept hb (block_lt o0) o0
        replace o1 := kept hb (block_lt o1) o1
        replace x0 := kept hb (block_lt x0) x0
        replace x1 := kept hb (block_lt x1) x1
        replace u0 := kept hb (block_lt u0) u0
        replace u1 := kept hb (block_lt u1) u1
        replace p := Lib.hid (p.out.bel hb)
        replace o := Lib.hid (o.out.bel hb)
        replace lf := Lib.hid (lf.out.bel hb)
        replace x := Lib.hid (x.out.bel hb)
        replace u := Lib.hid (u.out.bel hb)
        replace bb := Lib.hid (bb.out.trans (hb.mono bb.out.size))
        clear hb
        rw [hsm.out]
        go_wp2_with fail
        go_ret
        exact ⟨rfl, bb.out⟩
    have ecl : cl = k := by omega
    have eN : N = k := by omega
    subst ecl
    subst eN
    have hd0 : L.drop N = [] := by rw [← lN.out, List.drop_length]
    rw [hd0] at hX2
    clear hd0
    go_upto_region 11 with fail
    go_cut [14, 15] (fun s14 s15 wx => ∃ (ku : Nat) (au : Option Addr) (cu : Nat), s14 = .pointer (some ⟨ku, 0, none⟩) ∧ s15 = .bool true ∧ wx.cell? ⟨w1.heap.size, 0, none⟩ = some (.int .i64 W) ∧ wx.cell? ⟨w1.heap.size, 1, none⟩ = some (.slice s n cg) ∧ wx.cell? ⟨w6.heap.size, 0, none⟩ = some (.int .i64 W) ∧ wx.cell? ⟨w6.heap.size, 1, none⟩ = some (.slice ao n co) ∧ wx.cell? ⟨kx, 0, none⟩ = some (.int .i64 W) ∧ wx.cell? ⟨kx, 1, none⟩ = some (.slice ax n cx) ∧ wx.cell? ⟨ku, 0, none⟩ = some (.int .i64 W) ∧ wx.cell? ⟨ku, 1, none⟩ = some (.slice au n cu) ∧ Hid (Row wx s n (xs)) ∧ Hid (Row wx ao n (ys)) ∧ Hid (Row wx (some ⟨gl, 0, none⟩ : Option Addr) (N * 4) (flatQ L)) ∧ Hid (Row wx ax n (X)) ∧ Hid (Row wx au n (ys)) ∧ Hid (Below w.heap.size w wx))
    case first =>
      have tok0 : True := trivial
      go_wp2_with fail
      replace p := Lib.hid (p.out.bel ((Below.refl _ _).drew))
      replace o := Lib.hid (o.out.bel ((Below.refl _ _).drew))
      replace lf := Lib.hid (lf.out.bel ((Below.refl _ _).drew))
      replace x := Lib.hid (x.out.bel ((Below.refl _ _).drew))
      replace bb := Lib.hid bb.out.drew
      have lq_p0 : w1.heap.size < wq1.heap.size := block_lt p0
      have lq_o0 : w6.heap.size < wq1.heap.size := block_lt o0
      have lq_x0 : kx < wq1.heap.size := block_lt x0
      go_region_held3 (fun W' => W'.cell? ⟨kx, 0, none⟩ = some (.int .i64 W) ∧ W'.cell? ⟨kx, 1, none⟩ = some (.slice ax n cx))
        (first | exact ⟨x0, x1⟩ | exact ⟨World.cell?_alloc_some x0, World.cell?_alloc_some x1⟩ | exact ⟨set2_cell x0 ltz_x0, set2_cell x1 ltz_x1⟩ | go_keep)
        (first | (go_at_call 41; have _t := tok0; (try (first | (obtain ⟨wz, hwz⟩ : ∃ wz, wz = (wq1.alloc (.cells #[.int .i64 0, .slice none 0 0] 25)).drew := ⟨_, rfl⟩; rw [← hwz]; have hbz : Below wq1.drew.heap.size wq1.drew wz := (by rw [hwz]; exact (Below.refl _ _).alloc (Nat.le_refl _) _); have ltz_p0 : w1.heap.size < wq1.heap.size := block_lt (show wq1.drew.cell? _ = _ from p0); replace p0 := kept hbz ltz_p0 (show wq1.drew.cell? _ = _ from p0); have ltz_p1 : w1.heap.size < wq1.heap.size := block_lt (show wq1.drew.cell? _ = _ from p1); replace p1 := kept hbz ltz_p1 (show wq1.drew.cell? _ = _ from p1); have ltz_o0 : w6.heap.size < wq1.heap.size := block_lt (show wq1.drew.cell? _ = _ from o0); replace o0 := kept hbz ltz_o0 (show wq1.drew.cell? _ = _ from o0); have ltz_o1 : w6.heap.size < wq1.heap.size := block_lt (show wq1.drew.cell? _ = _ from o1); replace o1 := kept hbz ltz_o1 (show wq1.drew.cell? _ = _ from o1); have ltz_x0 : kx < wq1.heap.size := block_lt (show wq1.drew.cell? _ = _ from x0); replace x0 := kept hbz ltz_x0 (show wq1.drew.cell? _ = _ from x0); have ltz_x1 : kx < wq1.heap.size := block_lt (show wq1.drew.cell? _ = _ from x1); replace x1 := kept hbz ltz_x1 (show wq1.drew.cell? _ = _ from x1); have ltz_p : ∀ b off, s = some ⟨b, off, none⟩ → 0 < n → b < wq1.heap.size := row_lt p.out; replace p := Lib.hid (p.out.bel hbz); have ltz_o : ∀ b off, ao = some ⟨b, off, none⟩ → 0 < n → b < wq1.heap.size := row_lt o.out; replace o := Lib.hid (o.out.bel hbz); have ltz_lf : ∀ b off, (some ⟨gl, 0, none⟩ : Option Addr) = some ⟨b, off, none⟩ → 0 < (N * 4) → b < wq1.heap.size := row_lt lf.out; replace lf := Lib.hid (lf.out.bel hbz); have ltz_x : ∀ b off, ax = some ⟨b, off, none⟩ → 0 < n → b < wq1.heap.size := row_lt x.out; replace x := Lib.hid (x.out.bel hbz); have szb : w.heap.size ≤ wq1.heap.size := bb.out.size; replace bb := Lib.hid (bb.out.trans (hbz.mono bb.out.size)); have zb : Box wz wq1.heap.size (.int .i64 0) (.slice none 0 0) := (by rw [hwz]; exact ⟨by simp, by simp, fun o => by simp⟩); have z0 := zb.c0; have z1 := zb.c1; have zf := zb.fz; have zb := Lib.hid zb; clear hwz hbz) | (obtain ⟨wz, hwz⟩ : ∃ wz, wz = (wq1.drew.alloc (.cells #[.int .i64 0, .slice none 0 0] 25)) := ⟨_, rfl⟩; rw [← hwz]; have hbz : Below wq1.drew.heap.size wq1.drew wz := (by rw [hwz]; exact (Below.refl _ _).alloc (Nat.le_refl _) _); have ltz_p0 : w1.heap.size < wq1.heap.size := block_lt (show wq1.drew.cell? _ = _ from p0); replace p0 := kept hbz ltz_p0 (show wq1.drew.cell? _ = _ from p0); have ltz_p1 : w1.heap.size < wq1.heap.size := block_lt (show wq1.drew.cell? _ = _ from p1); replace p1 := kept hbz ltz_p1 (show wq1.drew.cell? _ = _ from p1); have ltz_o0 : w6.heap.size < wq1.heap.size := block_lt (show wq1.drew.cell? _ = _ from o0); replace o0 := kept hbz ltz_o0 (show wq1.drew.cell? _ = _ from o0); have ltz_o1 : w6.heap.size < wq1.heap.size := block_lt (show wq1.drew.cell? _ = _ from o1); replace o1 := kept hbz ltz_o1 (show wq1.drew.cell? _ = _ from o1); have ltz_x0 : kx < wq1.heap.size := block_lt (show wq1.drew.cell? _ = _ from x0); replace x0 := kept hbz ltz_x0 (show wq1.drew.cell? _ = _ from x0); have ltz_x1 : kx < wq1.heap.size := block_lt (show wq1.drew.cell? _ = _ from x1); replace x1 := kept hbz ltz_x1 (show wq1.drew.cell? _ = _ from x1); have ltz_p : ∀ b off, s = some ⟨b, off, none⟩ → 0 < n → b < wq1.heap.size := row_lt p.out; replace p := Lib.hid (p.out.bel hbz); have ltz_o : ∀ b off, ao = some ⟨b, off, none⟩ → 0 < n → b < wq1.heap.size := row_lt o.out; replace o := Lib.hid (o.out.bel hbz); have ltz_lf : ∀ b off, (some ⟨gl, 0, none⟩ : Option Addr) = some ⟨b, off, none⟩ → 0 < (N * 4) → b < wq1.heap.size := row_lt lf.out; replace lf := Lib.hid (lf.out.bel hbz); have ltz_x : ∀ b off, ax = some ⟨b, off, none⟩ → 0 < n → b < wq1.heap.size := row_lt x.out; replace x := Lib.hid (x.out.bel hbz); have szb : w.heap.size ≤ wq1.heap.size := bb.out.size; replace bb := Lib.hid (bb.out.trans (hbz.mono bb.out.size)); have zb : Box wz wq1.heap.size (.int .i64 0) (.slice none 0 0) := (by rw [hwz]; exact ⟨by simp, by simp, fun o => by simp⟩); have z0 := zb.c0; have z1 := zb.c1; have zf := zb.fz; have zb := Lib.hid zb; clear hwz hbz))); (try (have kzB := block_lt z0)); (refine (run_ok hIX.out hX2.out (by omega) _ _ _ _ _ x.out (qrow_nil _ _)).mono ?_); rintro e w13 ⟨⟨au, cu, rfl, ho⟩, hb⟩; have szw13 := hb.size; have hoz := Lib.hid ho; (first | replace p0 := kept hb (block_lt p0) p0 | replace p0 := kept hb (block_lt (show wq1.drew.cell? _ = _ from p0)) (show wq1.drew.cell? _ = _ from p0)); (first | replace p1 := kept hb (block_lt p1) p1 | replace p1 := kept hb (block_lt (show wq1.drew.cell? _ = _ from p1)) (show wq1.drew.cell? _ = _ from p1)); (first | replace o0 := kept hb (block_lt o0) o0 | replace o0 := kept hb (block_lt (show wq1.drew.cell? _ = _ from o0)) (show wq1.drew.cell? _ = _ from o0)); (first | replace o1 := kept hb (block_lt o1) o1 | replace o1 := kept hb (block_lt (show wq1.drew.cell? _ = _ from o1)) (show wq1.drew.cell? _ = _ from o1)); (first | replace x0 := kept hb (block_lt x0) x0 | replace x0 := kept hb (block_lt (show wq1.drew.cell? _ = _ from x0)) (show wq1.drew.cell? _ = _ from x0)); (first | replace x1 := kept hb (block_lt x1) x1 | replace x1 := kept hb (block_lt (show wq1.drew.cell? _ = _ from x1)) (show wq1.drew.cell? _ = _ from x1)); replace p := Lib.hid (p.out.bel hb); replace o := Lib.hid (o.out.bel hb); replace lf := Lib.hid (lf.out.bel hb); replace x := Lib.hid (x.out.bel hb); replace bb := Lib.hid (bb.out.trans (hb.mono bb.out.size)); (try (replace zb := Lib.hid (zb.out.bel hb); replace z0 := zb.out.c0; replace z1 := zb.out.c1; replace zf := zb.out.fz)); clear hb ho tok0 _t; have tok1 : True := trivial))
      all_goals
        first | (have u0 := set2_c0 (u0 := .int .i64 W) (u1 := .slice au n cu) z0; have u1 := set2_c1 (u0 := .int .i64 W) (u1 := .slice au n cu) z1; replace p0 := set2_cell (u0 := .int .i64 W) (u1 := .slice au n cu) p0 ltz_p0; replace p1 := set2_cell (u0 := .int .i64 W) (u1 := .slice au n cu) p1 ltz_p1; replace o0 := set2_cell (u0 := .int .i64 W) (u1 := .slice au n cu) o0 ltz_o0; replace o1 := set2_cell (u0 := .int .i64 W) (u1 := .slice au n cu) o1 ltz_o1; replace x0 := set2_cell (u0 := .int .i64 W) (u1 := .slice au n cu) x0 ltz_x0; replace x1 := set2_cell (u0 := .int .i64 W) (u1 := .slice au n cu) x1 ltz_x1; replace p := Lib.hid (set2_old (u0 := .int .i64 W) (u1 := .slice au n cu) p.out ltz_p); replace o := Lib.hid (set2_old (u0 := .int .i64 W) (u1 := .slice au n cu) o.out ltz_o); replace lf := Lib.hid (set2_old (u0 := .int .i64 W) (u1 := .slice au n cu) lf.out ltz_lf); replace x := Lib.hid (set2_old (u0 := .int .i64 W) (u1 := .slice au n cu) x.out ltz_x); have u := Lib.hid (set2_row (u0 := .int .i64 W) (u1 := .slice au n cu) hoz.out.row (own_far hoz.out kzB)); replace bb := Lib.hid (set2_bel (u0 := .int .i64 W) (u1 := .slice au n cu) bb.out szb)) | (have u0 : (w13.alloc (.cells #[.int .i64 W, .slice au n cu] 25)).cell? ⟨w13.heap.size, 0, none⟩ = some (.int .i64 W) := (by simp); have u1 : (w13.alloc (.cells #[.int .i64 W, .slice au n cu] 25)).cell? ⟨w13.heap.size, 1, none⟩ = some (.slice au n cu) := (by simp); replace p0 := World.cell?_alloc_some (o := .cells #[.int .i64 W, .slice au n cu] 25) p0; replace p1 := World.cell?_alloc_some (o := .cells #[.int .i64 W, .slice au n cu] 25) p1; replace o0 := World.cell?_alloc_some (o := .cells #[.int .i64 W, .slice au n cu] 25) o0; replace o1 := World.cell?_alloc_some (o := .cells #[.int .i64 W, .slice au n cu] 25) o1; replace x0 := World.cell?_alloc_some (o := .cells #[.int .i64 W, .slice au n cu] 25) x0; replace x1 := World.cell?_alloc_some (o := .cells #[.int .i64 W, .slice au n cu] 25) x1; replace p := Lib.hid (p.out.alloc (.cells #[.int .i64 W, .slice au n cu] 25)); replace o := Lib.hid (o.out.alloc (.cells #[.int .i64 W, .slice au n cu] 25)); replace lf := Lib.hid (lf.out.alloc (.cells #[.int .i64 W, .slice au n cu] 25)); replace x := Lib.hid (x.out.alloc (.cells #[.int .i64 W, .slice au n cu] 25)); have u := Lib.hid (hoz.out.row.alloc (.cells #[.int .i64 W, .slice au n cu] 25)); replace bb := Lib.hid (bb.out.alloc bb.out.size (.cells #[.int .i64 W, .slice au n cu] 25)))
        go_wp2_with fail
        go_meet
        exact ⟨_, au, cu, rfl, rfl, p0, p1, o0, o1, x0, x1, u0, u1, p, o, lf, x, u, bb⟩
    case rest =>
      clear p0 p1 o0 o1 x0 x1 p o lf x bb
      obtain ⟨ku, au, cu, rfl, rfl, p0, p1, o0, o1, x0, x1, u0, u1, p, o, lf, x, u, bb⟩ := hcut
      go_wp2_with fail
      refine (sameImage_yes _ _ _ _ _ _ ys _ u.out o.out (by omega)).mono ?_
      rintro e w14 ⟨rfl, hb⟩
      have szw14 := hb.size
      replace p0 := kept hb (block_lt p0) p0
      replace p1 := kept hb (block_lt p1) p1
      replace o0 := kept hb (block_lt o0) o0
      replace o1 := kept hb (block_lt o1) o1
      replace x0 := kept hb (block_lt x0) x0
      replace x1 := kept hb (block_lt x1) x1
      replace u0 := kept hb (block_lt u0) u0
      replace u1 := kept hb (block_lt u1) u1
      replace p := Lib.hid (p.out.bel hb)
      replace o := Lib.hid (o.out.bel hb)
      replace lf := Lib.hid (lf.out.bel hb)
      replace x := Lib.hid (x.out.bel hb)
      replace u := Lib.hid (u.out.bel hb)
      replace bb := Lib.hid (bb.out.trans (hb.mono bb.out.size))
      clear hb
      go_wp2_with fail
      refine (same_impl _ _ _ _ _ _ _ _ xs ys _ p.out o.out (by omega) (by omega)).mono ?_
      rintro e w15 ⟨rfl, hb⟩
      have szw15 := hb.size
      replace p0 := kept hb (block_lt p0) p0
      replace p1 := kept hb (block_lt p1) p1
      replace o0 := kept hb (block_lt o0) o0
      replace o1 := kept hb (block_lt o1) o1
      replace x0 := kept hb (block_lt x0) x0
      replace x1 := kept hb (block_lt x1) x1
      replace u0 := kept hb (block_lt u0) u0
      replace u1 := kept hb (block_lt u1) u1
      replace p := Lib.hid (p.out.bel hb)
      replace o := Lib.hid (o.out.bel hb)
      replace lf := Lib.hid (lf.out.bel hb)
      replace x := Lib.hid (x.out.bel hb)
      replace u := Lib.hid (u.out.bel hb)
      replace bb := Lib.hid (bb.out.trans (hb.mono bb.out.size))
      clear hb
      rw [hsm.out]
      go_wp2_with fail
      go_ret
      exact ⟨rfl, bb.out⟩

set_option maxRecDepth 100000 in
theorem lifted (os : Os) (started : os.Started) (H : Type) (enc : TypeId × Value → H) :
    ReturnsInHanded {} Try.checked os 13 .any (Rows.fnRunSpec.pre6 enc Try.prog Try.f13 Rows.fnRunRow.domain false) (Rows.fnRunSpec.post enc Try.prog Try.f13 false true false false) := by
  refine returnsInHanded_of_change (C := Try.checked) own started (by kernel_rfl) Try.func13
    (ChangeSpec.witness6 (enc := enc) (C := Try.checked) false ⟨#[], #[.slice none 0 0, .slice none 0 0], []⟩ 8 (by kernel_rfl) (by kernel_rfl) (by kernel_rfl) (by kernel_rfl)) ?_
  intro W base args ds gs before hval0 hW hcnd _
  have hval : ∀ (j : Nat) t v, Try.f13.params[j]? = some t → args[j]? = some v → Value.okWide Try.prog W .any base t v := hval0
  have hW' := hW
  obtain ⟨p, q, hA0, hV, rfl, hfz, hnd⟩ := hW
  have hA : DataW.TrodAll enc Try.prog W 0 (fun _ => true) true Try.f13.params.toList args.toList ds p := hA0
  rw [Try.params13] at hA hval
  obtain ⟨v0, vs0, d0, ds0, p0, q0, hargs, rfl, rfl, h0, r0⟩ := trodAll_cons hA
  obtain ⟨v1, vs1, d1, ds1, p1, q1, rfl, rfl, rfl, h1, r1⟩ := trodAll_cons r0
  obtain ⟨rfl, rfl, rfl⟩ := trodAll_nil r1
  obtain rfl : args = #[v0, v1] := by cases args; simp_all
  obtain ⟨rfl, rfl⟩ := trodVars_none hV
  have k0 := h0
  have lt0 : ∀ x ∈ p0, x.block < W.heap.size := by obtain ⟨m, hm⟩ := k0; exact DataW.trod_lt m _ _ _ hm
  obtain ⟨a0, len0, cap0, z0, rfl, w0, l0, m0⟩ := open_code (hval 0 22 v0 rfl rfl) h0
  have k1 := h1
  have lt1 : ∀ x ∈ p1, x.block < W.heap.size := by obtain ⟨m, hm⟩ := k1; exact DataW.trod_lt m _ _ _ hm
  obtain ⟨a1, len1, cap1, z1, rfl, w1, l1, m1⟩ := open_code (hval 1 22 v1 rfl rfl) h1
  clear hA0 hval0
  refine (walk a0 len0 cap0 z0 a1 len1 cap1 z1 W w0 l0 m0 w1 l1 m1).mono fun e W' ⟨he, bel⟩ => ?_
  subst he
  exact ⟨_, rfl, _, _, _, [], _, [], hW', trodAll_mk1 (shut_bool Try.underlying4 _), (trodAll_cons_mk (Below.trod laidOut (by kernel_rfl) (of_decide_eq_true (by kernel_rfl)) k0 bel lt0) (trodAll_cons_mk (Below.trod laidOut (by kernel_rfl) (of_decide_eq_true (by kernel_rfl)) k1 bel lt1) trodAll_mk0)), rfl, bel.frame _, fun h => by cases h⟩

theorem closed : joinedFacts Try.prog 13 Try.f13 Rows.fnRunSpec Rows.fnRunRow = true := by
  simp only [joinedFacts, Bool.and_eq_true]
  repeat' apply And.intro
  all_goals first | with_reducible exact mayEnterOk | (with_reducible rw [liftsFinalOk]; kernel_rfl) | (with_reducible rw [makeOk]; kernel_rfl) | kernel_rfl

theorem over : Rows.fnRunRow.holds Try.pinned (OpenSpec.ofChange Rows.fnRunSpec) :=
  OpenClaim.holds_of_wide 13 Try.f13 rfl rfl rfl rfl rfl rfl rfl ⟨rfl, rfl, rfl, rfl, rfl⟩ rfl rfl rfl rfl rfl (by kernel_rfl) Try.func13 closed
    (of_decide_eq_true (by kernel_rfl)) (by unfold Func.isWrapper; first | (rw [if_pos (by decide +kernel)]; kernel_rfl) | (rw [if_neg (by decide +kernel)]; exact ⟨rfl, rfl⟩))
    (fun os started H enc _ => lifted os started H enc)

theorem proved : Rows.FnRunSaid := over
#print axioms proved
end Go.Proofs.Ytgamkmkpmcenpaa.LFRun

