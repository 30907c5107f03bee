/-
  For every slice of bytes the law FnSwitchFirst answers true: the first switch is done; nothing that was there is written; no condition.
-/
import Derived.Test.YtnibmcihklaigaaO
import Derived.Test.YtnibmcihklaigaaK
import Derived.Deep.RegionLaw
import Derived.Test.YtnibmcihklaigaaKi
namespace Go.Proofs.Ytnibmcihklaigaa.LFSwitchFirst
open Go.ChangeShapes Go.WideShapes Go.ChangeAt Go.RowKit Go.Joins

set_option maxHeartbeats 4000000 in
set_option maxRecDepth 100000 in
theorem walk (a : Option Addr) (len cap : Nat) (zs : List Int) (w : World) (h : Bys w a len zs) (hl : len ≤ cap) (hm : cap ≤ 9223372036854775807) :
    Calls Try.prog 12 #[.slice a len cap] w fun e w' => e = .returned (.bool true) ∧ Below w.heap.size w w' := by
  by_cases hbig : 1048576 < len
  · clear h
    go_enter Try.func12, Try.ntmps12
    go_wp2_with fail
    go_ret
    exact ⟨rfl, Below.refl _ _⟩
  go_enter Try.func12, Try.ntmps12
  go_wp2_with fail
  refine (draw_DrawSwitchFirst a len cap zs _ h hl hm).mono ?_
  rintro e w1 ⟨W, s, n, cg, xs, rfl, hR, hn, hb1⟩
  clear h hl hm
  have bb := Lib.hid hb1
  have p := Lib.hid hR
  clear hR hb1
  have hbx : Below w1.heap.size w1 (w1.alloc (.cells #[.int .i64 W, .slice s n cg] 25)) := (Below.refl _ _).alloc (Nat.le_refl _) _
  replace p := Lib.hid (p.out.bel hbx)
  replace bb := Lib.hid (bb.out.trans (hbx.mono bb.out.size))
  clear hbx
  have p0 : (w1.alloc (.cells #[.int .i64 W, .slice s n cg] 25)).cell? ⟨w1.heap.size, 0, none⟩ = some (.int .i64 W) := by simp
  have p1 : (w1.alloc (.cells #[.int .i64 W, .slice s n cg] 25)).cell? ⟨w1.heap.size, 1, none⟩ = some (.slice s n cg) := by simp
  have hlen := list_len (W := W) p.out.1 (by omega)
  have him := fun t (ht : t ∈ listS W xs) => listS_im p.out.1 ht
  obtain ⟨Z, hZ⟩ : ∃ Z, listS W xs = Z := ⟨_, rfl⟩
  rw [hZ] at hlen him
  replace hZ := Lib.hid hZ
  cases Z with
  | nil =>
    clear him hlen
    go_wp2_with fail
    refine (first_no hZ.out (by omega) _ _ _ p.out).mono ?_
    rintro e w2 ⟨⟨ao, co, rfl, ho⟩, hb⟩
    have o := Lib.hid ho.row
    have szw2 : w1.heap.size + 1 ≤ w2.heap.size := by have := hb.size; simpa using this
    replace p0 := kept hb (block_lt p0) p0
    replace p1 := kept hb (block_lt p1) p1
    replace p := Lib.hid (p.out.bel hb)
    replace bb := Lib.hid (bb.out.trans (hb.mono bb.out.size))
    clear hb
    clear ho
    have hbx : Below w2.heap.size w2 (w2.alloc (.cells #[.int .i64 0, .slice ao 0 co] 25)) := (Below.refl _ _).alloc (Nat.le_refl _) _
    replace p0 := kept hbx (block_lt p0) p0
    replace p1 := kept hbx (block_lt p1) p1
    replace p := Lib.hid (p.out.bel hbx)
    replace o := Lib.hid (o.out.bel hbx)
    replace bb := Lib.hid (bb.out.trans (hbx.mono bb.out.size))
    clear hbx
    have o0 : (w2.alloc (.cells #[.int .i64 0, .slice ao 0 co] 25)).cell? ⟨w2.heap.size, 0, none⟩ = some (.int .i64 0) := by simp
    have o1 : (w2.alloc (.cells #[.int .i64 0, .slice ao 0 co] 25)).cell? ⟨w2.heap.size, 1, none⟩ = some (.slice ao 0 co) := by simp
    go_wp2_with fail
    refine (firsts_no hZ.out (by omega) _ _ _ p.out).mono ?_
    rintro e w3 ⟨⟨aow, cow, rfl, ho⟩, hb⟩
    have ow := Lib.hid ho.row
    have szw3 : w2.heap.size + 1 ≤ w3.heap.size := by have := hb.size; simpa using this
    replace p0 := kept hb (block_lt p0) p0
    replace p1 := kept hb (block_lt p1) p1
    replace o0 := kept hb (block_lt o0) o0
    replace o1 := kept hb (block_lt o1) o1
    replace p := Lib.hid (p.out.bel hb)
    replace o := Lib.hid (o.out.bel hb)
    replace bb := Lib.hid (bb.out.trans (hb.mono bb.out.size))
    clear hb
    clear ho
    have hbx : Below w3.heap.size w3 (w3.alloc (.cells #[.int .i64 0, .slice aow 0 cow] 25)) := (Below.refl _ _).alloc (Nat.le_refl _) _
    replace p0 := kept hbx (block_lt p0) p0
    replace p1 := kept hbx (block_lt p1) p1
    replace o0 := kept hbx (block_lt o0) o0
    replace o1 := kept hbx (block_lt o1) o1
    replace p := Lib.hid (p.out.bel hbx)
    replace o := Lib.hid (o.out.bel hbx)
    replace ow := Lib.hid (ow.out.bel hbx)
    replace bb := Lib.hid (bb.out.trans (hbx.mono bb.out.size))
    clear hbx
    have ow0 : (w3.alloc (.cells #[.int .i64 0, .slice aow 0 cow] 25)).cell? ⟨w3.heap.size, 0, none⟩ = some (.int .i64 0) := by simp
    have ow1 : (w3.alloc (.cells #[.int .i64 0, .slice aow 0 cow] 25)).cell? ⟨w3.heap.size, 1, none⟩ = some (.slice aow 0 cow) := by simp
    go_wp2_with fail
    refine (sameImage_yes _ _ _ _ _ _ [] _ o.out ow.out (by omega)).mono ?_
    rintro e w4 ⟨rfl, hb⟩
    have szw4 : w3.heap.size + 1 ≤ w4.heap.size := by have := hb.size; simpa using this
    replace p0 := kept hb (block_lt p0) p0
    replace p1 := kept hb (block_lt p1) p1
    replace o0 := kept hb (block_lt o0) o0
    replace o1 := kept hb (block_lt o1) o1
    replace ow0 := kept hb (block_lt ow0) ow0
    replace ow1 := kept hb (block_lt ow1) ow1
    replace p := Lib.hid (p.out.bel hb)
    replace o := Lib.hid (o.out.bel hb)
    replace ow := Lib.hid (ow.out.bel hb)
    replace bb := Lib.hid (bb.out.trans (hb.mono bb.out.size))
    clear hb
    go_wp2_with fail
    refine (sameImage_yes _ _ _ _ _ _ [] _ o.out ow.out (by omega)).mono ?_
    rintro e w5 ⟨rfl, hb⟩
    have szw5 := hb.size
    replace p0 := kept hb (block_lt p0) p0
    replace p1 := kept hb (block_lt p1) p1
    replace o0 := kept hb (block_lt o0) o0
    replace o1 := kept hb (block_lt o1) o1
    replace ow0 := kept hb (block_lt ow0) ow0
    replace ow1 := kept hb (block_lt ow1) ow1
    replace p := Lib.hid (p.out.bel hb)
    replace o := Lib.hid (o.out.bel hb)
    replace ow := Lib.hid (ow.out.bel hb)
    replace bb := Lib.hid (bb.out.trans (hb.mono bb.out.size))
    clear hb
    go_wp2_with fail
    go_ret
    exact ⟨rfl, bb.out⟩
  | cons t l =>
    obtain ⟨A, B, C, D⟩ := t
    obtain ⟨W, rfl, hI, hAB, hBn, hCD, hDW, hsw⟩ := him _ (List.mem_cons_self ..)
    have hW6 := hI.w6
    have hW1 := hI.w1
    have hn1 := hI.l1
    have hn6 := hI.l6
    dsimp only at hAB hBn hCD hDW hsw
    obtain ⟨L, hL⟩ : ∃ L, flL xs W n A B C D = L := ⟨_, rfl⟩
    have hK : okB W xs A B C D = true := (okB_yes hI hAB hBn hCD hDW).trans hsw
    have hJ : Im W n L := hL ▸ fl_im hI A B C D
    have hsame : sameB W xs W L = true := hL ▸ fl_sums hI hAB hBn hCD hDW hsw
    obtain ⟨M, hM⟩ : ∃ M, ((A, B, C, D) :: l).length = M + 1 := ⟨_, rfl⟩
    rw [hM] at hlen
    have hq : ((A, B, C, D) :: l)[0]'(by simp) = (A, B, C, D) := rfl
    replace hq := Lib.hid hq
    replace hM := Lib.hid hM
    replace hK := Lib.hid hK
    replace hL := Lib.hid hL
    replace hI := Lib.hid hI
    replace hJ := Lib.hid hJ
    replace hsw := Lib.hid hsw
    replace hsame := Lib.hid hsame
    clear him
    go_wp2_with fail
    refine (first_ok hI.out hZ.out hL.out _ _ _ p.out).mono ?_
    rintro e w6 ⟨⟨ao, co, rfl, ho⟩, hb⟩
    have o := Lib.hid ho.row
    have szw6 : w1.heap.size + 1 ≤ w6.heap.size := by have := hb.size; simpa using this
    replace p0 := kept hb (block_lt p0) p0
    replace p1 := kept hb (block_lt p1) p1
    replace p := Lib.hid (p.out.bel hb)
    replace bb := Lib.hid (bb.out.trans (hb.mono bb.out.size))
    clear hb
    clear ho
    have hbx : Below w6.heap.size w6 (w6.alloc (.cells #[.int .i64 W, .slice ao n co] 25)) := (Below.refl _ _).alloc (Nat.le_refl _) _
    replace p0 := kept hbx (block_lt p0) p0
    replace p1 := kept hbx (block_lt p1) p1
    replace p := Lib.hid (p.out.bel hbx)
    replace o := Lib.hid (o.out.bel hbx)
    replace bb := Lib.hid (bb.out.trans (hbx.mono bb.out.size))
    clear hbx
    have o0 : (w6.alloc (.cells #[.int .i64 W, .slice ao n co] 25)).cell? ⟨w6.heap.size, 0, none⟩ = some (.int .i64 W) := by simp
    have o1 : (w6.alloc (.cells #[.int .i64 W, .slice ao n co] 25)).cell? ⟨w6.heap.size, 1, none⟩ = some (.slice ao n co) := by simp
    go_wp2_with fail
    refine (firsts_ok hI.out hZ.out hL.out _ _ _ p.out).mono ?_
    rintro e w7 ⟨⟨aow, cow, rfl, ho⟩, hb⟩
    have ow := Lib.hid ho.row
    have szw7 : w6.heap.size + 1 ≤ w7.heap.size := by have := hb.size; simpa using this
    replace p0 := kept hb (block_lt p0) p0
    replace p1 := kept hb (block_lt p1) p1
    replace o0 := kept hb (block_lt o0) o0
    replace o1 := kept hb (block_lt o1) o1
    replace p := Lib.hid (p.out.bel hb)
    replace o := Lib.hid (o.out.bel hb)
    replace bb := Lib.hid (bb.out.trans (hb.mono bb.out.size))
    clear hb
    clear ho
    have hbx : Below w7.heap.size w7 (w7.alloc (.cells #[.int .i64 W, .slice aow n cow] 25)) := (Below.refl _ _).alloc (Nat.le_refl _) _
    replace p0 := kept hbx (block_lt p0) p0
    replace p1 := kept hbx (block_lt p1) p1
    replace o0 := kept hbx (block_lt o0) o0
    replace o1 := kept hbx (block_lt o1) o1
    replace p := Lib.hid (p.out.bel hbx)
    replace o := Lib.hid (o.out.bel hbx)
    replace ow := Lib.hid (ow.out.bel hbx)
    replace bb := Lib.hid (bb.out.trans (hbx.mono bb.out.size))
    clear hbx
    have ow0 : (w7.alloc (.cells #[.int .i64 W, .slice aow n cow] 25)).cell? ⟨w7.heap.size, 0, none⟩ = some (.int .i64 W) := by simp
    have ow1 : (w7.alloc (.cells #[.int .i64 W, .slice aow n cow] 25)).cell? ⟨w7.heap.size, 1, none⟩ = some (.slice aow n cow) := by simp
    go_wp2_with fail
    refine (sameImage_yes _ _ _ _ _ _ L _ o.out ow.out (by omega)).mono ?_
    rintro e w8 ⟨rfl, hb⟩
    have szw8 : w7.heap.size + 1 ≤ w8.heap.size := by have := hb.size; simpa using this
    replace p0 := kept hb (block_lt p0) p0
    replace p1 := kept hb (block_lt p1) p1
    replace o0 := kept hb (block_lt o0) o0
    replace o1 := kept hb (block_lt o1) o1
    replace ow0 := kept hb (block_lt ow0) ow0
    replace ow1 := kept hb (block_lt ow1) ow1
    replace p := Lib.hid (p.out.bel hb)
    replace o := Lib.hid (o.out.bel hb)
    replace ow := Lib.hid (ow.out.bel hb)
    replace bb := Lib.hid (bb.out.trans (hb.mono bb.out.size))
    clear hb
    clear ow0 ow1 ow
    go_wp2_with fail
    refine (swlist_iN hZ.out hM.out (by omega) _ _ _ p.out).mono ?_
    rintro e w9 ⟨⟨al, cl, rfl, ho⟩, hb⟩
    have l := Lib.hid ho
    have szw9 := hb.size
    replace p0 := kept hb (block_lt p0) p0
    replace p1 := kept hb (block_lt p1) p1
    replace o0 := kept hb (block_lt o0) o0
    replace o1 := kept hb (block_lt o1) o1
    replace p := Lib.hid (p.out.bel hb)
    replace o := Lib.hid (o.out.bel hb)
    replace bb := Lib.hid (bb.out.trans (hb.mono bb.out.size))
    clear hb
    clear ho
    obtain ⟨gl, el, l0, l1, l2, l3⟩ := srow_at l.out (show 0 < M + 1 by omega) hq.out
    subst el
    rw [Nat.zero_mul] at l0 l1 l2 l3
    rw [Nat.zero_add] at l1 l2 l3
    clear l
    go_upto_region 9 with fail
    go_cut [9, 10] (fun s9 s10 wx => ∃ (kx : Nat) (ax : Option Addr) (cx : Nat), s9 = .pointer (some ⟨kx, 0, none⟩) ∧ s10 = .bool true ∧ wx.cell? ⟨w1.heap.size, 0, none⟩ = some (.int .i64 W) ∧ wx.cell? ⟨w1.heap.size, 1, none⟩ = some (.slice s n cg) ∧ wx.cell? ⟨w6.heap.size, 0, none⟩ = some (.int .i64 W) ∧ wx.cell? ⟨w6.heap.size, 1, none⟩ = some (.slice ao n co) ∧ wx.cell? ⟨gl, 0, none⟩ = some (.int .i64 A) ∧ wx.cell? ⟨gl, 1, none⟩ = some (.int .i64 B) ∧ wx.cell? ⟨gl, 2, none⟩ = some (.int .i64 C) ∧ wx.cell? ⟨gl, 3, none⟩ = some (.int .i64 D) ∧ wx.cell? ⟨kx, 0, none⟩ = some (.int .i64 W) ∧ wx.cell? ⟨kx, 1, none⟩ = some (.slice ax n cx) ∧ Hid (Row wx s n (xs)) ∧ Hid (Row wx ao n (L)) ∧ Hid (Row wx ax n (L)) ∧ Hid (Below w.heap.size w wx))
    case first =>
      have tok0 : True := trivial
      go_wp2_with fail
      replace p := Lib.hid (p.out.bel ((Below.refl _ _).drew))
      replace o := Lib.hid (o.out.bel ((Below.refl _ _).drew))
      replace bb := Lib.hid bb.out.drew
      have lq_p0 : w1.heap.size < w9.heap.size := block_lt p0
      have lq_o0 : w6.heap.size < w9.heap.size := block_lt o0
      have lq_l0 : gl < w9.heap.size := block_lt l0
      go_region_held3 (fun W' => W'.cell? ⟨w1.heap.size, 0, none⟩ = some (.int .i64 W) ∧ W'.cell? ⟨w1.heap.size, 1, none⟩ = some (.slice s n cg) ∧ W'.cell? ⟨gl, 0, none⟩ = some (.int .i64 A) ∧ W'.cell? ⟨gl, 1, none⟩ = some (.int .i64 B) ∧ W'.cell? ⟨gl, 2, none⟩ = some (.int .i64 C) ∧ W'.cell? ⟨gl, 3, none⟩ = some (.int .i64 D))
        (first | exact ⟨p0, p1, l0, l1, l2, l3⟩ | exact ⟨World.cell?_alloc_some p0, World.cell?_alloc_some p1, World.cell?_alloc_some l0, World.cell?_alloc_some l1, World.cell?_alloc_some l2, World.cell?_alloc_some l3⟩ | exact ⟨set2_cell p0 ltz_p0, set2_cell p1 ltz_p1, set2_cell l0 ltz_l0, set2_cell l1 ltz_l1, set2_cell l2 ltz_l2, set2_cell l3 ltz_l3⟩ | go_keep)
        (first | (go_at_call 29; have _t := tok0; (try (first | (obtain ⟨wz, hwz⟩ : ∃ wz, wz = (w9.alloc (.cells #[.int .i64 0, .slice none 0 0] 25)).drew := ⟨_, rfl⟩; rw [← hwz]; have hbz : Below w9.drew.heap.size w9.drew wz := (by rw [hwz]; exact (Below.refl _ _).alloc (Nat.le_refl _) _); have ltz_p0 : w1.heap.size < w9.heap.size := block_lt (show w9.drew.cell? _ = _ from p0); replace p0 := kept hbz ltz_p0 (show w9.drew.cell? _ = _ from p0); have ltz_p1 : w1.heap.size < w9.heap.size := block_lt (show w9.drew.cell? _ = _ from p1); replace p1 := kept hbz ltz_p1 (show w9.drew.cell? _ = _ from p1); have ltz_o0 : w6.heap.size < w9.heap.size := block_lt (show w9.drew.cell? _ = _ from o0); replace o0 := kept hbz ltz_o0 (show w9.drew.cell? _ = _ from o0); have ltz_o1 : w6.heap.size < w9.heap.size := block_lt (show w9.drew.cell? _ = _ from o1); replace o1 := kept hbz ltz_o1 (show w9.drew.cell? _ = _ from o1); have ltz_l0 : gl < w9.heap.size := block_lt (show w9.drew.cell? _ = _ from l0); replace l0 := kept hbz ltz_l0 (show w9.drew.cell? _ = _ from l0); have ltz_l1 : gl < w9.heap.size := block_lt (show w9.drew.cell? _ = _ from l1); replace l1 := kept hbz ltz_l1 (show w9.drew.cell? _ = _ from l1); have ltz_l2 : gl < w9.heap.size := block_lt (show w9.drew.cell? _ = _ from l2); replace l2 := kept hbz ltz_l2 (show w9.drew.cell? _ = _ from l2); have ltz_l3 : gl < w9.heap.size := block_lt (show w9.drew.cell? _ = _ from l3); replace l3 := kept hbz ltz_l3 (show w9.drew.cell? _ = _ from l3); have ltz_p : ∀ b off, s = some ⟨b, off, none⟩ → 0 < n → b < w9.heap.size := row_lt p.out; replace p := Lib.hid (p.out.bel hbz); have ltz_o : ∀ b off, ao = some ⟨b, off, none⟩ → 0 < n → b < w9.heap.size := row_lt o.out; replace o := Lib.hid (o.out.bel hbz); have szb : w.heap.size ≤ w9.heap.size := bb.out.size; replace bb := Lib.hid (bb.out.trans (hbz.mono bb.out.size)); have zb : Box wz w9.heap.size (.int .i64 0) (.slice none 0 0) := (by rw [hwz]; exact ⟨by simp, by simp, fun o => by simp⟩); have z0 := zb.c0; have z1 := zb.c1; have zf := zb.fz; have zb := Lib.hid zb; clear hwz hbz) | (obtain ⟨wz, hwz⟩ : ∃ wz, wz = (w9.drew.alloc (.cells #[.int .i64 0, .slice none 0 0] 25)) := ⟨_, rfl⟩; rw [← hwz]; have hbz : Below w9.drew.heap.size w9.drew wz := (by rw [hwz]; exact (Below.refl _ _).alloc (Nat.le_refl _) _); have ltz_p0 : w1.heap.size < w9.heap.size := block_lt (show w9.drew.cell? _ = _ from p0); replace p0 := kept hbz ltz_p0 (show w9.drew.cell? _ = _ from p0); have ltz_p1 : w1.heap.size < w9.heap.size := block_lt (show w9.drew.cell? _ = _ from p1); replace p1 := kept hbz ltz_p1 (show w9.drew.cell? _ = _ from p1); have ltz_o0 : w6.heap.size < w9.heap.size := block_lt (show w9.drew.cell? _ = _ from o0); replace o0 := kept hbz ltz_o0 (show w9.drew.cell? _ = _ from o0); have ltz_o1 : w6.heap.size < w9.heap.size := block_lt (show w9.drew.cell? _ = _ from o1); replace o1 := kept hbz ltz_o1 (show w9.drew.cell? _ = _ from o1); have ltz_l0 : gl < w9.heap.size := block_lt (show w9.drew.cell? _ = _ from l0); replace l0 := kept hbz ltz_l0 (show w9.drew.cell? _ = _ from l0); have ltz_l1 : gl < w9.heap.size := block_lt (show w9.drew.cell? _ = _ from l1); replace l1 := kept hbz ltz_l1 (show w9.drew.cell? _ = _ from l1); have ltz_l2 : gl < w9.heap.size := block_lt (show w9.drew.cell? _ = _ from l2); replace l2 := kept hbz ltz_l2 (show w9.drew.cell? _ = _ from l2); have ltz_l3 : gl < w9.heap.size := block_lt (show w9.drew.cell? _ = _ from l3); replace l3 := kept hbz ltz_l3 (show w9.drew.cell? _ = _ from l3); have ltz_p : ∀ b off, s = some ⟨b, off, none⟩ → 0 < n → b < w9.heap.size := row_lt p.out; replace p := Lib.hid (p.out.bel hbz); have ltz_o : ∀ b off, ao = some ⟨b, off, none⟩ → 0 < n → b < w9.heap.size := row_lt o.out; replace o := Lib.hid (o.out.bel hbz); have szb : w.heap.size ≤ w9.heap.size := bb.out.size; replace bb := Lib.hid (bb.out.trans (hbz.mono bb.out.size)); have zb : Box wz w9.heap.size (.int .i64 0) (.slice none 0 0) := (by rw [hwz]; exact ⟨by simp, by simp, fun o => by simp⟩); have z0 := zb.c0; have z1 := zb.c1; have zf := zb.fz; have zb := Lib.hid zb; clear hwz hbz))); (try (have kzB := block_lt z0)); (refine (do_ok hI.out hK.out hL.out _ _ _ p.out).mono ?_); rintro e w10 ⟨⟨ax, cx, rfl, ho⟩, hb⟩; have szw10 := hb.size; have hoz := Lib.hid ho; (first | replace p0 := kept hb (block_lt p0) p0 | replace p0 := kept hb (block_lt (show w9.drew.cell? _ = _ from p0)) (show w9.drew.cell? _ = _ from p0)); (first | replace p1 := kept hb (block_lt p1) p1 | replace p1 := kept hb (block_lt (show w9.drew.cell? _ = _ from p1)) (show w9.drew.cell? _ = _ from p1)); (first | replace o0 := kept hb (block_lt o0) o0 | replace o0 := kept hb (block_lt (show w9.drew.cell? _ = _ from o0)) (show w9.drew.cell? _ = _ from o0)); (first | replace o1 := kept hb (block_lt o1) o1 | replace o1 := kept hb (block_lt (show w9.drew.cell? _ = _ from o1)) (show w9.drew.cell? _ = _ from o1)); (first | replace l0 := kept hb (block_lt l0) l0 | replace l0 := kept hb (block_lt (show w9.drew.cell? _ = _ from l0)) (show w9.drew.cell? _ = _ from l0)); (first | replace l1 := kept hb (block_lt l1) l1 | replace l1 := kept hb (block_lt (show w9.drew.cell? _ = _ from l1)) (show w9.drew.cell? _ = _ from l1)); (first | replace l2 := kept hb (block_lt l2) l2 | replace l2 := kept hb (block_lt (show w9.drew.cell? _ = _ from l2)) (show w9.drew.cell? _ = _ from l2)); (first | replace l3 := kept hb (block_lt l3) l3 | replace l3 := kept hb (block_lt (show w9.drew.cell? _ = _ from l3)) (show w9.drew.cell? _ = _ from l3)); replace p := Lib.hid (p.out.bel hb); replace o := Lib.hid (o.out.bel hb); replace bb := Lib.hid (bb.out.trans (hb.mono bb.out.size)); (try (replace zb := Lib.hid (zb.out.bel hb); replace z0 := zb.out.c0; replace z1 := zb.out.c1; replace zf := zb.out.fz)); clear hb ho tok0 _t; have tok1 : True := trivial))
      all_goals
        first | (have x0 := set2_c0 (u0 := .int .i64 W) (u1 := .slice ax n cx) z0; have x1 := set2_c1 (u0 := .int .i64 W) (u1 := .slice ax n cx) z1; replace p0 := set2_cell (u0 := .int .i64 W) (u1 := .slice ax n cx) p0 ltz_p0; replace p1 := set2_cell (u0 := .int .i64 W) (u1 := .slice ax n cx) p1 ltz_p1; replace o0 := set2_cell (u0 := .int .i64 W) (u1 := .slice ax n cx) o0 ltz_o0; replace o1 := set2_cell (u0 := .int .i64 W) (u1 := .slice ax n cx) o1 ltz_o1; replace l0 := set2_cell (u0 := .int .i64 W) (u1 := .slice ax n cx) l0 ltz_l0; replace l1 := set2_cell (u0 := .int .i64 W) (u1 := .slice ax n cx) l1 ltz_l1; replace l2 := set2_cell (u0 := .int .i64 W) (u1 := .slice ax n cx) l2 ltz_l2; replace l3 := set2_cell (u0 := .int .i64 W) (u1 := .slice ax n cx) l3 ltz_l3; replace p := Lib.hid (set2_old (u0 := .int .i64 W) (u1 := .slice ax n cx) p.out ltz_p); replace o := Lib.hid (set2_old (u0 := .int .i64 W) (u1 := .slice ax n cx) o.out ltz_o); have x := Lib.hid (set2_row (u0 := .int .i64 W) (u1 := .slice ax n cx) hoz.out.row (own_far hoz.out kzB)); replace bb := Lib.hid (set2_bel (u0 := .int .i64 W) (u1 := .slice ax n cx) bb.out szb)) | (have x0 : (w10.alloc (.cells #[.int .i64 W, .slice ax n cx] 25)).cell? ⟨w10.heap.size, 0, none⟩ = some (.int .i64 W) := (by simp); have x1 : (w10.alloc (.cells #[.int .i64 W, .slice ax n cx] 25)).cell? ⟨w10.heap.size, 1, none⟩ = some (.slice ax n cx) := (by simp); replace p0 := World.cell?_alloc_some (o := .cells #[.int .i64 W, .slice ax n cx] 25) p0; replace p1 := World.cell?_alloc_some (o := .cells #[.int .i64 W, .slice ax n cx] 25) p1; replace o0 := World.cell?_alloc_some (o := .cells #[.int .i64 W, .slice ax n cx] 25) o0; replace o1 := World.cell?_alloc_some (o := .cells #[.int .i64 W, .slice ax n cx] 25) o1; replace l0 := World.cell?_alloc_some (o := .cells #[.int .i64 W, .slice ax n cx] 25) l0; replace l1 := World.cell?_alloc_some (o := .cells #[.int .i64 W, .slice ax n cx] 25) l1; replace l2 := World.cell?_alloc_some (o := .cells #[.int .i64 W, .slice ax n cx] 25) l2; replace l3 := World.cell?_alloc_some (o := .cells #[.int .i64 W, .slice ax n cx] 25) l3; replace p := Lib.hid (p.out.alloc (.cells #[.int .i64 W, .slice ax n cx] 25)); replace o := Lib.hid (o.out.alloc (.cells #[.int .i64 W, .slice ax n cx] 25)); have x := Lib.hid (hoz.out.row.alloc (.cells #[.int .i64 W, .slice ax n cx] 25)); replace bb := Lib.hid (bb.out.alloc bb.out.size (.cells #[.int .i64 W, .slice ax n cx] 25)))
        go_wp2_with fail
        go_meet
        exact ⟨_, ax, cx, rfl, rfl, p0, p1, o0, o1, l0, l1, l2, l3, x0, x1, p, o, x, bb⟩
    case rest =>
      clear p0 p1 o0 o1 l0 l1 l2 l3 p o bb
      obtain ⟨kx, ax, cx, rfl, rfl, p0, p1, o0, o1, l0, l1, l2, l3, x0, x1, p, o, x, bb⟩ := hcut
      go_wp2_with fail
      refine (sameImage_yes _ _ _ _ _ _ L _ x.out o.out (by omega)).mono ?_
      rintro e w11 ⟨rfl, hb⟩
      have szw11 := hb.size
      replace p0 := kept hb (block_lt p0) p0
      replace p1 := kept hb (block_lt p1) p1
      replace o0 := kept hb (block_lt o0) o0
      replace o1 := kept hb (block_lt o1) o1
      replace l0 := kept hb (block_lt l0) l0
      replace l1 := kept hb (block_lt l1) l1
      replace l2 := kept hb (block_lt l2) l2
      replace l3 := kept hb (block_lt l3) l3
      replace x0 := kept hb (block_lt x0) x0
      replace x1 := kept hb (block_lt x1) x1
      replace p := Lib.hid (p.out.bel hb)
      replace o := Lib.hid (o.out.bel hb)
      replace x := Lib.hid (x.out.bel hb)
      replace bb := Lib.hid (bb.out.trans (hb.mono bb.out.size))
      clear hb
      go_wp2_with fail
      refine (same_impl W W s ao n n cg co xs L _ p.out o.out (by omega) (by omega)).mono ?_
      rintro e w12 ⟨rfl, hb⟩
      have szw12 := hb.size
      replace p0 := kept hb (block_lt p0) p0
      replace p1 := kept hb (block_lt p1) p1
      replace o0 := kept hb (block_lt o0) o0
      replace o1 := kept hb (block_lt o1) o1
      replace l0 := kept hb (block_lt l0) l0
      replace l1 := kept hb (block_lt l1) l1
      replace l2 := kept hb (block_lt l2) l2
      replace l3 := kept hb (block_lt l3) l3
      replace x0 := kept hb (block_lt x0) x0
      replace x1 := kept hb (block_lt x1) x1
      replace p := Lib.hid (p.out.bel hb)
      replace o := Lib.hid (o.out.bel hb)
      replace x := Lib.hid (x.out.bel hb)
      replace bb := Lib.hid (bb.out.trans (hb.mono bb.out.size))
      clear hb
      rw [hsame.out]
      go_wp2_with fail
      go_ret
      exact ⟨rfl, bb.out⟩

set_option maxRecDepth 100000 in
theorem lifted (os : Os) (started : os.Started) (H : Type) (enc : TypeId × Value → H) :
    ReturnsInHanded {} Try.checked os 12 .any (Rows.fnSwitchFirstSpec.pre6 enc Try.prog Try.f12 Rows.fnSwitchFirstRow.domain false) (Rows.fnSwitchFirstSpec.post enc Try.prog Try.f12 false true false false) := by
  refine returnsInHanded_of_change (C := Try.checked) own started (by kernel_rfl) Try.func12
    (ChangeSpec.witness6 (enc := enc) (C := Try.checked) false ⟨#[], #[.slice none 0 0], []⟩ 8 (by kernel_rfl) (by kernel_rfl) (by kernel_rfl) (by kernel_rfl)) ?_
  intro W base args ds gs before hval0 hW hcnd _
  have hval : ∀ (j : Nat) t v, Try.f12.params[j]? = some t → args[j]? = some v → Value.okWide Try.prog W .any base t v := hval0
  have hW' := hW
  obtain ⟨p, q, hA0, hV, rfl, hfz, hnd⟩ := hW
  have hA : DataW.TrodAll enc Try.prog W 0 (fun _ => true) true Try.f12.params.toList args.toList ds p := hA0
  rw [Try.params12] at hA hval
  obtain ⟨v0, vs0, d0, ds0, p0, q0, hargs, rfl, rfl, h0, r0⟩ := trodAll_cons hA
  obtain ⟨rfl, rfl, rfl⟩ := trodAll_nil r0
  obtain rfl : args = #[v0] := by cases args; simp_all
  obtain ⟨rfl, rfl⟩ := trodVars_none hV
  have k0 := h0
  have lt0 : ∀ x ∈ p0, x.block < W.heap.size := by obtain ⟨m, hm⟩ := k0; exact DataW.trod_lt m _ _ _ hm
  obtain ⟨a0, len0, cap0, z0, rfl, w0, l0, m0⟩ := open_code (hval 0 22 v0 rfl rfl) h0
  clear hA0 hval0
  refine (walk a0 len0 cap0 z0 W w0 l0 m0).mono fun e W' ⟨he, bel⟩ => ?_
  subst he
  exact ⟨_, rfl, _, _, _, [], _, [], hW', trodAll_mk1 (shut_bool Try.underlying4 _), (trodAll_cons_mk (Below.trod laidOut (by kernel_rfl) (of_decide_eq_true (by kernel_rfl)) k0 bel lt0) trodAll_mk0), rfl, bel.frame _, fun h => by cases h⟩

theorem closed : joinedFacts Try.prog 12 Try.f12 Rows.fnSwitchFirstSpec Rows.fnSwitchFirstRow = true := by
  simp only [joinedFacts, Bool.and_eq_true]
  repeat' apply And.intro
  all_goals first | with_reducible exact mayEnterOk | (with_reducible rw [liftsFinalOk]; kernel_rfl) | (with_reducible rw [makeOk]; kernel_rfl) | kernel_rfl

theorem over : Rows.fnSwitchFirstRow.holds Try.pinned (OpenSpec.ofChange Rows.fnSwitchFirstSpec) :=
  OpenClaim.holds_of_wide 12 Try.f12 rfl rfl rfl rfl rfl rfl rfl ⟨rfl, rfl, rfl, rfl, rfl⟩ rfl rfl rfl rfl rfl (by kernel_rfl) Try.func12 closed
    (of_decide_eq_true (by kernel_rfl)) (by unfold Func.isWrapper; first | (rw [if_pos (by decide +kernel)]; kernel_rfl) | (rw [if_neg (by decide +kernel)]; exact ⟨rfl, rfl⟩))
    (fun os started H enc _ => lifted os started H enc)

theorem proved : Rows.FnSwitchFirstSaid := over
#print axioms proved
end Go.Proofs.Ytnibmcihklaigaa.LFSwitchFirst

