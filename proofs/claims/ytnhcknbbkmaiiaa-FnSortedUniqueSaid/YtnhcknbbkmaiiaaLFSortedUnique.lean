/-
  For every slice of bytes the law FnSortedUnique answers true: a sorted unique image is nested; nothing that was there is written; no condition.
-/
import Derived.Test.YtnhcknbbkmaiiaaO
import Derived.Test.YtnhcknbbkmaiiaaK
import Derived.Deep.RegionLaw
import Derived.Test.YtnhcknbbkmaiiaaNu
import Derived.Test.YtnhcknbbkmaiiaaNw
import Derived.Test.YtnhcknbbkmaiiaaNd
import Derived.Test.YtnhcknbbkmaiiaaEp
import Derived.Test.YtnhcknbbkmaiiaaDe
import Derived.Test.YtnhcknbbkmaiiaaNs
namespace Go.Proofs.Ytnhcknbbkmaiiaa.LFSortedUnique
open Go.ChangeShapes Go.WideShapes Go.ChangeAt Go.RowKit Go.Joins

set_option maxHeartbeats 4000000 in
set_option maxRecDepth 100000 in
theorem walk (a : Option Addr) (len cap : Nat) (zs : List Int) (w : World) (h : Bys w a len zs) (hl : len ≤ cap) (hm : cap ≤ 9223372036854775807) :
    Calls Try.prog 9 #[.slice a len cap] w fun e w' => e = .returned (.bool true) ∧ Below w.heap.size w w' := by
  by_cases hbig : 1048576 < len
  · clear h
    go_enter Try.func9, Try.ntmps9
    go_wp2_with fail
    go_ret
    exact ⟨rfl, Below.refl _ _⟩
  go_enter Try.func9, Try.ntmps9
  go_wp2_with fail
  refine (draw_DrawImageSorted a len cap zs _ h hl hm).mono ?_
  rintro e w1 ⟨V, s, n, cg, xs, rfl, hR, hn, hb1⟩
  clear h hl hm
  have bb := Lib.hid hb1
  have p := Lib.hid hR
  clear hR hb1
  have hbx : Below w1.heap.size w1 (w1.alloc (.cells #[.int .i64 V, .slice s n cg] 25)) := (Below.refl _ _).alloc (Nat.le_refl _) _
  replace p := Lib.hid (p.out.bel hbx)
  replace bb := Lib.hid (bb.out.trans (hbx.mono bb.out.size))
  clear hbx
  have p0 : (w1.alloc (.cells #[.int .i64 V, .slice s n cg] 25)).cell? ⟨w1.heap.size, 0, none⟩ = some (.int .i64 V) := by simp
  have p1 : (w1.alloc (.cells #[.int .i64 V, .slice s n cg] 25)).cell? ⟨w1.heap.size, 1, none⟩ = some (.slice s n cg) := by simp
  by_cases hv : validB V xs = true
  case neg =>
    have hv : validB V xs = false := by simpa using hv
    go_wp2_with fail
    refine (srt_no hv (by omega) _ _ _ p.out).mono ?_
    rintro e w2 ⟨⟨ao, co, rfl, ho⟩, hb⟩
    have o := Lib.hid ho.row
    have szw2 : w1.heap.size + 1 ≤ w2.heap.size := by have := hb.size; simpa using this
    replace p0 := kept hb (block_lt p0) p0
    replace p1 := kept hb (block_lt p1) p1
    replace p := Lib.hid (p.out.bel hb)
    replace bb := Lib.hid (bb.out.trans (hb.mono bb.out.size))
    clear hb
    clear ho
    have hbx : Below w2.heap.size w2 (w2.alloc (.cells #[.int .i64 0, .slice ao 0 co] 25)) := (Below.refl _ _).alloc (Nat.le_refl _) _
    replace p0 := kept hbx (block_lt p0) p0
    replace p1 := kept hbx (block_lt p1) p1
    replace p := Lib.hid (p.out.bel hbx)
    replace o := Lib.hid (o.out.bel hbx)
    replace bb := Lib.hid (bb.out.trans (hbx.mono bb.out.size))
    clear hbx
    have o0 : (w2.alloc (.cells #[.int .i64 0, .slice ao 0 co] 25)).cell? ⟨w2.heap.size, 0, none⟩ = some (.int .i64 0) := by simp
    have o1 : (w2.alloc (.cells #[.int .i64 0, .slice ao 0 co] 25)).cell? ⟨w2.heap.size, 1, none⟩ = some (.slice ao 0 co) := by simp
    go_wp2_with fail
    refine (srt_sno hv (by omega) _ _ _ p.out).mono ?_
    rintro e w3 ⟨⟨aow, cow, rfl, ho⟩, hb⟩
    have ow := Lib.hid ho.row
    have szw3 : w2.heap.size + 1 ≤ w3.heap.size := by have := hb.size; simpa using this
    replace p0 := kept hb (block_lt p0) p0
    replace p1 := kept hb (block_lt p1) p1
    replace o0 := kept hb (block_lt o0) o0
    replace o1 := kept hb (block_lt o1) o1
    replace p := Lib.hid (p.out.bel hb)
    replace o := Lib.hid (o.out.bel hb)
    replace bb := Lib.hid (bb.out.trans (hb.mono bb.out.size))
    clear hb
    clear ho
    have hbx : Below w3.heap.size w3 (w3.alloc (.cells #[.int .i64 0, .slice aow 0 cow] 25)) := (Below.refl _ _).alloc (Nat.le_refl _) _
    replace p0 := kept hbx (block_lt p0) p0
    replace p1 := kept hbx (block_lt p1) p1
    replace o0 := kept hbx (block_lt o0) o0
    replace o1 := kept hbx (block_lt o1) o1
    replace p := Lib.hid (p.out.bel hbx)
    replace o := Lib.hid (o.out.bel hbx)
    replace ow := Lib.hid (ow.out.bel hbx)
    replace bb := Lib.hid (bb.out.trans (hbx.mono bb.out.size))
    clear hbx
    have ow0 : (w3.alloc (.cells #[.int .i64 0, .slice aow 0 cow] 25)).cell? ⟨w3.heap.size, 0, none⟩ = some (.int .i64 0) := by simp
    have ow1 : (w3.alloc (.cells #[.int .i64 0, .slice aow 0 cow] 25)).cell? ⟨w3.heap.size, 1, none⟩ = some (.slice aow 0 cow) := by simp
    go_wp2_with fail
    refine (sameImage_yes _ _ _ _ _ _ [] _ o.out ow.out (by omega)).mono ?_
    rintro e w4 ⟨rfl, hb⟩
    have szw4 : w3.heap.size + 1 ≤ w4.heap.size := by have := hb.size; simpa using this
    replace p0 := kept hb (block_lt p0) p0
    replace p1 := kept hb (block_lt p1) p1
    replace o0 := kept hb (block_lt o0) o0
    replace o1 := kept hb (block_lt o1) o1
    replace ow0 := kept hb (block_lt ow0) ow0
    replace ow1 := kept hb (block_lt ow1) ow1
    replace p := Lib.hid (p.out.bel hb)
    replace o := Lib.hid (o.out.bel hb)
    replace ow := Lib.hid (ow.out.bel hb)
    replace bb := Lib.hid (bb.out.trans (hb.mono bb.out.size))
    clear hb
    go_wp2_with fail
    refine (sameImage_yes _ _ _ _ _ _ [] _ o.out ow.out (by omega)).mono ?_
    rintro e w5 ⟨rfl, hb⟩
    have szw5 := hb.size
    replace p0 := kept hb (block_lt p0) p0
    replace p1 := kept hb (block_lt p1) p1
    replace o0 := kept hb (block_lt o0) o0
    replace o1 := kept hb (block_lt o1) o1
    replace ow0 := kept hb (block_lt ow0) ow0
    replace ow1 := kept hb (block_lt ow1) ow1
    replace p := Lib.hid (p.out.bel hb)
    replace o := Lib.hid (o.out.bel hb)
    replace ow := Lib.hid (ow.out.bel hb)
    replace bb := Lib.hid (bb.out.trans (hb.mono bb.out.size))
    clear hb
    go_wp2_with fail
    go_ret
    exact ⟨rfl, bb.out⟩
  have hI0 := validB_W hv
  obtain ⟨W, rfl⟩ := Int.eq_ofNat_of_zero_le (by omega : 0 ≤ V)
  have hI : Im W n xs := Im.of hv p.out.1
  have hW6 := hI.w6
  have hW1 := hI.w1
  have hn1 := hI.l1
  have hn6 := hI.l6
  have hJ := sorti_im hI
  obtain ⟨L, hL⟩ : ∃ L, sortI xs W n = L := ⟨_, rfl⟩
  rw [hL] at hJ
  replace hL := Lib.hid hL
  replace hI := Lib.hid hI
  replace hJ := Lib.hid hJ
  clear hv hI0
  go_wp2_with fail
  refine (srt_ok hI.out hL.out _ _ _ p.out).mono ?_
  rintro e w6 ⟨⟨ao, co, rfl, ho⟩, hb⟩
  have o := Lib.hid ho.row
  have szw6 : w1.heap.size + 1 ≤ w6.heap.size := by have := hb.size; simpa using this
  replace p0 := kept hb (block_lt p0) p0
  replace p1 := kept hb (block_lt p1) p1
  replace p := Lib.hid (p.out.bel hb)
  replace bb := Lib.hid (bb.out.trans (hb.mono bb.out.size))
  clear hb
  clear ho
  have hbx : Below w6.heap.size w6 (w6.alloc (.cells #[.int .i64 W, .slice ao n co] 25)) := (Below.refl _ _).alloc (Nat.le_refl _) _
  replace p0 := kept hbx (block_lt p0) p0
  replace p1 := kept hbx (block_lt p1) p1
  replace p := Lib.hid (p.out.bel hbx)
  replace o := Lib.hid (o.out.bel hbx)
  replace bb := Lib.hid (bb.out.trans (hbx.mono bb.out.size))
  clear hbx
  have o0 : (w6.alloc (.cells #[.int .i64 W, .slice ao n co] 25)).cell? ⟨w6.heap.size, 0, none⟩ = some (.int .i64 W) := by simp
  have o1 : (w6.alloc (.cells #[.int .i64 W, .slice ao n co] 25)).cell? ⟨w6.heap.size, 1, none⟩ = some (.slice ao n co) := by simp
  go_wp2_with fail
  refine (srt_sok hI.out hL.out _ _ _ p.out).mono ?_
  rintro e w7 ⟨⟨aow, cow, rfl, ho⟩, hb⟩
  have ow := Lib.hid ho.row
  have szw7 : w6.heap.size + 1 ≤ w7.heap.size := by have := hb.size; simpa using this
  replace p0 := kept hb (block_lt p0) p0
  replace p1 := kept hb (block_lt p1) p1
  replace o0 := kept hb (block_lt o0) o0
  replace o1 := kept hb (block_lt o1) o1
  replace p := Lib.hid (p.out.bel hb)
  replace o := Lib.hid (o.out.bel hb)
  replace bb := Lib.hid (bb.out.trans (hb.mono bb.out.size))
  clear hb
  clear ho
  have hbx : Below w7.heap.size w7 (w7.alloc (.cells #[.int .i64 W, .slice aow n cow] 25)) := (Below.refl _ _).alloc (Nat.le_refl _) _
  replace p0 := kept hbx (block_lt p0) p0
  replace p1 := kept hbx (block_lt p1) p1
  replace o0 := kept hbx (block_lt o0) o0
  replace o1 := kept hbx (block_lt o1) o1
  replace p := Lib.hid (p.out.bel hbx)
  replace o := Lib.hid (o.out.bel hbx)
  replace ow := Lib.hid (ow.out.bel hbx)
  replace bb := Lib.hid (bb.out.trans (hbx.mono bb.out.size))
  clear hbx
  have ow0 : (w7.alloc (.cells #[.int .i64 W, .slice aow n cow] 25)).cell? ⟨w7.heap.size, 0, none⟩ = some (.int .i64 W) := by simp
  have ow1 : (w7.alloc (.cells #[.int .i64 W, .slice aow n cow] 25)).cell? ⟨w7.heap.size, 1, none⟩ = some (.slice aow n cow) := by simp
  go_wp2_with fail
  refine (sameImage_yes _ _ _ _ _ _ L _ o.out ow.out (by omega)).mono ?_
  rintro e w8 ⟨rfl, hb⟩
  have szw8 : w7.heap.size + 1 ≤ w8.heap.size := by have := hb.size; simpa using this
  replace p0 := kept hb (block_lt p0) p0
  replace p1 := kept hb (block_lt p1) p1
  replace o0 := kept hb (block_lt o0) o0
  replace o1 := kept hb (block_lt o1) o1
  replace ow0 := kept hb (block_lt ow0) ow0
  replace ow1 := kept hb (block_lt ow1) ow1
  replace p := Lib.hid (p.out.bel hb)
  replace o := Lib.hid (o.out.bel hb)
  replace ow := Lib.hid (ow.out.bel hb)
  replace bb := Lib.hid (bb.out.trans (hb.mono bb.out.size))
  clear hb
  clear ow0 ow1 ow
  obtain ⟨b, hb0⟩ : ∃ b, uniB xs W n = b := ⟨_, rfl⟩
  cases b with
  | false =>
    go_wp2_with fail
    refine (uni_ok hI.out hb0 _ _ _ p.out).mono ?_
    rintro e w9 ⟨rfl, hb⟩
    have szw9 := hb.size
    replace p0 := kept hb (block_lt p0) p0
    replace p1 := kept hb (block_lt p1) p1
    replace o0 := kept hb (block_lt o0) o0
    replace o1 := kept hb (block_lt o1) o1
    replace p := Lib.hid (p.out.bel hb)
    replace o := Lib.hid (o.out.bel hb)
    replace bb := Lib.hid (bb.out.trans (hb.mono bb.out.size))
    clear hb
    go_wp2_with fail
    refine (valid_impl W ao n co L _ o.out (by omega)).mono ?_
    rintro e w10 ⟨rfl, hb⟩
    have szw10 := hb.size
    replace p0 := kept hb (block_lt p0) p0
    replace p1 := kept hb (block_lt p1) p1
    replace o0 := kept hb (block_lt o0) o0
    replace o1 := kept hb (block_lt o1) o1
    replace p := Lib.hid (p.out.bel hb)
    replace o := Lib.hid (o.out.bel hb)
    replace bb := Lib.hid (bb.out.trans (hb.mono bb.out.size))
    clear hb
    rw [hJ.out.valid]
    go_wp2_with fail
    go_ret
    exact ⟨rfl, bb.out⟩
  | true =>
    have hu := (unib_iff.1 hb0).2 rfl
    have hne := sorti_nest hI.out hu
    have hnb := sort_nest hI.out
    rw [← sorti_rs hI.out] at hnb
    rw [hL.out] at hne hnb
    have lr : (rsL L W n).length = n := rs_len _ _ _
    obtain ⟨R, hR0⟩ : ∃ R, rsL L W n = R := ⟨_, rfl⟩
    have hrs := Lib.hid (fun s c wx hx => rs_ok hJ.out s c wx hx)
    rw [hR0] at hne hnb lr hrs
    replace hne := Lib.hid hne.symm
    replace hnb := Lib.hid hnb
    replace lr := Lib.hid lr
    replace hR0 := Lib.hid hR0
    clear hu
    go_wp2_with fail
    refine (uni_ok hI.out hb0 _ _ _ p.out).mono ?_
    rintro e w11 ⟨rfl, hb⟩
    have szw11 := hb.size
    replace p0 := kept hb (block_lt p0) p0
    replace p1 := kept hb (block_lt p1) p1
    replace o0 := kept hb (block_lt o0) o0
    replace o1 := kept hb (block_lt o1) o1
    replace p := Lib.hid (p.out.bel hb)
    replace o := Lib.hid (o.out.bel hb)
    replace bb := Lib.hid (bb.out.trans (hb.mono bb.out.size))
    clear hb
    clear hb0
    go_upto_region 10 with fail
    go_cut [8, 9] (fun s8 s9 wx => ∃ (kx : Nat) (ax : Option Addr) (cx : Nat), s8 = .pointer (some ⟨kx, 0, none⟩) ∧ s9 = .bool true ∧ wx.cell? ⟨w1.heap.size, 0, none⟩ = some (.int .i64 W) ∧ wx.cell? ⟨w1.heap.size, 1, none⟩ = some (.slice s n cg) ∧ wx.cell? ⟨w6.heap.size, 0, none⟩ = some (.int .i64 W) ∧ wx.cell? ⟨w6.heap.size, 1, none⟩ = some (.slice ao n co) ∧ wx.cell? ⟨kx, 0, none⟩ = some (.int .i64 W) ∧ wx.cell? ⟨kx, 1, none⟩ = some (.slice ax n cx) ∧ Hid (Row wx s n (xs)) ∧ Hid (Row wx ao n (L)) ∧ Hid (Row wx ax n (L)) ∧ Hid (Below w.heap.size w wx))
    case first =>
      have tok0 : True := trivial
      go_wp2_with fail
      replace p := Lib.hid (p.out.bel ((Below.refl _ _).drew))
      replace o := Lib.hid (o.out.bel ((Below.refl _ _).drew))
      replace bb := Lib.hid bb.out.drew
      have lq_p0 : w1.heap.size < w11.heap.size := block_lt p0
      have lq_o0 : w6.heap.size < w11.heap.size := block_lt o0
      go_region_held3 (fun W' => W'.cell? ⟨w6.heap.size, 0, none⟩ = some (.int .i64 W) ∧ W'.cell? ⟨w6.heap.size, 1, none⟩ = some (.slice ao n co) ∧ W'.cell? ⟨w1.heap.size, 0, none⟩ = some (.int .i64 W) ∧ W'.cell? ⟨w1.heap.size, 1, none⟩ = some (.slice s n cg))
        (first | exact ⟨o0, o1, p0, p1⟩ | exact ⟨World.cell?_alloc_some o0, World.cell?_alloc_some o1, World.cell?_alloc_some p0, World.cell?_alloc_some p1⟩ | exact ⟨set2_cell o0 ltz_o0, set2_cell o1 ltz_o1, set2_cell p0 ltz_p0, set2_cell p1 ltz_p1⟩ | go_keep)
        (first | (go_at_call 44; have _t := tok0; (try (first | (obtain ⟨wz, hwz⟩ : ∃ wz, wz = (w11.alloc (.cells #[.int .i64 0, .slice none 0 0] 25)).drew := ⟨_, rfl⟩; rw [← hwz]; have hbz : Below w11.drew.heap.size w11.drew wz := (by rw [hwz]; exact (Below.refl _ _).alloc (Nat.le_refl _) _); have ltz_p0 : w1.heap.size < w11.heap.size := block_lt (show w11.drew.cell? _ = _ from p0); replace p0 := kept hbz ltz_p0 (show w11.drew.cell? _ = _ from p0); have ltz_p1 : w1.heap.size < w11.heap.size := block_lt (show w11.drew.cell? _ = _ from p1); replace p1 := kept hbz ltz_p1 (show w11.drew.cell? _ = _ from p1); have ltz_o0 : w6.heap.size < w11.heap.size := block_lt (show w11.drew.cell? _ = _ from o0); replace o0 := kept hbz ltz_o0 (show w11.drew.cell? _ = _ from o0); have ltz_o1 : w6.heap.size < w11.heap.size := block_lt (show w11.drew.cell? _ = _ from o1); replace o1 := kept hbz ltz_o1 (show w11.drew.cell? _ = _ from o1); have ltz_p : ∀ b off, s = some ⟨b, off, none⟩ → 0 < n → b < w11.heap.size := row_lt p.out; replace p := Lib.hid (p.out.bel hbz); have ltz_o : ∀ b off, ao = some ⟨b, off, none⟩ → 0 < n → b < w11.heap.size := row_lt o.out; replace o := Lib.hid (o.out.bel hbz); have szb : w.heap.size ≤ w11.heap.size := bb.out.size; replace bb := Lib.hid (bb.out.trans (hbz.mono bb.out.size)); have zb : Box wz w11.heap.size (.int .i64 0) (.slice none 0 0) := (by rw [hwz]; exact ⟨by simp, by simp, fun o => by simp⟩); have z0 := zb.c0; have z1 := zb.c1; have zf := zb.fz; have zb := Lib.hid zb; clear hwz hbz) | (obtain ⟨wz, hwz⟩ : ∃ wz, wz = (w11.drew.alloc (.cells #[.int .i64 0, .slice none 0 0] 25)) := ⟨_, rfl⟩; rw [← hwz]; have hbz : Below w11.drew.heap.size w11.drew wz := (by rw [hwz]; exact (Below.refl _ _).alloc (Nat.le_refl _) _); have ltz_p0 : w1.heap.size < w11.heap.size := block_lt (show w11.drew.cell? _ = _ from p0); replace p0 := kept hbz ltz_p0 (show w11.drew.cell? _ = _ from p0); have ltz_p1 : w1.heap.size < w11.heap.size := block_lt (show w11.drew.cell? _ = _ from p1); replace p1 := kept hbz ltz_p1 (show w11.drew.cell? _ = _ from p1); have ltz_o0 : w6.heap.size < w11.heap.size := block_lt (show w11.drew.cell? _ = _ from o0); replace o0 := kept hbz ltz_o0 (show w11.drew.cell? _ = _ from o0); have ltz_o1 : w6.heap.size < w11.heap.size := block_lt (show w11.drew.cell? _ = _ from o1); replace o1 := kept hbz ltz_o1 (show w11.drew.cell? _ = _ from o1); have ltz_p : ∀ b off, s = some ⟨b, off, none⟩ → 0 < n → b < w11.heap.size := row_lt p.out; replace p := Lib.hid (p.out.bel hbz); have ltz_o : ∀ b off, ao = some ⟨b, off, none⟩ → 0 < n → b < w11.heap.size := row_lt o.out; replace o := Lib.hid (o.out.bel hbz); have szb : w.heap.size ≤ w11.heap.size := bb.out.size; replace bb := Lib.hid (bb.out.trans (hbz.mono bb.out.size)); have zb : Box wz w11.heap.size (.int .i64 0) (.slice none 0 0) := (by rw [hwz]; exact ⟨by simp, by simp, fun o => by simp⟩); have z0 := zb.c0; have z1 := zb.c1; have zf := zb.fz; have zb := Lib.hid zb; clear hwz hbz))); (try (have kzB := block_lt z0)); (refine (hrs.out _ _ _ o.out).mono ?_); rintro e w12 ⟨⟨ar1, cr1, rfl, ho⟩, hb⟩; have szw12 := hb.size; have r1 := Lib.hid ho.row; (first | replace p0 := kept hb (block_lt p0) p0 | replace p0 := kept hb (block_lt (show w11.drew.cell? _ = _ from p0)) (show w11.drew.cell? _ = _ from p0)); (first | replace p1 := kept hb (block_lt p1) p1 | replace p1 := kept hb (block_lt (show w11.drew.cell? _ = _ from p1)) (show w11.drew.cell? _ = _ from p1)); (first | replace o0 := kept hb (block_lt o0) o0 | replace o0 := kept hb (block_lt (show w11.drew.cell? _ = _ from o0)) (show w11.drew.cell? _ = _ from o0)); (first | replace o1 := kept hb (block_lt o1) o1 | replace o1 := kept hb (block_lt (show w11.drew.cell? _ = _ from o1)) (show w11.drew.cell? _ = _ from o1)); replace p := Lib.hid (p.out.bel hb); replace o := Lib.hid (o.out.bel hb); replace bb := Lib.hid (bb.out.trans (hb.mono bb.out.size)); (try (replace zb := Lib.hid (zb.out.bel hb); replace z0 := zb.out.c0; replace z1 := zb.out.c1; replace zf := zb.out.fz)); clear hb ho tok0 _t; have tok1 : True := trivial) | (go_at_call 37; have _t := tok1; (try (first | (obtain ⟨wz, hwz⟩ : ∃ wz, wz = (w12.alloc (.cells #[.int .i64 0, .slice none 0 0] 25)) := ⟨_, rfl⟩; rw [← hwz]; have hbz : Below w12.heap.size w12 wz := (by rw [hwz]; exact (Below.refl _ _).alloc (Nat.le_refl _) _); have ltz_p0 : w1.heap.size < w12.heap.size := block_lt (show w12.cell? _ = _ from p0); replace p0 := kept hbz ltz_p0 (show w12.cell? _ = _ from p0); have ltz_p1 : w1.heap.size < w12.heap.size := block_lt (show w12.cell? _ = _ from p1); replace p1 := kept hbz ltz_p1 (show w12.cell? _ = _ from p1); have ltz_o0 : w6.heap.size < w12.heap.size := block_lt (show w12.cell? _ = _ from o0); replace o0 := kept hbz ltz_o0 (show w12.cell? _ = _ from o0); have ltz_o1 : w6.heap.size < w12.heap.size := block_lt (show w12.cell? _ = _ from o1); replace o1 := kept hbz ltz_o1 (show w12.cell? _ = _ from o1); have ltz_p : ∀ b off, s = some ⟨b, off, none⟩ → 0 < n → b < w12.heap.size := row_lt p.out; replace p := Lib.hid (p.out.bel hbz); have ltz_o : ∀ b off, ao = some ⟨b, off, none⟩ → 0 < n → b < w12.heap.size := row_lt o.out; replace o := Lib.hid (o.out.bel hbz); have ltz_r1 : ∀ b off, ar1 = some ⟨b, off, none⟩ → 0 < n → b < w12.heap.size := row_lt r1.out; replace r1 := Lib.hid (r1.out.bel hbz); have szb : w.heap.size ≤ w12.heap.size := bb.out.size; replace bb := Lib.hid (bb.out.trans (hbz.mono bb.out.size)); have zb : Box wz w12.heap.size (.int .i64 0) (.slice none 0 0) := (by rw [hwz]; exact ⟨by simp, by simp, fun o => by simp⟩); have z0 := zb.c0; have z1 := zb.c1; have zf := zb.fz; have zb := Lib.hid zb; clear hwz hbz))); (try (have kzB := block_lt z0)); (refine (bn_ok hnb.out hne.out lr.out _ _ _ r1.out).mono ?_); rintro e w13 ⟨⟨ax, cx, rfl, ho⟩, hb⟩; have szw13 := hb.size; have hoz := Lib.hid ho; replace p0 := kept hb (block_lt p0) p0; replace p1 := kept hb (block_lt p1) p1; replace o0 := kept hb (block_lt o0) o0; replace o1 := kept hb (block_lt o1) o1; replace p := Lib.hid (p.out.bel hb); replace o := Lib.hid (o.out.bel hb); replace r1 := Lib.hid (r1.out.bel hb); replace bb := Lib.hid (bb.out.trans (hb.mono bb.out.size)); (try (replace zb := Lib.hid (zb.out.bel hb); replace z0 := zb.out.c0; replace z1 := zb.out.c1; replace zf := zb.out.fz)); clear hb ho tok1 _t; have tok2 : True := trivial))
      all_goals
        first | (have x0 := set2_c0 (u0 := .int .i64 W) (u1 := .slice ax n cx) z0; have x1 := set2_c1 (u0 := .int .i64 W) (u1 := .slice ax n cx) z1; replace p0 := set2_cell (u0 := .int .i64 W) (u1 := .slice ax n cx) p0 ltz_p0; replace p1 := set2_cell (u0 := .int .i64 W) (u1 := .slice ax n cx) p1 ltz_p1; replace o0 := set2_cell (u0 := .int .i64 W) (u1 := .slice ax n cx) o0 ltz_o0; replace o1 := set2_cell (u0 := .int .i64 W) (u1 := .slice ax n cx) o1 ltz_o1; replace p := Lib.hid (set2_old (u0 := .int .i64 W) (u1 := .slice ax n cx) p.out ltz_p); replace o := Lib.hid (set2_old (u0 := .int .i64 W) (u1 := .slice ax n cx) o.out ltz_o); have x := Lib.hid (set2_row (u0 := .int .i64 W) (u1 := .slice ax n cx) hoz.out.row (own_far hoz.out kzB)); replace bb := Lib.hid (set2_bel (u0 := .int .i64 W) (u1 := .slice ax n cx) bb.out szb)) | (have x0 : (w13.alloc (.cells #[.int .i64 W, .slice ax n cx] 25)).cell? ⟨w13.heap.size, 0, none⟩ = some (.int .i64 W) := (by simp); have x1 : (w13.alloc (.cells #[.int .i64 W, .slice ax n cx] 25)).cell? ⟨w13.heap.size, 1, none⟩ = some (.slice ax n cx) := (by simp); replace p0 := World.cell?_alloc_some (o := .cells #[.int .i64 W, .slice ax n cx] 25) p0; replace p1 := World.cell?_alloc_some (o := .cells #[.int .i64 W, .slice ax n cx] 25) p1; replace o0 := World.cell?_alloc_some (o := .cells #[.int .i64 W, .slice ax n cx] 25) o0; replace o1 := World.cell?_alloc_some (o := .cells #[.int .i64 W, .slice ax n cx] 25) o1; replace p := Lib.hid (p.out.alloc (.cells #[.int .i64 W, .slice ax n cx] 25)); replace o := Lib.hid (o.out.alloc (.cells #[.int .i64 W, .slice ax n cx] 25)); have x := Lib.hid (hoz.out.row.alloc (.cells #[.int .i64 W, .slice ax n cx] 25)); replace bb := Lib.hid (bb.out.alloc bb.out.size (.cells #[.int .i64 W, .slice ax n cx] 25)))
        go_wp2_with fail
        go_meet
        exact ⟨_, ax, cx, rfl, rfl, p0, p1, o0, o1, x0, x1, p, o, x, bb⟩
    case rest =>
      clear p0 p1 o0 o1 p o bb
      obtain ⟨kx, ax, cx, rfl, rfl, p0, p1, o0, o1, x0, x1, p, o, x, bb⟩ := hcut
      go_wp2_with fail
      refine (sameImage_yes _ _ _ _ _ _ L _ x.out o.out (by omega)).mono ?_
      rintro e w14 ⟨rfl, hb⟩
      have szw14 := hb.size
      replace p0 := kept hb (block_lt p0) p0
      replace p1 := kept hb (block_lt p1) p1
      replace o0 := kept hb (block_lt o0) o0
      replace o1 := kept hb (block_lt o1) o1
      replace x0 := kept hb (block_lt x0) x0
      replace x1 := kept hb (block_lt x1) x1
      replace p := Lib.hid (p.out.bel hb)
      replace o := Lib.hid (o.out.bel hb)
      replace x := Lib.hid (x.out.bel hb)
      replace bb := Lib.hid (bb.out.trans (hb.mono bb.out.size))
      clear hb
      go_wp2_with fail
      go_ret
      exact ⟨rfl, bb.out⟩

set_option maxRecDepth 100000 in
theorem lifted (os : Os) (started : os.Started) (H : Type) (enc : TypeId × Value → H) :
    ReturnsInHanded {} Try.checked os 9 .any (Rows.fnSortedUniqueSpec.pre6 enc Try.prog Try.f9 Rows.fnSortedUniqueRow.domain false) (Rows.fnSortedUniqueSpec.post enc Try.prog Try.f9 false true false false) := by
  refine returnsInHanded_of_change (C := Try.checked) own started (by kernel_rfl) Try.func9
    (ChangeSpec.witness6 (enc := enc) (C := Try.checked) false ⟨#[], #[.slice none 0 0], []⟩ 8 (by kernel_rfl) (by kernel_rfl) (by kernel_rfl) (by kernel_rfl)) ?_
  intro W base args ds gs before hval0 hW hcnd _
  have hval : ∀ (j : Nat) t v, Try.f9.params[j]? = some t → args[j]? = some v → Value.okWide Try.prog W .any base t v := hval0
  have hW' := hW
  obtain ⟨p, q, hA0, hV, rfl, hfz, hnd⟩ := hW
  have hA : DataW.TrodAll enc Try.prog W 0 (fun _ => true) true Try.f9.params.toList args.toList ds p := hA0
  rw [Try.params9] at hA hval
  obtain ⟨v0, vs0, d0, ds0, p0, q0, hargs, rfl, rfl, h0, r0⟩ := trodAll_cons hA
  obtain ⟨rfl, rfl, rfl⟩ := trodAll_nil r0
  obtain rfl : args = #[v0] := by cases args; simp_all
  obtain ⟨rfl, rfl⟩ := trodVars_none hV
  have k0 := h0
  have lt0 : ∀ x ∈ p0, x.block < W.heap.size := by obtain ⟨m, hm⟩ := k0; exact DataW.trod_lt m _ _ _ hm
  obtain ⟨a0, len0, cap0, z0, rfl, w0, l0, m0⟩ := open_code (hval 0 22 v0 rfl rfl) h0
  clear hA0 hval0
  refine (walk a0 len0 cap0 z0 W w0 l0 m0).mono fun e W' ⟨he, bel⟩ => ?_
  subst he
  exact ⟨_, rfl, _, _, _, [], _, [], hW', trodAll_mk1 (shut_bool Try.underlying4 _), (trodAll_cons_mk (Below.trod laidOut (by kernel_rfl) (of_decide_eq_true (by kernel_rfl)) k0 bel lt0) trodAll_mk0), rfl, bel.frame _, fun h => by cases h⟩

theorem closed : joinedFacts Try.prog 9 Try.f9 Rows.fnSortedUniqueSpec Rows.fnSortedUniqueRow = true := by
  simp only [joinedFacts, Bool.and_eq_true]
  repeat' apply And.intro
  all_goals first | with_reducible exact mayEnterOk | (with_reducible rw [liftsFinalOk]; kernel_rfl) | (with_reducible rw [makeOk]; kernel_rfl) | kernel_rfl

theorem over : Rows.fnSortedUniqueRow.holds Try.pinned (OpenSpec.ofChange Rows.fnSortedUniqueSpec) :=
  OpenClaim.holds_of_wide 9 Try.f9 rfl rfl rfl rfl rfl rfl rfl ⟨rfl, rfl, rfl, rfl, rfl⟩ rfl rfl rfl rfl rfl (by kernel_rfl) Try.func9 closed
    (of_decide_eq_true (by kernel_rfl)) (by unfold Func.isWrapper; first | (rw [if_pos (by decide +kernel)]; kernel_rfl) | (rw [if_neg (by decide +kernel)]; exact ⟨rfl, rfl⟩))
    (fun os started H enc _ => lifted os started H enc)

theorem proved : Rows.FnSortedUniqueSaid := over
#print axioms proved
end Go.Proofs.Ytnhcknbbkmaiiaa.LFSortedUnique

