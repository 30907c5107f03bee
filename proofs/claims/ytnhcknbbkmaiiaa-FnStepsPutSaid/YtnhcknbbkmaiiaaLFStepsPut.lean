/-
  For any two slices of bytes the law FnStepsPut answers true: one change is one step at most; nothing that was there is written; no condition.
-/
import Derived.Test.YtnhcknbbkmaiiaaO
import Derived.Test.YtnhcknbbkmaiiaaK
import Derived.Deep.RegionLaw
import Derived.Test.YtnhcknbbkmaiiaaNx
import Derived.Test.YtnhcknbbkmaiiaaMp
import Derived.Test.YtnhcknbbkmaiiaaEp
import Derived.Test.YtnhcknbbkmaiiaaMi
namespace Go.Proofs.Ytnhcknbbkmaiiaa.LFStepsPut
open Go.ChangeShapes Go.WideShapes Go.ChangeAt Go.RowKit Go.Joins

set_option maxHeartbeats 4000000 in
set_option maxRecDepth 100000 in
theorem walk (a : Option Addr) (len cap : Nat) (zs : List Int) (a2 : Option Addr) (len2 cap2 : Nat) (zs2 : List Int) (w : World) (h : Bys w a len zs) (hl : len ≤ cap) (hm : cap ≤ 9223372036854775807) (_ : Bys w a2 len2 zs2) (_ : len2 ≤ cap2) (_ : cap2 ≤ 9223372036854775807) :
    Calls Try.prog 11 #[.slice a len cap, .slice a2 len2 cap2] w fun e w' => e = .returned (.bool true) ∧ Below w.heap.size w w' := by
  by_cases hbig : 1048576 < len
  · clear h
    go_enter Try.func11, Try.ntmps11
    go_wp2_with fail
    go_ret
    exact ⟨rfl, Below.refl _ _⟩
  by_cases hbig2 : 1048576 < len2
  · clear h
    go_enter Try.func11, Try.ntmps11
    go_wp2_with fail
    go_ret
    exact ⟨rfl, Below.refl _ _⟩
  go_enter Try.func11, Try.ntmps11
  go_wp2_with fail
  refine (draw_DrawImageSteps a len cap zs _ h hl hm).mono ?_
  rintro e w1 ⟨V, s, n, cg, xs, rfl, hR, hn, hb1⟩
  clear h hl hm
  have bb := Lib.hid hb1
  have p := Lib.hid hR
  clear hR hb1
  have hbx : Below w1.heap.size w1 (w1.alloc (.cells #[.int .i64 V, .slice s n cg] 25)) := (Below.refl _ _).alloc (Nat.le_refl _) _
  replace p := Lib.hid (p.out.bel hbx)
  replace bb := Lib.hid (bb.out.trans (hbx.mono bb.out.size))
  clear hbx
  have p0 : (w1.alloc (.cells #[.int .i64 V, .slice s n cg] 25)).cell? ⟨w1.heap.size, 0, none⟩ = some (.int .i64 V) := by simp
  have p1 : (w1.alloc (.cells #[.int .i64 V, .slice s n cg] 25)).cell? ⟨w1.heap.size, 1, none⟩ = some (.slice s n cg) := by simp
  rcases sto_ways V p.out.1 with h1 | ⟨W, rfl, hI, h12, h1⟩
  case inl =>
    go_wp2_with fail
    refine (stp_io h1 (by omega) _ _ _ p.out).mono ?_
    rintro e w2 ⟨rfl, hb⟩
    have szw2 : w1.heap.size + 1 ≤ w2.heap.size := by have := hb.size; simpa using this
    replace p0 := kept hb (block_lt p0) p0
    replace p1 := kept hb (block_lt p1) p1
    replace p := Lib.hid (p.out.bel hb)
    replace bb := Lib.hid (bb.out.trans (hb.mono bb.out.size))
    clear hb
    go_wp2_with fail
    refine (stp_so h1 (by omega) _ _ _ p.out).mono ?_
    rintro e w3 ⟨rfl, hb⟩
    have szw3 := hb.size
    replace p0 := kept hb (block_lt p0) p0
    replace p1 := kept hb (block_lt p1) p1
    replace p := Lib.hid (p.out.bel hb)
    replace bb := Lib.hid (bb.out.trans (hb.mono bb.out.size))
    clear hb
    go_wp2_with fail
    go_ret
    exact ⟨rfl, bb.out⟩
  have hW6 := hI.w6
  have hW1 := hI.w1
  have hn1 := hI.l1
  have hn6 := hI.l6
  obtain ⟨K, hK⟩ : ∃ K, stepI xs W n = K := ⟨_, rfl⟩
  rw [hK] at h1
  have hKb := stepi_bd hI
  rw [hK] at hKb
  have hK0 : ¬ K < 0 := by omega
  have hSt := stepi_is hI
  rw [hK] at hSt
  obtain ⟨N, hN⟩ : ∃ N, n * W = N := ⟨_, rfl⟩
  have ek : (n : Int) * (W : Int) = (N : Int) := by rw [← hN, Int.natCast_mul]
  have hN12 : N ≤ 12 := by omega
  have hNb : -9223372036854775808 ≤ (N : Int) ∧ (N : Int) ≤ 9223372036854775807 := by omega
  have ewN : wrap64 (N : Int) = (N : Int) := IntWalk.wrap64_in _ hNb
  have ewN2 : IntKind.i64.wrap (N : Int) = (N : Int) := IntWalk.i64_in _ hNb
  replace h1 := Lib.hid h1
  replace hK := Lib.hid hK
  replace hI := Lib.hid hI
  replace hSt := Lib.hid hSt
  replace hN := Lib.hid hN
  go_wp2_with fail
  refine (stp_io h1.out (by omega) _ _ _ p.out).mono ?_
  rintro e w4 ⟨rfl, hb⟩
  have szw4 : w1.heap.size + 1 ≤ w4.heap.size := by have := hb.size; simpa using this
  replace p0 := kept hb (block_lt p0) p0
  replace p1 := kept hb (block_lt p1) p1
  replace p := Lib.hid (p.out.bel hb)
  replace bb := Lib.hid (bb.out.trans (hb.mono bb.out.size))
  clear hb
  go_wp2_with fail
  refine (stp_so h1.out (by omega) _ _ _ p.out).mono ?_
  rintro e w5 ⟨rfl, hb⟩
  have szw5 := hb.size
  replace p0 := kept hb (block_lt p0) p0
  replace p1 := kept hb (block_lt p1) p1
  replace p := Lib.hid (p.out.bel hb)
  replace bb := Lib.hid (bb.out.trans (hb.mono bb.out.size))
  clear hb
  clear ek ewN ewN2
  have k0 : len2 % n < n := Nat.mod_lt _ (by omega)
  have l0 : len2 / n % W < W := Nat.mod_lt _ (by omega)
  have hmod : ((len2 : Int) % (n : Int)) = ((len2 % n : Nat) : Int) := (Int.natCast_emod _ _).symm
  have hmod2 : (((len2 : Int) / (n : Int)) % (W : Int)) = ((len2 / n % W : Nat) : Int) := by rw [Int.natCast_emod, Int.natCast_ediv]
  have hdiv : ((len2 : Int) / (n : Int)) = ((len2 / n : Nat) : Int) := (Int.natCast_ediv _ _).symm
  have hdl : len2 / n ≤ len2 := Nat.div_le_self _ _
  have hd0 : 0 ≤ (len2 : Int) / (n : Int) := Int.ediv_nonneg (by omega) (by omega)
  have hwd : IntKind.i64.wrap ((len2 : Int) / (n : Int)) = (len2 : Int) / (n : Int) := by rw [hdiv]; exact IntWalk.i64_in _ ⟨by omega, by omega⟩
  have hwd2 : wrap64 ((len2 : Int) / (n : Int)) = (len2 : Int) / (n : Int) := by rw [hdiv]; unfold wrap64; omega
  generalize len2 % n = i at k0 hmod
  generalize len2 / n % W = j at l0 hmod2
  have hmod3 : ((len2 : Int) / (n : Int)).tmod (W : Int) = (j : Int) := by rw [Int.tmod_eq_emod_of_nonneg hd0]; exact hmod2
  replace hmod := Lib.hid hmod
  replace hmod3 := Lib.hid hmod3
  clear hdiv hdl hmod2 hd0
  have hP := hI.out.put k0 l0 (!cellOf xs i j)
  have hO := Lib.hid (fun s cg w hR => put_ok hI.out k0 l0 (!cellOf xs i j) s cg w hR)
  obtain ⟨Y, hY⟩ : ∃ Y, putL xs i j (!cellOf xs i j) = Y := ⟨_, rfl⟩
  have hfar : farL xs Y W n = 1 := by
    rw [← hY]
    refine (far_put (c := cellOf xs) (e := cellOf (putL xs i j (!cellOf xs i j))) (cellOf xs) (i := i) (j := j) k0 l0 fun a b ha hb => ?_).2
    show decide (bitI _ _ = 1) = _
    rw [hI.out.put_bit k0 l0 ha hb]
    by_cases e : a = i ∧ b = j
    · rw [if_pos e, if_pos e, e.1, e.2]; cases cellOf xs i j <;> rfl
    · rw [if_neg e, if_neg e]; rfl
  rw [hY] at hP hO
  obtain ⟨L, hL⟩ : ∃ L, stepI Y W n = L := ⟨_, rfl⟩
  have hSY := stepi_is hP
  rw [hL] at hSY
  have hfar2 : farL Y xs W n = 1 := (farl_comm Y xs W n).trans hfar
  have n1 := hSt.out.near hSY
  have n2 := hSY.near hSt.out
  rw [hfar] at n1
  rw [hfar2] at n2
  have hLb := stepi_bd hP
  rw [hL] at hLb
  obtain ⟨B, hB⟩ : ∃ B, cellOf xs i j = B := ⟨_, rfl⟩
  rw [hB] at hO
  have h12 : n * W ≤ 12 := by have := hN.out; omega
  have ewd : IntKind.i64.wrap (L - K) = L - K := IntWalk.i64_in _ ⟨by omega, by omega⟩
  have g1 : -1 ≤ L - K := by omega
  have g2 : L - K ≤ 1 := by omega
  replace hP := Lib.hid hP
  replace hY := Lib.hid hY
  replace hL := Lib.hid hL
  replace hB := Lib.hid hB
  replace h12 := Lib.hid h12
  clear hfar hfar2 n1 n2 hSY
  go_wp2_with fail
  rw [hmod.out]
  go_quiet (fail)
  rw [hmod3.out]
  have hdr : Below w5.heap.size w5 (w5.drewN nq) := below_drewN (Below.refl _ _) nq
  replace p0 := kept hdr (block_lt p0) p0
  replace p1 := kept hdr (block_lt p1) p1
  replace p := Lib.hid (p.out.bel hdr)
  replace bb := Lib.hid (bb.out.trans (hdr.mono bb.out.size))
  clear hdr hwd hwd2
  generalize hwq : w5.drewN nq = w6 at *
  clear hwq
  go_upto_region 10 with fail
  go_cut [10, 11] (fun s10 s11 wx => ∃ (kq : Nat) (aq : Option Addr) (cq : Nat), s10 = .pointer (some ⟨kq, 0, none⟩) ∧ s11 = .bool true ∧ wx.cell? ⟨w1.heap.size, 0, none⟩ = some (.int .i64 W) ∧ wx.cell? ⟨w1.heap.size, 1, none⟩ = some (.slice s n cg) ∧ wx.cell? ⟨kq, 0, none⟩ = some (.int .i64 W) ∧ wx.cell? ⟨kq, 1, none⟩ = some (.slice aq n cq) ∧ Hid (Row wx s n (xs)) ∧ Hid (Row wx aq n (Y)) ∧ Hid (Below w.heap.size w wx))
  case first =>
    have tok0 : True := trivial
    go_wp2_with fail
    replace p := Lib.hid (p.out.bel ((Below.refl _ _).drew))
    replace bb := Lib.hid bb.out.drew
    have lq_p0 : w1.heap.size < w6.heap.size := block_lt p0
    go_region_held3 (fun W' => W'.cell? ⟨w1.heap.size, 0, none⟩ = some (.int .i64 W) ∧ W'.cell? ⟨w1.heap.size, 1, none⟩ = some (.slice s n cg))
      (first | exact ⟨p0, p1⟩ | exact ⟨World.cell?_alloc_some p0, World.cell?_alloc_some p1⟩ | exact ⟨set2_cell p0 ltz_p0, set2_cell p1 ltz_p1⟩ | go_keep)
      (first | (go_at_call 50; have _t := tok0; (try (first | (obtain ⟨wz, hwz⟩ : ∃ wz, wz = (w6.alloc (.cells #[.int .i64 0, .slice none 0 0] 25)).drew := ⟨_, rfl⟩; rw [← hwz]; have hbz : Below w6.drew.heap.size w6.drew wz := (by rw [hwz]; exact (Below.refl _ _).alloc (Nat.le_refl _) _); have ltz_p0 : w1.heap.size < w6.heap.size := block_lt (show w6.drew.cell? _ = _ from p0); replace p0 := kept hbz ltz_p0 (show w6.drew.cell? _ = _ from p0); have ltz_p1 : w1.heap.size < w6.heap.size := block_lt (show w6.drew.cell? _ = _ from p1); replace p1 := kept hbz ltz_p1 (show w6.drew.cell? _ = _ from p1); have ltz_p : ∀ b off, s = some ⟨b, off, none⟩ → 0 < n → b < w6.heap.size := row_lt p.out; replace p := Lib.hid (p.out.bel hbz); have szb : w.heap.size ≤ w6.heap.size := bb.out.size; replace bb := Lib.hid (bb.out.trans (hbz.mono bb.out.size)); have zb : Box wz w6.heap.size (.int .i64 0) (.slice none 0 0) := (by rw [hwz]; exact ⟨by simp, by simp, fun o => by simp⟩); have z0 := zb.c0; have z1 := zb.c1; have zf := zb.fz; have zb := Lib.hid zb; clear hwz hbz) | (obtain ⟨wz, hwz⟩ : ∃ wz, wz = (w6.drew.alloc (.cells #[.int .i64 0, .slice none 0 0] 25)) := ⟨_, rfl⟩; rw [← hwz]; have hbz : Below w6.drew.heap.size w6.drew wz := (by rw [hwz]; exact (Below.refl _ _).alloc (Nat.le_refl _) _); have ltz_p0 : w1.heap.size < w6.heap.size := block_lt (show w6.drew.cell? _ = _ from p0); replace p0 := kept hbz ltz_p0 (show w6.drew.cell? _ = _ from p0); have ltz_p1 : w1.heap.size < w6.heap.size := block_lt (show w6.drew.cell? _ = _ from p1); replace p1 := kept hbz ltz_p1 (show w6.drew.cell? _ = _ from p1); have ltz_p : ∀ b off, s = some ⟨b, off, none⟩ → 0 < n → b < w6.heap.size := row_lt p.out; replace p := Lib.hid (p.out.bel hbz); have szb : w.heap.size ≤ w6.heap.size := bb.out.size; replace bb := Lib.hid (bb.out.trans (hbz.mono bb.out.size)); have zb : Box wz w6.heap.size (.int .i64 0) (.slice none 0 0) := (by rw [hwz]; exact ⟨by simp, by simp, fun o => by simp⟩); have z0 := zb.c0; have z1 := zb.c1; have zf := zb.fz; have zb := Lib.hid zb; clear hwz hbz))); (try (have kzB := block_lt z0)); (refine (has_ok hI.out k0 l0 hB.out _ _ _ p.out).mono ?_); rintro e w7 ⟨rfl, hb⟩; have szw7 := hb.size; (first | replace p0 := kept hb (block_lt p0) p0 | replace p0 := kept hb (block_lt (show w6.drew.cell? _ = _ from p0)) (show w6.drew.cell? _ = _ from p0)); (first | replace p1 := kept hb (block_lt p1) p1 | replace p1 := kept hb (block_lt (show w6.drew.cell? _ = _ from p1)) (show w6.drew.cell? _ = _ from p1)); replace p := Lib.hid (p.out.bel hb); replace bb := Lib.hid (bb.out.trans (hb.mono bb.out.size)); (try (replace zb := Lib.hid (zb.out.bel hb); replace z0 := zb.out.c0; replace z1 := zb.out.c1; replace zf := zb.out.fz)); clear hb tok0 _t; have tok1 : True := trivial) | (go_at_call 49; have _t := tok1; (try (first | (obtain ⟨wz, hwz⟩ : ∃ wz, wz = (w7.alloc (.cells #[.int .i64 0, .slice none 0 0] 25)) := ⟨_, rfl⟩; rw [← hwz]; have hbz : Below w7.heap.size w7 wz := (by rw [hwz]; exact (Below.refl _ _).alloc (Nat.le_refl _) _); have ltz_p0 : w1.heap.size < w7.heap.size := block_lt (show w7.cell? _ = _ from p0); replace p0 := kept hbz ltz_p0 (show w7.cell? _ = _ from p0); have ltz_p1 : w1.heap.size < w7.heap.size := block_lt (show w7.cell? _ = _ from p1); replace p1 := kept hbz ltz_p1 (show w7.cell? _ = _ from p1); have ltz_p : ∀ b off, s = some ⟨b, off, none⟩ → 0 < n → b < w7.heap.size := row_lt p.out; replace p := Lib.hid (p.out.bel hbz); have szb : w.heap.size ≤ w7.heap.size := bb.out.size; replace bb := Lib.hid (bb.out.trans (hbz.mono bb.out.size)); have zb : Box wz w7.heap.size (.int .i64 0) (.slice none 0 0) := (by rw [hwz]; exact ⟨by simp, by simp, fun o => by simp⟩); have z0 := zb.c0; have z1 := zb.c1; have zf := zb.fz; have zb := Lib.hid zb; clear hwz hbz))); (try (have kzB := block_lt z0)); (refine (hO.out _ _ _ p.out).mono ?_); rintro e w8 ⟨⟨aq, cq, rfl, ho⟩, hb⟩; have szw8 := hb.size; have hoz := Lib.hid ho; replace p0 := kept hb (block_lt p0) p0; replace p1 := kept hb (block_lt p1) p1; replace p := Lib.hid (p.out.bel hb); replace bb := Lib.hid (bb.out.trans (hb.mono bb.out.size)); (try (replace zb := Lib.hid (zb.out.bel hb); replace z0 := zb.out.c0; replace z1 := zb.out.c1; replace zf := zb.out.fz)); clear hb ho tok1 _t; have tok2 : True := trivial))
    all_goals
      first | (have q0 := set2_c0 (u0 := .int .i64 W) (u1 := .slice aq n cq) z0; have q1 := set2_c1 (u0 := .int .i64 W) (u1 := .slice aq n cq) z1; replace p0 := set2_cell (u0 := .int .i64 W) (u1 := .slice aq n cq) p0 ltz_p0; replace p1 := set2_cell (u0 := .int .i64 W) (u1 := .slice aq n cq) p1 ltz_p1; replace p := Lib.hid (set2_old (u0 := .int .i64 W) (u1 := .slice aq n cq) p.out ltz_p); have q := Lib.hid (set2_row (u0 := .int .i64 W) (u1 := .slice aq n cq) hoz.out.row (own_far hoz.out kzB)); replace bb := Lib.hid (set2_bel (u0 := .int .i64 W) (u1 := .slice aq n cq) bb.out szb)) | (have q0 : (w8.alloc (.cells #[.int .i64 W, .slice aq n cq] 25)).cell? ⟨w8.heap.size, 0, none⟩ = some (.int .i64 W) := (by simp); have q1 : (w8.alloc (.cells #[.int .i64 W, .slice aq n cq] 25)).cell? ⟨w8.heap.size, 1, none⟩ = some (.slice aq n cq) := (by simp); replace p0 := World.cell?_alloc_some (o := .cells #[.int .i64 W, .slice aq n cq] 25) p0; replace p1 := World.cell?_alloc_some (o := .cells #[.int .i64 W, .slice aq n cq] 25) p1; replace p := Lib.hid (p.out.alloc (.cells #[.int .i64 W, .slice aq n cq] 25)); have q := Lib.hid (hoz.out.row.alloc (.cells #[.int .i64 W, .slice aq n cq] 25)); replace bb := Lib.hid (bb.out.alloc bb.out.size (.cells #[.int .i64 W, .slice aq n cq] 25)))
      go_wp2_with fail
      go_meet
      exact ⟨_, aq, cq, rfl, rfl, p0, p1, q0, q1, p, q, bb⟩
  case rest =>
    clear p0 p1 p bb
    obtain ⟨kq, aq, cq, rfl, rfl, p0, p1, q0, q1, p, q, bb⟩ := hcut
    go_wp2_with fail
    refine (stp_ok hP.out h12.out hL.out _ _ _ q.out).mono ?_
    rintro e w9 ⟨rfl, hb⟩
    have szw9 := hb.size
    replace p0 := kept hb (block_lt p0) p0
    replace p1 := kept hb (block_lt p1) p1
    replace q0 := kept hb (block_lt q0) q0
    replace q1 := kept hb (block_lt q1) q1
    replace p := Lib.hid (p.out.bel hb)
    replace q := Lib.hid (q.out.bel hb)
    replace bb := Lib.hid (bb.out.trans (hb.mono bb.out.size))
    clear hb
    go_wp2_with fail
    go_ret
    exact ⟨rfl, bb.out⟩

set_option maxRecDepth 100000 in
theorem lifted (os : Os) (started : os.Started) (H : Type) (enc : TypeId × Value → H) :
    ReturnsInHanded {} Try.checked os 11 .any (Rows.fnStepsPutSpec.pre6 enc Try.prog Try.f11 Rows.fnStepsPutRow.domain false) (Rows.fnStepsPutSpec.post enc Try.prog Try.f11 false true false false) := by
  refine returnsInHanded_of_change (C := Try.checked) own started (by kernel_rfl) Try.func11
    (ChangeSpec.witness6 (enc := enc) (C := Try.checked) false ⟨#[], #[.slice none 0 0, .slice none 0 0], []⟩ 8 (by kernel_rfl) (by kernel_rfl) (by kernel_rfl) (by kernel_rfl)) ?_
  intro W base args ds gs before hval0 hW hcnd _
  have hval : ∀ (j : Nat) t v, Try.f11.params[j]? = some t → args[j]? = some v → Value.okWide Try.prog W .any base t v := hval0
  have hW' := hW
  obtain ⟨p, q, hA0, hV, rfl, hfz, hnd⟩ := hW
  have hA : DataW.TrodAll enc Try.prog W 0 (fun _ => true) true Try.f11.params.toList args.toList ds p := hA0
  rw [Try.params11] at hA hval
  obtain ⟨v0, vs0, d0, ds0, p0, q0, hargs, rfl, rfl, h0, r0⟩ := trodAll_cons hA
  obtain ⟨v1, vs1, d1, ds1, p1, q1, rfl, rfl, rfl, h1, r1⟩ := trodAll_cons r0
  obtain ⟨rfl, rfl, rfl⟩ := trodAll_nil r1
  obtain rfl : args = #[v0, v1] := by cases args; simp_all
  obtain ⟨rfl, rfl⟩ := trodVars_none hV
  have k0 := h0
  have lt0 : ∀ x ∈ p0, x.block < W.heap.size := by obtain ⟨m, hm⟩ := k0; exact DataW.trod_lt m _ _ _ hm
  obtain ⟨a0, len0, cap0, z0, rfl, w0, l0, m0⟩ := open_code (hval 0 22 v0 rfl rfl) h0
  have k1 := h1
  have lt1 : ∀ x ∈ p1, x.block < W.heap.size := by obtain ⟨m, hm⟩ := k1; exact DataW.trod_lt m _ _ _ hm
  obtain ⟨a1, len1, cap1, z1, rfl, w1, l1, m1⟩ := open_code (hval 1 22 v1 rfl rfl) h1
  clear hA0 hval0
  refine (walk a0 len0 cap0 z0 a1 len1 cap1 z1 W w0 l0 m0 w1 l1 m1).mono fun e W' ⟨he, bel⟩ => ?_
  subst he
  exact ⟨_, rfl, _, _, _, [], _, [], hW', trodAll_mk1 (shut_bool Try.underlying4 _), (trodAll_cons_mk (Below.trod laidOut (by kernel_rfl) (of_decide_eq_true (by kernel_rfl)) k0 bel lt0) (trodAll_cons_mk (Below.trod laidOut (by kernel_rfl) (of_decide_eq_true (by kernel_rfl)) k1 bel lt1) trodAll_mk0)), rfl, bel.frame _, fun h => by cases h⟩

theorem closed : joinedFacts Try.prog 11 Try.f11 Rows.fnStepsPutSpec Rows.fnStepsPutRow = true := by
  simp only [joinedFacts, Bool.and_eq_true]
  repeat' apply And.intro
  all_goals first | with_reducible exact mayEnterOk | (with_reducible rw [liftsFinalOk]; kernel_rfl) | (with_reducible rw [makeOk]; kernel_rfl) | kernel_rfl

theorem over : Rows.fnStepsPutRow.holds Try.pinned (OpenSpec.ofChange Rows.fnStepsPutSpec) :=
  OpenClaim.holds_of_wide 11 Try.f11 rfl rfl rfl rfl rfl rfl rfl ⟨rfl, rfl, rfl, rfl, rfl⟩ rfl rfl rfl rfl rfl (by kernel_rfl) Try.func11 closed
    (of_decide_eq_true (by kernel_rfl)) (by unfold Func.isWrapper; first | (rw [if_pos (by decide +kernel)]; kernel_rfl) | (rw [if_neg (by decide +kernel)]; exact ⟨rfl, rfl⟩))
    (fun os started H enc _ => lifted os started H enc)

theorem proved : Rows.FnStepsPutSaid := over
#print axioms proved
end Go.Proofs.Ytnhcknbbkmaiiaa.LFStepsPut

