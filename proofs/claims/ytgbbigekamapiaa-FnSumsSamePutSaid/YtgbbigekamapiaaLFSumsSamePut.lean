/-
  For any two slices of bytes the law FnSumsSamePut answers true: with one cell of the second image changed the sums are no longer the same; nothing that was there is written; no condition.
-/
import Derived.Test.YtgbbigekamapiaaO
import Derived.Test.YtgbbigekamapiaaK
import Derived.Deep.RegionLaw
import Derived.Test.YtgbbigekamapiaaSk
import Derived.Test.YtgbbigekamapiaaEp
import Derived.Test.YtgbbigekamapiaaA
namespace Go.Proofs.Ytgbbigekamapiaa.LFSumsSamePut
set_option maxRecDepth 100000
open Go.ChangeShapes Go.WideShapes Go.ChangeAt Go.RowKit Go.Joins

set_option maxHeartbeats 6000000 in
set_option maxRecDepth 100000 in
theorem walk (a : Option Addr) (len cap : Nat) (zs : List Int) (a2 : Option Addr) (len2 cap2 : Nat) (zs2 : List Int) (w : World) (h : Bys w a len zs) (hl : len ≤ cap) (hm : cap ≤ 9223372036854775807) (_ : Bys w a2 len2 zs2) (_ : len2 ≤ cap2) (_ : cap2 ≤ 9223372036854775807) :
    Calls Try.prog 6 #[.slice a len cap, .slice a2 len2 cap2] w fun e w' => e = .returned (.bool true) ∧ Below w.heap.size w w' := by
  by_cases hbig : 1048576 < len
  · clear h
    go_enter Try.func6, Try.ntmps6
    go_wp2_with fail
    go_ret
    exact ⟨rfl, Below.refl _ _⟩
  by_cases hbig2 : 1048576 < len2
  · clear h
    go_enter Try.func6, Try.ntmps6
    go_wp2_with fail
    go_ret
    exact ⟨rfl, Below.refl _ _⟩
  go_enter Try.func6, Try.ntmps6
  go_wp2_with fail
  refine (draw_DrawSumsSame a len cap zs _ h hl hm).mono ?_
  rintro e w1 ⟨V, s, n, cg, xs, V2, t, m, ch, ys, rfl, hX, hY, hnm, hb1⟩
  clear h hl hm
  have bb := Lib.hid hb1
  have p := Lib.hid hX
  have q := Lib.hid hY
  obtain ⟨w2, hw2⟩ : ∃ w2, w2 = (w1.alloc (.cells #[.int .i64 V, .slice s n cg] 25)).alloc (.cells #[.int .i64 V2, .slice t m ch] 25) := ⟨_, rfl⟩
  have hb : Below w1.heap.size w1 w2 := by subst hw2; exact ((Below.refl _ _).alloc (Nat.le_refl _) _).alloc (by simp) _
  have p0 : w2.cell? ⟨w1.heap.size, 0, none⟩ = some (.int .i64 V) := by subst hw2; go_simp
  have p1 : w2.cell? ⟨w1.heap.size, 1, none⟩ = some (.slice s n cg) := by subst hw2; go_simp
  have q0 : w2.cell? ⟨w1.heap.size + 1, 0, none⟩ = some (.int .i64 V2) := by subst hw2; go_simp
  have q1 : w2.cell? ⟨w1.heap.size + 1, 1, none⟩ = some (.slice t m ch) := by subst hw2; go_simp
  clear hX hY hb1
  have szw2 := hb.size
  replace p := Lib.hid (p.out.bel hb)
  replace q := Lib.hid (q.out.bel hb)
  replace bb := Lib.hid (bb.out.trans (hb.mono bb.out.size))
  clear hb
  go_wp2_with fail
  rw [← hw2]
  clear hw2
  obtain ⟨B, hB⟩ : ∃ B, sameB V xs V2 ys = B := ⟨_, rfl⟩
  refine (same_impl V V2 s t n m cg ch xs ys _ p.out q.out (by omega) (by omega)).mono ?_
  rintro e w3 ⟨rfl, hb⟩
  have szw3 := hb.size
  replace p0 := kept hb (block_lt p0) p0
  replace p1 := kept hb (block_lt p1) p1
  replace q0 := kept hb (block_lt q0) q0
  replace q1 := kept hb (block_lt q1) q1
  replace p := Lib.hid (p.out.bel hb)
  replace q := Lib.hid (q.out.bel hb)
  replace bb := Lib.hid (bb.out.trans (hb.mono bb.out.size))
  clear hb
  go_wp2_with fail
  refine (same_spec2 V V2 s t n m cg ch xs ys _ p.out q.out (by omega) (by omega)).mono ?_
  rintro e w4 ⟨rfl, hb⟩
  have szw4 := hb.size
  replace p0 := kept hb (block_lt p0) p0
  replace p1 := kept hb (block_lt p1) p1
  replace q0 := kept hb (block_lt q0) q0
  replace q1 := kept hb (block_lt q1) q1
  replace p := Lib.hid (p.out.bel hb)
  replace q := Lib.hid (q.out.bel hb)
  replace bb := Lib.hid (bb.out.trans (hb.mono bb.out.size))
  clear hb
  rw [hB]
  by_cases hv : B = true
  case neg =>
    have hv : B = false := by simpa using hv
    subst hv
    go_wp2_with fail
    go_ret
    exact ⟨rfl, bb.out⟩
  subst hv
  have hs := same_parts hB
  obtain ⟨hv1, hv2, hrs, hcs⟩ := hs
  have hI0 := validB_W hv1
  have hI1 := validB_W hv2
  obtain ⟨W, rfl⟩ := Int.eq_ofNat_of_zero_le (by omega : 0 ≤ V)
  obtain ⟨W2, rfl⟩ := Int.eq_ofNat_of_zero_le (by omega : 0 ≤ V2)
  have hI : Im W n xs := Im.of hv1 p.out.1
  have hJ : Im W2 m ys := Im.of hv2 q.out.1
  rw [hI.rs, hJ.rs] at hrs
  rw [hI.cs, hJ.cs] at hcs
  have e1 : n = m := by have := congrArg List.length hrs; rwa [rs_len, rs_len] at this
  have e2 : W = W2 := by have := congrArg List.length hcs; rwa [cs_len, cs_len] at this
  subst e1 e2
  have hW6 := hI.w6
  have hW1 := hI.w1
  have hn1 := hI.l1
  have hn6 := hI.l6
  clear hv1 hv2 hI0 hI1 hB
  have k0 : len2 % n < n := Nat.mod_lt _ (by omega)
  have l0 : len2 / n % W < W := Nat.mod_lt _ (by omega)
  have hmod : ((len2 : Int) % (n : Int)) = ((len2 % n : Nat) : Int) := (Int.natCast_emod _ _).symm
  have hmod2 : (((len2 : Int) / (n : Int)) % (W : Int)) = ((len2 / n % W : Nat) : Int) := by rw [Int.natCast_emod, Int.natCast_ediv]
  have hdiv : ((len2 : Int) / (n : Int)) = ((len2 / n : Nat) : Int) := (Int.natCast_ediv _ _).symm
  have hdl : len2 / n ≤ len2 := Nat.div_le_self _ _
  have hd0 : 0 ≤ (len2 : Int) / (n : Int) := Int.ediv_nonneg (by omega) (by omega)
  have hwd : IntKind.i64.wrap ((len2 : Int) / (n : Int)) = (len2 : Int) / (n : Int) := by rw [hdiv]; exact IntWalk.i64_in _ ⟨by omega, by omega⟩
  have hwd2 : wrap64 ((len2 : Int) / (n : Int)) = (len2 : Int) / (n : Int) := by rw [hdiv]; unfold wrap64; omega
  generalize len2 % n = i at k0 hmod
  generalize len2 / n % W = j at l0 hmod2
  have hmod3 : ((len2 : Int) / (n : Int)).tmod (W : Int) = (j : Int) := by rw [Int.tmod_eq_emod_of_nonneg hd0]; exact hmod2
  replace hmod := Lib.hid hmod
  replace hmod3 := Lib.hid hmod3
  clear hdiv hdl hmod2 hd0
  have hne : sameB W xs W (putL ys i j (!hasB W ys i j)) = false := by
    unfold sameB
    refine fitB_2 (decide_eq_false fun e => ?_)
    rw [hI.rs, (hJ.put k0 l0 _).rs] at e
    exact hJ.flip_ne k0 l0 (e.trans hrs)
  have hO := fun s cg w hR => put_ok hJ k0 l0 (!hasB W ys i j) s cg w hR
  obtain ⟨B, hB⟩ : ∃ B, hasB W ys i j = B := ⟨_, rfl⟩
  rw [hB] at hO hne
  have hlY := (hJ.put k0 l0 (!B)).hl
  generalize putL ys i j (!B) = us at hO hne hlY
  replace hO := Lib.hid hO
  replace hB := Lib.hid hB
  replace hne := Lib.hid hne
  replace hlY := Lib.hid hlY
  clear hrs hcs hI hJ
  go_wp2_with fail
  rw [hmod.out]
  go_quiet (fail)
  rw [hmod3.out]
  have hdr : Below w4.heap.size w4 (w4.drewN nq) := below_drewN (Below.refl _ _) nq
  replace p0 := kept hdr (block_lt p0) p0
  replace p1 := kept hdr (block_lt p1) p1
  replace q0 := kept hdr (block_lt q0) q0
  replace q1 := kept hdr (block_lt q1) q1
  replace p := Lib.hid (p.out.bel hdr)
  replace q := Lib.hid (q.out.bel hdr)
  replace bb := Lib.hid (bb.out.trans (hdr.mono bb.out.size))
  clear hdr hwd hwd2
  generalize hwq : w4.drewN nq = w5 at *
  clear hwq
  have tok0 : True := trivial
  go_wp2_with fail
  replace p := Lib.hid (p.out.bel ((Below.refl _ _).drew))
  replace q := Lib.hid (q.out.bel ((Below.refl _ _).drew))
  replace bb := Lib.hid bb.out.drew
  have lq_p0 : w1.heap.size < w5.heap.size := block_lt p0
  have lq_q0 : w1.heap.size + 1 < w5.heap.size := block_lt q0
  go_region_held3 (fun W' => W'.cell? ⟨w1.heap.size + 1, 0, none⟩ = some (.int .i64 W) ∧ W'.cell? ⟨w1.heap.size + 1, 1, none⟩ = some (.slice t n ch))
    (first | exact ⟨q0, q1⟩ | exact ⟨World.cell?_alloc_some q0, World.cell?_alloc_some q1⟩ | exact ⟨set2_cell q0 ltz_q0, set2_cell q1 ltz_q1⟩ | go_keep)
    (first | (go_at_call 21; have _t := tok0; (try (first | (obtain ⟨wz, hwz⟩ : ∃ wz, wz = (w5.alloc (.cells #[.int .i64 0, .slice none 0 0] 25)).drew := ⟨_, rfl⟩; rw [← hwz]; have hbz : Below w5.drew.heap.size w5.drew wz := (by rw [hwz]; exact (Below.refl _ _).alloc (Nat.le_refl _) _); have ltz_p0 : w1.heap.size < w5.heap.size := block_lt (show w5.drew.cell? _ = _ from p0); replace p0 := kept hbz ltz_p0 (show w5.drew.cell? _ = _ from p0); have ltz_p1 : w1.heap.size < w5.heap.size := block_lt (show w5.drew.cell? _ = _ from p1); replace p1 := kept hbz ltz_p1 (show w5.drew.cell? _ = _ from p1); have ltz_q0 : w1.heap.size + 1 < w5.heap.size := block_lt (show w5.drew.cell? _ = _ from q0); replace q0 := kept hbz ltz_q0 (show w5.drew.cell? _ = _ from q0); have ltz_q1 : w1.heap.size + 1 < w5.heap.size := block_lt (show w5.drew.cell? _ = _ from q1); replace q1 := kept hbz ltz_q1 (show w5.drew.cell? _ = _ from q1); have ltz_p : ∀ b off, s = some ⟨b, off, none⟩ → 0 < n → b < w5.heap.size := row_lt p.out; replace p := Lib.hid (p.out.bel hbz); have ltz_q : ∀ b off, t = some ⟨b, off, none⟩ → 0 < n → b < w5.heap.size := row_lt q.out; replace q := Lib.hid (q.out.bel hbz); have szb : w.heap.size ≤ w5.heap.size := bb.out.size; replace bb := Lib.hid (bb.out.trans (hbz.mono bb.out.size)); have zb : Box wz w5.heap.size (.int .i64 0) (.slice none 0 0) := (by rw [hwz]; exact ⟨by simp, by simp, fun o => by simp⟩); have z0 := zb.c0; have z1 := zb.c1; have zf := zb.fz; have zb := Lib.hid zb; clear hwz hbz) | (obtain ⟨wz, hwz⟩ : ∃ wz, wz = (w5.drew.alloc (.cells #[.int .i64 0, .slice none 0 0] 25)) := ⟨_, rfl⟩; rw [← hwz]; have hbz : Below w5.drew.heap.size w5.drew wz := (by rw [hwz]; exact (Below.refl _ _).alloc (Nat.le_refl _) _); have ltz_p0 : w1.heap.size < w5.heap.size := block_lt (show w5.drew.cell? _ = _ from p0); replace p0 := kept hbz ltz_p0 (show w5.drew.cell? _ = _ from p0); have ltz_p1 : w1.heap.size < w5.heap.size := block_lt (show w5.drew.cell? _ = _ from p1); replace p1 := kept hbz ltz_p1 (show w5.drew.cell? _ = _ from p1); have ltz_q0 : w1.heap.size + 1 < w5.heap.size := block_lt (show w5.drew.cell? _ = _ from q0); replace q0 := kept hbz ltz_q0 (show w5.drew.cell? _ = _ from q0); have ltz_q1 : w1.heap.size + 1 < w5.heap.size := block_lt (show w5.drew.cell? _ = _ from q1); replace q1 := kept hbz ltz_q1 (show w5.drew.cell? _ = _ from q1); have ltz_p : ∀ b off, s = some ⟨b, off, none⟩ → 0 < n → b < w5.heap.size := row_lt p.out; replace p := Lib.hid (p.out.bel hbz); have ltz_q : ∀ b off, t = some ⟨b, off, none⟩ → 0 < n → b < w5.heap.size := row_lt q.out; replace q := Lib.hid (q.out.bel hbz); have szb : w.heap.size ≤ w5.heap.size := bb.out.size; replace bb := Lib.hid (bb.out.trans (hbz.mono bb.out.size)); have zb : Box wz w5.heap.size (.int .i64 0) (.slice none 0 0) := (by rw [hwz]; exact ⟨by simp, by simp, fun o => by simp⟩); have z0 := zb.c0; have z1 := zb.c1; have zf := zb.fz; have zb := Lib.hid zb; clear hwz hbz))); (try (have kzB := block_lt z0)); (refine (has_impl W t n ch ys i j _ q.out (by omega)).mono ?_); rw [hB.out]; rintro e w6 ⟨rfl, hb⟩; have szw6 := hb.size; (first | replace p0 := kept hb (block_lt p0) p0 | replace p0 := kept hb (block_lt (show w5.drew.cell? _ = _ from p0)) (show w5.drew.cell? _ = _ from p0)); (first | replace p1 := kept hb (block_lt p1) p1 | replace p1 := kept hb (block_lt (show w5.drew.cell? _ = _ from p1)) (show w5.drew.cell? _ = _ from p1)); (first | replace q0 := kept hb (block_lt q0) q0 | replace q0 := kept hb (block_lt (show w5.drew.cell? _ = _ from q0)) (show w5.drew.cell? _ = _ from q0)); (first | replace q1 := kept hb (block_lt q1) q1 | replace q1 := kept hb (block_lt (show w5.drew.cell? _ = _ from q1)) (show w5.drew.cell? _ = _ from q1)); replace p := Lib.hid (p.out.bel hb); replace q := Lib.hid (q.out.bel hb); replace bb := Lib.hid (bb.out.trans (hb.mono bb.out.size)); (try (replace zb := Lib.hid (zb.out.bel hb); replace z0 := zb.out.c0; replace z1 := zb.out.c1; replace zf := zb.out.fz)); clear hb tok0 _t; have tok1 : True := trivial) | (go_at_call 18; have _t := tok1; (try (first | (obtain ⟨wz, hwz⟩ : ∃ wz, wz = (w6.alloc (.cells #[.int .i64 0, .slice none 0 0] 25)) := ⟨_, rfl⟩; rw [← hwz]; have hbz : Below w6.heap.size w6 wz := (by rw [hwz]; exact (Below.refl _ _).alloc (Nat.le_refl _) _); have ltz_p0 : w1.heap.size < w6.heap.size := block_lt (show w6.cell? _ = _ from p0); replace p0 := kept hbz ltz_p0 (show w6.cell? _ = _ from p0); have ltz_p1 : w1.heap.size < w6.heap.size := block_lt (show w6.cell? _ = _ from p1); replace p1 := kept hbz ltz_p1 (show w6.cell? _ = _ from p1); have ltz_q0 : w1.heap.size + 1 < w6.heap.size := block_lt (show w6.cell? _ = _ from q0); replace q0 := kept hbz ltz_q0 (show w6.cell? _ = _ from q0); have ltz_q1 : w1.heap.size + 1 < w6.heap.size := block_lt (show w6.cell? _ = _ from q1); replace q1 := kept hbz ltz_q1 (show w6.cell? _ = _ from q1); have ltz_p : ∀ b off, s = some ⟨b, off, none⟩ → 0 < n → b < w6.heap.size := row_lt p.out; replace p := Lib.hid (p.out.bel hbz); have ltz_q : ∀ b off, t = some ⟨b, off, none⟩ → 0 < n → b < w6.heap.size := row_lt q.out; replace q := Lib.hid (q.out.bel hbz); have szb : w.heap.size ≤ w6.heap.size := bb.out.size; replace bb := Lib.hid (bb.out.trans (hbz.mono bb.out.size)); have zb : Box wz w6.heap.size (.int .i64 0) (.slice none 0 0) := (by rw [hwz]; exact ⟨by simp, by simp, fun o => by simp⟩); have z0 := zb.c0; have z1 := zb.c1; have zf := zb.fz; have zb := Lib.hid zb; clear hwz hbz))); (try (have kzB := block_lt z0)); (refine (hO.out _ _ _ q.out).mono ?_); rintro e w7 ⟨⟨au, cu, rfl, ho⟩, hb⟩; have szw7 := hb.size; have hoz := Lib.hid ho; replace p0 := kept hb (block_lt p0) p0; replace p1 := kept hb (block_lt p1) p1; replace q0 := kept hb (block_lt q0) q0; replace q1 := kept hb (block_lt q1) q1; replace p := Lib.hid (p.out.bel hb); replace q := Lib.hid (q.out.bel hb); replace bb := Lib.hid (bb.out.trans (hb.mono bb.out.size)); (try (replace zb := Lib.hid (zb.out.bel hb); replace z0 := zb.out.c0; replace z1 := zb.out.c1; replace zf := zb.out.fz)); clear hb ho tok1 _t; have tok2 : True := trivial))
  all_goals
    first | (have u0 := set2_c0 (u0 := .int .i64 W) (u1 := .slice au n cu) z0; have u1 := set2_c1 (u0 := .int .i64 W) (u1 := .slice au n cu) z1; replace p0 := set2_cell (u0 := .int .i64 W) (u1 := .slice au n cu) p0 ltz_p0; replace p1 := set2_cell (u0 := .int .i64 W) (u1 := .slice au n cu) p1 ltz_p1; replace q0 := set2_cell (u0 := .int .i64 W) (u1 := .slice au n cu) q0 ltz_q0; replace q1 := set2_cell (u0 := .int .i64 W) (u1 := .slice au n cu) q1 ltz_q1; replace p := Lib.hid (set2_old (u0 := .int .i64 W) (u1 := .slice au n cu) p.out ltz_p); replace q := Lib.hid (set2_old (u0 := .int .i64 W) (u1 := .slice au n cu) q.out ltz_q); have u := Lib.hid (set2_row (u0 := .int .i64 W) (u1 := .slice au n cu) hoz.out.row (own_far hoz.out kzB)); replace bb := Lib.hid (set2_bel (u0 := .int .i64 W) (u1 := .slice au n cu) bb.out szb)) | (have u0 : (w7.alloc (.cells #[.int .i64 W, .slice au n cu] 25)).cell? ⟨w7.heap.size, 0, none⟩ = some (.int .i64 W) := (by simp); have u1 : (w7.alloc (.cells #[.int .i64 W, .slice au n cu] 25)).cell? ⟨w7.heap.size, 1, none⟩ = some (.slice au n cu) := (by simp); replace p0 := World.cell?_alloc_some (o := .cells #[.int .i64 W, .slice au n cu] 25) p0; replace p1 := World.cell?_alloc_some (o := .cells #[.int .i64 W, .slice au n cu] 25) p1; replace q0 := World.cell?_alloc_some (o := .cells #[.int .i64 W, .slice au n cu] 25) q0; replace q1 := World.cell?_alloc_some (o := .cells #[.int .i64 W, .slice au n cu] 25) q1; replace p := Lib.hid (p.out.alloc (.cells #[.int .i64 W, .slice au n cu] 25)); replace q := Lib.hid (q.out.alloc (.cells #[.int .i64 W, .slice au n cu] 25)); have u := Lib.hid (hoz.out.row.alloc (.cells #[.int .i64 W, .slice au n cu] 25)); replace bb := Lib.hid (bb.out.alloc bb.out.size (.cells #[.int .i64 W, .slice au n cu] 25)))
    go_wp2_with fail
    refine (same_impl W W s au n n cg cu xs us _ p.out u.out (by omega) (by omega)).mono ?_
    rintro e wl ⟨rfl, hb⟩
    replace bb := Lib.hid (bb.out.trans (hb.mono bb.out.size))
    rw [hne.out]
    clear hb
    go_wp2_with fail
    go_ret
    exact ⟨rfl, bb.out⟩

set_option maxRecDepth 100000 in
theorem lifted (os : Os) (started : os.Started) (H : Type) (enc : TypeId × Value → H) :
    ReturnsInHanded {} Try.checked os 6 .any (Rows.fnSumsSamePutSpec.pre6 enc Try.prog Try.f6 Rows.fnSumsSamePutRow.domain false) (Rows.fnSumsSamePutSpec.post enc Try.prog Try.f6 false true false false) := by
  refine returnsInHanded_of_change (C := Try.checked) own started (by kernel_rfl) Try.func6
    (ChangeSpec.witness6 (enc := enc) (C := Try.checked) false ⟨#[], #[.slice none 0 0, .slice none 0 0], []⟩ 8 (by kernel_rfl) (by kernel_rfl) (by kernel_rfl) (by kernel_rfl)) ?_
  intro W base args ds gs before hval0 hW hcnd _
  have hval : ∀ (j : Nat) t v, Try.f6.params[j]? = some t → args[j]? = some v → Value.okWide Try.prog W .any base t v := hval0
  have hW' := hW
  obtain ⟨p, q, hA0, hV, rfl, hfz, hnd⟩ := hW
  have hA : DataW.TrodAll enc Try.prog W 0 (fun _ => true) true Try.f6.params.toList args.toList ds p := hA0
  rw [Try.params6] at hA hval
  obtain ⟨v0, vs0, d0, ds0, p0, q0, hargs, rfl, rfl, h0, r0⟩ := trodAll_cons hA
  obtain ⟨v1, vs1, d1, ds1, p1, q1, rfl, rfl, rfl, h1, r1⟩ := trodAll_cons r0
  obtain ⟨rfl, rfl, rfl⟩ := trodAll_nil r1
  obtain rfl : args = #[v0, v1] := by cases args; simp_all
  obtain ⟨rfl, rfl⟩ := trodVars_none hV
  have k0 := h0
  have lt0 : ∀ x ∈ p0, x.block < W.heap.size := by obtain ⟨m, hm⟩ := k0; exact DataW.trod_lt m _ _ _ hm
  obtain ⟨a0, len0, cap0, z0, rfl, w0, l0, m0⟩ := open_code (hval 0 22 v0 rfl rfl) h0
  have k1 := h1
  have lt1 : ∀ x ∈ p1, x.block < W.heap.size := by obtain ⟨m, hm⟩ := k1; exact DataW.trod_lt m _ _ _ hm
  obtain ⟨a1, len1, cap1, z1, rfl, w1, l1, m1⟩ := open_code (hval 1 22 v1 rfl rfl) h1
  clear hA0 hval0
  refine (walk a0 len0 cap0 z0 a1 len1 cap1 z1 W w0 l0 m0 w1 l1 m1).mono fun e W' ⟨he, bel⟩ => ?_
  subst he
  exact ⟨_, rfl, _, _, _, [], _, [], hW', trodAll_mk1 (shut_bool Try.underlying4 _), (trodAll_cons_mk (Below.trod laidOut (by kernel_rfl) (of_decide_eq_true (by kernel_rfl)) k0 bel lt0) (trodAll_cons_mk (Below.trod laidOut (by kernel_rfl) (of_decide_eq_true (by kernel_rfl)) k1 bel lt1) trodAll_mk0)), rfl, bel.frame _, fun h => by cases h⟩

theorem closed : joinedFacts Try.prog 6 Try.f6 Rows.fnSumsSamePutSpec Rows.fnSumsSamePutRow = true := by
  simp only [joinedFacts, Bool.and_eq_true]
  repeat' apply And.intro
  all_goals first | with_reducible exact mayEnterOk | (with_reducible rw [liftsFinalOk]; kernel_rfl) | (with_reducible rw [makeOk]; kernel_rfl) | kernel_rfl

theorem over : Rows.fnSumsSamePutRow.holds Try.pinned (OpenSpec.ofChange Rows.fnSumsSamePutSpec) :=
  OpenClaim.holds_of_wide 6 Try.f6 rfl rfl rfl rfl rfl rfl rfl ⟨rfl, rfl, rfl, rfl, rfl⟩ rfl rfl rfl rfl rfl (by kernel_rfl) Try.func6 closed
    (of_decide_eq_true (by kernel_rfl)) (by unfold Func.isWrapper; first | (rw [if_pos (by decide +kernel)]; kernel_rfl) | (rw [if_neg (by decide +kernel)]; exact ⟨rfl, rfl⟩))
    (fun os started H enc _ => lifted os started H enc)

theorem proved : Rows.FnSumsSamePutSaid := over
#print axioms proved
end Go.Proofs.Ytgbbigekamapiaa.LFSumsSamePut

