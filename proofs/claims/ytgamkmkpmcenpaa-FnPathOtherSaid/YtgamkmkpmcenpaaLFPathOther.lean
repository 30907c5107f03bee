/-
  For every slice of bytes the law FnPathOther answers true: a path leads between the other cells, too; nothing that was there is written; no condition.
-/
import Derived.Test.YtgamkmkpmcenpaaO
import Derived.Test.YtgamkmkpmcenpaaK
import Derived.Deep.RegionLaw
import Derived.Test.YtgamkmkpmcenpaaWg
namespace Go.Proofs.Ytgamkmkpmcenpaa.LFPathOther
open Go.ChangeShapes Go.WideShapes Go.ChangeAt Go.RowKit Go.Joins

set_option maxHeartbeats 1000000 in
set_option maxRecDepth 100000 in
theorem walk (a : Option Addr) (len cap : Nat) (zs : List Int) (w : World) (h : Bys w a len zs) (hl : len ≤ cap) (hm : cap ≤ 9223372036854775807) :
    Calls Try.prog 17 #[.slice a len cap] w fun e w' => e = .returned (.bool true) ∧ Below w.heap.size w w' := by
  by_cases hbig : 1048576 < len
  · clear h
    go_enter Try.func17, Try.ntmps17
    go_wp2_with fail
    go_ret
    exact ⟨rfl, Below.refl _ _⟩
  go_enter Try.func17, Try.ntmps17
  go_wp2_with fail
  refine (draw_DrawSwitchPath a len cap zs _ h hl hm).mono ?_
  rintro e w1 ⟨V, s, n, cg, xs, V2, t, m, ch, ys, rfl, hX, hY, hnm, hb1⟩
  clear h hl hm
  have bb := Lib.hid hb1
  have p := Lib.hid hX
  have q := Lib.hid hY
  obtain ⟨w2, hw2⟩ : ∃ w2, w2 = (w1.alloc (.cells #[.int .i64 V, .slice s n cg] 25)).alloc (.cells #[.int .i64 V2, .slice t m ch] 25) := ⟨_, rfl⟩
  have hb : Below w1.heap.size w1 w2 := by subst hw2; exact ((Below.refl _ _).alloc (Nat.le_refl _) _).alloc (by simp) _
  have p0 : w2.cell? ⟨w1.heap.size, 0, none⟩ = some (.int .i64 V) := by subst hw2; go_simp
  have p1 : w2.cell? ⟨w1.heap.size, 1, none⟩ = some (.slice s n cg) := by subst hw2; go_simp
  have q0 : w2.cell? ⟨w1.heap.size + 1, 0, none⟩ = some (.int .i64 V2) := by subst hw2; go_simp
  have q1 : w2.cell? ⟨w1.heap.size + 1, 1, none⟩ = some (.slice t m ch) := by subst hw2; go_simp
  clear hX hY hb1
  have szw2 := hb.size
  replace p := Lib.hid (p.out.bel hb)
  replace q := Lib.hid (q.out.bel hb)
  replace bb := Lib.hid (bb.out.trans (hb.mono bb.out.size))
  clear hb
  go_wp2_with fail
  rw [← hw2]
  clear hw2
  by_cases hv : sameB V xs V2 ys = true
  case neg =>
    have hv : sameB V xs V2 ys = false := by simpa using hv
    refine (path_no hv (by omega) (by omega) _ _ _ _ _ p.out q.out).mono ?_
    rintro e w3 ⟨⟨al, cl, rfl, ho, hcl⟩, hb⟩
    have l := Lib.hid ho
    have szw3 := hb.size
    replace p0 := kept hb (block_lt p0) p0
    replace p1 := kept hb (block_lt p1) p1
    replace q0 := kept hb (block_lt q0) q0
    replace q1 := kept hb (block_lt q1) q1
    replace p := Lib.hid (p.out.bel hb)
    replace q := Lib.hid (q.out.bel hb)
    replace bb := Lib.hid (bb.out.trans (hb.mono bb.out.size))
    clear hb
    clear ho
    go_wp2_with fail
    refine (paths_no hv (by omega) (by omega) _ _ _ _ _ p.out q.out).mono ?_
    rintro e w4 ⟨⟨alw, clw, rfl, ho, hclw⟩, hb⟩
    have lw := Lib.hid ho
    have szw4 := hb.size
    replace p0 := kept hb (block_lt p0) p0
    replace p1 := kept hb (block_lt p1) p1
    replace q0 := kept hb (block_lt q0) q0
    replace q1 := kept hb (block_lt q1) q1
    replace p := Lib.hid (p.out.bel hb)
    replace q := Lib.hid (q.out.bel hb)
    replace l := Lib.hid (l.out.bel hb)
    replace bb := Lib.hid (bb.out.trans (hb.mono bb.out.size))
    clear hb
    clear ho
    go_wp2_with fail
    refine (sameSw_yes _ _ 0 _ _ [] _ l.out lw.out (by omega)).mono ?_
    rintro e w5 ⟨rfl, hb⟩
    have szw5 := hb.size
    replace p0 := kept hb (block_lt p0) p0
    replace p1 := kept hb (block_lt p1) p1
    replace q0 := kept hb (block_lt q0) q0
    replace q1 := kept hb (block_lt q1) q1
    replace p := Lib.hid (p.out.bel hb)
    replace q := Lib.hid (q.out.bel hb)
    replace l := Lib.hid (l.out.bel hb)
    replace lw := Lib.hid (lw.out.bel hb)
    replace bb := Lib.hid (bb.out.trans (hb.mono bb.out.size))
    clear hb
    go_wp2_with fail
    refine (sameSw_yes _ _ 0 _ _ [] _ l.out lw.out (by omega)).mono ?_
    rintro e w6 ⟨rfl, hb⟩
    have szw6 := hb.size
    replace p0 := kept hb (block_lt p0) p0
    replace p1 := kept hb (block_lt p1) p1
    replace q0 := kept hb (block_lt q0) q0
    replace q1 := kept hb (block_lt q1) q1
    replace p := Lib.hid (p.out.bel hb)
    replace q := Lib.hid (q.out.bel hb)
    replace l := Lib.hid (l.out.bel hb)
    replace lw := Lib.hid (lw.out.bel hb)
    replace bb := Lib.hid (bb.out.trans (hb.mono bb.out.size))
    clear hb
    go_wp2_with fail
    go_ret
    exact ⟨rfl, bb.out⟩
  obtain ⟨W, rfl, rfl, rfl, hI, hJ, hsum⟩ := same_im p.out.1 q.out.1 hv
  have hW6 := hI.w6
  have hW1 := hI.w1
  have hn1 := hI.l1
  have hn6 := hI.l6
  have hpl := path_len hI hJ hsum
  have h18 := path_18 hI hJ hsum
  have hrun := path_run hI hJ hsum
  obtain ⟨L, hL⟩ : ∃ L, pathL W n xs ys = L := ⟨_, rfl⟩
  obtain ⟨N, hN⟩ : ∃ N, L.length = N := ⟨_, rfl⟩
  rw [hL] at hpl h18 hrun
  rw [hN] at hpl h18
  replace hpl := Lib.hid hpl
  replace hrun := Lib.hid hrun
  replace hsum := Lib.hid hsum
  replace hv := Lib.hid hv
  replace hI := Lib.hid hI
  replace hJ := Lib.hid hJ
  replace hL := Lib.hid hL
  replace hN := Lib.hid hN
  refine (path_ok hI.out hJ.out hsum.out hL.out hN.out _ _ _ _ _ p.out q.out).mono ?_
  rintro e w7 ⟨⟨al, cl, rfl, ho, hcl⟩, hb⟩
  have l := Lib.hid ho
  have szw7 := hb.size
  replace p0 := kept hb (block_lt p0) p0
  replace p1 := kept hb (block_lt p1) p1
  replace q0 := kept hb (block_lt q0) q0
  replace q1 := kept hb (block_lt q1) q1
  replace p := Lib.hid (p.out.bel hb)
  replace q := Lib.hid (q.out.bel hb)
  replace bb := Lib.hid (bb.out.trans (hb.mono bb.out.size))
  clear hb
  clear ho
  go_wp2_with fail
  refine (paths_ok hI.out hJ.out hsum.out hL.out hN.out _ _ _ _ _ p.out q.out).mono ?_
  rintro e w8 ⟨⟨alw, clw, rfl, ho, hclw⟩, hb⟩
  have lw := Lib.hid ho
  have szw8 := hb.size
  replace p0 := kept hb (block_lt p0) p0
  replace p1 := kept hb (block_lt p1) p1
  replace q0 := kept hb (block_lt q0) q0
  replace q1 := kept hb (block_lt q1) q1
  replace p := Lib.hid (p.out.bel hb)
  replace q := Lib.hid (q.out.bel hb)
  replace l := Lib.hid (l.out.bel hb)
  replace bb := Lib.hid (bb.out.trans (hb.mono bb.out.size))
  clear hb
  clear ho
  go_wp2_with fail
  refine (sameSw_yes _ _ N _ _ L _ l.out lw.out (by omega)).mono ?_
  rintro e w9 ⟨rfl, hb⟩
  have szw9 := hb.size
  replace p0 := kept hb (block_lt p0) p0
  replace p1 := kept hb (block_lt p1) p1
  replace q0 := kept hb (block_lt q0) q0
  replace q1 := kept hb (block_lt q1) q1
  replace p := Lib.hid (p.out.bel hb)
  replace q := Lib.hid (q.out.bel hb)
  replace l := Lib.hid (l.out.bel hb)
  replace lw := Lib.hid (lw.out.bel hb)
  replace bb := Lib.hid (bb.out.trans (hb.mono bb.out.size))
  clear hb
  clear lw
  clear hclw hcl
  have hro := Lib.hid (run_oth hI.out hrun.out)
  go_wp2_with fail
  refine (other_ok hI.out _ _ _ p.out).mono ?_
  rintro e w10 ⟨⟨ax, cx, rfl, ho⟩, hb⟩
  have x := Lib.hid ho.row
  have szw10 := hb.size
  replace p0 := kept hb (block_lt p0) p0
  replace p1 := kept hb (block_lt p1) p1
  replace q0 := kept hb (block_lt q0) q0
  replace q1 := kept hb (block_lt q1) q1
  replace p := Lib.hid (p.out.bel hb)
  replace q := Lib.hid (q.out.bel hb)
  replace l := Lib.hid (l.out.bel hb)
  replace bb := Lib.hid (bb.out.trans (hb.mono bb.out.size))
  clear hb
  clear ho
  have hbx : Below w10.heap.size w10 (w10.alloc (.cells #[.int .i64 W, .slice ax n cx] 25)) := (Below.refl _ _).alloc (Nat.le_refl _) _
  replace p0 := kept hbx (block_lt p0) p0
  replace p1 := kept hbx (block_lt p1) p1
  replace q0 := kept hbx (block_lt q0) q0
  replace q1 := kept hbx (block_lt q1) q1
  replace p := Lib.hid (p.out.bel hbx)
  replace q := Lib.hid (q.out.bel hbx)
  replace l := Lib.hid (l.out.bel hbx)
  replace x := Lib.hid (x.out.bel hbx)
  replace bb := Lib.hid (bb.out.trans (hbx.mono bb.out.size))
  clear hbx
  have x0 : (w10.alloc (.cells #[.int .i64 W, .slice ax n cx] 25)).cell? ⟨w10.heap.size, 0, none⟩ = some (.int .i64 W) := by simp
  have x1 : (w10.alloc (.cells #[.int .i64 W, .slice ax n cx] 25)).cell? ⟨w10.heap.size, 1, none⟩ = some (.slice ax n cx) := by simp
  go_wp2_with fail
  refine (other_ok hJ.out _ _ _ q.out).mono ?_
  rintro e w11 ⟨⟨au, cu, rfl, ho⟩, hb⟩
  have u := Lib.hid ho.row
  have szw11 : w10.heap.size + 1 ≤ w11.heap.size := by have := hb.size; simpa using this
  replace p0 := kept hb (block_lt p0) p0
  replace p1 := kept hb (block_lt p1) p1
  replace q0 := kept hb (block_lt q0) q0
  replace q1 := kept hb (block_lt q1) q1
  replace x0 := kept hb (block_lt x0) x0
  replace x1 := kept hb (block_lt x1) x1
  replace p := Lib.hid (p.out.bel hb)
  replace q := Lib.hid (q.out.bel hb)
  replace l := Lib.hid (l.out.bel hb)
  replace x := Lib.hid (x.out.bel hb)
  replace bb := Lib.hid (bb.out.trans (hb.mono bb.out.size))
  clear hb
  clear ho
  have hbx : Below w11.heap.size w11 (w11.alloc (.cells #[.int .i64 W, .slice au n cu] 25)) := (Below.refl _ _).alloc (Nat.le_refl _) _
  replace p0 := kept hbx (block_lt p0) p0
  replace p1 := kept hbx (block_lt p1) p1
  replace q0 := kept hbx (block_lt q0) q0
  replace q1 := kept hbx (block_lt q1) q1
  replace x0 := kept hbx (block_lt x0) x0
  replace x1 := kept hbx (block_lt x1) x1
  replace p := Lib.hid (p.out.bel hbx)
  replace q := Lib.hid (q.out.bel hbx)
  replace l := Lib.hid (l.out.bel hbx)
  replace x := Lib.hid (x.out.bel hbx)
  replace u := Lib.hid (u.out.bel hbx)
  replace bb := Lib.hid (bb.out.trans (hbx.mono bb.out.size))
  clear hbx
  have u0 : (w11.alloc (.cells #[.int .i64 W, .slice au n cu] 25)).cell? ⟨w11.heap.size, 0, none⟩ = some (.int .i64 W) := by simp
  have u1 : (w11.alloc (.cells #[.int .i64 W, .slice au n cu] 25)).cell? ⟨w11.heap.size, 1, none⟩ = some (.slice au n cu) := by simp
  go_wp2_with fail
  refine (run_ok hI.out.oth hro.out (by omega) _ _ _ _ _ x.out l.out.q).mono ?_
  rintro e w12 ⟨⟨az, cz, rfl, ho⟩, hb⟩
  have z := Lib.hid ho.row
  have szw12 : w11.heap.size + 1 ≤ w12.heap.size := by have := hb.size; simpa using this
  replace p0 := kept hb (block_lt p0) p0
  replace p1 := kept hb (block_lt p1) p1
  replace q0 := kept hb (block_lt q0) q0
  replace q1 := kept hb (block_lt q1) q1
  replace x0 := kept hb (block_lt x0) x0
  replace x1 := kept hb (block_lt x1) x1
  replace u0 := kept hb (block_lt u0) u0
  replace u1 := kept hb (block_lt u1) u1
  replace p := Lib.hid (p.out.bel hb)
  replace q := Lib.hid (q.out.bel hb)
  replace l := Lib.hid (l.out.bel hb)
  replace x := Lib.hid (x.out.bel hb)
  replace u := Lib.hid (u.out.bel hb)
  replace bb := Lib.hid (bb.out.trans (hb.mono bb.out.size))
  clear hb
  clear ho
  have hbx : Below w12.heap.size w12 (w12.alloc (.cells #[.int .i64 W, .slice az n cz] 25)) := (Below.refl _ _).alloc (Nat.le_refl _) _
  replace p0 := kept hbx (block_lt p0) p0
  replace p1 := kept hbx (block_lt p1) p1
  replace q0 := kept hbx (block_lt q0) q0
  replace q1 := kept hbx (block_lt q1) q1
  replace x0 := kept hbx (block_lt x0) x0
  replace x1 := kept hbx (block_lt x1) x1
  replace u0 := kept hbx (block_lt u0) u0
  replace u1 := kept hbx (block_lt u1) u1
  replace p := Lib.hid (p.out.bel hbx)
  replace q := Lib.hid (q.out.bel hbx)
  replace l := Lib.hid (l.out.bel hbx)
  replace x := Lib.hid (x.out.bel hbx)
  replace u := Lib.hid (u.out.bel hbx)
  replace z := Lib.hid (z.out.bel hbx)
  replace bb := Lib.hid (bb.out.trans (hbx.mono bb.out.size))
  clear hbx
  have z0 : (w12.alloc (.cells #[.int .i64 W, .slice az n cz] 25)).cell? ⟨w12.heap.size, 0, none⟩ = some (.int .i64 W) := by simp
  have z1 : (w12.alloc (.cells #[.int .i64 W, .slice az n cz] 25)).cell? ⟨w12.heap.size, 1, none⟩ = some (.slice az n cz) := by simp
  go_wp2_with fail
  refine (sameImage_yes _ _ _ _ _ _ (othL ys W n) _ z.out u.out (by omega)).mono ?_
  rintro e w13 ⟨rfl, hb⟩
  have szw13 : w12.heap.size + 1 ≤ w13.heap.size := by have := hb.size; simpa using this
  replace p0 := kept hb (block_lt p0) p0
  replace p1 := kept hb (block_lt p1) p1
  replace q0 := kept hb (block_lt q0) q0
  replace q1 := kept hb (block_lt q1) q1
  replace x0 := kept hb (block_lt x0) x0
  replace x1 := kept hb (block_lt x1) x1
  replace u0 := kept hb (block_lt u0) u0
  replace u1 := kept hb (block_lt u1) u1
  replace z0 := kept hb (block_lt z0) z0
  replace z1 := kept hb (block_lt z1) z1
  replace p := Lib.hid (p.out.bel hb)
  replace q := Lib.hid (q.out.bel hb)
  replace l := Lib.hid (l.out.bel hb)
  replace x := Lib.hid (x.out.bel hb)
  replace u := Lib.hid (u.out.bel hb)
  replace z := Lib.hid (z.out.bel hb)
  replace bb := Lib.hid (bb.out.trans (hb.mono bb.out.size))
  clear hb
  go_wp2_with fail
  go_ret
  exact ⟨rfl, bb.out⟩

set_option maxRecDepth 100000 in
theorem lifted (os : Os) (started : os.Started) (H : Type) (enc : TypeId × Value → H) :
    ReturnsInHanded {} Try.checked os 17 .any (Rows.fnPathOtherSpec.pre6 enc Try.prog Try.f17 Rows.fnPathOtherRow.domain false) (Rows.fnPathOtherSpec.post enc Try.prog Try.f17 false true false false) := by
  refine returnsInHanded_of_change (C := Try.checked) own started (by kernel_rfl) Try.func17
    (ChangeSpec.witness6 (enc := enc) (C := Try.checked) false ⟨#[], #[.slice none 0 0], []⟩ 8 (by kernel_rfl) (by kernel_rfl) (by kernel_rfl) (by kernel_rfl)) ?_
  intro W base args ds gs before hval0 hW hcnd _
  have hval : ∀ (j : Nat) t v, Try.f17.params[j]? = some t → args[j]? = some v → Value.okWide Try.prog W .any base t v := hval0
  have hW' := hW
  obtain ⟨p, q, hA0, hV, rfl, hfz, hnd⟩ := hW
  have hA : DataW.TrodAll enc Try.prog W 0 (fun _ => true) true Try.f17.params.toList args.toList ds p := hA0
  rw [Try.params17] at hA hval
  obtain ⟨v0, vs0, d0, ds0, p0, q0, hargs, rfl, rfl, h0, r0⟩ := trodAll_cons hA
  obtain ⟨rfl, rfl, rfl⟩ := trodAll_nil r0
  obtain rfl : args = #[v0] := by cases args; simp_all
  obtain ⟨rfl, rfl⟩ := trodVars_none hV
  have k0 := h0
  have lt0 : ∀ x ∈ p0, x.block < W.heap.size := by obtain ⟨m, hm⟩ := k0; exact DataW.trod_lt m _ _ _ hm
  obtain ⟨a0, len0, cap0, z0, rfl, w0, l0, m0⟩ := open_code (hval 0 22 v0 rfl rfl) h0
  clear hA0 hval0
  refine (walk a0 len0 cap0 z0 W w0 l0 m0).mono fun e W' ⟨he, bel⟩ => ?_
  subst he
  exact ⟨_, rfl, _, _, _, [], _, [], hW', trodAll_mk1 (shut_bool Try.underlying4 _), (trodAll_cons_mk (Below.trod laidOut (by kernel_rfl) (of_decide_eq_true (by kernel_rfl)) k0 bel lt0) trodAll_mk0), rfl, bel.frame _, fun h => by cases h⟩

theorem closed : joinedFacts Try.prog 17 Try.f17 Rows.fnPathOtherSpec Rows.fnPathOtherRow = true := by
  simp only [joinedFacts, Bool.and_eq_true]
  repeat' apply And.intro
  all_goals first | with_reducible exact mayEnterOk | (with_reducible rw [liftsFinalOk]; kernel_rfl) | (with_reducible rw [makeOk]; kernel_rfl) | kernel_rfl

theorem over : Rows.fnPathOtherRow.holds Try.pinned (OpenSpec.ofChange Rows.fnPathOtherSpec) :=
  OpenClaim.holds_of_wide 17 Try.f17 rfl rfl rfl rfl rfl rfl rfl ⟨rfl, rfl, rfl, rfl, rfl⟩ rfl rfl rfl rfl rfl (by kernel_rfl) Try.func17 closed
    (of_decide_eq_true (by kernel_rfl)) (by unfold Func.isWrapper; first | (rw [if_pos (by decide +kernel)]; kernel_rfl) | (rw [if_neg (by decide +kernel)]; exact ⟨rfl, rfl⟩))
    (fun os started H enc _ => lifted os started H enc)

theorem proved : Rows.FnPathOtherSaid := over
#print axioms proved
end Go.Proofs.Ytgamkmkpmcenpaa.LFPathOther

