/-
  For every slice of bytes the law FnPathBuild answers true: each image is joined with the built one; nothing that was there is written; no condition.
-/
import Derived.Test.YtnhcknbbkmaiiaaGreatDoorO
import Derived.Test.YtnhcknbbkmaiiaaGreatDoorCf
import Derived.Test.YtnhcknbbkmaiiaaGreatDoorK
import Derived.Deep.RegionLaw
import Derived.Test.YtnhcknbbkmaiiaaGreatDoorWg
import Derived.Test.YtnhcknbbkmaiiaaGreatDoorEp
import Derived.Test.YtnhcknbbkmaiiaaGreatDoorDm
import Derived.Test.YtnhcknbbkmaiiaaGreatDoorCe
namespace Go.Proofs.YtnhcknbbkmaiiaaGreatDoor.LFPathBuild
open Go.ChangeShapes Go.WideShapes Go.ChangeAt Go.RowKit Go.Joins

set_option maxHeartbeats 2000000 in
set_option maxRecDepth 100000 in
theorem walk (a : Option Addr) (len cap : Nat) (zs : List Int) (w : World) (pE : Addr) (hE : w.cell? ⟨0, 0, none⟩ = some (errV pE)) (h : Bys w a len zs) (hl : len ≤ cap) (hm : cap ≤ 9223372036854775807) :
    Calls Tryz.prog 3 #[.slice a len cap] w fun e w' => e = .returned (.bool true) ∧ Below w.heap.size w w' := by
  by_cases hbig : 1048576 < len
  · clear h
    go_enter Tryz.func3, Tryz.ntmps3
    go_wp2_with fail
    go_ret
    exact ⟨rfl, Below.refl _ _⟩
  go_enter Tryz.func3, Tryz.ntmps3
  go_wp2_with fail
  refine (draw_DrawRowSums a len cap zs _ h hl hm).mono ?_
  rintro e w1 ⟨V, s, n, cg, xs, rfl, hR, hn, hb1⟩
  clear h hl hm
  have bb := Lib.hid hb1
  have p := Lib.hid hR
  have es := kept hb1 (block_lt hE) hE
  clear hR hb1 hE
  have hbx : Below w1.heap.size w1 (w1.alloc (.cells #[.int .i64 V, .slice s n cg] 25)) := (Below.refl _ _).alloc (Nat.le_refl _) _
  replace es := kept hbx (block_lt es) es
  replace p := Lib.hid (p.out.bel hbx)
  replace bb := Lib.hid (bb.out.trans (hbx.mono bb.out.size))
  clear hbx
  have p0 : (w1.alloc (.cells #[.int .i64 V, .slice s n cg] 25)).cell? ⟨w1.heap.size, 0, none⟩ = some (.int .i64 V) := by simp
  have p1 : (w1.alloc (.cells #[.int .i64 V, .slice s n cg] 25)).cell? ⟨w1.heap.size, 1, none⟩ = some (.slice s n cg) := by simp
  by_cases hv : validB V xs = true
  case neg =>
    have hv : validB V xs = false := by simpa using hv
    go_wp2_with fail
    refine (rs_no hv hn.1 _ _ _ p.out).mono ?_
    rintro e w2 ⟨⟨aoo, coo, rfl, ho⟩, hb⟩
    have oo := Lib.hid ho.row
    have szw2 : w1.heap.size + 1 ≤ w2.heap.size := by have := hb.size; simpa using this
    replace es := kept hb (block_lt es) es
    replace p0 := kept hb (block_lt p0) p0
    replace p1 := kept hb (block_lt p1) p1
    replace p := Lib.hid (p.out.bel hb)
    replace bb := Lib.hid (bb.out.trans (hb.mono bb.out.size))
    clear hb
    clear ho
    go_wp2_with fail
    refine (rs_sno hv hn.1 _ _ _ p.out).mono ?_
    rintro e w3 ⟨⟨aow, cow, rfl, ho⟩, hb⟩
    have ow := Lib.hid ho.row
    have szw3 := hb.size
    replace es := kept hb (block_lt es) es
    replace p0 := kept hb (block_lt p0) p0
    replace p1 := kept hb (block_lt p1) p1
    replace p := Lib.hid (p.out.bel hb)
    replace oo := Lib.hid (oo.out.bel hb)
    replace bb := Lib.hid (bb.out.trans (hb.mono bb.out.size))
    clear hb
    clear ho
    go_wp2_with fail
    refine (same_yes _ _ _ _ _ [] _ oo.out ow.out (by omega)).mono ?_
    rintro e w4 ⟨rfl, hb⟩
    have szw4 := hb.size
    replace es := kept hb (block_lt es) es
    replace p0 := kept hb (block_lt p0) p0
    replace p1 := kept hb (block_lt p1) p1
    replace p := Lib.hid (p.out.bel hb)
    replace oo := Lib.hid (oo.out.bel hb)
    replace ow := Lib.hid (ow.out.bel hb)
    replace bb := Lib.hid (bb.out.trans (hb.mono bb.out.size))
    clear hb
    go_wp2_with fail
    refine (same_yes _ _ _ _ _ [] _ oo.out ow.out (by omega)).mono ?_
    rintro e w5 ⟨rfl, hb⟩
    have szw5 := hb.size
    replace es := kept hb (block_lt es) es
    replace p0 := kept hb (block_lt p0) p0
    replace p1 := kept hb (block_lt p1) p1
    replace p := Lib.hid (p.out.bel hb)
    replace oo := Lib.hid (oo.out.bel hb)
    replace ow := Lib.hid (ow.out.bel hb)
    replace bb := Lib.hid (bb.out.trans (hb.mono bb.out.size))
    clear hb
    go_wp2_with fail
    go_ret
    exact ⟨rfl, bb.out⟩
  have hI0 := validB_W hv
  obtain ⟨W, rfl⟩ := Int.eq_ofNat_of_zero_le (by omega : 0 ≤ V)
  have hI : Im W n xs := Im.of hv p.out.1
  have hW6 := hI.w6
  have hW1 := hI.w1
  have hn1 := hI.l1
  have hn6 := hI.l6
  have hco := hI.con
  have lr : (rsL xs W n).length = n := rs_len _ _ _
  have lc : (csL xs n W).length = W := cs_len _ _ _
  obtain ⟨L, hL⟩ : ∃ L, buildL (rsL xs W n) (csL xs n W) = L := ⟨_, rfl⟩
  have hJ : Im W n L := by have := build_im (conB_valid hco); rwa [hL, lr, lc] at this
  have hse : SumE xs L W n := by
    have e1 := build_rs hco
    have e2 := build_cs (conB_valid hco)
    rw [hL, lr, lc] at e1 e2
    exact ⟨e1.symm, e2.symm⟩
  have hrun := path_run hI hJ hse
  obtain ⟨l, hl0⟩ : ∃ l, pathL W n xs L = l := ⟨_, rfl⟩
  obtain ⟨N, hN⟩ : ∃ N, l.length = N := ⟨_, rfl⟩
  have hN9 : N ≤ 1048576 := by
    have h1 := path_len hI hJ hse
    have h2 := farl_bd hI L
    rw [hl0, hN] at h1
    by_cases e : farL xs L W n = 0
    · have := h1.1 e; omega
    · have := h1.2.1 e; omega
  rw [hl0] at hrun
  have hrs := Lib.hid (fun s c wx hx => rs_ok hI s c wx hx)
  have hrs2 := Lib.hid (fun s c wx hx => rs_sok hI s c wx hx)
  have hcs := Lib.hid (fun s c wx hx => cs_ok hI s c wx hx)
  obtain ⟨R, hR0⟩ : ∃ R, rsL xs W n = R := ⟨_, rfl⟩
  obtain ⟨C, hC0⟩ : ∃ C, csL xs n W = C := ⟨_, rfl⟩
  rw [hR0] at hco hrs hrs2 lr hL
  rw [hC0] at hco hcs lc hL
  have hn0 : ((n : Int) == 0) = false := by rw [beq_eq_false_iff_ne]; omega
  replace hI := Lib.hid hI
  replace hJ := Lib.hid hJ
  replace hL := Lib.hid hL
  replace hse := Lib.hid hse
  replace hrun := Lib.hid hrun
  replace hl0 := Lib.hid hl0
  replace hN := Lib.hid hN
  replace hco := Lib.hid hco
  replace lr := Lib.hid lr
  replace lc := Lib.hid lc
  replace hR0 := Lib.hid hR0
  replace hC0 := Lib.hid hC0
  clear hv hI0
  go_wp2_with fail
  refine (hrs.out _ _ _ p.out).mono ?_
  rintro e w6 ⟨⟨aoo, coo, rfl, ho⟩, hb⟩
  have oo := Lib.hid ho.row
  have szw6 : w1.heap.size + 1 ≤ w6.heap.size := by have := hb.size; simpa using this
  replace es := kept hb (block_lt es) es
  replace p0 := kept hb (block_lt p0) p0
  replace p1 := kept hb (block_lt p1) p1
  replace p := Lib.hid (p.out.bel hb)
  replace bb := Lib.hid (bb.out.trans (hb.mono bb.out.size))
  clear hb
  clear ho
  go_wp2_with fail
  refine (hrs2.out _ _ _ p.out).mono ?_
  rintro e w7 ⟨⟨aow, cow, rfl, ho⟩, hb⟩
  have ow := Lib.hid ho.row
  have szw7 := hb.size
  replace es := kept hb (block_lt es) es
  replace p0 := kept hb (block_lt p0) p0
  replace p1 := kept hb (block_lt p1) p1
  replace p := Lib.hid (p.out.bel hb)
  replace oo := Lib.hid (oo.out.bel hb)
  replace bb := Lib.hid (bb.out.trans (hb.mono bb.out.size))
  clear hb
  clear ho
  go_wp2_with fail
  refine (same_yes _ _ _ _ _ R _ oo.out ow.out (by omega)).mono ?_
  rintro e w8 ⟨rfl, hb⟩
  have szw8 := hb.size
  replace es := kept hb (block_lt es) es
  replace p0 := kept hb (block_lt p0) p0
  replace p1 := kept hb (block_lt p1) p1
  replace p := Lib.hid (p.out.bel hb)
  replace oo := Lib.hid (oo.out.bel hb)
  replace ow := Lib.hid (ow.out.bel hb)
  replace bb := Lib.hid (bb.out.trans (hb.mono bb.out.size))
  clear hb
  clear ow
  go_wp2_with fail
  refine (hcs.out _ _ _ p.out).mono ?_
  rintro e w9 ⟨⟨ac1_, cc1_, rfl, ho⟩, hb⟩
  have c1_ := Lib.hid ho.row
  have szw9 := hb.size
  replace es := kept hb (block_lt es) es
  replace p0 := kept hb (block_lt p0) p0
  replace p1 := kept hb (block_lt p1) p1
  replace p := Lib.hid (p.out.bel hb)
  replace oo := Lib.hid (oo.out.bel hb)
  replace bb := Lib.hid (bb.out.trans (hb.mono bb.out.size))
  clear hb
  clear ho
  go_wp2_with fail
  refine (bi_ok hco.out hL.out lr.out lc.out _ _ _ _ pE _ oo.out c1_.out es).mono ?_
  rintro e w10 ⟨⟨ab, cb, rfl, ho⟩, hb⟩
  have b := Lib.hid ho.row
  have szw10 := hb.size
  replace es := kept hb (block_lt es) es
  replace p0 := kept hb (block_lt p0) p0
  replace p1 := kept hb (block_lt p1) p1
  replace p := Lib.hid (p.out.bel hb)
  replace oo := Lib.hid (oo.out.bel hb)
  replace c1_ := Lib.hid (c1_.out.bel hb)
  replace bb := Lib.hid (bb.out.trans (hb.mono bb.out.size))
  clear hb
  clear ho
  have hbx : Below w10.heap.size w10 (w10.alloc (.cells #[.int .i64 W, .slice ab n cb] 25)) := (Below.refl _ _).alloc (Nat.le_refl _) _
  replace es := kept hbx (block_lt es) es
  replace p0 := kept hbx (block_lt p0) p0
  replace p1 := kept hbx (block_lt p1) p1
  replace p := Lib.hid (p.out.bel hbx)
  replace oo := Lib.hid (oo.out.bel hbx)
  replace c1_ := Lib.hid (c1_.out.bel hbx)
  replace b := Lib.hid (b.out.bel hbx)
  replace bb := Lib.hid (bb.out.trans (hbx.mono bb.out.size))
  clear hbx
  have b0 : (w10.alloc (.cells #[.int .i64 W, .slice ab n cb] 25)).cell? ⟨w10.heap.size, 0, none⟩ = some (.int .i64 W) := by simp
  have b1 : (w10.alloc (.cells #[.int .i64 W, .slice ab n cb] 25)).cell? ⟨w10.heap.size, 1, none⟩ = some (.slice ab n cb) := by simp
  go_wp2_with fail
  refine (path_ok hI.out hJ.out hse.out hl0.out hN.out _ _ _ _ _ p.out b.out).mono ?_
  rintro e w11 ⟨⟨al1, cl1, rfl, ho, hcl1⟩, hb⟩
  have l1 := Lib.hid ho
  have szw11 : w10.heap.size + 1 ≤ w11.heap.size := by have := hb.size; simpa using this
  replace es := kept hb (block_lt es) es
  replace p0 := kept hb (block_lt p0) p0
  replace p1 := kept hb (block_lt p1) p1
  replace b0 := kept hb (block_lt b0) b0
  replace b1 := kept hb (block_lt b1) b1
  replace p := Lib.hid (p.out.bel hb)
  replace oo := Lib.hid (oo.out.bel hb)
  replace c1_ := Lib.hid (c1_.out.bel hb)
  replace b := Lib.hid (b.out.bel hb)
  replace bb := Lib.hid (bb.out.trans (hb.mono bb.out.size))
  clear hb
  clear ho
  go_wp2_with fail
  refine (run_ok hI.out hrun.out hN9 _ _ _ _ _ p.out l1.out.q).mono ?_
  rintro e w12 ⟨⟨ax, cx, rfl, ho⟩, hb⟩
  have x := Lib.hid ho.row
  have szw12 := hb.size
  replace es := kept hb (block_lt es) es
  replace p0 := kept hb (block_lt p0) p0
  replace p1 := kept hb (block_lt p1) p1
  replace b0 := kept hb (block_lt b0) b0
  replace b1 := kept hb (block_lt b1) b1
  replace p := Lib.hid (p.out.bel hb)
  replace oo := Lib.hid (oo.out.bel hb)
  replace c1_ := Lib.hid (c1_.out.bel hb)
  replace b := Lib.hid (b.out.bel hb)
  replace l1 := Lib.hid (l1.out.bel hb)
  replace bb := Lib.hid (bb.out.trans (hb.mono bb.out.size))
  clear hb
  clear ho
  have hbx : Below w12.heap.size w12 (w12.alloc (.cells #[.int .i64 W, .slice ax n cx] 25)) := (Below.refl _ _).alloc (Nat.le_refl _) _
  replace es := kept hbx (block_lt es) es
  replace p0 := kept hbx (block_lt p0) p0
  replace p1 := kept hbx (block_lt p1) p1
  replace b0 := kept hbx (block_lt b0) b0
  replace b1 := kept hbx (block_lt b1) b1
  replace p := Lib.hid (p.out.bel hbx)
  replace oo := Lib.hid (oo.out.bel hbx)
  replace c1_ := Lib.hid (c1_.out.bel hbx)
  replace b := Lib.hid (b.out.bel hbx)
  replace l1 := Lib.hid (l1.out.bel hbx)
  replace x := Lib.hid (x.out.bel hbx)
  replace bb := Lib.hid (bb.out.trans (hbx.mono bb.out.size))
  clear hbx
  have x0 : (w12.alloc (.cells #[.int .i64 W, .slice ax n cx] 25)).cell? ⟨w12.heap.size, 0, none⟩ = some (.int .i64 W) := by simp
  have x1 : (w12.alloc (.cells #[.int .i64 W, .slice ax n cx] 25)).cell? ⟨w12.heap.size, 1, none⟩ = some (.slice ax n cx) := by simp
  go_wp2_with fail
  refine (sameImage_yes _ _ _ _ _ _ L _ x.out b.out (by omega)).mono ?_
  rintro e w13 ⟨rfl, hb⟩
  have szw13 : w12.heap.size + 1 ≤ w13.heap.size := by have := hb.size; simpa using this
  replace es := kept hb (block_lt es) es
  replace p0 := kept hb (block_lt p0) p0
  replace p1 := kept hb (block_lt p1) p1
  replace b0 := kept hb (block_lt b0) b0
  replace b1 := kept hb (block_lt b1) b1
  replace x0 := kept hb (block_lt x0) x0
  replace x1 := kept hb (block_lt x1) x1
  replace p := Lib.hid (p.out.bel hb)
  replace oo := Lib.hid (oo.out.bel hb)
  replace c1_ := Lib.hid (c1_.out.bel hb)
  replace b := Lib.hid (b.out.bel hb)
  replace l1 := Lib.hid (l1.out.bel hb)
  replace x := Lib.hid (x.out.bel hb)
  replace bb := Lib.hid (bb.out.trans (hb.mono bb.out.size))
  clear hb
  go_wp2_with fail
  go_ret
  exact ⟨rfl, bb.out⟩

set_option maxRecDepth 100000 in
theorem lifted (os : Os) (started : os.Started) (H : Type) (enc : TypeId × Value → H) :
    ReturnsInHanded {} Tryz.checked os 3 .any (fun w args => (Rows.fnPathBuildSpec.pre enc Tryz.prog Tryz.f3 [] false w args ∧ laidMetH Tryz.prog Rows.fnPathBuildRow.laid w) ∧ sizedMet enc Tryz.prog Tryz.f3 (OpenSpec.ofChange Rows.fnPathBuildSpec) false w args) (Rows.fnPathBuildSpec.post enc Tryz.prog Tryz.f3 false true false false) := by
  refine returnsInHanded_of_change_and (C := Tryz.checked) (X := fun w _ => laidMetH Tryz.prog Rows.fnPathBuildRow.laid w) (fun _ _ _ hh h => h.of_heap hh) own started (by kernel_rfl) Tryz.func3
    (ChangeSpec.witness_shaped (enc := enc) (C := Tryz.checked) (os := os) (X := fun w _ => laidMetH Tryz.prog Rows.fnPathBuildRow.laid w) false (World.doorLaid Tryz.prog 28 os) #[.slice none 0 0] 8 rfl (World.shaped_of_RefB (by kernel_rfl) (by kernel_rfl)) (by kernel_rfl) (by kernel_rfl) (by kernel_rfl) (door_met os _)) ?_
  intro W base args ds gs before hval0 hW _ _ hL _
  have hval : ∀ (j : Nat) t v, Tryz.f3.params[j]? = some t → args[j]? = some v → Value.okWide Tryz.prog W .any base t v := hval0
  have hW' := hW
  obtain ⟨p, q, hA0, hV, rfl, hfz, hnd⟩ := hW
  have hA : DataW.TrodAll enc Tryz.prog W 0 (fun _ => true) true Tryz.f3.params.toList args.toList ds p := hA0
  rw [Tryz.params3] at hA hval
  obtain ⟨v0, vs0, d0, ds0, p0, q0, hargs, rfl, rfl, h0, r0⟩ := trodAll_cons hA
  obtain ⟨rfl, rfl, rfl⟩ := trodAll_nil r0
  obtain rfl : args = #[v0] := by cases args; simp_all
  obtain ⟨pE, hv0, hE⟩ := sentinel_of hL
  have hV' : DataW.TrodVars enc Tryz.prog W (fun _ => true) ["loop.example/discretetomography/impl.errNoImage"] gs q := hV
  obtain ⟨rfl, rfl⟩ := hV'.unique (vars_read1 enc gE gEType Tryz.underlying71 hv0 trivial _)
  have k0 := h0
  have lt0 : ∀ x ∈ p0, x.block < W.heap.size := by obtain ⟨m, hm⟩ := k0; exact DataW.trod_lt m _ _ _ hm
  obtain ⟨a0, len0, cap0, z0, rfl, w0, l0, m0⟩ := open_code (hval 0 22 v0 rfl rfl) h0
  clear hA0 hval0
  refine (walk a0 len0 cap0 z0 W pE hE w0 l0 m0).mono fun e W' ⟨he, bel⟩ => ?_
  subst he
  exact ⟨_, rfl, _, _, _, [], _, [.cell 0 0], hW', trodAll_mk1 (shut_bool Tryz.underlying4 _), (trodAll_cons_mk (Below.trod laidOut (by kernel_rfl) (of_decide_eq_true (by kernel_rfl)) k0 bel lt0) trodAll_mk0), vars_read1 enc gE gEType Tryz.underlying71 (var_bel bel hv0) trivial _, bel.frame _, fun h => by cases h⟩

theorem closed : joinedFacts Tryz.prog 3 Tryz.f3 Rows.fnPathBuildSpec Rows.fnPathBuildRow = true := by
  simp only [joinedFacts, Bool.and_eq_true]
  repeat' apply And.intro
  all_goals first | with_reducible exact mayEnterOk | (with_reducible rw [liftsFinalOk]; kernel_rfl) | (with_reducible rw [makeOk]; kernel_rfl) | kernel_rfl

theorem over : Rows.fnPathBuildRow.holds Tryz.pinned (OpenSpec.ofChange Rows.fnPathBuildSpec) :=
  OpenClaim.holds_of_wide 3 Tryz.f3 rfl rfl rfl rfl rfl rfl rfl ⟨rfl, rfl, rfl, rfl, rfl⟩ rfl rfl rfl rfl rfl (by kernel_rfl) Tryz.func3 closed
    (of_decide_eq_true (by kernel_rfl)) (by unfold Func.isWrapper; first | (rw [if_pos (by decide +kernel)]; kernel_rfl) | (rw [if_neg (by decide +kernel)]; exact ⟨rfl, rfl⟩))
    (fun os started H enc _ => lifted os started H enc)

theorem plain (f : FuncId) (fn : Func) (hf : Tryz.pinned.checked.prog.funcNamed "loop.example/discretetomography/laws.FnPathBuild" = some f) (hfn : Tryz.pinned.checked.prog.funcs[f]? = some fn) :
    true = Tryz.pinned.checked.prog.looks [] ∧ ∀ (j : Nat) t, fn.params[j]? = some t → Tryz.pinned.checked.prog.wantsStandIn t = false := by
  obtain rfl : f = 3 := Option.some.inj ((show Tryz.prog.funcNamed "loop.example/discretetomography/laws.FnPathBuild" = some 3 by kernel_rfl).symm.trans hf) |>.symm
  obtain rfl : fn = Tryz.f3 := (Option.some.inj (Tryz.func3.symm.trans hfn)).symm
  refine ⟨looksOk, fun j t ht => ?_⟩
  rw [Tryz.params3] at ht
  obtain rfl : t = 22 := by simpa using Array.mem_of_getElem? ht
  exact wantsCode

theorem proved : Rows.FnPathBuildCardSaid :=
  Claim7.holds_tied_plain_at .later [] _ _ _ _ over (fun _ h => by cases h) (by kernel_rfl) (fun _ h => by cases h) fnPathBuild_row_tie rfl ⟨rfl, rfl⟩ (by kernel_rfl) rfl plain (by kernel_rfl)
#print axioms proved
end Go.Proofs.YtnhcknbbkmaiiaaGreatDoor.LFPathBuild

