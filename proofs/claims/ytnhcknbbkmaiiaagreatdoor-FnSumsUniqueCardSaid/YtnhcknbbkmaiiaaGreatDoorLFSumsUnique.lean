/-
  For every slice of bytes the law FnSumsUnique answers true: unique sums are consistent, and unique exchanged and where the other cells are counted; nothing that was there is written; no condition.
-/
import Derived.Test.YtnhcknbbkmaiiaaGreatDoorO
import Derived.Test.YtnhcknbbkmaiiaaGreatDoorCf
import Derived.Test.YtnhcknbbkmaiiaaGreatDoorK
import Derived.Deep.RegionLaw
import Derived.Test.YtnhcknbbkmaiiaaGreatDoorNu
import Derived.Test.YtnhcknbbkmaiiaaGreatDoorNv
import Derived.Test.YtnhcknbbkmaiiaaGreatDoorNy
import Derived.Test.YtnhcknbbkmaiiaaGreatDoorEp
import Derived.Test.YtnhcknbbkmaiiaaGreatDoorDm
import Derived.Test.YtnhcknbbkmaiiaaGreatDoorCa
import Derived.Test.YtnhcknbbkmaiiaaGreatDoorCe
namespace Go.Proofs.YtnhcknbbkmaiiaaGreatDoor.LFSumsUnique
open Go.ChangeShapes Go.WideShapes Go.ChangeAt Go.RowKit Go.Joins

theorem uniqs_rest {rows cols : List Int} (hu : uniqS rows cols = true) : uniqS (restL rows cols.length) (restL cols rows.length) = true := by
  have hc := uniqs_con hu
  have h := build_im (conB_valid hc)
  have hs := (uniqs_build hc).1 hu
  have := (uniqs_im h.oth).2 ((uniq_oth h).2 hs)
  rw [h.oth_rs, h.oth_cs, build_rs hc, build_cs (conB_valid hc)] at this
  unfold restL
  exact this

set_option maxHeartbeats 1000000 in
set_option maxRecDepth 100000 in
theorem walk (a : Option Addr) (len cap : Nat) (zs : List Int) (w : World) (pE : Addr) (hE : w.cell? ⟨0, 0, none⟩ = some (errV pE)) (h : Bys w a len zs) (hl : len ≤ cap) (hm : cap ≤ 9223372036854775807) :
    Calls Tryz.prog 5 #[.slice a len cap] w fun e w' => e = .returned (.bool true) ∧ Below w.heap.size w w' := by
  by_cases hbig : 1048576 < len
  · clear h
    go_enter Tryz.func5, Tryz.ntmps5
    go_wp2_with fail
    go_ret
    exact ⟨rfl, Below.refl _ _⟩
  go_enter Tryz.func5, Tryz.ntmps5
  go_wp2_with fail
  refine (draw_DrawSumsUnique a len cap zs _ h hl hm).mono ?_
  rintro e w1 ⟨aR, n, cR, xs, aC, m, cC, ys, rfl, hR, hC, hnm, hcap, hb1⟩
  clear h hl hm
  have bb := Lib.hid hb1
  have p := Lib.hid hR.row
  have q := Lib.hid hC.row
  have lx := hR.len
  have ly := hC.len
  have hn13 : n ≤ 13 := by omega
  have hm13 : m ≤ 13 := by omega
  have es := kept hb1 (block_lt hE) hE
  clear hR hC hb1 hE
  by_cases hv : uniqS xs ys = true
  case neg =>
    have hv : uniqS xs ys = false := by simpa using hv
    replace hv := Lib.hid hv
    go_wp2_with fail
    refine (su_ok hv.out _ _ _ _ _ _ _ p.out q.out hn13 hm13).mono ?_
    rintro e w2 ⟨rfl, hb⟩
    have szw2 := hb.size
    replace es := kept hb (block_lt es) es
    replace p := Lib.hid (p.out.bel hb)
    replace q := Lib.hid (q.out.bel hb)
    replace bb := Lib.hid (bb.out.trans (hb.mono bb.out.size))
    clear hb
    go_wp2_with fail
    refine (su_sok hv.out _ _ _ _ _ _ _ p.out q.out hn13 hm13).mono ?_
    rintro e w3 ⟨rfl, hb⟩
    have szw3 := hb.size
    replace es := kept hb (block_lt es) es
    replace p := Lib.hid (p.out.bel hb)
    replace q := Lib.hid (q.out.bel hb)
    replace bb := Lib.hid (bb.out.trans (hb.mono bb.out.size))
    clear hb
    go_wp2_with fail
    go_ret
    exact ⟨rfl, bb.out⟩
  have hB := uniqs_con hv
  have hU := Lib.hid hv
  replace hv := conB_valid hB
  have hp := sumsB_parts hv
  rw [lx, ly] at hp
  have hn1 := hp.1.1
  have hn6 := hp.1.2
  have hm1 := hp.2.1.1
  have hm6 := hp.2.1.2
  have bx := Lib.hid hp.2.2.1
  have by' := Lib.hid hp.2.2.2
  have hex := Lib.hid (sums_el hv).1
  have hey := Lib.hid (sums_el hv).2
  clear hp
  replace hv := Lib.hid hv
  replace hB := Lib.hid hB
  go_wp2_with fail
  refine (su_ok hU.out _ _ _ _ _ _ _ p.out q.out hn13 hm13).mono ?_
  rintro e w4 ⟨rfl, hb⟩
  have szw4 := hb.size
  replace es := kept hb (block_lt es) es
  replace p := Lib.hid (p.out.bel hb)
  replace q := Lib.hid (q.out.bel hb)
  replace bb := Lib.hid (bb.out.trans (hb.mono bb.out.size))
  clear hb
  go_wp2_with fail
  refine (su_sok hU.out _ _ _ _ _ _ _ p.out q.out hn13 hm13).mono ?_
  rintro e w5 ⟨rfl, hb⟩
  have szw5 := hb.size
  replace es := kept hb (block_lt es) es
  replace p := Lib.hid (p.out.bel hb)
  replace q := Lib.hid (q.out.bel hb)
  replace bb := Lib.hid (bb.out.trans (hb.mono bb.out.size))
  clear hb
  have hsw := Lib.hid (uniqs_swap hU.out)
  have hre := uniqs_rest hU.out
  rw [lx, ly] at hre
  replace hre := Lib.hid hre
  obtain ⟨L, hL⟩ : ∃ L, buildL xs ys = L := ⟨_, rfl⟩
  have hI : Im m n L := by have := build_im hv.out; rwa [hL, lx, ly] at this
  have hu2 := (uniqs_build hB.out).1 hU.out
  rw [hL, lx, ly] at hu2
  have hb0 : uniB L m n = true := unib_iff.2 ⟨fun _ => rfl, fun _ => hu2⟩
  replace hL := Lib.hid hL
  replace hI := Lib.hid hI
  replace hb0 := Lib.hid hb0
  have lxn := Lib.hid lx
  have lym := Lib.hid ly
  clear hu2
  go_wp2_with fail
  refine (bi_ok hB.out hL.out lxn.out lym.out _ _ _ _ pE _ p.out q.out es).mono ?_
  rintro e w6 ⟨⟨ao, co, rfl, ho⟩, hb⟩
  have o := Lib.hid ho.row
  have szw6 := hb.size
  replace es := kept hb (block_lt es) es
  replace p := Lib.hid (p.out.bel hb)
  replace q := Lib.hid (q.out.bel hb)
  replace bb := Lib.hid (bb.out.trans (hb.mono bb.out.size))
  clear hb
  clear ho
  have hbx : Below w6.heap.size w6 (w6.alloc (.cells #[.int .i64 m, .slice ao n co] 25)) := (Below.refl _ _).alloc (Nat.le_refl _) _
  replace es := kept hbx (block_lt es) es
  replace p := Lib.hid (p.out.bel hbx)
  replace q := Lib.hid (q.out.bel hbx)
  replace o := Lib.hid (o.out.bel hbx)
  replace bb := Lib.hid (bb.out.trans (hbx.mono bb.out.size))
  clear hbx
  have o0 : (w6.alloc (.cells #[.int .i64 m, .slice ao n co] 25)).cell? ⟨w6.heap.size, 0, none⟩ = some (.int .i64 m) := by simp
  have o1 : (w6.alloc (.cells #[.int .i64 m, .slice ao n co] 25)).cell? ⟨w6.heap.size, 1, none⟩ = some (.slice ao n co) := by simp
  go_wp2_with fail
  refine (turnS_ok hv.out rfl rfl _ _ _ _ _ p.out q.out).mono ?_
  rintro e w7 ⟨⟨ar, cr, au, cu, rfl, ho, ho2, _⟩, hb⟩
  have r := Lib.hid ho.row
  have u := Lib.hid ho2.row
  have szw7 : w6.heap.size + 1 ≤ w7.heap.size := by have := hb.size; simpa using this
  replace es := kept hb (block_lt es) es
  replace o0 := kept hb (block_lt o0) o0
  replace o1 := kept hb (block_lt o1) o1
  replace p := Lib.hid (p.out.bel hb)
  replace q := Lib.hid (q.out.bel hb)
  replace o := Lib.hid (o.out.bel hb)
  replace bb := Lib.hid (bb.out.trans (hb.mono bb.out.size))
  clear hb
  clear ho
  clear ho2
  go_wp2_with fail
  refine (con_ok hB.out _ _ _ _ _ _ pE _ p.out q.out es hn13 hm13).mono ?_
  rintro e w8 ⟨rfl, hb⟩
  have szw8 := hb.size
  replace es := kept hb (block_lt es) es
  replace o0 := kept hb (block_lt o0) o0
  replace o1 := kept hb (block_lt o1) o1
  replace p := Lib.hid (p.out.bel hb)
  replace q := Lib.hid (q.out.bel hb)
  replace o := Lib.hid (o.out.bel hb)
  replace r := Lib.hid (r.out.bel hb)
  replace u := Lib.hid (u.out.bel hb)
  replace bb := Lib.hid (bb.out.trans (hb.mono bb.out.size))
  clear hb
  go_wp2_with fail
  refine (uni_ok hI.out hb0.out _ _ _ o.out).mono ?_
  rintro e w9 ⟨rfl, hb⟩
  have szw9 := hb.size
  replace es := kept hb (block_lt es) es
  replace o0 := kept hb (block_lt o0) o0
  replace o1 := kept hb (block_lt o1) o1
  replace p := Lib.hid (p.out.bel hb)
  replace q := Lib.hid (q.out.bel hb)
  replace o := Lib.hid (o.out.bel hb)
  replace r := Lib.hid (r.out.bel hb)
  replace u := Lib.hid (u.out.bel hb)
  replace bb := Lib.hid (bb.out.trans (hb.mono bb.out.size))
  clear hb
  go_wp2_with fail
  refine (su_ok hsw.out _ _ _ _ _ _ _ q.out p.out hm13 hn13).mono ?_
  rintro e w10 ⟨rfl, hb⟩
  have szw10 := hb.size
  replace es := kept hb (block_lt es) es
  replace o0 := kept hb (block_lt o0) o0
  replace o1 := kept hb (block_lt o1) o1
  replace p := Lib.hid (p.out.bel hb)
  replace q := Lib.hid (q.out.bel hb)
  replace o := Lib.hid (o.out.bel hb)
  replace r := Lib.hid (r.out.bel hb)
  replace u := Lib.hid (u.out.bel hb)
  replace bb := Lib.hid (bb.out.trans (hb.mono bb.out.size))
  clear hb
  go_wp2_with fail
  refine (su_ok hre.out _ _ _ _ _ _ _ r.out u.out hn13 hm13).mono ?_
  rintro e w11 ⟨rfl, hb⟩
  have szw11 := hb.size
  replace es := kept hb (block_lt es) es
  replace o0 := kept hb (block_lt o0) o0
  replace o1 := kept hb (block_lt o1) o1
  replace p := Lib.hid (p.out.bel hb)
  replace q := Lib.hid (q.out.bel hb)
  replace o := Lib.hid (o.out.bel hb)
  replace r := Lib.hid (r.out.bel hb)
  replace u := Lib.hid (u.out.bel hb)
  replace bb := Lib.hid (bb.out.trans (hb.mono bb.out.size))
  clear hb
  go_wp2_with fail
  go_ret
  exact ⟨rfl, bb.out⟩

set_option maxRecDepth 100000 in
theorem lifted (os : Os) (started : os.Started) (H : Type) (enc : TypeId × Value → H) :
    ReturnsInHanded {} Tryz.checked os 5 .any (fun w args => (Rows.fnSumsUniqueSpec.pre enc Tryz.prog Tryz.f5 [] false w args ∧ laidMetH Tryz.prog Rows.fnSumsUniqueRow.laid w) ∧ sizedMet enc Tryz.prog Tryz.f5 (OpenSpec.ofChange Rows.fnSumsUniqueSpec) false w args) (Rows.fnSumsUniqueSpec.post enc Tryz.prog Tryz.f5 false true false false) := by
  refine returnsInHanded_of_change_and (C := Tryz.checked) (X := fun w _ => laidMetH Tryz.prog Rows.fnSumsUniqueRow.laid w) (fun _ _ _ hh h => h.of_heap hh) own started (by kernel_rfl) Tryz.func5
    (ChangeSpec.witness_shaped (enc := enc) (C := Tryz.checked) (os := os) (X := fun w _ => laidMetH Tryz.prog Rows.fnSumsUniqueRow.laid w) false (World.doorLaid Tryz.prog 28 os) #[.slice none 0 0] 8 rfl (World.shaped_of_RefB (by kernel_rfl) (by kernel_rfl)) (by kernel_rfl) (by kernel_rfl) (by kernel_rfl) (door_met os _)) ?_
  intro W base args ds gs before hval0 hW _ _ hL _
  have hval : ∀ (j : Nat) t v, Tryz.f5.params[j]? = some t → args[j]? = some v → Value.okWide Tryz.prog W .any base t v := hval0
  have hW' := hW
  obtain ⟨p, q, hA0, hV, rfl, hfz, hnd⟩ := hW
  have hA : DataW.TrodAll enc Tryz.prog W 0 (fun _ => true) true Tryz.f5.params.toList args.toList ds p := hA0
  rw [Tryz.params5] at hA hval
  obtain ⟨v0, vs0, d0, ds0, p0, q0, hargs, rfl, rfl, h0, r0⟩ := trodAll_cons hA
  obtain ⟨rfl, rfl, rfl⟩ := trodAll_nil r0
  obtain rfl : args = #[v0] := by cases args; simp_all
  obtain ⟨pE, hv0, hE⟩ := sentinel_of hL
  have hV' : DataW.TrodVars enc Tryz.prog W (fun _ => true) ["loop.example/discretetomography/impl.errNoImage"] gs q := hV
  obtain ⟨rfl, rfl⟩ := hV'.unique (vars_read1 enc gE gEType Tryz.underlying71 hv0 trivial _)
  have k0 := h0
  have lt0 : ∀ x ∈ p0, x.block < W.heap.size := by obtain ⟨m, hm⟩ := k0; exact DataW.trod_lt m _ _ _ hm
  obtain ⟨a0, len0, cap0, z0, rfl, w0, l0, m0⟩ := open_code (hval 0 22 v0 rfl rfl) h0
  clear hA0 hval0
  refine (walk a0 len0 cap0 z0 W pE hE w0 l0 m0).mono fun e W' ⟨he, bel⟩ => ?_
  subst he
  exact ⟨_, rfl, _, _, _, [], _, [.cell 0 0], hW', trodAll_mk1 (shut_bool Tryz.underlying4 _), (trodAll_cons_mk (Below.trod laidOut (by kernel_rfl) (of_decide_eq_true (by kernel_rfl)) k0 bel lt0) trodAll_mk0), vars_read1 enc gE gEType Tryz.underlying71 (var_bel bel hv0) trivial _, bel.frame _, fun h => by cases h⟩

theorem closed : joinedFacts Tryz.prog 5 Tryz.f5 Rows.fnSumsUniqueSpec Rows.fnSumsUniqueRow = true := by
  simp only [joinedFacts, Bool.and_eq_true]
  repeat' apply And.intro
  all_goals first | with_reducible exact mayEnterOk | (with_reducible rw [liftsFinalOk]; kernel_rfl) | (with_reducible rw [makeOk]; kernel_rfl) | kernel_rfl

theorem over : Rows.fnSumsUniqueRow.holds Tryz.pinned (OpenSpec.ofChange Rows.fnSumsUniqueSpec) :=
  OpenClaim.holds_of_wide 5 Tryz.f5 rfl rfl rfl rfl rfl rfl rfl ⟨rfl, rfl, rfl, rfl, rfl⟩ rfl rfl rfl rfl rfl (by kernel_rfl) Tryz.func5 closed
    (of_decide_eq_true (by kernel_rfl)) (by unfold Func.isWrapper; first | (rw [if_pos (by decide +kernel)]; kernel_rfl) | (rw [if_neg (by decide +kernel)]; exact ⟨rfl, rfl⟩))
    (fun os started H enc _ => lifted os started H enc)

theorem plain (f : FuncId) (fn : Func) (hf : Tryz.pinned.checked.prog.funcNamed "loop.example/discretetomography/laws.FnSumsUnique" = some f) (hfn : Tryz.pinned.checked.prog.funcs[f]? = some fn) :
    true = Tryz.pinned.checked.prog.looks [] ∧ ∀ (j : Nat) t, fn.params[j]? = some t → Tryz.pinned.checked.prog.wantsStandIn t = false := by
  obtain rfl : f = 5 := Option.some.inj ((show Tryz.prog.funcNamed "loop.example/discretetomography/laws.FnSumsUnique" = some 5 by kernel_rfl).symm.trans hf) |>.symm
  obtain rfl : fn = Tryz.f5 := (Option.some.inj (Tryz.func5.symm.trans hfn)).symm
  refine ⟨looksOk, fun j t ht => ?_⟩
  rw [Tryz.params5] at ht
  obtain rfl : t = 22 := by simpa using Array.mem_of_getElem? ht
  exact wantsCode

theorem proved : Rows.FnSumsUniqueCardSaid :=
  Claim7.holds_tied_plain_at .later [] _ _ _ _ over (fun _ h => by cases h) (by kernel_rfl) (fun _ h => by cases h) fnSumsUnique_row_tie rfl ⟨rfl, rfl⟩ (by kernel_rfl) rfl plain (by kernel_rfl)
#print axioms proved
end Go.Proofs.YtnhcknbbkmaiiaaGreatDoor.LFSumsUnique

