/-
  For every slice of bytes the law FnCountVariable answers true: several images have variable cells; nothing that was there is written; no condition.
-/
import Derived.Test.YtnfkafaolelkbaaGreatDoorO
import Derived.Test.YtnfkafaolelkbaaGreatDoorCf
import Derived.Test.YtnfkafaolelkbaaGreatDoorK
import Derived.Deep.RegionLaw
import Derived.Test.YtnfkafaolelkbaaGreatDoorJv
import Derived.Test.YtnfkafaolelkbaaGreatDoorJm
import Derived.Test.YtnfkafaolelkbaaGreatDoorJb
import Derived.Test.YtnfkafaolelkbaaGreatDoorMj
import Derived.Test.YtnfkafaolelkbaaGreatDoorDm
import Derived.Test.YtnfkafaolelkbaaGreatDoorCe
namespace Go.Proofs.YtnfkafaolelkbaaGreatDoor.LFCountVariable
open Go.ChangeShapes Go.WideShapes Go.ChangeAt Go.RowKit Go.Joins

set_option maxHeartbeats 2000000 in
set_option maxRecDepth 100000 in
theorem walk (a : Option Addr) (len cap : Nat) (zs : List Int) (w : World) (pE : Addr) (hE : w.cell? ⟨0, 0, none⟩ = some (errV pE)) (h : Bys w a len zs) (hl : len ≤ cap) (hm : cap ≤ 9223372036854775807) :
    Calls Tryz.prog 5 #[.slice a len cap] w fun e w' => e = .returned (.bool true) ∧ Below w.heap.size w w' := by
  by_cases hbig : 1048576 < len
  · clear h
    go_enter Tryz.func5, Tryz.ntmps5
    go_wp2_with fail
    go_ret
    exact ⟨rfl, Below.refl _ _⟩
  go_enter Tryz.func5, Tryz.ntmps5
  go_wp2_with fail
  refine (draw_DrawSumsCount a len cap zs _ h hl hm).mono ?_
  rintro e w1 ⟨aR, n, cR, xs, aC, m, cC, ys, rfl, hR, hC, hnm, hcap, hb1⟩
  clear h hl hm
  have bb := Lib.hid hb1
  have p := Lib.hid hR.row
  have q := Lib.hid hC.row
  have lx := hR.len
  have ly := hC.len
  have hn13 : n ≤ 13 := by omega
  have hm13 : m ≤ 13 := by omega
  have es := kept hb1 (block_lt hE) hE
  clear hR hC hb1 hE
  obtain ⟨N, hN⟩ : ∃ N, scO xs ys = N := ⟨_, rfl⟩
  go_wp2_with fail
  refine (sc_ok hN _ _ _ _ _ p.out q.out hn13 hm13).mono ?_
  rintro e w2 ⟨rfl, hb⟩
  have szw2 := hb.size
  replace es := kept hb (block_lt es) es
  replace p := Lib.hid (p.out.bel hb)
  replace q := Lib.hid (q.out.bel hb)
  replace bb := Lib.hid (bb.out.trans (hb.mono bb.out.size))
  clear hb
  go_wp2_with fail
  refine (sc_sok hN _ _ _ _ _ p.out q.out hn13 hm13 hcap.1).mono ?_
  rintro e w3 ⟨rfl, hb⟩
  have szw3 := hb.size
  replace es := kept hb (block_lt es) es
  replace p := Lib.hid (p.out.bel hb)
  replace q := Lib.hid (q.out.bel hb)
  replace bb := Lib.hid (bb.out.trans (hb.mono bb.out.size))
  clear hb
  by_cases hct : ctdB xs ys = true
  case neg =>
    obtain rfl : N = -1 := by rw [← hN]; exact if_neg hct
    replace hct := Lib.hid hct
    go_wp2_with fail
    go_ret
    exact ⟨rfl, bb.out⟩
  have hv := (ctdB_parts hct).1
  have h16 := (ctdB_parts hct).2
  rw [lx, ly] at h16
  have hp := sumsB_parts hv
  rw [lx, ly] at hp
  have hn1 := hp.1.1
  have hn6 := hp.1.2
  have hm1 := hp.2.1.1
  have hm6 := hp.2.1.2
  have bx := Lib.hid hp.2.2.1
  have by' := Lib.hid hp.2.2.2
  have hex := Lib.hid (sums_el hv).1
  have hey := Lib.hid (sums_el hv).2
  clear hp
  have hNc : cntS xs ys = N := (sco_yes hct).symm.trans hN
  have hNb := sco_bd hct
  rw [hNc] at hNb
  have hN0 : ¬ N < 0 := by omega
  by_cases hN2 : N < 1
  case pos =>
    replace hv := Lib.hid hv
    replace hN := Lib.hid hN
    replace hNc := Lib.hid hNc
    replace hct := Lib.hid hct
    go_wp2_with fail
    go_ret
    exact ⟨rfl, bb.out⟩
  have hB : conB xs ys = true := (cnt_con hv).1 (by rw [hNc]; omega)
  obtain ⟨L, hL⟩ : ∃ L, buildL xs ys = L := ⟨_, rfl⟩
  have hI : Im m n L := by have := build_im hv; rwa [hL, lx, ly] at this
  have r1 : rsL L m n = xs := by have := build_rs hB; rwa [hL, lx, ly] at this
  have r2 : csL L n m = ys := by have := build_cs hv; rwa [hL, lx, ly] at this
  obtain ⟨Z, hZ⟩ : ∃ Z, varL L m n = Z := ⟨_, rfl⟩
  have hJ := varl_im hI
  have hno := var_none hI
  rw [hZ] at hJ hno
  obtain ⟨K, hK⟩ : ∃ K, manyI m Z n = K := ⟨_, rfl⟩
  rw [hK] at hno
  have hmo : manyOf m Z = K := by rw [hJ.many]; exact hK
  have hkb := many_bd m Z n
  rw [hK] at hkb
  have htw := cnt_two hI r1 r2
  rw [hNc] at htw
  obtain ⟨b, hb0⟩ : ∃ b, decide (1 < N) = b := ⟨_, rfl⟩
  have g1 : decide (0 < K) = b := by
    rw [← hb0]
    exact decide_eq_decide.2 ⟨fun h => htw.2 (fun e => by have := hno.2 e; omega), fun h => by
      have h1 := htw.1 h
      have h2 : ¬ K = 0 := fun e => h1 (hno.1 e)
      omega⟩
  have g2 : (b == b) = true := by simp
  replace hZ := Lib.hid hZ
  replace hJ := Lib.hid hJ
  replace hK := Lib.hid hK
  replace hmo := Lib.hid hmo
  clear hno hkb htw
  replace hB := Lib.hid hB
  replace hL := Lib.hid hL
  replace hI := Lib.hid hI
  replace r1 := Lib.hid r1
  replace r2 := Lib.hid r2
  have lxh := Lib.hid lx
  have lyh := Lib.hid ly
  replace hv := Lib.hid hv
  replace hN := Lib.hid hN
  replace hNc := Lib.hid hNc
  replace hct := Lib.hid hct
  go_wp2_with fail
  refine (bi_ok hB.out hL.out lxh.out lyh.out _ _ _ _ pE _ p.out q.out es).mono ?_
  rintro e w4 ⟨⟨ao, co, rfl, ho⟩, hb⟩
  have o := Lib.hid ho.row
  have szw4 := hb.size
  replace es := kept hb (block_lt es) es
  replace p := Lib.hid (p.out.bel hb)
  replace q := Lib.hid (q.out.bel hb)
  replace bb := Lib.hid (bb.out.trans (hb.mono bb.out.size))
  clear hb
  clear ho
  have hbx : Below w4.heap.size w4 (w4.alloc (.cells #[.int .i64 m, .slice ao n co] 28)) := (Below.refl _ _).alloc (Nat.le_refl _) _
  replace es := kept hbx (block_lt es) es
  replace p := Lib.hid (p.out.bel hbx)
  replace q := Lib.hid (q.out.bel hbx)
  replace o := Lib.hid (o.out.bel hbx)
  replace bb := Lib.hid (bb.out.trans (hbx.mono bb.out.size))
  clear hbx
  have o0 : (w4.alloc (.cells #[.int .i64 m, .slice ao n co] 28)).cell? ⟨w4.heap.size, 0, none⟩ = some (.int .i64 m) := by simp
  have o1 : (w4.alloc (.cells #[.int .i64 m, .slice ao n co] 28)).cell? ⟨w4.heap.size, 1, none⟩ = some (.slice ao n co) := by simp
  go_wp2_with fail
  refine (vars_ok hI.out hZ.out _ _ _ o.out).mono ?_
  rintro e w5 ⟨⟨ax, cx, rfl, ho⟩, hb⟩
  have x := Lib.hid ho.row
  have szw5 : w4.heap.size + 1 ≤ w5.heap.size := by have := hb.size; simpa using this
  replace es := kept hb (block_lt es) es
  replace o0 := kept hb (block_lt o0) o0
  replace o1 := kept hb (block_lt o1) o1
  replace p := Lib.hid (p.out.bel hb)
  replace q := Lib.hid (q.out.bel hb)
  replace o := Lib.hid (o.out.bel hb)
  replace bb := Lib.hid (bb.out.trans (hb.mono bb.out.size))
  clear hb
  clear ho
  have hbx : Below w5.heap.size w5 (w5.alloc (.cells #[.int .i64 m, .slice ax n cx] 28)) := (Below.refl _ _).alloc (Nat.le_refl _) _
  replace es := kept hbx (block_lt es) es
  replace o0 := kept hbx (block_lt o0) o0
  replace o1 := kept hbx (block_lt o1) o1
  replace p := Lib.hid (p.out.bel hbx)
  replace q := Lib.hid (q.out.bel hbx)
  replace o := Lib.hid (o.out.bel hbx)
  replace x := Lib.hid (x.out.bel hbx)
  replace bb := Lib.hid (bb.out.trans (hbx.mono bb.out.size))
  clear hbx
  have x0 : (w5.alloc (.cells #[.int .i64 m, .slice ax n cx] 28)).cell? ⟨w5.heap.size, 0, none⟩ = some (.int .i64 m) := by simp
  have x1 : (w5.alloc (.cells #[.int .i64 m, .slice ax n cx] 28)).cell? ⟨w5.heap.size, 1, none⟩ = some (.slice ax n cx) := by simp
  go_wp2_with fail
  refine (many_impl m ax n cx Z _ x.out (by omega)).mono ?_
  rintro e w6 ⟨rfl, hb⟩
  have szw6 : w5.heap.size + 1 ≤ w6.heap.size := by have := hb.size; simpa using this
  replace es := kept hb (block_lt es) es
  replace o0 := kept hb (block_lt o0) o0
  replace o1 := kept hb (block_lt o1) o1
  replace x0 := kept hb (block_lt x0) x0
  replace x1 := kept hb (block_lt x1) x1
  replace p := Lib.hid (p.out.bel hb)
  replace q := Lib.hid (q.out.bel hb)
  replace o := Lib.hid (o.out.bel hb)
  replace x := Lib.hid (x.out.bel hb)
  replace bb := Lib.hid (bb.out.trans (hb.mono bb.out.size))
  clear hb
  rw [hmo.out]
  go_wp2_with fail
  go_ret
  exact ⟨rfl, bb.out⟩

set_option maxRecDepth 100000 in
theorem lifted (os : Os) (started : os.Started) (H : Type) (enc : TypeId × Value → H) :
    ReturnsInHanded {} Tryz.checked os 5 .any (fun w args => (Rows.fnCountVariableSpec.pre enc Tryz.prog Tryz.f5 [] false w args ∧ laidMetH Tryz.prog Rows.fnCountVariableRow.laid w) ∧ sizedMet enc Tryz.prog Tryz.f5 (OpenSpec.ofChange Rows.fnCountVariableSpec) false w args) (Rows.fnCountVariableSpec.post enc Tryz.prog Tryz.f5 false true false false) := by
  refine returnsInHanded_of_change_and (C := Tryz.checked) (X := fun w _ => laidMetH Tryz.prog Rows.fnCountVariableRow.laid w) (fun _ _ _ hh h => h.of_heap hh) own started (by kernel_rfl) Tryz.func5
    (ChangeSpec.witness_shaped (enc := enc) (C := Tryz.checked) (os := os) (X := fun w _ => laidMetH Tryz.prog Rows.fnCountVariableRow.laid w) false (World.doorLaid Tryz.prog 28 os) #[.slice none 0 0] 8 rfl (World.shaped_of_RefB (by kernel_rfl) (by kernel_rfl)) (by kernel_rfl) (by kernel_rfl) (by kernel_rfl) (door_met os _)) ?_
  intro W base args ds gs before hval0 hW _ _ hL _
  have hval : ∀ (j : Nat) t v, Tryz.f5.params[j]? = some t → args[j]? = some v → Value.okWide Tryz.prog W .any base t v := hval0
  have hW' := hW
  obtain ⟨p, q, hA0, hV, rfl, hfz, hnd⟩ := hW
  have hA : DataW.TrodAll enc Tryz.prog W 0 (fun _ => true) true Tryz.f5.params.toList args.toList ds p := hA0
  rw [Tryz.params5] at hA hval
  obtain ⟨v0, vs0, d0, ds0, p0, q0, hargs, rfl, rfl, h0, r0⟩ := trodAll_cons hA
  obtain ⟨rfl, rfl, rfl⟩ := trodAll_nil r0
  obtain rfl : args = #[v0] := by cases args; simp_all
  obtain ⟨pE, hv0, hE⟩ := sentinel_of hL
  have hV' : DataW.TrodVars enc Tryz.prog W (fun _ => true) ["loop.example/discretetomography/impl.errNoImage"] gs q := hV
  obtain ⟨rfl, rfl⟩ := hV'.unique (vars_read1 enc gE gEType Tryz.underlying72 hv0 trivial _)
  have k0 := h0
  have lt0 : ∀ x ∈ p0, x.block < W.heap.size := by obtain ⟨m, hm⟩ := k0; exact DataW.trod_lt m _ _ _ hm
  obtain ⟨a0, len0, cap0, z0, rfl, w0, l0, m0⟩ := open_code (hval 0 22 v0 rfl rfl) h0
  clear hA0 hval0
  refine (walk a0 len0 cap0 z0 W pE hE w0 l0 m0).mono fun e W' ⟨he, bel⟩ => ?_
  subst he
  exact ⟨_, rfl, _, _, _, [], _, [.cell 0 0], hW', trodAll_mk1 (shut_bool Tryz.underlying4 _), (trodAll_cons_mk (Below.trod laidOut (by kernel_rfl) (of_decide_eq_true (by kernel_rfl)) k0 bel lt0) trodAll_mk0), vars_read1 enc gE gEType Tryz.underlying72 (var_bel bel hv0) trivial _, bel.frame _, fun h => by cases h⟩

theorem closed : joinedFacts Tryz.prog 5 Tryz.f5 Rows.fnCountVariableSpec Rows.fnCountVariableRow = true := by
  simp only [joinedFacts, Bool.and_eq_true]
  repeat' apply And.intro
  all_goals first | with_reducible exact mayEnterOk | (with_reducible rw [liftsFinalOk]; kernel_rfl) | (with_reducible rw [makeOk]; kernel_rfl) | kernel_rfl

theorem over : Rows.fnCountVariableRow.holds Tryz.pinned (OpenSpec.ofChange Rows.fnCountVariableSpec) :=
  OpenClaim.holds_of_wide 5 Tryz.f5 rfl rfl rfl rfl rfl rfl rfl ⟨rfl, rfl, rfl, rfl, rfl⟩ rfl rfl rfl rfl rfl (by kernel_rfl) Tryz.func5 closed
    (of_decide_eq_true (by kernel_rfl)) (by unfold Func.isWrapper; first | (rw [if_pos (by decide +kernel)]; kernel_rfl) | (rw [if_neg (by decide +kernel)]; exact ⟨rfl, rfl⟩))
    (fun os started H enc _ => lifted os started H enc)

theorem plain (f : FuncId) (fn : Func) (hf : Tryz.pinned.checked.prog.funcNamed "loop.example/discretetomography/laws.FnCountVariable" = some f) (hfn : Tryz.pinned.checked.prog.funcs[f]? = some fn) :
    true = Tryz.pinned.checked.prog.looks [] ∧ ∀ (j : Nat) t, fn.params[j]? = some t → Tryz.pinned.checked.prog.wantsStandIn t = false := by
  obtain rfl : f = 5 := Option.some.inj ((show Tryz.prog.funcNamed "loop.example/discretetomography/laws.FnCountVariable" = some 5 by kernel_rfl).symm.trans hf) |>.symm
  obtain rfl : fn = Tryz.f5 := (Option.some.inj (Tryz.func5.symm.trans hfn)).symm
  refine ⟨looksOk, fun j t ht => ?_⟩
  rw [Tryz.params5] at ht
  obtain rfl : t = 22 := by simpa using Array.mem_of_getElem? ht
  exact wantsCode

theorem proved : Rows.FnCountVariableCardSaid :=
  Claim7.holds_tied_plain_at .later [] _ _ _ _ over (fun _ h => by cases h) (by kernel_rfl) (fun _ h => by cases h) fnCountVariable_row_tie rfl ⟨rfl, rfl⟩ (by kernel_rfl) rfl plain (by kernel_rfl)
#print axioms proved
end Go.Proofs.YtnfkafaolelkbaaGreatDoor.LFCountVariable

