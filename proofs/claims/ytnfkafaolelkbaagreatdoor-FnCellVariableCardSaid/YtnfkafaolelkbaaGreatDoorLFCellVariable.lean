/-
  For every slice of bytes the law FnCellVariable answers true: a cell that is seldom set is variable; nothing that was there is written; no condition.
-/
import Derived.Test.YtnfkafaolelkbaaGreatDoorO
import Derived.Test.YtnfkafaolelkbaaGreatDoorCf
import Derived.Test.YtnfkafaolelkbaaGreatDoorK
import Derived.Deep.RegionLaw
import Derived.Test.YtnfkafaolelkbaaGreatDoorJt
import Derived.Test.YtnfkafaolelkbaaGreatDoorJm
import Derived.Test.YtnfkafaolelkbaaGreatDoorJa
import Derived.Test.YtnfkafaolelkbaaGreatDoorMj
import Derived.Test.YtnfkafaolelkbaaGreatDoorDm
import Derived.Test.YtnfkafaolelkbaaGreatDoorCe
namespace Go.Proofs.YtnfkafaolelkbaaGreatDoor.LFCellVariable
open Go.ChangeShapes Go.WideShapes Go.ChangeAt Go.RowKit Go.Joins

theorem cnt_conV {rows cols : List Int} (hs : sumsB rows cols = true) : 0 < cntS rows cols ↔ conB rows cols = true := by
  unfold cntS
  rw [nOf_pos]
  constructor
  · rintro ⟨xs, hx, hp⟩
    have hI := im_fit hs hx
    obtain ⟨h1, h2⟩ := fitP_iff.1 hp
    have := hI.con
    rwa [h1, h2] at this
  · intro hc
    have := fit_im (build_im hs) (build_rs hc) (build_cs hs)
    exact ⟨_, this.1, this.2⟩

set_option maxHeartbeats 2000000 in
set_option maxRecDepth 100000 in
theorem walk (a : Option Addr) (len cap : Nat) (zs : List Int) (w : World) (pE : Addr) (hE : w.cell? ⟨0, 0, none⟩ = some (errV pE)) (h : Bys w a len zs) (hl : len ≤ cap) (hm : cap ≤ 9223372036854775807) :
    Calls Tryz.prog 4 #[.slice a len cap] w fun e w' => e = .returned (.bool true) ∧ Below w.heap.size w w' := by
  by_cases hbig : 1048576 < len
  · clear h
    go_enter Tryz.func4, Tryz.ntmps4
    go_wp2_with fail
    go_ret
    exact ⟨rfl, Below.refl _ _⟩
  go_enter Tryz.func4, Tryz.ntmps4
  go_wp2_with fail
  refine (draw_DrawCellCount a len cap zs _ h hl hm).mono ?_
  rintro e w1 ⟨aR, n, cR, xs, aC, m, cC, ys, i, j, rfl, hR, hC, hnm, hcap, hij, hb1⟩
  clear h hl hm
  have bb := Lib.hid hb1
  have p := Lib.hid hR.row
  have q := Lib.hid hC.row
  have lx := hR.len
  have ly := hC.len
  have hn13 : n ≤ 13 := by omega
  have hm13 : m ≤ 13 := by omega
  have es := kept hb1 (block_lt hE) hE
  clear hR hC hb1 hE
  obtain ⟨D, hD⟩ : ∃ D, ccO xs ys i j = D := ⟨_, rfl⟩
  go_wp2_with fail
  refine (cc_ok hD _ _ _ _ _ p.out q.out hn13 hm13).mono ?_
  rintro e w2 ⟨rfl, hb⟩
  have szw2 := hb.size
  replace es := kept hb (block_lt es) es
  replace p := Lib.hid (p.out.bel hb)
  replace q := Lib.hid (q.out.bel hb)
  replace bb := Lib.hid (bb.out.trans (hb.mono bb.out.size))
  clear hb
  go_wp2_with fail
  refine (cc_sok hD _ _ _ _ _ p.out q.out hn13 hm13 hcap.1).mono ?_
  rintro e w3 ⟨rfl, hb⟩
  have szw3 := hb.size
  replace es := kept hb (block_lt es) es
  replace p := Lib.hid (p.out.bel hb)
  replace q := Lib.hid (q.out.bel hb)
  replace bb := Lib.hid (bb.out.trans (hb.mono bb.out.size))
  clear hb
  by_cases hall : ctdB xs ys = true ∧ (0 ≤ i ∧ i < xs.length) ∧ (0 ≤ j ∧ j < ys.length)
  case neg =>
    obtain rfl : D = -1 := by rw [← hD]; exact cco_no hall
    replace hall := Lib.hid hall
    go_wp2_with fail
    go_ret
    exact ⟨rfl, bb.out⟩
  obtain ⟨hct, ⟨hi0, hi1⟩, hj0, hj1⟩ := hall
  obtain ⟨i, rfl⟩ := Int.eq_ofNat_of_zero_le hi0
  obtain ⟨j, rfl⟩ := Int.eq_ofNat_of_zero_le hj0
  rw [lx] at hi1
  rw [ly] at hj1
  have hi : i < n := by omega
  have hj : j < m := by omega
  obtain ⟨N, hN⟩ : ∃ N, scO xs ys = N := ⟨_, rfl⟩
  have hv := (ctdB_parts hct).1
  have h16 := (ctdB_parts hct).2
  rw [lx, ly] at h16
  have hp := sumsB_parts hv
  rw [lx, ly] at hp
  have hn1 := hp.1.1
  have hn6 := hp.1.2
  have hm1 := hp.2.1.1
  have hm6 := hp.2.1.2
  have bx := Lib.hid hp.2.2.1
  have by' := Lib.hid hp.2.2.2
  have hex := Lib.hid (sums_el hv).1
  have hey := Lib.hid (sums_el hv).2
  clear hp
  have hNc : cntS xs ys = N := (sco_yes hct).symm.trans hN
  have hNb := sco_bd hct
  rw [hNc] at hNb
  have hN0 : ¬ N < 0 := by omega
  have hDc : cntC xs ys i j = D := (cco_yes hct (by omega) (by omega)).symm.trans hD
  have hD0 : ¬ D < 0 := by have := cell_nn xs ys i j; omega
  have hDN : D ≤ N := by have := cell_le xs ys i j; omega
  clear hi0 hj0 hij
  have hDp : 0 ≤ D := by omega
  replace hD := Lib.hid hD
  replace hDc := Lib.hid hDc
  by_cases hz : N = 0
  case pos =>
    have hB : conB xs ys = false := by
      have := cnt_conV hv
      rw [hNc] at this
      exact Bool.eq_false_iff.2 fun h => by have := this.2 h; omega
    have g1 : (N == 0) = true := by simpa using hz
    have g2 : (D == 0) = true := by rw [beq_iff_eq]; omega
    have lxh := Lib.hid lx
    have lyh := Lib.hid ly
    replace hB := Lib.hid hB
    replace hz := Lib.hid hz
    replace hv := Lib.hid hv
    replace hN := Lib.hid hN
    replace hNc := Lib.hid hNc
    replace hct := Lib.hid hct
    go_wp2_with fail
    refine (sc_ok hN.out _ _ _ _ _ p.out q.out hn13 hm13).mono ?_
    rintro e w4 ⟨rfl, hb⟩
    have szw4 := hb.size
    replace es := kept hb (block_lt es) es
    replace p := Lib.hid (p.out.bel hb)
    replace q := Lib.hid (q.out.bel hb)
    replace bb := Lib.hid (bb.out.trans (hb.mono bb.out.size))
    clear hb
    go_wp2_with fail
    refine (bi_no hB.out hn13 hm13 _ _ _ _ pE _ p.out q.out es).mono ?_
    rintro e w5 ⟨⟨ao, co, rfl, ho⟩, hb⟩
    have o := Lib.hid ho.row
    have szw5 := hb.size
    replace es := kept hb (block_lt es) es
    replace p := Lib.hid (p.out.bel hb)
    replace q := Lib.hid (q.out.bel hb)
    replace bb := Lib.hid (bb.out.trans (hb.mono bb.out.size))
    clear hb
    clear ho
    have hbx : Below w5.heap.size w5 (w5.alloc (.cells #[.int .i64 0, .slice ao 0 co] 28)) := (Below.refl _ _).alloc (Nat.le_refl _) _
    replace es := kept hbx (block_lt es) es
    replace p := Lib.hid (p.out.bel hbx)
    replace q := Lib.hid (q.out.bel hbx)
    replace o := Lib.hid (o.out.bel hbx)
    replace bb := Lib.hid (bb.out.trans (hbx.mono bb.out.size))
    clear hbx
    have o0 : (w5.alloc (.cells #[.int .i64 0, .slice ao 0 co] 28)).cell? ⟨w5.heap.size, 0, none⟩ = some (.int .i64 0) := by simp
    have o1 : (w5.alloc (.cells #[.int .i64 0, .slice ao 0 co] 28)).cell? ⟨w5.heap.size, 1, none⟩ = some (.slice ao 0 co) := by simp
    go_wp2_with fail
    go_ret
    exact ⟨rfl, bb.out⟩
  have g1 : (N == 0) = false := by simpa using hz
  have hB : conB xs ys = true := (cnt_conV hv).1 (by rw [hNc]; omega)
  obtain ⟨L, hL⟩ : ∃ L, buildL xs ys = L := ⟨_, rfl⟩
  have hI : Im m n L := by have := build_im hv; rwa [hL, lx, ly] at this
  have r1 : rsL L m n = xs := by have := build_rs hB; rwa [hL, lx, ly] at this
  have r2 : csL L n m = ys := by have := build_cs hv; rwa [hL, lx, ly] at this
  have hcv := cell_var hI r1 r2 hi hj
  rw [hNc, hDc.out] at hcv
  replace hB := Lib.hid hB
  replace hL := Lib.hid hL
  replace hI := Lib.hid hI
  replace r1 := Lib.hid r1
  replace r2 := Lib.hid r2
  have lxh := Lib.hid lx
  have lyh := Lib.hid ly
  replace hv := Lib.hid hv
  replace hN := Lib.hid hN
  replace hNc := Lib.hid hNc
  replace hct := Lib.hid hct
  replace hz := Lib.hid hz
  go_wp2_with fail
  refine (sc_ok hN.out _ _ _ _ _ p.out q.out hn13 hm13).mono ?_
  rintro e w6 ⟨rfl, hb⟩
  have szw6 := hb.size
  replace es := kept hb (block_lt es) es
  replace p := Lib.hid (p.out.bel hb)
  replace q := Lib.hid (q.out.bel hb)
  replace bb := Lib.hid (bb.out.trans (hb.mono bb.out.size))
  clear hb
  go_wp2_with fail
  refine (bi_ok hB.out hL.out lxh.out lyh.out _ _ _ _ pE _ p.out q.out es).mono ?_
  rintro e w7 ⟨⟨ao, co, rfl, ho⟩, hb⟩
  have o := Lib.hid ho.row
  have szw7 := hb.size
  replace es := kept hb (block_lt es) es
  replace p := Lib.hid (p.out.bel hb)
  replace q := Lib.hid (q.out.bel hb)
  replace bb := Lib.hid (bb.out.trans (hb.mono bb.out.size))
  clear hb
  clear ho
  have hbx : Below w7.heap.size w7 (w7.alloc (.cells #[.int .i64 m, .slice ao n co] 28)) := (Below.refl _ _).alloc (Nat.le_refl _) _
  replace es := kept hbx (block_lt es) es
  replace p := Lib.hid (p.out.bel hbx)
  replace q := Lib.hid (q.out.bel hbx)
  replace o := Lib.hid (o.out.bel hbx)
  replace bb := Lib.hid (bb.out.trans (hbx.mono bb.out.size))
  clear hbx
  have o0 : (w7.alloc (.cells #[.int .i64 m, .slice ao n co] 28)).cell? ⟨w7.heap.size, 0, none⟩ = some (.int .i64 m) := by simp
  have o1 : (w7.alloc (.cells #[.int .i64 m, .slice ao n co] 28)).cell? ⟨w7.heap.size, 1, none⟩ = some (.slice ao n co) := by simp
  by_cases h1 : 0 < D
  case neg =>
    have k1 : decide (0 < D) = false := decide_eq_false h1
    have hcv2 : Hid (varB L m n i j = false) := Lib.hid (by rw [hcv]; simp; omega)
    clear hcv
    go_wp2_with fail
    refine (var_ok hI.out hi hj hcv2.out _ _ _ o.out).mono ?_
    rintro e w8 ⟨rfl, hb⟩
    have szw8 : w7.heap.size + 1 ≤ w8.heap.size := by have := hb.size; simpa using this
    replace es := kept hb (block_lt es) es
    replace o0 := kept hb (block_lt o0) o0
    replace o1 := kept hb (block_lt o1) o1
    replace p := Lib.hid (p.out.bel hb)
    replace q := Lib.hid (q.out.bel hb)
    replace o := Lib.hid (o.out.bel hb)
    replace bb := Lib.hid (bb.out.trans (hb.mono bb.out.size))
    clear hb
    go_wp2_with fail
    go_ret
    exact ⟨rfl, bb.out⟩
  by_cases h2 : D < N
  case neg =>
    have k1 : decide (0 < D) = true := decide_eq_true h1
    have k2 : decide (D < N) = false := decide_eq_false h2
    have hcv2 : Hid (varB L m n i j = false) := Lib.hid (by rw [hcv]; simp; omega)
    clear hcv
    go_wp2_with fail
    refine (var_ok hI.out hi hj hcv2.out _ _ _ o.out).mono ?_
    rintro e w9 ⟨rfl, hb⟩
    have szw9 : w7.heap.size + 1 ≤ w9.heap.size := by have := hb.size; simpa using this
    replace es := kept hb (block_lt es) es
    replace o0 := kept hb (block_lt o0) o0
    replace o1 := kept hb (block_lt o1) o1
    replace p := Lib.hid (p.out.bel hb)
    replace q := Lib.hid (q.out.bel hb)
    replace o := Lib.hid (o.out.bel hb)
    replace bb := Lib.hid (bb.out.trans (hb.mono bb.out.size))
    clear hb
    go_wp2_with fail
    go_ret
    exact ⟨rfl, bb.out⟩
  have k1 : decide (0 < D) = true := decide_eq_true h1
  have k2 : decide (D < N) = true := decide_eq_true h2
  have hcv2 : Hid (varB L m n i j = true) := Lib.hid (by rw [hcv]; simp; omega)
  clear hcv
  go_wp2_with fail
  refine (var_ok hI.out hi hj hcv2.out _ _ _ o.out).mono ?_
  rintro e w10 ⟨rfl, hb⟩
  have szw10 : w7.heap.size + 1 ≤ w10.heap.size := by have := hb.size; simpa using this
  replace es := kept hb (block_lt es) es
  replace o0 := kept hb (block_lt o0) o0
  replace o1 := kept hb (block_lt o1) o1
  replace p := Lib.hid (p.out.bel hb)
  replace q := Lib.hid (q.out.bel hb)
  replace o := Lib.hid (o.out.bel hb)
  replace bb := Lib.hid (bb.out.trans (hb.mono bb.out.size))
  clear hb
  go_wp2_with fail
  go_ret
  exact ⟨rfl, bb.out⟩

set_option maxRecDepth 100000 in
theorem lifted (os : Os) (started : os.Started) (H : Type) (enc : TypeId × Value → H) :
    ReturnsInHanded {} Tryz.checked os 4 .any (fun w args => (Rows.fnCellVariableSpec.pre enc Tryz.prog Tryz.f4 [] false w args ∧ laidMetH Tryz.prog Rows.fnCellVariableRow.laid w) ∧ sizedMet enc Tryz.prog Tryz.f4 (OpenSpec.ofChange Rows.fnCellVariableSpec) false w args) (Rows.fnCellVariableSpec.post enc Tryz.prog Tryz.f4 false true false false) := by
  refine returnsInHanded_of_change_and (C := Tryz.checked) (X := fun w _ => laidMetH Tryz.prog Rows.fnCellVariableRow.laid w) (fun _ _ _ hh h => h.of_heap hh) own started (by kernel_rfl) Tryz.func4
    (ChangeSpec.witness_shaped (enc := enc) (C := Tryz.checked) (os := os) (X := fun w _ => laidMetH Tryz.prog Rows.fnCellVariableRow.laid w) false (World.doorLaid Tryz.prog 28 os) #[.slice none 0 0] 8 rfl (World.shaped_of_RefB (by kernel_rfl) (by kernel_rfl)) (by kernel_rfl) (by kernel_rfl) (by kernel_rfl) (door_met os _)) ?_
  intro W base args ds gs before hval0 hW _ _ hL _
  have hval : ∀ (j : Nat) t v, Tryz.f4.params[j]? = some t → args[j]? = some v → Value.okWide Tryz.prog W .any base t v := hval0
  have hW' := hW
  obtain ⟨p, q, hA0, hV, rfl, hfz, hnd⟩ := hW
  have hA : DataW.TrodAll enc Tryz.prog W 0 (fun _ => true) true Tryz.f4.params.toList args.toList ds p := hA0
  rw [Tryz.params4] at hA hval
  obtain ⟨v0, vs0, d0, ds0, p0, q0, hargs, rfl, rfl, h0, r0⟩ := trodAll_cons hA
  obtain ⟨rfl, rfl, rfl⟩ := trodAll_nil r0
  obtain rfl : args = #[v0] := by cases args; simp_all
  obtain ⟨pE, hv0, hE⟩ := sentinel_of hL
  have hV' : DataW.TrodVars enc Tryz.prog W (fun _ => true) ["loop.example/discretetomography/impl.errNoImage"] gs q := hV
  obtain ⟨rfl, rfl⟩ := hV'.unique (vars_read1 enc gE gEType Tryz.underlying72 hv0 trivial _)
  have k0 := h0
  have lt0 : ∀ x ∈ p0, x.block < W.heap.size := by obtain ⟨m, hm⟩ := k0; exact DataW.trod_lt m _ _ _ hm
  obtain ⟨a0, len0, cap0, z0, rfl, w0, l0, m0⟩ := open_code (hval 0 22 v0 rfl rfl) h0
  clear hA0 hval0
  refine (walk a0 len0 cap0 z0 W pE hE w0 l0 m0).mono fun e W' ⟨he, bel⟩ => ?_
  subst he
  exact ⟨_, rfl, _, _, _, [], _, [.cell 0 0], hW', trodAll_mk1 (shut_bool Tryz.underlying4 _), (trodAll_cons_mk (Below.trod laidOut (by kernel_rfl) (of_decide_eq_true (by kernel_rfl)) k0 bel lt0) trodAll_mk0), vars_read1 enc gE gEType Tryz.underlying72 (var_bel bel hv0) trivial _, bel.frame _, fun h => by cases h⟩

theorem closed : joinedFacts Tryz.prog 4 Tryz.f4 Rows.fnCellVariableSpec Rows.fnCellVariableRow = true := by
  simp only [joinedFacts, Bool.and_eq_true]
  repeat' apply And.intro
  all_goals first | with_reducible exact mayEnterOk | (with_reducible rw [liftsFinalOk]; kernel_rfl) | (with_reducible rw [makeOk]; kernel_rfl) | kernel_rfl

theorem over : Rows.fnCellVariableRow.holds Tryz.pinned (OpenSpec.ofChange Rows.fnCellVariableSpec) :=
  OpenClaim.holds_of_wide 4 Tryz.f4 rfl rfl rfl rfl rfl rfl rfl ⟨rfl, rfl, rfl, rfl, rfl⟩ rfl rfl rfl rfl rfl (by kernel_rfl) Tryz.func4 closed
    (of_decide_eq_true (by kernel_rfl)) (by unfold Func.isWrapper; first | (rw [if_pos (by decide +kernel)]; kernel_rfl) | (rw [if_neg (by decide +kernel)]; exact ⟨rfl, rfl⟩))
    (fun os started H enc _ => lifted os started H enc)

theorem plain (f : FuncId) (fn : Func) (hf : Tryz.pinned.checked.prog.funcNamed "loop.example/discretetomography/laws.FnCellVariable" = some f) (hfn : Tryz.pinned.checked.prog.funcs[f]? = some fn) :
    true = Tryz.pinned.checked.prog.looks [] ∧ ∀ (j : Nat) t, fn.params[j]? = some t → Tryz.pinned.checked.prog.wantsStandIn t = false := by
  obtain rfl : f = 4 := Option.some.inj ((show Tryz.prog.funcNamed "loop.example/discretetomography/laws.FnCellVariable" = some 4 by kernel_rfl).symm.trans hf) |>.symm
  obtain rfl : fn = Tryz.f4 := (Option.some.inj (Tryz.func4.symm.trans hfn)).symm
  refine ⟨looksOk, fun j t ht => ?_⟩
  rw [Tryz.params4] at ht
  obtain rfl : t = 22 := by simpa using Array.mem_of_getElem? ht
  exact wantsCode

theorem proved : Rows.FnCellVariableCardSaid :=
  Claim7.holds_tied_plain_at .later [] _ _ _ _ over (fun _ h => by cases h) (by kernel_rfl) (fun _ h => by cases h) fnCellVariable_row_tie rfl ⟨rfl, rfl⟩ (by kernel_rfl) rfl plain (by kernel_rfl)
#print axioms proved
end Go.Proofs.YtnfkafaolelkbaaGreatDoor.LFCellVariable

