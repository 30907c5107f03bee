/-
  For every slice of bytes the law FnSumsTurn answers true: what is left leaves the sums, and together they are all cells; nothing that was there is written; no condition.
-/
import Derived.Test.YteadibgjieimkaaO
import Derived.Test.YteadibgjieimkaaZ
import Derived.Deep.RegionLaw
import Derived.Test.YteadibgjieimkaaCd
namespace Go.Proofs.Yteadibgjieimkaa.LFSumsTurn
open Go.ChangeShapes Go.WideShapes Go.ChangeAt Go.RowKit Go.Joins

set_option maxHeartbeats 1000000 in
set_option maxRecDepth 100000 in
theorem walk (a : Option Addr) (len cap : Nat) (zs : List Int) (w : World) (h : Bys w a len zs) (hl : len ≤ cap) (hm : cap ≤ 9223372036854775807) :
    Calls Try.prog 8 #[.slice a len cap] w fun e w' => e = .returned (.bool true) ∧ Below w.heap.size w w' := by
  by_cases hbig : 1048576 < len
  · clear h
    go_enter Try.func8, Try.ntmps8
    go_wp2_with fail
    go_ret
    exact ⟨rfl, Below.refl _ _⟩
  go_enter Try.func8, Try.ntmps8
  go_wp2_with fail
  refine (draw_DrawSumsTurn a len cap zs _ h hl hm).mono ?_
  rintro e w1 ⟨aR, n, cR, xs, aC, m, cC, ys, rfl, hR, hC, hnm, hcap, hb1⟩
  clear h hl hm
  have bb := Lib.hid hb1
  have p := Lib.hid hR
  have q := Lib.hid hC
  have lx := hR.1
  have ly := hC.1
  have hn13 : n ≤ 13 := by omega
  have hm13 : m ≤ 13 := by omega
  clear hR hC hb1
  by_cases hv : sumsB xs ys = true
  case neg =>
    have hv : sumsB xs ys = false := by simpa using hv
    replace hv := Lib.hid hv
    go_wp2_with fail
    refine (turnS_no _ _ _ _ _ _ xs ys _ p.out q.out (by omega) (by omega) hv.out).mono ?_
    rintro e w2 ⟨⟨ar, cr, au, cu, rfl, ho, ho2, _⟩, hb⟩
    have r := Lib.hid ho.row
    have u := Lib.hid ho2.row
    have szw2 := hb.size
    replace p := Lib.hid (p.out.bel hb)
    replace q := Lib.hid (q.out.bel hb)
    replace bb := Lib.hid (bb.out.trans (hb.mono bb.out.size))
    clear hb
    clear ho
    clear ho2
    go_wp2_with fail
    refine (turnS_sno _ _ _ _ _ _ xs ys _ p.out q.out (by omega) (by omega) hv.out).mono ?_
    rintro e w3 ⟨⟨ax, cx, av, cv, rfl, ho, ho2⟩, hb⟩
    have x := Lib.hid ho.row
    have v := Lib.hid ho2.row
    have szw3 := hb.size
    replace p := Lib.hid (p.out.bel hb)
    replace q := Lib.hid (q.out.bel hb)
    replace r := Lib.hid (r.out.bel hb)
    replace u := Lib.hid (u.out.bel hb)
    replace bb := Lib.hid (bb.out.trans (hb.mono bb.out.size))
    clear hb
    clear ho
    clear ho2
    go_wp2_with fail
    refine (same_yes _ _ _ _ _ [] _ r.out x.out (by omega)).mono ?_
    rintro e w4 ⟨rfl, hb⟩
    have szw4 := hb.size
    replace p := Lib.hid (p.out.bel hb)
    replace q := Lib.hid (q.out.bel hb)
    replace r := Lib.hid (r.out.bel hb)
    replace u := Lib.hid (u.out.bel hb)
    replace x := Lib.hid (x.out.bel hb)
    replace v := Lib.hid (v.out.bel hb)
    replace bb := Lib.hid (bb.out.trans (hb.mono bb.out.size))
    clear hb
    go_wp2_with fail
    refine (same_yes _ _ _ _ _ [] _ u.out v.out (by omega)).mono ?_
    rintro e w5 ⟨rfl, hb⟩
    have szw5 := hb.size
    replace p := Lib.hid (p.out.bel hb)
    replace q := Lib.hid (q.out.bel hb)
    replace r := Lib.hid (r.out.bel hb)
    replace u := Lib.hid (u.out.bel hb)
    replace x := Lib.hid (x.out.bel hb)
    replace v := Lib.hid (v.out.bel hb)
    replace bb := Lib.hid (bb.out.trans (hb.mono bb.out.size))
    clear hb
    go_wp2_with fail
    refine (same_yes _ _ _ _ _ [] _ r.out x.out (by omega)).mono ?_
    rintro e w6 ⟨rfl, hb⟩
    have szw6 := hb.size
    replace p := Lib.hid (p.out.bel hb)
    replace q := Lib.hid (q.out.bel hb)
    replace r := Lib.hid (r.out.bel hb)
    replace u := Lib.hid (u.out.bel hb)
    replace x := Lib.hid (x.out.bel hb)
    replace v := Lib.hid (v.out.bel hb)
    replace bb := Lib.hid (bb.out.trans (hb.mono bb.out.size))
    clear hb
    go_wp2_with fail
    refine (same_yes _ _ _ _ _ [] _ u.out v.out (by omega)).mono ?_
    rintro e w7 ⟨rfl, hb⟩
    have szw7 := hb.size
    replace p := Lib.hid (p.out.bel hb)
    replace q := Lib.hid (q.out.bel hb)
    replace r := Lib.hid (r.out.bel hb)
    replace u := Lib.hid (u.out.bel hb)
    replace x := Lib.hid (x.out.bel hb)
    replace v := Lib.hid (v.out.bel hb)
    replace bb := Lib.hid (bb.out.trans (hb.mono bb.out.size))
    clear hb
    go_wp2_with fail
    go_ret
    exact ⟨rfl, bb.out⟩
  have hp := sumsB_parts hv
  rw [lx, ly] at hp
  have hn1 := hp.1.1
  have hn6 := hp.1.2
  have hm1 := hp.2.1.1
  have hm6 := hp.2.1.2
  have bx := Lib.hid hp.2.2.1
  have by' := Lib.hid hp.2.2.2
  have hex := Lib.hid (sums_el hv).1
  have hey := Lib.hid (sums_el hv).2
  clear hp
  have hr := Lib.hid (rest_valid' hv lx ly)
  have he := rest_el hv lx ly
  have her := Lib.hid he.1
  have heu := Lib.hid he.2
  clear he
  have lr := rest_len' lx (m : Int)
  have lu := rest_len' ly (n : Int)
  obtain ⟨T1, hT1⟩ : ∃ T, psum xs xs.length = T := ⟨_, rfl⟩
  obtain ⟨T2, hT2⟩ : ∃ T, psum ys ys.length = T := ⟨_, rfl⟩
  have t1 := rest_total xs (m : Int)
  have t2 := rest_total ys (n : Int)
  rw [hT1, lx] at t1
  rw [hT2, ly] at t2
  obtain ⟨R1, hR1⟩ : ∃ T, psum (restL xs m) n = T := ⟨_, rfl⟩
  obtain ⟨R2, hR2⟩ : ∃ T, psum (restL ys n) m = T := ⟨_, rfl⟩
  rw [hR1] at t1
  rw [hR2] at t2
  obtain ⟨P, hP⟩ : ∃ P : Int, (n : Int) * (m : Int) = P := ⟨_, rfl⟩
  rw [hP] at t1
  rw [Int.mul_comm, hP] at t2
  have s1 := sum_small (fun i hi => (el_parts hex.out).2 i (by omega) : ∀ i, i < n → 0 ≤ xs.getD i 0 ∧ xs.getD i 0 ≤ 6)
  have s2 := sum_small (fun i hi => (el_parts hey.out).2 i (by omega) : ∀ i, i < m → 0 ≤ ys.getD i 0 ∧ ys.getD i 0 ≤ 6)
  have s3 := sum_small (fun i hi => (el_parts her.out).2 i (by omega) : ∀ i, i < n → 0 ≤ (restL xs m).getD i 0 ∧ (restL xs m).getD i 0 ≤ 6)
  have s4 := sum_small (fun i hi => (el_parts heu.out).2 i (by omega) : ∀ i, i < m → 0 ≤ (restL ys n).getD i 0 ∧ (restL ys n).getD i 0 ≤ 6)
  have bT1 : 0 ≤ T1 ∧ T1 ≤ 36 := by rw [← hT1, lx]; unfold psum; omega
  have bT2 : 0 ≤ T2 ∧ T2 ≤ 36 := by rw [← hT2, ly]; unfold psum; omega
  have bR1 : 0 ≤ R1 ∧ R1 ≤ 36 := by rw [← hR1]; unfold psum; omega
  have bR2 : 0 ≤ R2 ∧ R2 ≤ 36 := by rw [← hR2]; unfold psum; omega
  clear s1 s2 s3 s4
  have eT1 := Lib.hid hT1
  have eT2 := Lib.hid hT2
  have eR1 : Hid (psum (restL xs m) (restL xs m).length = R1) := by rw [lr]; exact hR1
  have eR2 : Hid (psum (restL ys n) (restL ys n).length = R2) := by rw [lu]; exact hR2
  have ev : IntKind.i64.wrap ((n : Int) * (m : Int)) = P := by rw [hP]; exact IntWalk.i64_in _ ⟨by omega, by omega⟩
  have q1 : (R1 + T1 == P) = true := by simpa using t1
  have q2 : (R2 + T2 == P) = true := by simpa using t2
  replace hP := Lib.hid hP
  replace t1 := Lib.hid t1
  replace t2 := Lib.hid t2
  replace lr := Lib.hid lr
  replace lu := Lib.hid lu
  clear hT1 hT2 hR1 hR2
  replace hv := Lib.hid hv
  go_wp2_with fail
  refine (turnS_ok hv.out rfl rfl _ _ _ _ _ p.out q.out).mono ?_
  rintro e w8 ⟨⟨ar, cr, au, cu, rfl, ho, ho2, _⟩, hb⟩
  have r := Lib.hid ho.row
  have u := Lib.hid ho2.row
  have szw8 := hb.size
  replace p := Lib.hid (p.out.bel hb)
  replace q := Lib.hid (q.out.bel hb)
  replace bb := Lib.hid (bb.out.trans (hb.mono bb.out.size))
  clear hb
  clear ho
  clear ho2
  go_wp2_with fail
  refine (turnS_spec _ _ _ _ _ _ xs ys _ p.out q.out hv.out).mono ?_
  rintro e w9 ⟨⟨ax, cx, av, cv, rfl, ho, ho2⟩, hb⟩
  have x := Lib.hid ho.row
  have v := Lib.hid ho2.row
  have szw9 := hb.size
  replace p := Lib.hid (p.out.bel hb)
  replace q := Lib.hid (q.out.bel hb)
  replace r := Lib.hid (r.out.bel hb)
  replace u := Lib.hid (u.out.bel hb)
  replace bb := Lib.hid (bb.out.trans (hb.mono bb.out.size))
  clear hb
  clear ho
  clear ho2
  go_wp2_with fail
  refine (same_yes _ _ _ _ _ (restL xs m) _ r.out x.out (by omega)).mono ?_
  rintro e w10 ⟨rfl, hb⟩
  have szw10 := hb.size
  replace p := Lib.hid (p.out.bel hb)
  replace q := Lib.hid (q.out.bel hb)
  replace r := Lib.hid (r.out.bel hb)
  replace u := Lib.hid (u.out.bel hb)
  replace x := Lib.hid (x.out.bel hb)
  replace v := Lib.hid (v.out.bel hb)
  replace bb := Lib.hid (bb.out.trans (hb.mono bb.out.size))
  clear hb
  go_wp2_with fail
  refine (same_yes _ _ _ _ _ (restL ys n) _ u.out v.out (by omega)).mono ?_
  rintro e w11 ⟨rfl, hb⟩
  have szw11 := hb.size
  replace p := Lib.hid (p.out.bel hb)
  replace q := Lib.hid (q.out.bel hb)
  replace r := Lib.hid (r.out.bel hb)
  replace u := Lib.hid (u.out.bel hb)
  replace x := Lib.hid (x.out.bel hb)
  replace v := Lib.hid (v.out.bel hb)
  replace bb := Lib.hid (bb.out.trans (hb.mono bb.out.size))
  clear hb
  go_wp2_with fail
  refine (turnS_ok hr.out (rest_rest xs m) (rest_rest ys n) _ _ _ _ _ r.out u.out).mono ?_
  rintro e w12 ⟨⟨ad, cd, af, cf, rfl, ho, ho2, _⟩, hb⟩
  have d := Lib.hid ho.row
  have f := Lib.hid ho2.row
  have szw12 := hb.size
  replace p := Lib.hid (p.out.bel hb)
  replace q := Lib.hid (q.out.bel hb)
  replace r := Lib.hid (r.out.bel hb)
  replace u := Lib.hid (u.out.bel hb)
  replace x := Lib.hid (x.out.bel hb)
  replace v := Lib.hid (v.out.bel hb)
  replace bb := Lib.hid (bb.out.trans (hb.mono bb.out.size))
  clear hb
  clear ho
  clear ho2
  go_wp2_with fail
  refine (same_yes _ _ _ _ _ xs _ d.out p.out (by omega)).mono ?_
  rintro e w13 ⟨rfl, hb⟩
  have szw13 := hb.size
  replace p := Lib.hid (p.out.bel hb)
  replace q := Lib.hid (q.out.bel hb)
  replace r := Lib.hid (r.out.bel hb)
  replace u := Lib.hid (u.out.bel hb)
  replace x := Lib.hid (x.out.bel hb)
  replace v := Lib.hid (v.out.bel hb)
  replace d := Lib.hid (d.out.bel hb)
  replace f := Lib.hid (f.out.bel hb)
  replace bb := Lib.hid (bb.out.trans (hb.mono bb.out.size))
  clear hb
  go_wp2_with fail
  refine (same_yes _ _ _ _ _ ys _ f.out q.out (by omega)).mono ?_
  rintro e w14 ⟨rfl, hb⟩
  have szw14 := hb.size
  replace p := Lib.hid (p.out.bel hb)
  replace q := Lib.hid (q.out.bel hb)
  replace r := Lib.hid (r.out.bel hb)
  replace u := Lib.hid (u.out.bel hb)
  replace x := Lib.hid (x.out.bel hb)
  replace v := Lib.hid (v.out.bel hb)
  replace d := Lib.hid (d.out.bel hb)
  replace f := Lib.hid (f.out.bel hb)
  replace bb := Lib.hid (bb.out.trans (hb.mono bb.out.size))
  clear hb
  go_wp2_with fail
  refine (sum_el her.out eR1.out _ _ _ _ r.out).mono ?_
  rintro e w15 ⟨rfl, hb⟩
  have szw15 := hb.size
  replace p := Lib.hid (p.out.bel hb)
  replace q := Lib.hid (q.out.bel hb)
  replace r := Lib.hid (r.out.bel hb)
  replace u := Lib.hid (u.out.bel hb)
  replace x := Lib.hid (x.out.bel hb)
  replace v := Lib.hid (v.out.bel hb)
  replace d := Lib.hid (d.out.bel hb)
  replace f := Lib.hid (f.out.bel hb)
  replace bb := Lib.hid (bb.out.trans (hb.mono bb.out.size))
  clear hb
  go_wp2_with fail
  refine (sum_el hex.out eT1.out _ _ _ _ p.out).mono ?_
  rintro e w16 ⟨rfl, hb⟩
  have szw16 := hb.size
  replace p := Lib.hid (p.out.bel hb)
  replace q := Lib.hid (q.out.bel hb)
  replace r := Lib.hid (r.out.bel hb)
  replace u := Lib.hid (u.out.bel hb)
  replace x := Lib.hid (x.out.bel hb)
  replace v := Lib.hid (v.out.bel hb)
  replace d := Lib.hid (d.out.bel hb)
  replace f := Lib.hid (f.out.bel hb)
  replace bb := Lib.hid (bb.out.trans (hb.mono bb.out.size))
  clear hb
  go_wp2_with fail
  refine (sum_el heu.out eR2.out _ _ _ _ u.out).mono ?_
  rintro e w17 ⟨rfl, hb⟩
  have szw17 := hb.size
  replace p := Lib.hid (p.out.bel hb)
  replace q := Lib.hid (q.out.bel hb)
  replace r := Lib.hid (r.out.bel hb)
  replace u := Lib.hid (u.out.bel hb)
  replace x := Lib.hid (x.out.bel hb)
  replace v := Lib.hid (v.out.bel hb)
  replace d := Lib.hid (d.out.bel hb)
  replace f := Lib.hid (f.out.bel hb)
  replace bb := Lib.hid (bb.out.trans (hb.mono bb.out.size))
  clear hb
  go_wp2_with fail
  refine (sum_el hey.out eT2.out _ _ _ _ q.out).mono ?_
  rintro e w18 ⟨rfl, hb⟩
  have szw18 := hb.size
  replace p := Lib.hid (p.out.bel hb)
  replace q := Lib.hid (q.out.bel hb)
  replace r := Lib.hid (r.out.bel hb)
  replace u := Lib.hid (u.out.bel hb)
  replace x := Lib.hid (x.out.bel hb)
  replace v := Lib.hid (v.out.bel hb)
  replace d := Lib.hid (d.out.bel hb)
  replace f := Lib.hid (f.out.bel hb)
  replace bb := Lib.hid (bb.out.trans (hb.mono bb.out.size))
  clear hb
  go_wp2_with fail
  go_ret
  exact ⟨rfl, bb.out⟩

set_option maxRecDepth 100000 in
theorem lifted (os : Os) (started : os.Started) (H : Type) (enc : TypeId × Value → H) :
    ReturnsInHanded {} Try.checked os 8 .any (Rows.fnSumsTurnSpec.pre6 enc Try.prog Try.f8 Rows.fnSumsTurnRow.domain false) (Rows.fnSumsTurnSpec.post enc Try.prog Try.f8 false true false false) := by
  refine returnsInHanded_of_change (C := Try.checked) own started (by kernel_rfl) Try.func8
    (ChangeSpec.witness6 (enc := enc) (C := Try.checked) false ⟨#[], #[.slice none 0 0], []⟩ 8 (by kernel_rfl) (by kernel_rfl) (by kernel_rfl) (by kernel_rfl)) ?_
  intro W base args ds gs before hval0 hW hcnd _
  have hval : ∀ (j : Nat) t v, Try.f8.params[j]? = some t → args[j]? = some v → Value.okWide Try.prog W .any base t v := hval0
  have hW' := hW
  obtain ⟨p, q, hA0, hV, rfl, hfz, hnd⟩ := hW
  have hA : DataW.TrodAll enc Try.prog W 0 (fun _ => true) true Try.f8.params.toList args.toList ds p := hA0
  rw [Try.params8] at hA hval
  obtain ⟨v0, vs0, d0, ds0, p0, q0, hargs, rfl, rfl, h0, r0⟩ := trodAll_cons hA
  obtain ⟨rfl, rfl, rfl⟩ := trodAll_nil r0
  obtain rfl : args = #[v0] := by cases args; simp_all
  obtain ⟨rfl, rfl⟩ := trodVars_none hV
  have k0 := h0
  have lt0 : ∀ x ∈ p0, x.block < W.heap.size := by obtain ⟨m, hm⟩ := k0; exact DataW.trod_lt m _ _ _ hm
  obtain ⟨a0, len0, cap0, z0, rfl, w0, l0, m0⟩ := open_code (hval 0 22 v0 rfl rfl) h0
  clear hA0 hval0
  refine (walk a0 len0 cap0 z0 W w0 l0 m0).mono fun e W' ⟨he, bel⟩ => ?_
  subst he
  exact ⟨_, rfl, _, _, _, [], _, [], hW', trodAll_mk1 (shut_bool Try.underlying4 _), (trodAll_cons_mk (Below.trod laidOut (by kernel_rfl) (of_decide_eq_true (by kernel_rfl)) k0 bel lt0) trodAll_mk0), rfl, bel.frame _, fun h => by cases h⟩

theorem closed : joinedFacts Try.prog 8 Try.f8 Rows.fnSumsTurnSpec Rows.fnSumsTurnRow = true := by
  simp only [joinedFacts, Bool.and_eq_true]
  repeat' apply And.intro
  all_goals first | with_reducible exact mayEnterOk | (with_reducible rw [liftsFinalOk]; kernel_rfl) | (with_reducible rw [makeOk]; kernel_rfl) | kernel_rfl

theorem over : Rows.fnSumsTurnRow.holds Try.pinned (OpenSpec.ofChange Rows.fnSumsTurnSpec) :=
  OpenClaim.holds_of_wide 8 Try.f8 rfl rfl rfl rfl rfl rfl rfl ⟨rfl, rfl, rfl, rfl, rfl⟩ rfl rfl rfl rfl rfl (by kernel_rfl) Try.func8 closed
    (of_decide_eq_true (by kernel_rfl)) (by unfold Func.isWrapper; first | (rw [if_pos (by decide +kernel)]; kernel_rfl) | (rw [if_neg (by decide +kernel)]; exact ⟨rfl, rfl⟩))
    (fun os started H enc _ => lifted os started H enc)

theorem proved : Rows.FnSumsTurnSaid := over
#print axioms proved
end Go.Proofs.Yteadibgjieimkaa.LFSumsTurn

