/-
  For every slice of bytes the law FnConj answers true: a conjugate is a partition with the number of elements that was asked and the same sum; nothing that was there is written; no condition.
-/
import Derived.Test.YthllfkgceoenbaaO
import Derived.Test.YthllfkgceoenbaaZ
import Derived.Deep.RegionLaw
import Derived.Test.YthllfkgceoenbaaPk
namespace Go.Proofs.Ythllfkgceoenbaa.LFConj
open Go.ChangeShapes Go.WideShapes Go.ChangeAt Go.RowKit Go.Joins

set_option maxHeartbeats 1000000 in
set_option maxRecDepth 100000 in
theorem walk (a : Option Addr) (len cap : Nat) (zs : List Int) (w : World) (h : Bys w a len zs) (hl : len ≤ cap) (hm : cap ≤ 9223372036854775807) :
    Calls Try.prog 5 #[.slice a len cap] w fun e w' => e = .returned (.bool true) ∧ Below w.heap.size w w' := by
  by_cases hbig : 1048576 < len
  · clear h
    go_enter Try.func5, Try.ntmps5
    go_wp2_with fail
    go_ret
    exact ⟨rfl, Below.refl _ _⟩
  go_enter Try.func5, Try.ntmps5
  go_wp2_with fail
  refine (draw_DrawPartConj a len cap zs _ h hl hm).mono ?_
  rintro e w1 ⟨s, n, c, xs, k, rfl, ho, hn, hk, hb1⟩
  clear h hl hm
  have bb := Lib.hid hb1
  have hc := own_cap ho
  have p := Lib.hid ho.row
  have lx := ho.len
  clear ho hb1
  by_cases hv : conjB xs k = true
  case neg =>
    have hv : conjB xs k = false := by simpa using hv
    replace hv := Lib.hid hv
    go_wp2_with fail
    refine (conj_no hv.out _ _ _ _ p.out hn).mono ?_
    rintro e w2 ⟨⟨ao1, co1, rfl, ho⟩, hb⟩
    have o1 := Lib.hid ho.row
    have szw2 := hb.size
    replace p := Lib.hid (p.out.bel hb)
    replace bb := Lib.hid (bb.out.trans (hb.mono bb.out.size))
    clear hb
    clear ho
    go_wp2_with fail
    refine (conj_sno hv.out _ _ _ _ p.out hn).mono ?_
    rintro e w3 ⟨⟨ao2, co2, rfl, ho⟩, hb⟩
    have o2 := Lib.hid ho.row
    have szw3 := hb.size
    replace p := Lib.hid (p.out.bel hb)
    replace o1 := Lib.hid (o1.out.bel hb)
    replace bb := Lib.hid (bb.out.trans (hb.mono bb.out.size))
    clear hb
    clear ho
    go_wp2_with fail
    refine (same_yes _ _ _ _ _ [] _ o1.out o2.out (by omega)).mono ?_
    rintro e w4 ⟨rfl, hb⟩
    have szw4 := hb.size
    replace p := Lib.hid (p.out.bel hb)
    replace o1 := Lib.hid (o1.out.bel hb)
    replace o2 := Lib.hid (o2.out.bel hb)
    replace bb := Lib.hid (bb.out.trans (hb.mono bb.out.size))
    clear hb
    go_wp2_with fail
    refine (same_yes _ _ _ _ _ [] _ o1.out o2.out (by omega)).mono ?_
    rintro e w5 ⟨rfl, hb⟩
    have szw5 := hb.size
    replace p := Lib.hid (p.out.bel hb)
    replace o1 := Lib.hid (o1.out.bel hb)
    replace o2 := Lib.hid (o2.out.bel hb)
    replace bb := Lib.hid (bb.out.trans (hb.mono bb.out.size))
    clear hb
    go_wp2_with fail
    go_ret
    exact ⟨rfl, bb.out⟩
  have hp := conjB_parts hv
  obtain ⟨N, rfl⟩ := Int.eq_ofNat_of_zero_le hp.2.1.1
  have hN : N ≤ 6 := by have := hp.2.1; omega
  have hP := Lib.hid hp.1
  have hbd := Lib.hid hp.2.2
  have hn6 := p.out.six hp.1
  have hC := Lib.hid (hp.1.conj hN)
  replace hv := Lib.hid hv
  clear hp hk
  go_wp2_with fail
  refine (conj_ok hv.out _ _ _ _ p.out).mono ?_
  rintro e w6 ⟨⟨aq, cq, rfl, ho⟩, hb⟩
  have q := Lib.hid ho
  have szw6 := hb.size
  replace p := Lib.hid (p.out.bel hb)
  replace bb := Lib.hid (bb.out.trans (hb.mono bb.out.size))
  clear hb
  clear ho
  go_wp2_with fail
  refine (conj_sok hv.out _ _ _ _ p.out).mono ?_
  rintro e w7 ⟨⟨au, cu, rfl, ho⟩, hb⟩
  have u := Lib.hid ho.row
  have szw7 := hb.size
  replace p := Lib.hid (p.out.bel hb)
  replace q := Lib.hid (q.out.bel hb)
  replace bb := Lib.hid (bb.out.trans (hb.mono bb.out.size))
  clear hb
  clear ho
  go_wp2_with fail
  refine (same_yes _ _ _ _ _ (conjL xs N) _ q.out.row u.out (by omega)).mono ?_
  rintro e w8 ⟨rfl, hb⟩
  have szw8 := hb.size
  replace p := Lib.hid (p.out.bel hb)
  replace u := Lib.hid (u.out.bel hb)
  replace q := Lib.hid (q.out.bel hb)
  replace bb := Lib.hid (bb.out.trans (hb.mono bb.out.size))
  clear hb
  clear u
  have t1 := hP.out.conj_total hbd.out
  have l1 := conj_len xs N
  obtain ⟨T, hT⟩ : ∃ T, psum xs xs.length = T := ⟨_, rfl⟩
  rw [hT] at t1
  have e1 := Lib.hid hT
  have e2 := Lib.hid (show psum (conjL xs N) (conjL xs N).length = T by rw [l1]; exact t1)
  clear t1 hT l1
  go_wp2_with fail
  refine (pvalid_ok hC.out _ _ _ _ q.out.row).mono ?_
  rintro e w9 ⟨rfl, hb⟩
  have szw9 := hb.size
  replace p := Lib.hid (p.out.bel hb)
  replace q := Lib.hid (q.out.bel hb)
  replace bb := Lib.hid (bb.out.trans (hb.mono bb.out.size))
  clear hb
  go_wp2_with fail
  refine (sum_ok hC.out e2.out _ _ _ _ q.out.row).mono ?_
  rintro e w10 ⟨rfl, hb⟩
  have szw10 := hb.size
  replace p := Lib.hid (p.out.bel hb)
  replace q := Lib.hid (q.out.bel hb)
  replace bb := Lib.hid (bb.out.trans (hb.mono bb.out.size))
  clear hb
  go_wp2_with fail
  refine (sum_ok hP.out e1.out _ _ _ _ p.out).mono ?_
  rintro e w11 ⟨rfl, hb⟩
  have szw11 := hb.size
  replace p := Lib.hid (p.out.bel hb)
  replace q := Lib.hid (q.out.bel hb)
  replace bb := Lib.hid (bb.out.trans (hb.mono bb.out.size))
  clear hb
  go_wp2_with fail
  go_ret
  exact ⟨rfl, bb.out⟩

set_option maxRecDepth 100000 in
theorem lifted (os : Os) (started : os.Started) (H : Type) (enc : TypeId × Value → H) :
    ReturnsInHanded {} Try.checked os 5 .any (Rows.fnConjSpec.pre6 enc Try.prog Try.f5 Rows.fnConjRow.domain false) (Rows.fnConjSpec.post enc Try.prog Try.f5 false true false false) := by
  refine returnsInHanded_of_change (C := Try.checked) own started (by kernel_rfl) Try.func5
    (ChangeSpec.witness6 (enc := enc) (C := Try.checked) false ⟨#[], #[.slice none 0 0], []⟩ 8 (by kernel_rfl) (by kernel_rfl) (by kernel_rfl) (by kernel_rfl)) ?_
  intro W base args ds gs before hval0 hW hcnd _
  have hval : ∀ (j : Nat) t v, Try.f5.params[j]? = some t → args[j]? = some v → Value.okWide Try.prog W .any base t v := hval0
  have hW' := hW
  obtain ⟨p, q, hA0, hV, rfl, hfz, hnd⟩ := hW
  have hA : DataW.TrodAll enc Try.prog W 0 (fun _ => true) true Try.f5.params.toList args.toList ds p := hA0
  rw [Try.params5] at hA hval
  obtain ⟨v0, vs0, d0, ds0, p0, q0, hargs, rfl, rfl, h0, r0⟩ := trodAll_cons hA
  obtain ⟨rfl, rfl, rfl⟩ := trodAll_nil r0
  obtain rfl : args = #[v0] := by cases args; simp_all
  obtain ⟨rfl, rfl⟩ := trodVars_none hV
  have k0 := h0
  have lt0 : ∀ x ∈ p0, x.block < W.heap.size := by obtain ⟨m, hm⟩ := k0; exact DataW.trod_lt m _ _ _ hm
  obtain ⟨a0, len0, cap0, z0, rfl, w0, l0, m0⟩ := open_code (hval 0 22 v0 rfl rfl) h0
  clear hA0 hval0
  refine (walk a0 len0 cap0 z0 W w0 l0 m0).mono fun e W' ⟨he, bel⟩ => ?_
  subst he
  exact ⟨_, rfl, _, _, _, [], _, [], hW', trodAll_mk1 (shut_bool Try.underlying4 _), (trodAll_cons_mk (Below.trod laidOut (by kernel_rfl) (of_decide_eq_true (by kernel_rfl)) k0 bel lt0) trodAll_mk0), rfl, bel.frame _, fun h => by cases h⟩

theorem closed : joinedFacts Try.prog 5 Try.f5 Rows.fnConjSpec Rows.fnConjRow = true := by
  simp only [joinedFacts, Bool.and_eq_true]
  repeat' apply And.intro
  all_goals first | with_reducible exact mayEnterOk | (with_reducible rw [liftsFinalOk]; kernel_rfl) | (with_reducible rw [makeOk]; kernel_rfl) | kernel_rfl

theorem over : Rows.fnConjRow.holds Try.pinned (OpenSpec.ofChange Rows.fnConjSpec) :=
  OpenClaim.holds_of_wide 5 Try.f5 rfl rfl rfl rfl rfl rfl rfl ⟨rfl, rfl, rfl, rfl, rfl⟩ rfl rfl rfl rfl rfl (by kernel_rfl) Try.func5 closed
    (of_decide_eq_true (by kernel_rfl)) (by unfold Func.isWrapper; first | (rw [if_pos (by decide +kernel)]; kernel_rfl) | (rw [if_neg (by decide +kernel)]; exact ⟨rfl, rfl⟩))
    (fun os started H enc _ => lifted os started H enc)

theorem proved : Rows.FnConjSaid := over
#print axioms proved
end Go.Proofs.Ythllfkgceoenbaa.LFConj

