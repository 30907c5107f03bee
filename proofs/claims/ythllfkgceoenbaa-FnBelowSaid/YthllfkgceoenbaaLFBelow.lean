/-
  For every slice of bytes the law FnBelow answers true: ordered partitions are ordered the other way round only if all their sums are equal; nothing that was there is written; no condition.
-/
import Derived.Test.YthllfkgceoenbaaO
import Derived.Test.YthllfkgceoenbaaZ
import Derived.Deep.RegionLaw
import Derived.Test.YthllfkgceoenbaaPk
namespace Go.Proofs.Ythllfkgceoenbaa.LFBelow
open Go.ChangeShapes Go.WideShapes Go.ChangeAt Go.RowKit Go.Joins

set_option maxHeartbeats 1000000 in
set_option maxRecDepth 100000 in
theorem walk (a : Option Addr) (len cap : Nat) (zs : List Int) (w : World) (h : Bys w a len zs) (hl : len ≤ cap) (hm : cap ≤ 9223372036854775807) :
    Calls Try.prog 9 #[.slice a len cap] w fun e w' => e = .returned (.bool true) ∧ Below w.heap.size w w' := by
  by_cases hbig : 1048576 < len
  · clear h
    go_enter Try.func9, Try.ntmps9
    go_wp2_with fail
    go_ret
    exact ⟨rfl, Below.refl _ _⟩
  go_enter Try.func9, Try.ntmps9
  go_wp2_with fail
  refine (draw_DrawPartBelow a len cap zs _ h hl hm).mono ?_
  rintro e w1 ⟨s, n, c, xs, s2, n2, c2, ys, rfl, hR, hR2, hn, hc, hb1⟩
  clear h hl hm
  have bb := Lib.hid hb1
  have p := Lib.hid hR
  have q := Lib.hid hR2
  have lx := hR.1
  have ly := hR2.1
  clear hR hR2 hb1
  by_cases hv : belowB xs ys = true
  case neg =>
    have hv : belowB xs ys = false := by simpa using hv
    replace hv := Lib.hid hv
    go_wp2_with fail
    refine (below_ok hv.out _ _ _ _ _ _ hc.1 hc.2 hn.1 hn.2 _ p.out q.out).mono ?_
    rintro e w2 ⟨rfl, hb⟩
    have szw2 := hb.size
    replace p := Lib.hid (p.out.bel hb)
    replace q := Lib.hid (q.out.bel hb)
    replace bb := Lib.hid (bb.out.trans (hb.mono bb.out.size))
    clear hb
    go_wp2_with fail
    refine (below_sok hv.out _ _ _ _ _ _ hn.1 hn.2 _ p.out q.out).mono ?_
    rintro e w3 ⟨rfl, hb⟩
    have szw3 := hb.size
    replace p := Lib.hid (p.out.bel hb)
    replace q := Lib.hid (q.out.bel hb)
    replace bb := Lib.hid (bb.out.trans (hb.mono bb.out.size))
    clear hb
    go_wp2_with fail
    go_ret
    exact ⟨rfl, bb.out⟩
  have hB := Lib.hid (Bel.of hv)
  replace hv := Lib.hid hv
  have hn6 := p.out.six hB.out.pa
  have hm6 := q.out.six hB.out.pb
  go_wp2_with fail
  refine (below_ok hv.out _ _ _ _ _ _ hc.1 hc.2 hn.1 hn.2 _ p.out q.out).mono ?_
  rintro e w4 ⟨rfl, hb⟩
  have szw4 := hb.size
  replace p := Lib.hid (p.out.bel hb)
  replace q := Lib.hid (q.out.bel hb)
  replace bb := Lib.hid (bb.out.trans (hb.mono bb.out.size))
  clear hb
  go_wp2_with fail
  refine (below_sok hv.out _ _ _ _ _ _ hn.1 hn.2 _ p.out q.out).mono ?_
  rintro e w5 ⟨rfl, hb⟩
  have szw5 := hb.size
  replace p := Lib.hid (p.out.bel hb)
  replace q := Lib.hid (q.out.bel hb)
  replace bb := Lib.hid (bb.out.trans (hb.mono bb.out.size))
  clear hb
  go_wp2_with fail
  go_loopw [7, 8] (fun o i wr => ∃ k : Nat, k ≤ 7 ∧ i = .int .i64 k ∧ o = .bool (eqB xs ys k) ∧ Below w5.heap.size w5 wr) (fun _ i _ => 7 - (intOf i).toNat)
  case atStart => exact ⟨0, Nat.zero_le _, rfl, rfl, Below.refl _ _⟩
  case round =>
    obtain ⟨k, hk, rfl, rfl, hb⟩ := hrel
    have lp := Lib.hid hb
    have szwr := hb.size
    replace p := Lib.hid (p.out.bel hb)
    replace q := Lib.hid (q.out.bel hb)
    replace bb := Lib.hid (bb.out.trans (hb.mono bb.out.size))
    clear hb
    by_cases hlt : k < 7
    · have es := eqB_succ xs ys k
      by_cases hE : eqB xs ys k = true
      · rw [hE, Bool.true_and] at es
        rw [hE]
        obtain ⟨A, hA⟩ : ∃ A, psum xs k = A := ⟨_, rfl⟩
        obtain ⟨A2, hA2⟩ : ∃ A2, psum ys k = A2 := ⟨_, rfl⟩
        rw [hA, hA2] at es
        replace hA := Lib.hid hA
        replace hA2 := Lib.hid hA2
        clear hE
        go_wp2_with fail
        refine (psum_ok hB.out.pa k hA.out _ _ _ hc.1 _ p.out).mono ?_
        rintro e w6 ⟨rfl, hb⟩
        have szw6 := hb.size
        replace p := Lib.hid (p.out.bel hb)
        replace q := Lib.hid (q.out.bel hb)
        replace bb := Lib.hid (bb.out.trans (hb.mono bb.out.size))
        replace lp := Lib.hid (lp.out.trans (hb.mono lp.out.size))
        clear hb
        go_wp2_with fail
        refine (psum_ok hB.out.pb k hA2.out _ _ _ hc.2 _ q.out).mono ?_
        rintro e w7 ⟨rfl, hb⟩
        have szw7 := hb.size
        replace p := Lib.hid (p.out.bel hb)
        replace q := Lib.hid (q.out.bel hb)
        replace bb := Lib.hid (bb.out.trans (hb.mono bb.out.size))
        replace lp := Lib.hid (lp.out.trans (hb.mono lp.out.size))
        clear hb
        by_cases e : A = A2
        · subst e
          rw [decide_eq_true rfl] at es
          replace es := Lib.hid es
          go_wp2_with fail
          exact ⟨⟨k + 1, by omega, by go_num, by rw [es.out], lp.out⟩, by simp [intOf]; omega⟩
        · have e2 : (A == A2) = false := by simpa using e
          rw [decide_eq_false e] at es
          replace es := Lib.hid es
          clear e
          go_wp2_with fail
          exact ⟨⟨k + 1, by omega, by go_num, by rw [es.out], lp.out⟩, by simp [intOf]; omega⟩
      · have hE : eqB xs ys k = false := by simpa using hE
        rw [hE, Bool.false_and] at es
        rw [hE]
        replace es := Lib.hid es
        clear hE
        go_wp2_with fail
        exact ⟨⟨k + 1, by omega, by go_num, by rw [es.out], lp.out⟩, by simp [intOf]; omega⟩
    · have : k = 7 := by omega
      subst this
      obtain ⟨E, hE⟩ : ∃ E, eqB xs ys 7 = E := ⟨_, rfl⟩
      have hbk := Lib.hid (hB.out.back.trans hE)
      have haa := Lib.hid (Bel.refl hB.out.pa).yes
      obtain ⟨T, hT⟩ : ∃ T, psum xs xs.length = T := ⟨_, rfl⟩
      have eT := Lib.hid hT
      have eT2 := Lib.hid (hB.out.total.symm.trans hT)
      rw [hE]
      clear hE hT
      go_wp2_with fail
      refine (below_ok hbk.out _ _ _ _ _ _ hc.2 hc.1 hn.2 hn.1 _ q.out p.out).mono ?_
      rintro e w6 ⟨rfl, hb⟩
      have szw6 := hb.size
      replace p := Lib.hid (p.out.bel hb)
      replace q := Lib.hid (q.out.bel hb)
      replace bb := Lib.hid (bb.out.trans (hb.mono bb.out.size))
      replace lp := Lib.hid (lp.out.trans (hb.mono lp.out.size))
      clear hb
      go_wp2_with fail
      refine (below_ok haa.out _ _ _ _ _ _ hc.1 hc.1 hn.1 hn.1 _ p.out p.out).mono ?_
      rintro e w7 ⟨rfl, hb⟩
      have szw7 := hb.size
      replace p := Lib.hid (p.out.bel hb)
      replace q := Lib.hid (q.out.bel hb)
      replace bb := Lib.hid (bb.out.trans (hb.mono bb.out.size))
      replace lp := Lib.hid (lp.out.trans (hb.mono lp.out.size))
      clear hb
      go_wp2_with fail
      refine (sum_ok hB.out.pa eT.out _ _ _ _ p.out).mono ?_
      rintro e w8 ⟨rfl, hb⟩
      have szw8 := hb.size
      replace p := Lib.hid (p.out.bel hb)
      replace q := Lib.hid (q.out.bel hb)
      replace bb := Lib.hid (bb.out.trans (hb.mono bb.out.size))
      replace lp := Lib.hid (lp.out.trans (hb.mono lp.out.size))
      clear hb
      go_wp2_with fail
      refine (sum_ok hB.out.pb eT2.out _ _ _ _ q.out).mono ?_
      rintro e w9 ⟨rfl, hb⟩
      have szw9 := hb.size
      replace p := Lib.hid (p.out.bel hb)
      replace q := Lib.hid (q.out.bel hb)
      replace bb := Lib.hid (bb.out.trans (hb.mono bb.out.size))
      replace lp := Lib.hid (lp.out.trans (hb.mono lp.out.size))
      clear hb
      go_wp2_with fail
      go_ret
      exact ⟨rfl, bb.out⟩

set_option maxRecDepth 100000 in
theorem lifted (os : Os) (started : os.Started) (H : Type) (enc : TypeId × Value → H) :
    ReturnsInHanded {} Try.checked os 9 .any (Rows.fnBelowSpec.pre6 enc Try.prog Try.f9 Rows.fnBelowRow.domain false) (Rows.fnBelowSpec.post enc Try.prog Try.f9 false true false false) := by
  refine returnsInHanded_of_change (C := Try.checked) own started (by kernel_rfl) Try.func9
    (ChangeSpec.witness6 (enc := enc) (C := Try.checked) false ⟨#[], #[.slice none 0 0], []⟩ 8 (by kernel_rfl) (by kernel_rfl) (by kernel_rfl) (by kernel_rfl)) ?_
  intro W base args ds gs before hval0 hW hcnd _
  have hval : ∀ (j : Nat) t v, Try.f9.params[j]? = some t → args[j]? = some v → Value.okWide Try.prog W .any base t v := hval0
  have hW' := hW
  obtain ⟨p, q, hA0, hV, rfl, hfz, hnd⟩ := hW
  have hA : DataW.TrodAll enc Try.prog W 0 (fun _ => true) true Try.f9.params.toList args.toList ds p := hA0
  rw [Try.params9] at hA hval
  obtain ⟨v0, vs0, d0, ds0, p0, q0, hargs, rfl, rfl, h0, r0⟩ := trodAll_cons hA
  obtain ⟨rfl, rfl, rfl⟩ := trodAll_nil r0
  obtain rfl : args = #[v0] := by cases args; simp_all
  obtain ⟨rfl, rfl⟩ := trodVars_none hV
  have k0 := h0
  have lt0 : ∀ x ∈ p0, x.block < W.heap.size := by obtain ⟨m, hm⟩ := k0; exact DataW.trod_lt m _ _ _ hm
  obtain ⟨a0, len0, cap0, z0, rfl, w0, l0, m0⟩ := open_code (hval 0 22 v0 rfl rfl) h0
  clear hA0 hval0
  refine (walk a0 len0 cap0 z0 W w0 l0 m0).mono fun e W' ⟨he, bel⟩ => ?_
  subst he
  exact ⟨_, rfl, _, _, _, [], _, [], hW', trodAll_mk1 (shut_bool Try.underlying4 _), (trodAll_cons_mk (Below.trod laidOut (by kernel_rfl) (of_decide_eq_true (by kernel_rfl)) k0 bel lt0) trodAll_mk0), rfl, bel.frame _, fun h => by cases h⟩

theorem closed : joinedFacts Try.prog 9 Try.f9 Rows.fnBelowSpec Rows.fnBelowRow = true := by
  simp only [joinedFacts, Bool.and_eq_true]
  repeat' apply And.intro
  all_goals first | with_reducible exact mayEnterOk | (with_reducible rw [liftsFinalOk]; kernel_rfl) | (with_reducible rw [makeOk]; kernel_rfl) | kernel_rfl

theorem over : Rows.fnBelowRow.holds Try.pinned (OpenSpec.ofChange Rows.fnBelowSpec) :=
  OpenClaim.holds_of_wide 9 Try.f9 rfl rfl rfl rfl rfl rfl rfl ⟨rfl, rfl, rfl, rfl, rfl⟩ rfl rfl rfl rfl rfl (by kernel_rfl) Try.func9 closed
    (of_decide_eq_true (by kernel_rfl)) (by unfold Func.isWrapper; first | (rw [if_pos (by decide +kernel)]; kernel_rfl) | (rw [if_neg (by decide +kernel)]; exact ⟨rfl, rfl⟩))
    (fun os started H enc _ => lifted os started H enc)

theorem proved : Rows.FnBelowSaid := over
#print axioms proved
end Go.Proofs.Ythllfkgceoenbaa.LFBelow

