/-
  For every slice of bytes the law FnConjFirst answers true: the first element of the conjugate counts the elements that are not 0, and the other way round; nothing that was there is written; no condition.
-/
import Derived.Test.YthllfkgceoenbaaO
import Derived.Test.YthllfkgceoenbaaZ
import Derived.Deep.RegionLaw
import Derived.Test.YthllfkgceoenbaaPk
namespace Go.Proofs.Ythllfkgceoenbaa.LFConjFirst
open Go.ChangeShapes Go.WideShapes Go.ChangeAt Go.RowKit Go.Joins

set_option maxHeartbeats 1000000 in
set_option maxRecDepth 100000 in
theorem walk (a : Option Addr) (len cap : Nat) (zs : List Int) (w : World) (h : Bys w a len zs) (hl : len ≤ cap) (hm : cap ≤ 9223372036854775807) :
    Calls Try.prog 12 #[.slice a len cap] w fun e w' => e = .returned (.bool true) ∧ Below w.heap.size w w' := by
  by_cases hbig : 1048576 < len
  · clear h
    go_enter Try.func12, Try.ntmps12
    go_wp2_with fail
    go_ret
    exact ⟨rfl, Below.refl _ _⟩
  go_enter Try.func12, Try.ntmps12
  go_wp2_with fail
  refine (draw_DrawPartConj a len cap zs _ h hl hm).mono ?_
  rintro e w1 ⟨s, n, c, xs, k, rfl, ho, hn, hk, hb1⟩
  clear h hl hm
  have bb := Lib.hid hb1
  have hc := own_cap ho
  have p := Lib.hid ho.row
  have lx := ho.len
  clear ho hb1
  by_cases hv : conjB xs k = true
  case neg =>
    have hv : conjB xs k = false := by simpa using hv
    replace hv := Lib.hid hv
    go_wp2_with fail
    refine (conj_no hv.out _ _ _ _ p.out hn).mono ?_
    rintro e w2 ⟨⟨ao1, co1, rfl, ho⟩, hb⟩
    have o1 := Lib.hid ho.row
    have szw2 := hb.size
    replace p := Lib.hid (p.out.bel hb)
    replace bb := Lib.hid (bb.out.trans (hb.mono bb.out.size))
    clear hb
    clear ho
    go_wp2_with fail
    refine (conj_sno hv.out _ _ _ _ p.out hn).mono ?_
    rintro e w3 ⟨⟨ao2, co2, rfl, ho⟩, hb⟩
    have o2 := Lib.hid ho.row
    have szw3 := hb.size
    replace p := Lib.hid (p.out.bel hb)
    replace o1 := Lib.hid (o1.out.bel hb)
    replace bb := Lib.hid (bb.out.trans (hb.mono bb.out.size))
    clear hb
    clear ho
    go_wp2_with fail
    refine (same_yes _ _ _ _ _ [] _ o1.out o2.out (by omega)).mono ?_
    rintro e w4 ⟨rfl, hb⟩
    have szw4 := hb.size
    replace p := Lib.hid (p.out.bel hb)
    replace o1 := Lib.hid (o1.out.bel hb)
    replace o2 := Lib.hid (o2.out.bel hb)
    replace bb := Lib.hid (bb.out.trans (hb.mono bb.out.size))
    clear hb
    go_wp2_with fail
    refine (same_yes _ _ _ _ _ [] _ o1.out o2.out (by omega)).mono ?_
    rintro e w5 ⟨rfl, hb⟩
    have szw5 := hb.size
    replace p := Lib.hid (p.out.bel hb)
    replace o1 := Lib.hid (o1.out.bel hb)
    replace o2 := Lib.hid (o2.out.bel hb)
    replace bb := Lib.hid (bb.out.trans (hb.mono bb.out.size))
    clear hb
    go_wp2_with fail
    go_ret
    exact ⟨rfl, bb.out⟩
  have hp := conjB_parts hv
  obtain ⟨N, rfl⟩ := Int.eq_ofNat_of_zero_le hp.2.1.1
  have hN : N ≤ 6 := by have := hp.2.1; omega
  have hP := Lib.hid hp.1
  have hbd := Lib.hid hp.2.2
  have hn6 := p.out.six hp.1
  have hC := Lib.hid (hp.1.conj hN)
  replace hv := Lib.hid hv
  clear hp hk
  go_wp2_with fail
  refine (conj_ok hv.out _ _ _ _ p.out).mono ?_
  rintro e w6 ⟨⟨aq, cq, rfl, ho⟩, hb⟩
  have q := Lib.hid ho
  have szw6 := hb.size
  replace p := Lib.hid (p.out.bel hb)
  replace bb := Lib.hid (bb.out.trans (hb.mono bb.out.size))
  clear hb
  clear ho
  go_wp2_with fail
  refine (conj_sok hv.out _ _ _ _ p.out).mono ?_
  rintro e w7 ⟨⟨au, cu, rfl, ho⟩, hb⟩
  have u := Lib.hid ho.row
  have szw7 := hb.size
  replace p := Lib.hid (p.out.bel hb)
  replace q := Lib.hid (q.out.bel hb)
  replace bb := Lib.hid (bb.out.trans (hb.mono bb.out.size))
  clear hb
  clear ho
  go_wp2_with fail
  refine (same_yes _ _ _ _ _ (conjL xs N) _ q.out.row u.out (by omega)).mono ?_
  rintro e w8 ⟨rfl, hb⟩
  have szw8 := hb.size
  replace p := Lib.hid (p.out.bel hb)
  replace u := Lib.hid (u.out.bel hb)
  replace q := Lib.hid (q.out.bel hb)
  replace bb := Lib.hid (bb.out.trans (hb.mono bb.out.size))
  clear hb
  clear u
  have hf := hP.out.first
  have hl2 := hP.out.last (n := N) (by
    by_cases e : 0 < xs.length
    · exact hbd.out 0 e
    · rw [getD_out (by omega)]; omega)
  rw [lx] at hf
  obtain ⟨X, hX⟩ : ∃ X, mins xs n = X := ⟨_, rfl⟩
  rw [hX] at hf
  replace hf := Lib.hid hf
  obtain ⟨F, hF⟩ : ∃ F, xs.getD 0 0 = F := ⟨_, rfl⟩
  rw [hF] at hl2
  have hmb := Lib.hid hP.out.mins_bd
  have hmc := Lib.hid hC.out.mins_bd
  replace hX := Lib.hid hX
  replace hl2 := Lib.hid hl2
  replace hF := Lib.hid hF
  go_wp2_with fail
  go_loop [9, 10] (fun o i => ∃ k : Nat, k ≤ n ∧ i = .int .i64 k ∧ o = .int .i64 (mins xs k)) (fun _ i => n - (intOf i).toNat)
  case atStart => exact ⟨0, Nat.zero_le _, rfl, rfl⟩
  case round =>
    obtain ⟨k, hk, rfl, rfl⟩ := hrel
    have hs := hmb.out k
    by_cases hlt : k < n
    · obtain ⟨b, off, rfl, hcc⟩ := row_at p.out hlt
      have hx := hP.out.bd' k
      have hsn := mins_succ xs k
      generalize mins xs k = m at hs hsn
      generalize xs.getD k 0 = v at hcc hx hsn
      replace hsn := Lib.hid hsn
      go_wp2_with fail
      exact ⟨⟨k + 1, by omega, by go_num, by rw [hsn.out]⟩, by simp [intOf]; omega⟩
    · have : k = n := by omega
      subst this
      rw [hX.out]
      rw [hX.out] at hs
      go_wp2_with fail
      go_loop [11, 12] (fun o i => ∃ j : Nat, j ≤ N ∧ i = .int .i64 j ∧ o = .int .i64 (mins (conjL xs N) j)) (fun _ i => N - (intOf i).toNat)
      case atStart => exact ⟨0, Nat.zero_le _, rfl, rfl⟩
      case round =>
        obtain ⟨j, hj, rfl, rfl⟩ := hrel
        have hs2 := hmc.out j
        by_cases hlj : j < N
        · obtain ⟨b, off, e', hcc⟩ := row_at q.out.row hlj
          cases e'
          have hx := hC.out.bd' j
          have hsn := mins_succ (conjL xs N) j
          generalize mins (conjL xs N) j = m at hs2 hsn
          generalize (conjL xs N).getD j 0 = v at hcc hx hsn
          replace hsn := Lib.hid hsn
          go_wp2_with fail
          exact ⟨⟨j + 1, by omega, by go_num, by rw [hsn.out]⟩, by simp [intOf]; omega⟩
        · have : j = N := by omega
          subst this
          rw [hl2.out]
          by_cases h0 : k = 0
          · have hF0 : F = 0 := by rw [← hF.out]; exact getD_out (by omega)
            subst hF0 h0
            by_cases hN0 : j = 0
            · subst hN0
              go_wp2_with fail
              go_ret
              exact ⟨rfl, bb.out⟩
            · obtain ⟨b, off, e', hcc⟩ := row_at q.out.row (show 0 < j by omega)
              cases e'
              rw [conj_get (by omega), show ((0 : Nat) : Int) + 1 = 1 from rfl, hf.out] at hcc
              rw [Nat.add_zero] at hcc
              have hj1 : 0 < j := by omega
              have hj0 : ((j : Int) == 0) = false := by simpa using hN0
              go_wp2_with fail
              go_ret
              exact ⟨rfl, bb.out⟩
          · obtain ⟨b, off, rfl, hcp⟩ := row_at p.out (show 0 < k by omega)
            rw [hF.out, Nat.add_zero] at hcp
            have hk0 : 0 < k := by omega
            by_cases hN0 : j = 0
            · subst hN0
              go_wp2_with fail
              go_ret
              exact ⟨rfl, bb.out⟩
            · obtain ⟨b', off', e', hcc⟩ := row_at q.out.row (show 0 < j by omega)
              cases e'
              rw [conj_get (by omega), show ((0 : Nat) : Int) + 1 = 1 from rfl, hf.out] at hcc
              rw [Nat.add_zero] at hcc
              have hj1 : 0 < j := by omega
              have hj0 : ((j : Int) == 0) = false := by simpa using hN0
              go_wp2_with fail
              go_ret
              exact ⟨rfl, bb.out⟩

set_option maxRecDepth 100000 in
theorem lifted (os : Os) (started : os.Started) (H : Type) (enc : TypeId × Value → H) :
    ReturnsInHanded {} Try.checked os 12 .any (Rows.fnConjFirstSpec.pre6 enc Try.prog Try.f12 Rows.fnConjFirstRow.domain false) (Rows.fnConjFirstSpec.post enc Try.prog Try.f12 false true false false) := by
  refine returnsInHanded_of_change (C := Try.checked) own started (by kernel_rfl) Try.func12
    (ChangeSpec.witness6 (enc := enc) (C := Try.checked) false ⟨#[], #[.slice none 0 0], []⟩ 8 (by kernel_rfl) (by kernel_rfl) (by kernel_rfl) (by kernel_rfl)) ?_
  intro W base args ds gs before hval0 hW hcnd _
  have hval : ∀ (j : Nat) t v, Try.f12.params[j]? = some t → args[j]? = some v → Value.okWide Try.prog W .any base t v := hval0
  have hW' := hW
  obtain ⟨p, q, hA0, hV, rfl, hfz, hnd⟩ := hW
  have hA : DataW.TrodAll enc Try.prog W 0 (fun _ => true) true Try.f12.params.toList args.toList ds p := hA0
  rw [Try.params12] at hA hval
  obtain ⟨v0, vs0, d0, ds0, p0, q0, hargs, rfl, rfl, h0, r0⟩ := trodAll_cons hA
  obtain ⟨rfl, rfl, rfl⟩ := trodAll_nil r0
  obtain rfl : args = #[v0] := by cases args; simp_all
  obtain ⟨rfl, rfl⟩ := trodVars_none hV
  have k0 := h0
  have lt0 : ∀ x ∈ p0, x.block < W.heap.size := by obtain ⟨m, hm⟩ := k0; exact DataW.trod_lt m _ _ _ hm
  obtain ⟨a0, len0, cap0, z0, rfl, w0, l0, m0⟩ := open_code (hval 0 22 v0 rfl rfl) h0
  clear hA0 hval0
  refine (walk a0 len0 cap0 z0 W w0 l0 m0).mono fun e W' ⟨he, bel⟩ => ?_
  subst he
  exact ⟨_, rfl, _, _, _, [], _, [], hW', trodAll_mk1 (shut_bool Try.underlying4 _), (trodAll_cons_mk (Below.trod laidOut (by kernel_rfl) (of_decide_eq_true (by kernel_rfl)) k0 bel lt0) trodAll_mk0), rfl, bel.frame _, fun h => by cases h⟩

theorem closed : joinedFacts Try.prog 12 Try.f12 Rows.fnConjFirstSpec Rows.fnConjFirstRow = true := by
  simp only [joinedFacts, Bool.and_eq_true]
  repeat' apply And.intro
  all_goals first | with_reducible exact mayEnterOk | (with_reducible rw [liftsFinalOk]; kernel_rfl) | (with_reducible rw [makeOk]; kernel_rfl) | kernel_rfl

theorem over : Rows.fnConjFirstRow.holds Try.pinned (OpenSpec.ofChange Rows.fnConjFirstSpec) :=
  OpenClaim.holds_of_wide 12 Try.f12 rfl rfl rfl rfl rfl rfl rfl ⟨rfl, rfl, rfl, rfl, rfl⟩ rfl rfl rfl rfl rfl (by kernel_rfl) Try.func12 closed
    (of_decide_eq_true (by kernel_rfl)) (by unfold Func.isWrapper; first | (rw [if_pos (by decide +kernel)]; kernel_rfl) | (rw [if_neg (by decide +kernel)]; exact ⟨rfl, rfl⟩))
    (fun os started H enc _ => lifted os started H enc)

theorem proved : Rows.FnConjFirstSaid := over
#print axioms proved
end Go.Proofs.Ythllfkgceoenbaa.LFConjFirst

