/-
  For every slice of bytes the law FnConjCount answers true: an element of the conjugate is at least a number exactly if the element of the partition with that number is at least its place; nothing that was there is written; no condition.
-/
import Derived.Test.YthllfkgceoenbaaO
import Derived.Test.YthllfkgceoenbaaZ
import Derived.Deep.RegionLaw
import Derived.Test.YthllfkgceoenbaaPk
namespace Go.Proofs.Ythllfkgceoenbaa.LFConjCount
open Go.ChangeShapes Go.WideShapes Go.ChangeAt Go.RowKit Go.Joins

set_option maxHeartbeats 1000000 in
set_option maxRecDepth 100000 in
theorem walk (a : Option Addr) (len cap : Nat) (zs : List Int) (w : World) (h : Bys w a len zs) (hl : len ≤ cap) (hm : cap ≤ 9223372036854775807) :
    Calls Try.prog 7 #[.slice a len cap] w fun e w' => e = .returned (.bool true) ∧ Below w.heap.size w w' := by
  by_cases hbig : 1048576 < len
  · clear h
    go_enter Try.func7, Try.ntmps7
    go_wp2_with fail
    go_ret
    exact ⟨rfl, Below.refl _ _⟩
  go_enter Try.func7, Try.ntmps7
  go_wp2_with fail
  refine (draw_DrawPartConj a len cap zs _ h hl hm).mono ?_
  rintro e w1 ⟨s, n, c, xs, k, rfl, ho, hn, hk, hb1⟩
  clear h hl hm
  have bb := Lib.hid hb1
  have hc := own_cap ho
  have p := Lib.hid ho.row
  have lx := ho.len
  clear ho hb1
  by_cases hv : conjB xs k = true
  case neg =>
    have hv : conjB xs k = false := by simpa using hv
    replace hv := Lib.hid hv
    go_wp2_with fail
    refine (conj_no hv.out _ _ _ _ p.out hn).mono ?_
    rintro e w2 ⟨⟨ao1, co1, rfl, ho⟩, hb⟩
    have o1 := Lib.hid ho.row
    have szw2 := hb.size
    replace p := Lib.hid (p.out.bel hb)
    replace bb := Lib.hid (bb.out.trans (hb.mono bb.out.size))
    clear hb
    clear ho
    go_wp2_with fail
    refine (conj_sno hv.out _ _ _ _ p.out hn).mono ?_
    rintro e w3 ⟨⟨ao2, co2, rfl, ho⟩, hb⟩
    have o2 := Lib.hid ho.row
    have szw3 := hb.size
    replace p := Lib.hid (p.out.bel hb)
    replace o1 := Lib.hid (o1.out.bel hb)
    replace bb := Lib.hid (bb.out.trans (hb.mono bb.out.size))
    clear hb
    clear ho
    go_wp2_with fail
    refine (same_yes _ _ _ _ _ [] _ o1.out o2.out (by omega)).mono ?_
    rintro e w4 ⟨rfl, hb⟩
    have szw4 := hb.size
    replace p := Lib.hid (p.out.bel hb)
    replace o1 := Lib.hid (o1.out.bel hb)
    replace o2 := Lib.hid (o2.out.bel hb)
    replace bb := Lib.hid (bb.out.trans (hb.mono bb.out.size))
    clear hb
    go_wp2_with fail
    refine (same_yes _ _ _ _ _ [] _ o1.out o2.out (by omega)).mono ?_
    rintro e w5 ⟨rfl, hb⟩
    have szw5 := hb.size
    replace p := Lib.hid (p.out.bel hb)
    replace o1 := Lib.hid (o1.out.bel hb)
    replace o2 := Lib.hid (o2.out.bel hb)
    replace bb := Lib.hid (bb.out.trans (hb.mono bb.out.size))
    clear hb
    go_wp2_with fail
    go_ret
    exact ⟨rfl, bb.out⟩
  have hp := conjB_parts hv
  obtain ⟨N, rfl⟩ := Int.eq_ofNat_of_zero_le hp.2.1.1
  have hN : N ≤ 6 := by have := hp.2.1; omega
  have hP := Lib.hid hp.1
  have hbd := Lib.hid hp.2.2
  have hn6 := p.out.six hp.1
  have hC := Lib.hid (hp.1.conj hN)
  replace hv := Lib.hid hv
  clear hp hk
  go_wp2_with fail
  refine (conj_ok hv.out _ _ _ _ p.out).mono ?_
  rintro e w6 ⟨⟨aq, cq, rfl, ho⟩, hb⟩
  have q := Lib.hid ho
  have szw6 := hb.size
  replace p := Lib.hid (p.out.bel hb)
  replace bb := Lib.hid (bb.out.trans (hb.mono bb.out.size))
  clear hb
  clear ho
  go_wp2_with fail
  refine (conj_sok hv.out _ _ _ _ p.out).mono ?_
  rintro e w7 ⟨⟨au, cu, rfl, ho⟩, hb⟩
  have u := Lib.hid ho.row
  have szw7 := hb.size
  replace p := Lib.hid (p.out.bel hb)
  replace q := Lib.hid (q.out.bel hb)
  replace bb := Lib.hid (bb.out.trans (hb.mono bb.out.size))
  clear hb
  clear ho
  go_wp2_with fail
  refine (same_yes _ _ _ _ _ (conjL xs N) _ q.out.row u.out (by omega)).mono ?_
  rintro e w8 ⟨rfl, hb⟩
  have szw8 := hb.size
  replace p := Lib.hid (p.out.bel hb)
  replace u := Lib.hid (u.out.bel hb)
  replace q := Lib.hid (q.out.bel hb)
  replace bb := Lib.hid (bb.out.trans (hb.mono bb.out.size))
  clear hb
  clear u
  go_wp2_with fail
  go_loopw [9] (fun i wr => ∃ k : Nat, k ≤ N ∧ i = .int .i64 ((k : Int) + 1) ∧ Below w8.heap.size w8 wr) (fun i _ => N + 1 - (intOf i).toNat)
  case atStart => exact ⟨0, Nat.zero_le _, rfl, Below.refl _ _⟩
  case round =>
    obtain ⟨k, hk, rfl, hb⟩ := hrel
    obtain ⟨wo, rfl⟩ : ∃ wo : World, wo = wr := ⟨_, rfl⟩
    have lp := Lib.hid hb
    clear hb
    by_cases hlt : k < N
    · go_wp2_with fail
      go_loopw [10] (fun i wr => ∃ j : Nat, j ≤ n ∧ i = .int .i64 ((j : Int) + 1) ∧ Below w8.heap.size w8 wr) (fun i _ => n + 1 - (intOf i).toNat)
      case atStart => exact ⟨0, Nat.zero_le _, rfl, lp.out⟩
      case round =>
        obtain ⟨j, hj, rfl, hb⟩ := hrel
        by_cases hlj : j < n
        · obtain ⟨bq, oq, rq, hcq⟩ := row_at (q.out.row.bel hb) hlt
          obtain ⟨bp, op, rp, hcp⟩ := row_at (p.out.bel hb) hlj
          cases rq
          cases rp
          have hiff := hP.out.cge_iff (c := (k : Int) + 1) (show j < xs.length by omega)
          rw [conj_get hlt] at hcq
          have bx := cge_bd xs ((k : Int) + 1)
          have by' := hP.out.bd' j
          generalize cge xs ((k : Int) + 1) = x at hcq hiff bx
          generalize xs.getD j 0 = v at hcp hiff by'
          have i1 : IntKind.i64.wrap ((k : Int) + 1 - 1) = (k : Int) := by rw [IntKind.wrap_i64]; omega
          have i2 : IntKind.i64.wrap ((j : Int) + 1 - 1) = (j : Int) := by rw [IntKind.wrap_i64]; omega
          have lb := Lib.hid hb
          clear hb
          by_cases hy : (k : Int) + 1 ≤ v
          · have hx := hiff.2 hy
            have t1 : decide ((j : Int) + 1 ≤ x) = true := decide_eq_true hx
            have t2 : decide ((k : Int) + 1 ≤ v) = true := decide_eq_true hy
            clear hiff
            go_wp2_with fail
            go_quiet (fail)
            go_wp2_with fail
            exact ⟨⟨j + 1, by omega, by go_num, below_drewN lb.out _⟩, by simp [intOf]; omega⟩
          · have hx : ¬ (j : Int) + 1 ≤ x := fun e => hy (hiff.1 e)
            have t1 : decide ((j : Int) + 1 ≤ x) = false := decide_eq_false hx
            have t2 : decide ((k : Int) + 1 ≤ v) = false := decide_eq_false hy
            clear hiff hx hy
            go_wp2_with fail
            go_quiet (fail)
            go_wp2_with fail
            exact ⟨⟨j + 1, by omega, by go_num, below_drewN lb.out _⟩, by simp [intOf]; omega⟩
        · have : j = n := by omega
          subst this
          have lb := Lib.hid hb
          clear hb
          go_wp2_with fail
          exact ⟨⟨k + 1, by omega, by go_num, lb.out⟩, by simp [intOf]; omega⟩
    · have : k = N := by omega
      subst this
      replace bb := Lib.hid (bb.out.trans (lp.out.mono bb.out.size))
      go_wp2_with fail
      go_ret
      exact ⟨rfl, bb.out⟩

set_option maxRecDepth 100000 in
theorem lifted (os : Os) (started : os.Started) (H : Type) (enc : TypeId × Value → H) :
    ReturnsInHanded {} Try.checked os 7 .any (Rows.fnConjCountSpec.pre6 enc Try.prog Try.f7 Rows.fnConjCountRow.domain false) (Rows.fnConjCountSpec.post enc Try.prog Try.f7 false true false false) := by
  refine returnsInHanded_of_change (C := Try.checked) own started (by kernel_rfl) Try.func7
    (ChangeSpec.witness6 (enc := enc) (C := Try.checked) false ⟨#[], #[.slice none 0 0], []⟩ 8 (by kernel_rfl) (by kernel_rfl) (by kernel_rfl) (by kernel_rfl)) ?_
  intro W base args ds gs before hval0 hW hcnd _
  have hval : ∀ (j : Nat) t v, Try.f7.params[j]? = some t → args[j]? = some v → Value.okWide Try.prog W .any base t v := hval0
  have hW' := hW
  obtain ⟨p, q, hA0, hV, rfl, hfz, hnd⟩ := hW
  have hA : DataW.TrodAll enc Try.prog W 0 (fun _ => true) true Try.f7.params.toList args.toList ds p := hA0
  rw [Try.params7] at hA hval
  obtain ⟨v0, vs0, d0, ds0, p0, q0, hargs, rfl, rfl, h0, r0⟩ := trodAll_cons hA
  obtain ⟨rfl, rfl, rfl⟩ := trodAll_nil r0
  obtain rfl : args = #[v0] := by cases args; simp_all
  obtain ⟨rfl, rfl⟩ := trodVars_none hV
  have k0 := h0
  have lt0 : ∀ x ∈ p0, x.block < W.heap.size := by obtain ⟨m, hm⟩ := k0; exact DataW.trod_lt m _ _ _ hm
  obtain ⟨a0, len0, cap0, z0, rfl, w0, l0, m0⟩ := open_code (hval 0 22 v0 rfl rfl) h0
  clear hA0 hval0
  refine (walk a0 len0 cap0 z0 W w0 l0 m0).mono fun e W' ⟨he, bel⟩ => ?_
  subst he
  exact ⟨_, rfl, _, _, _, [], _, [], hW', trodAll_mk1 (shut_bool Try.underlying4 _), (trodAll_cons_mk (Below.trod laidOut (by kernel_rfl) (of_decide_eq_true (by kernel_rfl)) k0 bel lt0) trodAll_mk0), rfl, bel.frame _, fun h => by cases h⟩

theorem closed : joinedFacts Try.prog 7 Try.f7 Rows.fnConjCountSpec Rows.fnConjCountRow = true := by
  simp only [joinedFacts, Bool.and_eq_true]
  repeat' apply And.intro
  all_goals first | with_reducible exact mayEnterOk | (with_reducible rw [liftsFinalOk]; kernel_rfl) | (with_reducible rw [makeOk]; kernel_rfl) | kernel_rfl

theorem over : Rows.fnConjCountRow.holds Try.pinned (OpenSpec.ofChange Rows.fnConjCountSpec) :=
  OpenClaim.holds_of_wide 7 Try.f7 rfl rfl rfl rfl rfl rfl rfl ⟨rfl, rfl, rfl, rfl, rfl⟩ rfl rfl rfl rfl rfl (by kernel_rfl) Try.func7 closed
    (of_decide_eq_true (by kernel_rfl)) (by unfold Func.isWrapper; first | (rw [if_pos (by decide +kernel)]; kernel_rfl) | (rw [if_neg (by decide +kernel)]; exact ⟨rfl, rfl⟩))
    (fun os started H enc _ => lifted os started H enc)

theorem proved : Rows.FnConjCountSaid := over
#print axioms proved
end Go.Proofs.Ythllfkgceoenbaa.LFConjCount

