/-
  For every slice of bytes the law FnPartSum answers true: the sum of one element more is no less and at most 6 more, and that of enough elements is that of all; nothing that was there is written; no condition.
-/
import Derived.Test.YthllfkgceoenbaaO
import Derived.Test.YthllfkgceoenbaaZ
import Derived.Deep.RegionLaw
import Derived.Test.YthllfkgceoenbaaPk
namespace Go.Proofs.Ythllfkgceoenbaa.LFPartSum
open Go.ChangeShapes Go.WideShapes Go.ChangeAt Go.RowKit Go.Joins

set_option maxHeartbeats 1000000 in
set_option maxRecDepth 100000 in
theorem walk (a : Option Addr) (len cap : Nat) (zs : List Int) (w : World) (h : Bys w a len zs) (hl : len ≤ cap) (hm : cap ≤ 9223372036854775807) :
    Calls Try.prog 8 #[.slice a len cap] w fun e w' => e = .returned (.bool true) ∧ Below w.heap.size w w' := by
  by_cases hbig : 1048576 < len
  · clear h
    go_enter Try.func8, Try.ntmps8
    go_wp2_with fail
    go_ret
    exact ⟨rfl, Below.refl _ _⟩
  go_enter Try.func8, Try.ntmps8
  go_wp2_with fail
  refine (draw_DrawPartSum a len cap zs _ h hl hm).mono ?_
  rintro e w1 ⟨s, n, c, xs, k, rfl, ho, hn, hk, hb1⟩
  clear h hl hm
  have bb := Lib.hid hb1
  have hc := own_cap ho
  have p := Lib.hid ho.row
  have lx := ho.len
  clear ho hb1
  by_cases hv : partB xs = true ∧ 0 ≤ k
  case neg =>
    have e0 : Hid (psumOf xs k = -1) := if_neg hv
    clear hv
    go_wp2_with fail
    refine (psum_any e0.out _ _ _ hc hn _ p.out).mono ?_
    rintro e w2 ⟨rfl, hb⟩
    have szw2 := hb.size
    replace p := Lib.hid (p.out.bel hb)
    replace bb := Lib.hid (bb.out.trans (hb.mono bb.out.size))
    clear hb
    go_wp2_with fail
    refine (psum_sany e0.out _ _ _ hn _ p.out).mono ?_
    rintro e w3 ⟨rfl, hb⟩
    have szw3 := hb.size
    replace p := Lib.hid (p.out.bel hb)
    replace bb := Lib.hid (bb.out.trans (hb.mono bb.out.size))
    clear hb
    go_wp2_with fail
    go_ret
    exact ⟨rfl, bb.out⟩
  obtain ⟨K, rfl⟩ := Int.eq_ofNat_of_zero_le hv.2
  have hP := Lib.hid (Par.of hv.1)
  have hn6 := p.out.six hP.out
  clear hv
  obtain ⟨A, hA⟩ : ∃ A, psum xs K = A := ⟨_, rfl⟩
  have bA := hP.out.psum_36 K
  rw [hA] at bA
  have eA := Lib.hid hA
  go_wp2_with fail
  refine (psum_ok hP.out K eA.out _ _ _ hc _ p.out).mono ?_
  rintro e w4 ⟨rfl, hb⟩
  have szw4 := hb.size
  replace p := Lib.hid (p.out.bel hb)
  replace bb := Lib.hid (bb.out.trans (hb.mono bb.out.size))
  clear hb
  go_wp2_with fail
  refine (psum_sok hP.out K eA.out _ _ _ _ p.out).mono ?_
  rintro e w5 ⟨rfl, hb⟩
  have szw5 := hb.size
  replace p := Lib.hid (p.out.bel hb)
  replace bb := Lib.hid (bb.out.trans (hb.mono bb.out.size))
  clear hb
  obtain ⟨A2, hA2⟩ : ∃ A2, psum xs (K + 1) = A2 := ⟨_, rfl⟩
  obtain ⟨T, hT⟩ : ∃ T, psum xs xs.length = T := ⟨_, rfl⟩
  have b1 := hP.out.bd' K
  have h1 : A ≤ A2 := by rw [← hA, ← hA2, psum_succ]; omega
  have h2 : A2 - A ≤ 6 := by rw [← hA, ← hA2, psum_succ]; omega
  have bA2 := hP.out.psum_36 (K + 1)
  rw [hA2] at bA2
  have e6 := Lib.hid (show psum xs 6 = T by rw [psum_past hP.out.l]; exact hT)
  have eT := Lib.hid hT
  have eA2 := Lib.hid hA2
  have hend : n ≤ K → A = T := fun h => by rw [← hA, ← hT]; exact psum_past (by omega)
  replace hend := Lib.hid hend
  have cn := fun w hR => psum_ok hP.out (K + 1) eA2.out s n c hc w hR
  rw [show ((K + 1 : Nat) : Int) = (K : Int) + 1 by omega] at cn
  replace cn := Lib.hid cn
  have c6 := fun w hR => psum_ok hP.out 6 e6.out s n c hc w hR
  rw [show ((6 : Nat) : Int) = 6 from rfl] at c6
  replace c6 := Lib.hid c6
  clear hA hA2 hT b1
  go_wp2_with fail
  refine (cn.out _ p.out).mono ?_
  rintro e w6 ⟨rfl, hb⟩
  have szw6 := hb.size
  replace p := Lib.hid (p.out.bel hb)
  replace bb := Lib.hid (bb.out.trans (hb.mono bb.out.size))
  clear hb
  go_wp2_with fail
  refine (c6.out _ p.out).mono ?_
  rintro e w7 ⟨rfl, hb⟩
  have szw7 := hb.size
  replace p := Lib.hid (p.out.bel hb)
  replace bb := Lib.hid (bb.out.trans (hb.mono bb.out.size))
  clear hb
  go_wp2_with fail
  refine (sum_ok hP.out eT.out _ _ _ _ p.out).mono ?_
  rintro e w8 ⟨rfl, hb⟩
  have szw8 := hb.size
  replace p := Lib.hid (p.out.bel hb)
  replace bb := Lib.hid (bb.out.trans (hb.mono bb.out.size))
  clear hb
  by_cases hKn : K < n
  case pos =>
    go_wp2_with fail
    go_ret
    exact ⟨rfl, bb.out⟩
  have hAT := hend.out (by omega)
  subst hAT
  go_wp2_with fail
  refine (sum_ok hP.out eT.out _ _ _ _ p.out).mono ?_
  rintro e w9 ⟨rfl, hb⟩
  have szw9 := hb.size
  replace p := Lib.hid (p.out.bel hb)
  replace bb := Lib.hid (bb.out.trans (hb.mono bb.out.size))
  clear hb
  go_wp2_with fail
  go_ret
  exact ⟨rfl, bb.out⟩

set_option maxRecDepth 100000 in
theorem lifted (os : Os) (started : os.Started) (H : Type) (enc : TypeId × Value → H) :
    ReturnsInHanded {} Try.checked os 8 .any (Rows.fnPartSumSpec.pre6 enc Try.prog Try.f8 Rows.fnPartSumRow.domain false) (Rows.fnPartSumSpec.post enc Try.prog Try.f8 false true false false) := by
  refine returnsInHanded_of_change (C := Try.checked) own started (by kernel_rfl) Try.func8
    (ChangeSpec.witness6 (enc := enc) (C := Try.checked) false ⟨#[], #[.slice none 0 0], []⟩ 8 (by kernel_rfl) (by kernel_rfl) (by kernel_rfl) (by kernel_rfl)) ?_
  intro W base args ds gs before hval0 hW hcnd _
  have hval : ∀ (j : Nat) t v, Try.f8.params[j]? = some t → args[j]? = some v → Value.okWide Try.prog W .any base t v := hval0
  have hW' := hW
  obtain ⟨p, q, hA0, hV, rfl, hfz, hnd⟩ := hW
  have hA : DataW.TrodAll enc Try.prog W 0 (fun _ => true) true Try.f8.params.toList args.toList ds p := hA0
  rw [Try.params8] at hA hval
  obtain ⟨v0, vs0, d0, ds0, p0, q0, hargs, rfl, rfl, h0, r0⟩ := trodAll_cons hA
  obtain ⟨rfl, rfl, rfl⟩ := trodAll_nil r0
  obtain rfl : args = #[v0] := by cases args; simp_all
  obtain ⟨rfl, rfl⟩ := trodVars_none hV
  have k0 := h0
  have lt0 : ∀ x ∈ p0, x.block < W.heap.size := by obtain ⟨m, hm⟩ := k0; exact DataW.trod_lt m _ _ _ hm
  obtain ⟨a0, len0, cap0, z0, rfl, w0, l0, m0⟩ := open_code (hval 0 22 v0 rfl rfl) h0
  clear hA0 hval0
  refine (walk a0 len0 cap0 z0 W w0 l0 m0).mono fun e W' ⟨he, bel⟩ => ?_
  subst he
  exact ⟨_, rfl, _, _, _, [], _, [], hW', trodAll_mk1 (shut_bool Try.underlying4 _), (trodAll_cons_mk (Below.trod laidOut (by kernel_rfl) (of_decide_eq_true (by kernel_rfl)) k0 bel lt0) trodAll_mk0), rfl, bel.frame _, fun h => by cases h⟩

theorem closed : joinedFacts Try.prog 8 Try.f8 Rows.fnPartSumSpec Rows.fnPartSumRow = true := by
  simp only [joinedFacts, Bool.and_eq_true]
  repeat' apply And.intro
  all_goals first | with_reducible exact mayEnterOk | (with_reducible rw [liftsFinalOk]; kernel_rfl) | (with_reducible rw [makeOk]; kernel_rfl) | kernel_rfl

theorem over : Rows.fnPartSumRow.holds Try.pinned (OpenSpec.ofChange Rows.fnPartSumSpec) :=
  OpenClaim.holds_of_wide 8 Try.f8 rfl rfl rfl rfl rfl rfl rfl ⟨rfl, rfl, rfl, rfl, rfl⟩ rfl rfl rfl rfl rfl (by kernel_rfl) Try.func8 closed
    (of_decide_eq_true (by kernel_rfl)) (by unfold Func.isWrapper; first | (rw [if_pos (by decide +kernel)]; kernel_rfl) | (rw [if_neg (by decide +kernel)]; exact ⟨rfl, rfl⟩))
    (fun os started H enc _ => lifted os started H enc)

theorem proved : Rows.FnPartSumSaid := over
#print axioms proved
end Go.Proofs.Ythllfkgceoenbaa.LFPartSum

