/-
  For every slice of bytes the law FnPartSumParts answers true: the sum of one element more is greater by that element, and that of no element is 0; nothing that was there is written; no condition.
-/
import Derived.Test.YthllfkgceoenbaaO
import Derived.Test.YthllfkgceoenbaaZ
import Derived.Deep.RegionLaw
import Derived.Test.YthllfkgceoenbaaPk
namespace Go.Proofs.Ythllfkgceoenbaa.LFPartSumParts
open Go.ChangeShapes Go.WideShapes Go.ChangeAt Go.RowKit Go.Joins

set_option maxHeartbeats 1000000 in
set_option maxRecDepth 100000 in
theorem walk (a : Option Addr) (len cap : Nat) (zs : List Int) (w : World) (h : Bys w a len zs) (hl : len ≤ cap) (hm : cap ≤ 9223372036854775807) :
    Calls Try.prog 13 #[.slice a len cap] w fun e w' => e = .returned (.bool true) ∧ Below w.heap.size w w' := by
  by_cases hbig : 1048576 < len
  · clear h
    go_enter Try.func13, Try.ntmps13
    go_wp2_with fail
    go_ret
    exact ⟨rfl, Below.refl _ _⟩
  go_enter Try.func13, Try.ntmps13
  go_wp2_with fail
  refine (draw_DrawPartSum a len cap zs _ h hl hm).mono ?_
  rintro e w1 ⟨s, n, c, xs, k, rfl, ho, hn, hk, hb1⟩
  clear h hl hm
  have bb := Lib.hid hb1
  have hc := own_cap ho
  have p := Lib.hid ho.row
  have lx := ho.len
  clear ho hb1
  by_cases hv : partB xs = true ∧ 0 ≤ k
  case neg =>
    have e0 : Hid (psumOf xs k = -1) := if_neg hv
    clear hv
    go_wp2_with fail
    refine (psum_any e0.out _ _ _ hc hn _ p.out).mono ?_
    rintro e w2 ⟨rfl, hb⟩
    have szw2 := hb.size
    replace p := Lib.hid (p.out.bel hb)
    replace bb := Lib.hid (bb.out.trans (hb.mono bb.out.size))
    clear hb
    go_wp2_with fail
    refine (psum_sany e0.out _ _ _ hn _ p.out).mono ?_
    rintro e w3 ⟨rfl, hb⟩
    have szw3 := hb.size
    replace p := Lib.hid (p.out.bel hb)
    replace bb := Lib.hid (bb.out.trans (hb.mono bb.out.size))
    clear hb
    go_wp2_with fail
    go_ret
    exact ⟨rfl, bb.out⟩
  obtain ⟨K, rfl⟩ := Int.eq_ofNat_of_zero_le hv.2
  have hP := Lib.hid (Par.of hv.1)
  have hn6 := p.out.six hP.out
  clear hv
  obtain ⟨A, hA⟩ : ∃ A, psum xs K = A := ⟨_, rfl⟩
  have bA := hP.out.psum_36 K
  rw [hA] at bA
  have eA := Lib.hid hA
  go_wp2_with fail
  refine (psum_ok hP.out K eA.out _ _ _ hc _ p.out).mono ?_
  rintro e w4 ⟨rfl, hb⟩
  have szw4 := hb.size
  replace p := Lib.hid (p.out.bel hb)
  replace bb := Lib.hid (bb.out.trans (hb.mono bb.out.size))
  clear hb
  go_wp2_with fail
  refine (psum_sok hP.out K eA.out _ _ _ _ p.out).mono ?_
  rintro e w5 ⟨rfl, hb⟩
  have szw5 := hb.size
  replace p := Lib.hid (p.out.bel hb)
  replace bb := Lib.hid (bb.out.trans (hb.mono bb.out.size))
  clear hb
  have c0 := fun w hR => psum_ok hP.out 0 (psum_zero xs) s n c hc w hR
  rw [show ((0 : Nat) : Int) = 0 from rfl] at c0
  replace c0 := Lib.hid c0
  clear hA
  by_cases hKn : K < n
  case neg =>
    go_wp2_with fail
    refine (c0.out _ p.out).mono ?_
    rintro e w6 ⟨rfl, hb⟩
    have szw6 := hb.size
    replace p := Lib.hid (p.out.bel hb)
    replace bb := Lib.hid (bb.out.trans (hb.mono bb.out.size))
    clear hb
    go_wp2_with fail
    go_ret
    exact ⟨rfl, bb.out⟩
  obtain ⟨A2, hA2⟩ : ∃ A2, psum xs (K + 1) = A2 := ⟨_, rfl⟩
  have b1 := hP.out.bd' K
  obtain ⟨b, off, rfl, pc⟩ := row_at p.out hKn
  obtain ⟨x, hx⟩ : ∃ x, xs.getD K 0 = x := ⟨_, rfl⟩
  rw [hx] at b1 pc
  have hs : A2 = A + x := by rw [← eA.out, ← hA2, psum_succ, hx]
  rw [hs] at hA2
  have eA2 := Lib.hid hA2
  have cn := fun w hR => psum_ok hP.out (K + 1) eA2.out (some ⟨b, off, none⟩) n c hc w hR
  rw [show ((K + 1 : Nat) : Int) = (K : Int) + 1 by omega] at cn
  replace cn := Lib.hid cn
  have ev1 : IntKind.i64.wrap ((K : Int) + 1) = (K : Int) + 1 := IntWalk.i64_in _ ⟨by omega, by omega⟩
  have ev2 : IntKind.i64.wrap (A + x) = A + x := IntWalk.i64_in _ ⟨by omega, by omega⟩
  clear hA2 hs hx A2
  have tok0 : True := trivial
  go_wp2_with fail
  go_region_law (first | ((go_simp; go_at_call 30; have _t := tok0; (with_reducible refine (cn.out _ (p.out.bel ((Below.refl _ _).drew))).mono ?_); rintro e w7 ⟨rfl, hb⟩; have szw7 := hb.size; replace pc := kept hb (block_lt (show w5.drew.cell? _ = _ from pc)) (show w5.drew.cell? _ = _ from pc); replace p := Lib.hid ((p.out.bel ((Below.refl _ _).drew)).bel hb); replace bb := Lib.hid (bb.out.drew.trans (hb.mono bb.out.drew.size)); clear hb tok0 _t; have tok1 : True := trivial)) | ((go_simp; go_at_call 30; have _t := tok1; (with_reducible refine (c0.out _ p.out).mono ?_); rintro e w8 ⟨rfl, hb⟩; have szw8 := hb.size; replace pc := kept hb (block_lt pc) pc; replace p := Lib.hid (p.out.bel hb); replace bb := Lib.hid (bb.out.trans (hb.mono bb.out.size)); clear hb tok1 _t; have tok2 : True := trivial)))
  all_goals
    go_wp2_with fail
    go_ret
    exact ⟨rfl, bb.out⟩

set_option maxRecDepth 100000 in
theorem lifted (os : Os) (started : os.Started) (H : Type) (enc : TypeId × Value → H) :
    ReturnsInHanded {} Try.checked os 13 .any (Rows.fnPartSumPartsSpec.pre6 enc Try.prog Try.f13 Rows.fnPartSumPartsRow.domain false) (Rows.fnPartSumPartsSpec.post enc Try.prog Try.f13 false true false false) := by
  refine returnsInHanded_of_change (C := Try.checked) own started (by kernel_rfl) Try.func13
    (ChangeSpec.witness6 (enc := enc) (C := Try.checked) false ⟨#[], #[.slice none 0 0], []⟩ 8 (by kernel_rfl) (by kernel_rfl) (by kernel_rfl) (by kernel_rfl)) ?_
  intro W base args ds gs before hval0 hW hcnd _
  have hval : ∀ (j : Nat) t v, Try.f13.params[j]? = some t → args[j]? = some v → Value.okWide Try.prog W .any base t v := hval0
  have hW' := hW
  obtain ⟨p, q, hA0, hV, rfl, hfz, hnd⟩ := hW
  have hA : DataW.TrodAll enc Try.prog W 0 (fun _ => true) true Try.f13.params.toList args.toList ds p := hA0
  rw [Try.params13] at hA hval
  obtain ⟨v0, vs0, d0, ds0, p0, q0, hargs, rfl, rfl, h0, r0⟩ := trodAll_cons hA
  obtain ⟨rfl, rfl, rfl⟩ := trodAll_nil r0
  obtain rfl : args = #[v0] := by cases args; simp_all
  obtain ⟨rfl, rfl⟩ := trodVars_none hV
  have k0 := h0
  have lt0 : ∀ x ∈ p0, x.block < W.heap.size := by obtain ⟨m, hm⟩ := k0; exact DataW.trod_lt m _ _ _ hm
  obtain ⟨a0, len0, cap0, z0, rfl, w0, l0, m0⟩ := open_code (hval 0 22 v0 rfl rfl) h0
  clear hA0 hval0
  refine (walk a0 len0 cap0 z0 W w0 l0 m0).mono fun e W' ⟨he, bel⟩ => ?_
  subst he
  exact ⟨_, rfl, _, _, _, [], _, [], hW', trodAll_mk1 (shut_bool Try.underlying4 _), (trodAll_cons_mk (Below.trod laidOut (by kernel_rfl) (of_decide_eq_true (by kernel_rfl)) k0 bel lt0) trodAll_mk0), rfl, bel.frame _, fun h => by cases h⟩

theorem closed : joinedFacts Try.prog 13 Try.f13 Rows.fnPartSumPartsSpec Rows.fnPartSumPartsRow = true := by
  simp only [joinedFacts, Bool.and_eq_true]
  repeat' apply And.intro
  all_goals first | with_reducible exact mayEnterOk | (with_reducible rw [liftsFinalOk]; kernel_rfl) | (with_reducible rw [makeOk]; kernel_rfl) | kernel_rfl

theorem over : Rows.fnPartSumPartsRow.holds Try.pinned (OpenSpec.ofChange Rows.fnPartSumPartsSpec) :=
  OpenClaim.holds_of_wide 13 Try.f13 rfl rfl rfl rfl rfl rfl rfl ⟨rfl, rfl, rfl, rfl, rfl⟩ rfl rfl rfl rfl rfl (by kernel_rfl) Try.func13 closed
    (of_decide_eq_true (by kernel_rfl)) (by unfold Func.isWrapper; first | (rw [if_pos (by decide +kernel)]; kernel_rfl) | (rw [if_neg (by decide +kernel)]; exact ⟨rfl, rfl⟩))
    (fun os started H enc _ => lifted os started H enc)

theorem proved : Rows.FnPartSumPartsSaid := over
#print axioms proved
end Go.Proofs.Ythllfkgceoenbaa.LFPartSumParts

