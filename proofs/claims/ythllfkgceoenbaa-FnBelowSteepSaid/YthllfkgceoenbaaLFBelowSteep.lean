/-
  For every slice of bytes the law FnBelowSteep answers true: the partition of ones is below both, and the first one is below the partition of one element; nothing that was there is written; no condition.
-/
import Derived.Test.YthllfkgceoenbaaO
import Derived.Test.YthllfkgceoenbaaZ
import Derived.Deep.RegionLaw
import Derived.Test.YthllfkgceoenbaaPk
namespace Go.Proofs.Ythllfkgceoenbaa.LFBelowSteep
open Go.ChangeShapes Go.WideShapes Go.ChangeAt Go.RowKit Go.Joins

set_option maxHeartbeats 1000000 in
set_option maxRecDepth 100000 in
theorem walk (a : Option Addr) (len cap : Nat) (zs : List Int) (w : World) (h : Bys w a len zs) (hl : len ≤ cap) (hm : cap ≤ 9223372036854775807) :
    Calls Try.prog 14 #[.slice a len cap] w fun e w' => e = .returned (.bool true) ∧ Below w.heap.size w w' := by
  by_cases hbig : 1048576 < len
  · clear h
    go_enter Try.func14, Try.ntmps14
    go_wp2_with fail
    go_ret
    exact ⟨rfl, Below.refl _ _⟩
  go_enter Try.func14, Try.ntmps14
  go_wp2_with fail
  refine (draw_DrawPartBelow a len cap zs _ h hl hm).mono ?_
  rintro e w1 ⟨s, n, c, xs, s2, n2, c2, ys, rfl, hR, hR2, hn, hc, hb1⟩
  clear h hl hm
  have bb := Lib.hid hb1
  have p := Lib.hid hR
  have q := Lib.hid hR2
  have lx := hR.1
  have ly := hR2.1
  clear hR hR2 hb1
  by_cases hv : belowB xs ys = true
  case neg =>
    have hv : belowB xs ys = false := by simpa using hv
    replace hv := Lib.hid hv
    go_wp2_with fail
    refine (below_ok hv.out _ _ _ _ _ _ hc.1 hc.2 hn.1 hn.2 _ p.out q.out).mono ?_
    rintro e w2 ⟨rfl, hb⟩
    have szw2 := hb.size
    replace p := Lib.hid (p.out.bel hb)
    replace q := Lib.hid (q.out.bel hb)
    replace bb := Lib.hid (bb.out.trans (hb.mono bb.out.size))
    clear hb
    go_wp2_with fail
    refine (below_sok hv.out _ _ _ _ _ _ hn.1 hn.2 _ p.out q.out).mono ?_
    rintro e w3 ⟨rfl, hb⟩
    have szw3 := hb.size
    replace p := Lib.hid (p.out.bel hb)
    replace q := Lib.hid (q.out.bel hb)
    replace bb := Lib.hid (bb.out.trans (hb.mono bb.out.size))
    clear hb
    go_wp2_with fail
    go_ret
    exact ⟨rfl, bb.out⟩
  have hB := Lib.hid (Bel.of hv)
  replace hv := Lib.hid hv
  have hn6 := p.out.six hB.out.pa
  have hm6 := q.out.six hB.out.pb
  go_wp2_with fail
  refine (below_ok hv.out _ _ _ _ _ _ hc.1 hc.2 hn.1 hn.2 _ p.out q.out).mono ?_
  rintro e w4 ⟨rfl, hb⟩
  have szw4 := hb.size
  replace p := Lib.hid (p.out.bel hb)
  replace q := Lib.hid (q.out.bel hb)
  replace bb := Lib.hid (bb.out.trans (hb.mono bb.out.size))
  clear hb
  go_wp2_with fail
  refine (below_sok hv.out _ _ _ _ _ _ hn.1 hn.2 _ p.out q.out).mono ?_
  rintro e w5 ⟨rfl, hb⟩
  have szw5 := hb.size
  replace p := Lib.hid (p.out.bel hb)
  replace q := Lib.hid (q.out.bel hb)
  replace bb := Lib.hid (bb.out.trans (hb.mono bb.out.size))
  clear hb
  obtain ⟨N, hN⟩ : ∃ N : Nat, psum xs xs.length = N := ⟨(psum xs xs.length).toNat, by have := hB.out.pa.psum_36 xs.length; omega⟩
  have hN36 : N ≤ 36 := by have := hB.out.pa.psum_36 xs.length; omega
  have eN := Lib.hid hN
  have c0 := fun w hR => psum_ok hB.out.pa 0 (psum_zero xs) s n c hc.1 w hR
  rw [show ((0 : Nat) : Int) = 0 from rfl] at c0
  replace c0 := Lib.hid c0
  clear hN
  go_wp2_with fail
  refine (sum_ok hB.out.pa eN.out _ _ _ _ p.out).mono ?_
  rintro e w6 ⟨rfl, hb⟩
  have szw6 := hb.size
  replace p := Lib.hid (p.out.bel hb)
  replace q := Lib.hid (q.out.bel hb)
  replace bb := Lib.hid (bb.out.trans (hb.mono bb.out.size))
  clear hb
  by_cases h6 : N ≤ 6
  case neg =>
    go_wp2_with fail
    refine (c0.out _ p.out).mono ?_
    rintro e w7 ⟨rfl, hb⟩
    have szw7 := hb.size
    replace p := Lib.hid (p.out.bel hb)
    replace q := Lib.hid (q.out.bel hb)
    replace bb := Lib.hid (bb.out.trans (hb.mono bb.out.size))
    clear hb
    go_wp2_with fail
    go_ret
    exact ⟨rfl, bb.out⟩
  have k1 := Lib.hid (Bel.steep hB.out.pa eN.out (by omega)).yes
  have k2 := Lib.hid (Bel.flat hB.out.pa eN.out h6).yes
  have k3 := Lib.hid ((Bel.flat hB.out.pa eN.out h6).trans hB.out).yes
  obtain ⟨i0, hi, hz0, hz1, hz2⟩ := info_parts infoInt
  obtain ⟨W0, hW0⟩ : ∃ W0, W0 = w6.alloc (.cells #[] 3) := ⟨_, rfl⟩
  have hb0 : Below w6.heap.size w6 W0 := by subst hW0; exact (Below.refl _ _).alloc (Nat.le_refl _) _
  have ho : OwnI W0 w6.heap.size (some ⟨w6.heap.size, 0, none⟩) 0 0 [] := by subst hW0; exact own_empty w6 w6.heap.size w6.heap.size rfl (Nat.le_refl _)
  replace hb0 := Lib.hid hb0
  replace ho := Lib.hid ho
  go_wp2_with fail
  rw [← hW0]
  clear hW0
  go_loopw [8, 9] (fun o i wr => ∃ (j : Nat) (sf : Option Addr) (cf : Nat), j ≤ N ∧ i = .int .i64 j ∧ o = .slice sf j cf ∧ Hid (OwnI wr w6.heap.size sf j cf (flatL j)) ∧ Hid (Below w6.heap.size w6 wr)) (fun _ i _ => N - (intOf i).toNat)
  case atStart => exact ⟨0, _, 0, by omega, rfl, rfl, ho, hb0⟩
  case round =>
    obtain ⟨j, sf, cf, hj, rfl, rfl, hO, hb⟩ := hrel
    clear ho hb0
    by_cases hlt : j < N
    · have hsn := Lib.hid (flat_snoc j)
      generalize flatL j = L at hO hsn
      have hBw := hb.out.size
      go_wp2_with (at_builtin; refine wpList_append_own _ rfl _ _ 23 rfl w6.heap.size 3 i0 (.int .i64 0) 1 8 Try.underlying23 hi hz0 hz1 hz2 rfl (by decide) _ j (L.map (Value.int .i64)) rfl (World.ownsRow.alloc hO.out _) ⟨wr.heap.size, 0, none⟩ 1 1 [.int .i64 1] rfl rfl ?c1 ?c2 ?c3 ?c4 ?c5 ?_)
      all_goals (first | with_reducible exact one_new _ _ | skip)
      case c2 => first | rfl | exact one_cell _
      case c3 => unfold maxLen; omega
      case c4 => omega
      case c5 => first | omega | (simp; omega)
      intro v' w3 hown hgr _
      obtain ⟨a', cap', rfl, ho3⟩ := own_of (xs := flatL (j + 1)) (by rw [hsn.out, List.map_append]; exact hown)
      have hb3 := app_bel hO.out hgr rfl hBw
      have hB3 := Lib.hid (hb.out.trans (hb3.mono (Nat.le_refl _)))
      replace ho3 := Lib.hid ho3
      clear hown hgr hb3 hO hb
      go_wp2_with fail
      exact ⟨⟨j + 1, a', cap', by omega, by go_num, rfl, ho3, hB3⟩, by simp [intOf]; omega⟩
    · have : j = N := by omega
      subst this
      have hb := hb.out
      have f := Lib.hid hO.out.row
      have kf := own_cap hO.out
      clear hO
      have szwr := hb.size
      replace p := Lib.hid (p.out.bel hb)
      replace q := Lib.hid (q.out.bel hb)
      replace bb := Lib.hid (bb.out.trans (hb.mono bb.out.size))
      clear hb
      have hbx : Below wr.heap.size wr (wr.alloc (.cells #[.int .i64 (j : Int)] 3)) := (Below.refl _ _).alloc (Nat.le_refl _) _
      have one : Row (wr.alloc (.cells #[.int .i64 (j : Int)] 3)) (some ⟨wr.heap.size, 0, none⟩) 1 [(j : Int)] := ⟨rfl, .inr ⟨_, 0, rfl, fun i hi => by
        have : i = 0 := by omega
        subst this; simp⟩⟩
      replace one := Lib.hid one
      replace p := Lib.hid (p.out.bel hbx)
      replace q := Lib.hid (q.out.bel hbx)
      replace f := Lib.hid (f.out.bel hbx)
      replace bb := Lib.hid (bb.out.trans (hbx.mono bb.out.size))
      clear hbx
      go_wp2_with fail
      refine (below_ok k1.out _ _ _ _ 1 1 hc.1 (Nat.le_refl _) hn.1 (by omega) _ p.out one.out).mono ?_
      rintro e w20 ⟨rfl, hb⟩
      replace p := Lib.hid (p.out.bel hb)
      replace q := Lib.hid (q.out.bel hb)
      replace f := Lib.hid (f.out.bel hb)
      replace one := Lib.hid (one.out.bel hb)
      replace bb := Lib.hid (bb.out.trans (hb.mono bb.out.size))
      clear hb
      go_wp2_with fail
      refine (below_ok k2.out _ _ _ _ _ _ kf hc.1 (by omega) hn.1 _ f.out p.out).mono ?_
      rintro e w21 ⟨rfl, hb⟩
      have szw21 := hb.size
      replace p := Lib.hid (p.out.bel hb)
      replace q := Lib.hid (q.out.bel hb)
      replace f := Lib.hid (f.out.bel hb)
      replace one := Lib.hid (one.out.bel hb)
      replace bb := Lib.hid (bb.out.trans (hb.mono bb.out.size))
      clear hb
      go_wp2_with fail
      refine (below_ok k3.out _ _ _ _ _ _ kf hc.2 (by omega) hn.2 _ f.out q.out).mono ?_
      rintro e w22 ⟨rfl, hb⟩
      have szw22 := hb.size
      replace p := Lib.hid (p.out.bel hb)
      replace q := Lib.hid (q.out.bel hb)
      replace f := Lib.hid (f.out.bel hb)
      replace one := Lib.hid (one.out.bel hb)
      replace bb := Lib.hid (bb.out.trans (hb.mono bb.out.size))
      clear hb
      go_wp2_with fail
      go_ret
      exact ⟨rfl, bb.out⟩

set_option maxRecDepth 100000 in
theorem lifted (os : Os) (started : os.Started) (H : Type) (enc : TypeId × Value → H) :
    ReturnsInHanded {} Try.checked os 14 .any (Rows.fnBelowSteepSpec.pre6 enc Try.prog Try.f14 Rows.fnBelowSteepRow.domain false) (Rows.fnBelowSteepSpec.post enc Try.prog Try.f14 false true false false) := by
  refine returnsInHanded_of_change (C := Try.checked) own started (by kernel_rfl) Try.func14
    (ChangeSpec.witness6 (enc := enc) (C := Try.checked) false ⟨#[], #[.slice none 0 0], []⟩ 8 (by kernel_rfl) (by kernel_rfl) (by kernel_rfl) (by kernel_rfl)) ?_
  intro W base args ds gs before hval0 hW hcnd _
  have hval : ∀ (j : Nat) t v, Try.f14.params[j]? = some t → args[j]? = some v → Value.okWide Try.prog W .any base t v := hval0
  have hW' := hW
  obtain ⟨p, q, hA0, hV, rfl, hfz, hnd⟩ := hW
  have hA : DataW.TrodAll enc Try.prog W 0 (fun _ => true) true Try.f14.params.toList args.toList ds p := hA0
  rw [Try.params14] at hA hval
  obtain ⟨v0, vs0, d0, ds0, p0, q0, hargs, rfl, rfl, h0, r0⟩ := trodAll_cons hA
  obtain ⟨rfl, rfl, rfl⟩ := trodAll_nil r0
  obtain rfl : args = #[v0] := by cases args; simp_all
  obtain ⟨rfl, rfl⟩ := trodVars_none hV
  have k0 := h0
  have lt0 : ∀ x ∈ p0, x.block < W.heap.size := by obtain ⟨m, hm⟩ := k0; exact DataW.trod_lt m _ _ _ hm
  obtain ⟨a0, len0, cap0, z0, rfl, w0, l0, m0⟩ := open_code (hval 0 22 v0 rfl rfl) h0
  clear hA0 hval0
  refine (walk a0 len0 cap0 z0 W w0 l0 m0).mono fun e W' ⟨he, bel⟩ => ?_
  subst he
  exact ⟨_, rfl, _, _, _, [], _, [], hW', trodAll_mk1 (shut_bool Try.underlying4 _), (trodAll_cons_mk (Below.trod laidOut (by kernel_rfl) (of_decide_eq_true (by kernel_rfl)) k0 bel lt0) trodAll_mk0), rfl, bel.frame _, fun h => by cases h⟩

theorem closed : joinedFacts Try.prog 14 Try.f14 Rows.fnBelowSteepSpec Rows.fnBelowSteepRow = true := by
  simp only [joinedFacts, Bool.and_eq_true]
  repeat' apply And.intro
  all_goals first | with_reducible exact mayEnterOk | (with_reducible rw [liftsFinalOk]; kernel_rfl) | (with_reducible rw [makeOk]; kernel_rfl) | kernel_rfl

theorem over : Rows.fnBelowSteepRow.holds Try.pinned (OpenSpec.ofChange Rows.fnBelowSteepSpec) :=
  OpenClaim.holds_of_wide 14 Try.f14 rfl rfl rfl rfl rfl rfl rfl ⟨rfl, rfl, rfl, rfl, rfl⟩ rfl rfl rfl rfl rfl (by kernel_rfl) Try.func14 closed
    (of_decide_eq_true (by kernel_rfl)) (by unfold Func.isWrapper; first | (rw [if_pos (by decide +kernel)]; kernel_rfl) | (rw [if_neg (by decide +kernel)]; exact ⟨rfl, rfl⟩))
    (fun os started H enc _ => lifted os started H enc)

theorem proved : Rows.FnBelowSteepSaid := over
#print axioms proved
end Go.Proofs.Ythllfkgceoenbaa.LFBelowSteep

