/-
  For every slice of bytes the law FnSumsFitSame answers true: images that have the same sums fit each other's sums; nothing that was there is written; no condition.
-/
import Derived.Test.YtgifpanbjlkmeaaO
import Derived.Test.YtgifpanbjlkmeaaZ
import Derived.Deep.RegionLaw
import Derived.Test.YtgifpanbjlkmeaaSo
import Derived.Test.YtgifpanbjlkmeaaSd
namespace Go.Proofs.Ytgifpanbjlkmeaa.LFSumsFitSame
open Go.ChangeShapes Go.WideShapes Go.ChangeAt Go.RowKit Go.Joins

set_option maxHeartbeats 6000000 in
set_option maxRecDepth 100000 in
theorem walk (a : Option Addr) (len cap : Nat) (zs : List Int) (w : World) (h : Bys w a len zs) (hl : len ≤ cap) (hm : cap ≤ 9223372036854775807) :
    Calls Try.prog 9 #[.slice a len cap] w fun e w' => e = .returned (.bool true) ∧ Below w.heap.size w w' := by
  by_cases hbig : 1048576 < len
  · clear h
    go_enter Try.func9, Try.ntmps9
    go_wp2_with fail
    go_ret
    exact ⟨rfl, Below.refl _ _⟩
  go_enter Try.func9, Try.ntmps9
  go_wp2_with fail
  refine (draw_DrawSumsSame a len cap zs _ h hl hm).mono ?_
  rintro e w1 ⟨V, s, n, cg, xs, V2, t, m, ch, ys, rfl, hX, hY, hnm, hb1⟩
  clear h hl hm
  have bb := Lib.hid hb1
  have p := Lib.hid hX
  have q := Lib.hid hY
  obtain ⟨w2, hw2⟩ : ∃ w2, w2 = (w1.alloc (.cells #[.int .i64 V, .slice s n cg] 25)).alloc (.cells #[.int .i64 V2, .slice t m ch] 25) := ⟨_, rfl⟩
  have hb : Below w1.heap.size w1 w2 := by subst hw2; exact ((Below.refl _ _).alloc (Nat.le_refl _) _).alloc (by simp) _
  have p0 : w2.cell? ⟨w1.heap.size, 0, none⟩ = some (.int .i64 V) := by subst hw2; go_simp
  have p1 : w2.cell? ⟨w1.heap.size, 1, none⟩ = some (.slice s n cg) := by subst hw2; go_simp
  have q0 : w2.cell? ⟨w1.heap.size + 1, 0, none⟩ = some (.int .i64 V2) := by subst hw2; go_simp
  have q1 : w2.cell? ⟨w1.heap.size + 1, 1, none⟩ = some (.slice t m ch) := by subst hw2; go_simp
  clear hX hY hb1
  have szw2 := hb.size
  replace p := Lib.hid (p.out.bel hb)
  replace q := Lib.hid (q.out.bel hb)
  replace bb := Lib.hid (bb.out.trans (hb.mono bb.out.size))
  clear hb
  go_wp2_with fail
  rw [← hw2]
  clear hw2
  obtain ⟨B, hB⟩ : ∃ B, sameB V xs V2 ys = B := ⟨_, rfl⟩
  refine (same_impl V V2 s t n m cg ch xs ys _ p.out q.out (by omega) (by omega)).mono ?_
  rintro e w3 ⟨rfl, hb⟩
  have szw3 := hb.size
  replace p0 := kept hb (block_lt p0) p0
  replace p1 := kept hb (block_lt p1) p1
  replace q0 := kept hb (block_lt q0) q0
  replace q1 := kept hb (block_lt q1) q1
  replace p := Lib.hid (p.out.bel hb)
  replace q := Lib.hid (q.out.bel hb)
  replace bb := Lib.hid (bb.out.trans (hb.mono bb.out.size))
  clear hb
  go_wp2_with fail
  refine (same_spec2 V V2 s t n m cg ch xs ys _ p.out q.out (by omega) (by omega)).mono ?_
  rintro e w4 ⟨rfl, hb⟩
  have szw4 := hb.size
  replace p0 := kept hb (block_lt p0) p0
  replace p1 := kept hb (block_lt p1) p1
  replace q0 := kept hb (block_lt q0) q0
  replace q1 := kept hb (block_lt q1) q1
  replace p := Lib.hid (p.out.bel hb)
  replace q := Lib.hid (q.out.bel hb)
  replace bb := Lib.hid (bb.out.trans (hb.mono bb.out.size))
  clear hb
  rw [hB]
  by_cases hv : B = true
  case neg =>
    have hv : B = false := by simpa using hv
    subst hv
    go_wp2_with fail
    go_ret
    exact ⟨rfl, bb.out⟩
  subst hv
  have hs := same_parts hB
  obtain ⟨hv1, hv2, hrs, hcs⟩ := hs
  have hI0 := validB_W hv1
  have hI1 := validB_W hv2
  obtain ⟨W, rfl⟩ := Int.eq_ofNat_of_zero_le (by omega : 0 ≤ V)
  obtain ⟨W2, rfl⟩ := Int.eq_ofNat_of_zero_le (by omega : 0 ≤ V2)
  have hI : Im W n xs := Im.of hv1 p.out.1
  have hJ : Im W2 m ys := Im.of hv2 q.out.1
  rw [hI.rs, hJ.rs] at hrs
  rw [hI.cs, hJ.cs] at hcs
  have e1 : n = m := by have := congrArg List.length hrs; rwa [rs_len, rs_len] at this
  have e2 : W = W2 := by have := congrArg List.length hcs; rwa [cs_len, cs_len] at this
  subst e1 e2
  have hW6 := hI.w6
  have hW1 := hI.w1
  have hn1 := hI.l1
  have hn6 := hI.l6
  clear hv1 hv2 hI0 hI1 hB
  have f1 : fitB W ys (rsL xs W n) (csL xs n W) = true := fitB_4 hJ.valid (decide_eq_true (hJ.rs.trans hrs.symm)) (decide_eq_true (hJ.cs.trans hcs.symm))
  have f2 : fitB W xs (rsL ys W n) (csL ys n W) = true := fitB_4 hI.valid (decide_eq_true (hI.rs.trans hrs)) (decide_eq_true (hI.cs.trans hcs))
  have f3 : sameB W ys W ys = true := by unfold sameB; rw [hJ.rs, hJ.cs]; exact fitB_4 hJ.valid (decide_eq_true hJ.rs) (decide_eq_true hJ.cs)
  have f1 := Lib.hid f1
  have f2 := Lib.hid f2
  have f3 := Lib.hid f3
  replace hI := Lib.hid hI
  replace hJ := Lib.hid hJ
  clear hrs hcs
  have tok0 : True := trivial
  go_wp2_with fail
  have p_ := p.out
  have q_ := q.out
  have bb_ := bb.out
  go_region_held3 (fun W' => W'.cell? ⟨w1.heap.size, 0, none⟩ = some (.int .i64 W) ∧ W'.cell? ⟨w1.heap.size, 1, none⟩ = some (.slice s n cg) ∧ W'.cell? ⟨w1.heap.size + 1, 0, none⟩ = some (.int .i64 W) ∧ W'.cell? ⟨w1.heap.size + 1, 1, none⟩ = some (.slice t n ch) ∧ Row W' s n xs ∧ Row W' t n ys ∧ Below w.heap.size w W')
    (first | exact heldTwo ⟨p0, p1, q0, q1, p_, q_, bb_⟩ ((Below.refl _ _).drew) | (refine heldTwo ?_ (by assumption); assumption))
    (first | (go_at_call 19; have _t := tok0; have hS := ‹_ ∧ _ ∧ _ ∧ _ ∧ Row _ _ _ _ ∧ Row _ _ _ _ ∧ Below _ _ _›; (refine (rs_ok hI.out _ _ _ hS.2.2.2.2.1).mono ?_); rintro e w5 ⟨⟨ao1, co1, rfl, ho⟩, hb⟩; have o1 := Lib.hid ho.row; clear hS tok0 _t ho; have tok1 : True := trivial) | (go_at_call 25; have _t := tok1; have hS := ‹_ ∧ _ ∧ _ ∧ _ ∧ Row _ _ _ _ ∧ Row _ _ _ _ ∧ Below _ _ _›; (refine (cs_ok hI.out _ _ _ hS.2.2.2.2.1).mono ?_); rintro e w6 ⟨⟨ao2, co2, rfl, ho⟩, hb⟩; have o2 := Lib.hid ho.row; replace o1 := Lib.hid (o1.out.bel hb); clear hS tok1 _t ho; have tok2 : True := trivial) | (go_at_call 33; have _t := tok2; have hS := ‹_ ∧ _ ∧ _ ∧ _ ∧ Row _ _ _ _ ∧ Row _ _ _ _ ∧ Below _ _ _›; (refine (fit_impl W t _ _ n n W ch _ _ ys _ _ _ hS.2.2.2.2.2.1 o1.out o2.out (by omega) (by omega) (by omega)).mono ?_); rw [f1.out]; rintro e w7 ⟨rfl, hb⟩; replace o1 := Lib.hid (o1.out.bel hb); replace o2 := Lib.hid (o2.out.bel hb); clear hS tok2 _t; have tok3 : True := trivial) | (go_at_call 19; have _t := tok3; have hS := ‹_ ∧ _ ∧ _ ∧ _ ∧ Row _ _ _ _ ∧ Row _ _ _ _ ∧ Below _ _ _›; (refine (rs_ok hJ.out _ _ _ hS.2.2.2.2.2.1).mono ?_); rintro e w8 ⟨⟨ao3, co3, rfl, ho⟩, hb⟩; have o3 := Lib.hid ho.row; replace o1 := Lib.hid (o1.out.bel hb); replace o2 := Lib.hid (o2.out.bel hb); clear hS tok3 _t ho; have tok4 : True := trivial) | (go_at_call 25; have _t := tok4; have hS := ‹_ ∧ _ ∧ _ ∧ _ ∧ Row _ _ _ _ ∧ Row _ _ _ _ ∧ Below _ _ _›; (refine (cs_ok hJ.out _ _ _ hS.2.2.2.2.2.1).mono ?_); rintro e w9 ⟨⟨ao4, co4, rfl, ho⟩, hb⟩; have o4 := Lib.hid ho.row; replace o1 := Lib.hid (o1.out.bel hb); replace o2 := Lib.hid (o2.out.bel hb); replace o3 := Lib.hid (o3.out.bel hb); clear hS tok4 _t ho; have tok5 : True := trivial) | (go_at_call 33; have _t := tok5; have hS := ‹_ ∧ _ ∧ _ ∧ _ ∧ Row _ _ _ _ ∧ Row _ _ _ _ ∧ Below _ _ _›; (refine (fit_impl W s _ _ n n W cg _ _ xs _ _ _ hS.2.2.2.2.1 o3.out o4.out (by omega) (by omega) (by omega)).mono ?_); rw [f2.out]; rintro e w10 ⟨rfl, hb⟩; replace o1 := Lib.hid (o1.out.bel hb); replace o2 := Lib.hid (o2.out.bel hb); replace o3 := Lib.hid (o3.out.bel hb); replace o4 := Lib.hid (o4.out.bel hb); clear hS tok5 _t; have tok6 : True := trivial) | (go_at_call 36; have _t := tok6; have hS := ‹_ ∧ _ ∧ _ ∧ _ ∧ Row _ _ _ _ ∧ Row _ _ _ _ ∧ Below _ _ _›; (refine (same_impl W W t t n n ch ch ys ys _ hS.2.2.2.2.2.1 hS.2.2.2.2.2.1 (by omega) (by omega)).mono ?_); rw [f3.out]; rintro e w11 ⟨rfl, hb⟩; replace o1 := Lib.hid (o1.out.bel hb); replace o2 := Lib.hid (o2.out.bel hb); replace o3 := Lib.hid (o3.out.bel hb); replace o4 := Lib.hid (o4.out.bel hb); clear hS tok6 _t; have tok7 : True := trivial))
  go_wp2_with fail
  go_ret
  exact ⟨rfl, And.right (And.right (And.right (And.right (And.right (And.right ‹_ ∧ _ ∧ _ ∧ _ ∧ Row _ _ _ _ ∧ _›)))))⟩

set_option maxRecDepth 100000 in
theorem lifted (os : Os) (started : os.Started) (H : Type) (enc : TypeId × Value → H) :
    ReturnsInHanded {} Try.checked os 9 .any (Rows.fnSumsFitSameSpec.pre6 enc Try.prog Try.f9 Rows.fnSumsFitSameRow.domain false) (Rows.fnSumsFitSameSpec.post enc Try.prog Try.f9 false true false false) := by
  refine returnsInHanded_of_change (C := Try.checked) own started (by kernel_rfl) Try.func9
    (ChangeSpec.witness6 (enc := enc) (C := Try.checked) false ⟨#[], #[.slice none 0 0], []⟩ 8 (by kernel_rfl) (by kernel_rfl) (by kernel_rfl) (by kernel_rfl)) ?_
  intro W base args ds gs before hval0 hW hcnd _
  have hval : ∀ (j : Nat) t v, Try.f9.params[j]? = some t → args[j]? = some v → Value.okWide Try.prog W .any base t v := hval0
  have hW' := hW
  obtain ⟨p, q, hA0, hV, rfl, hfz, hnd⟩ := hW
  have hA : DataW.TrodAll enc Try.prog W 0 (fun _ => true) true Try.f9.params.toList args.toList ds p := hA0
  rw [Try.params9] at hA hval
  obtain ⟨v0, vs0, d0, ds0, p0, q0, hargs, rfl, rfl, h0, r0⟩ := trodAll_cons hA
  obtain ⟨rfl, rfl, rfl⟩ := trodAll_nil r0
  obtain rfl : args = #[v0] := by cases args; simp_all
  obtain ⟨rfl, rfl⟩ := trodVars_none hV
  have k0 := h0
  have lt0 : ∀ x ∈ p0, x.block < W.heap.size := by obtain ⟨m, hm⟩ := k0; exact DataW.trod_lt m _ _ _ hm
  obtain ⟨a0, len0, cap0, z0, rfl, w0, l0, m0⟩ := open_code (hval 0 22 v0 rfl rfl) h0
  clear hA0 hval0
  refine (walk a0 len0 cap0 z0 W w0 l0 m0).mono fun e W' ⟨he, bel⟩ => ?_
  subst he
  exact ⟨_, rfl, _, _, _, [], _, [], hW', trodAll_mk1 (shut_bool Try.underlying4 _), (trodAll_cons_mk (Below.trod laidOut (by kernel_rfl) (of_decide_eq_true (by kernel_rfl)) k0 bel lt0) trodAll_mk0), rfl, bel.frame _, fun h => by cases h⟩

theorem closed : joinedFacts Try.prog 9 Try.f9 Rows.fnSumsFitSameSpec Rows.fnSumsFitSameRow = true := by
  simp only [joinedFacts, Bool.and_eq_true]
  repeat' apply And.intro
  all_goals first | with_reducible exact mayEnterOk | (with_reducible rw [liftsFinalOk]; kernel_rfl) | (with_reducible rw [makeOk]; kernel_rfl) | kernel_rfl

theorem over : Rows.fnSumsFitSameRow.holds Try.pinned (OpenSpec.ofChange Rows.fnSumsFitSameSpec) :=
  OpenClaim.holds_of_wide 9 Try.f9 rfl rfl rfl rfl rfl rfl rfl ⟨rfl, rfl, rfl, rfl, rfl⟩ rfl rfl rfl rfl rfl (by kernel_rfl) Try.func9 closed
    (of_decide_eq_true (by kernel_rfl)) (by unfold Func.isWrapper; first | (rw [if_pos (by decide +kernel)]; kernel_rfl) | (rw [if_neg (by decide +kernel)]; exact ⟨rfl, rfl⟩))
    (fun os started H enc _ => lifted os started H enc)

theorem proved : Rows.FnSumsFitSameSaid := over
#print axioms proved
end Go.Proofs.Ytgifpanbjlkmeaa.LFSumsFitSame

