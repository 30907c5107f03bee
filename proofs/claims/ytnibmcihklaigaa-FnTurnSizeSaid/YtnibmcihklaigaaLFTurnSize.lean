/-
  For every slice of bytes the law FnTurnSize answers true: turning exchanges height and width; nothing that was there is written; no condition.
-/
import Derived.Test.YtnibmcihklaigaaO
import Derived.Test.YtnibmcihklaigaaK
import Derived.Test.YtnibmcihklaigaaHc
import Derived.Test.YtnibmcihklaigaaA
namespace Go.Proofs.Ytnibmcihklaigaa.LFTurnSize
set_option maxRecDepth 100000
open Go.ChangeShapes Go.WideShapes Go.ChangeAt Go.RowKit Go.Joins

set_option maxHeartbeats 800000 in
theorem walk (a : Option Addr) (len cap : Nat) (zs : List Int) (w : World) (h : Bys w a len zs) (hl : len ≤ cap) (hm : cap ≤ 9223372036854775807) :
    Calls Try.prog 27 #[.slice a len cap] w fun e w' => e = .returned (.bool true) ∧ Below w.heap.size w w' := by
  by_cases hbig : 1048576 < len
  · clear h
    go_enter Try.func27, Try.ntmps27
    go_wp2_with fail
    go_ret
    exact ⟨rfl, Below.refl _ _⟩
  go_enter Try.func27, Try.ntmps27
  go_wp2_with fail
  refine (draw_DrawImageTurn a len cap zs _ h hl hm).mono ?_
  rintro e w1 ⟨W, s, n, cg, xs, rfl, hR, hn, hb1⟩
  clear h hl hm
  have hn' : n ≤ 9223372036854775807 := by omega
  have hC := (Ctx.nil hb1).push (W := W) (cg := cg) hR
  obtain ⟨R, hRe⟩ : ∃ R : Out, Hid (R = (if validB W xs = true then ⟨true, n, turnL xs W.toNat n⟩ else .no)) := ⟨_, rfl⟩
  clear hR hb1
  go_wp2_with fail
  have hT := turn_impl W s n cg xs _ hC.a0.row hn'
  rw [← hRe.out] at hT
  refine hT.mono ?_
  clear hT
  rintro e w2 ⟨⟨ao, co, rfl, ho⟩, hb⟩
  have hC2 := (hC.move hb).push (W := R.W) (cg := co) ho.row
  have x0 := hC2.a0.c0
  have x1 := hC2.a0.c1
  have y0 := hC2.a1.c0
  have y1 := hC2.a1.c1
  clear hb hC ho
  go_wp2_with fail
  have hT := turn_spec W s n cg xs _ hC2.a1.row hn'
  rw [← hRe.out] at hT
  refine hT.mono ?_
  clear hT
  rintro e w3 ⟨⟨aw, cw, rfl, ho⟩, hb⟩
  have hC3 := (hC2.move hb).push (W := R.W) (cg := cw) ho.row
  have x0 := hC3.a0.c0
  have x1 := hC3.a0.c1
  have y0 := hC3.a1.c0
  have y1 := hC3.a1.c1
  have z0 := hC3.a2.c0
  have z1 := hC3.a2.c1
  clear hb hC2 ho
  have hlR : R.xs.length ≤ 9223372036854775807 := by
    rw [hRe.out]
    have := turn_small W xs n
    omega
  go_wp2_with fail
  refine (sameImage_yes R.W ao aw R.xs.length co cw R.xs _ hC3.a1.row hC3.a0.row hlR).mono ?_
  rintro e w4 ⟨rfl, hb⟩
  have hC4 := hC3.move hb
  have x0 := hC4.a0.c0
  have x1 := hC4.a0.c1
  have y0 := hC4.a1.c0
  have y1 := hC4.a1.c1
  have z0 := hC4.a2.c0
  have z1 := hC4.a2.c1
  clear hb hC3
  by_cases hv : validB W xs = true
  case neg =>
    have hRe := hRe.out
    rw [if_neg hv] at hRe
    subst hRe
    go_wp2_with fail
    refine (sameImage_yes Out.no.W ao aw Out.no.xs.length co cw Out.no.xs _ hC4.a1.row hC4.a0.row hlR).mono ?_
    rintro e w5 ⟨rfl, hb⟩
    have hC5 := hC4.move hb
    clear hC4 hb
    go_wp2_with fail
    go_ret
    exact ⟨rfl, hC5.bel⟩
  have hRe := hRe.out
  rw [if_pos hv] at hRe
  subst hRe
  have hI0 := validB_W hv
  obtain ⟨W, rfl⟩ := Int.eq_ofNat_of_zero_le (by omega : 0 ≤ W)
  have hI := Im.of hv hC4.a2.row.1
  rw [Int.toNat_natCast] at *
  have hW6 := hI.w6
  clear x0 x1 y0 y1 z0 z1 hRe
  simp only [turn_len] at hC4 hlR ⊢
  have p0 := hC4.a2.c0
  have p1 := hC4.a2.c1
  have q0 := hC4.a1.c0
  have q1 := hC4.a1.c1
  have m1 : manyOf n (turnL xs W n) = manyI W xs n := hI.turn.many.trans hI.turn_many
  have m2 : manyOf W xs = manyI W xs n := hI.many
  have ra := hC4.a2.row
  have ro := hC4.a1.row
  have bb := hC4.bel
  generalize turnL xs W n = ys at m1 ro ⊢
  clear hC4 hI hI0 hlR hv
  go_wp2_with fail
  go_region_held3 (fun W' => W'.cell? ⟨w2.heap.size, 0, none⟩ = some (.int .i64 n) ∧ W'.cell? ⟨w2.heap.size, 1, none⟩ = some (.slice ao W co) ∧ W'.cell? ⟨w1.heap.size, 0, none⟩ = some (.int .i64 W) ∧ W'.cell? ⟨w1.heap.size, 1, none⟩ = some (.slice s n cg) ∧ Row W' s n xs ∧ Row W' ao W ys ∧ Below w.heap.size w W')
    (first | exact heldTwo ⟨q0, q1, p0, p1, ra, ro, bb⟩ ((Below.refl _ _).drew) | (refine heldTwo ?_ (by assumption); assumption))
    (first | (go_at_call_of 69 ao; refine (many_impl n ao W co ys _ ?_ (by omega)).mono ?_; (exact And.left (And.right (And.right (And.right (And.right (And.right ‹_ ∧ _ ∧ _ ∧ _ ∧ Row _ _ _ _ ∧ _›)))))); rw [m1]; rintro e w6 ⟨rfl, hb6⟩) | (go_at_call_of 69 s; refine (many_impl W s n cg xs _ ?_ (by omega)).mono ?_; (exact And.left (And.right (And.right (And.right (And.right ‹_ ∧ _ ∧ _ ∧ _ ∧ Row _ _ _ _ ∧ _›))))); rw [m2]; rintro e w7 ⟨rfl, hb7⟩))
  go_wp2
  go_ret
  refine ⟨rfl, ?_⟩
  exact And.right (And.right (And.right (And.right (And.right (And.right ‹_ ∧ _ ∧ _ ∧ _ ∧ Row _ _ _ _ ∧ _›)))))

set_option maxRecDepth 100000 in
theorem lifted (os : Os) (started : os.Started) (H : Type) (enc : TypeId × Value → H) :
    ReturnsInHanded {} Try.checked os 27 .any (Rows.fnTurnSizeSpec.pre6 enc Try.prog Try.f27 Rows.fnTurnSizeRow.domain false) (Rows.fnTurnSizeSpec.post enc Try.prog Try.f27 false true false false) := by
  refine returnsInHanded_of_change (C := Try.checked) own started (by kernel_rfl) Try.func27
    (ChangeSpec.witness6 (enc := enc) (C := Try.checked) false ⟨#[], #[.slice none 0 0], []⟩ 8 (by kernel_rfl) (by kernel_rfl) (by kernel_rfl) (by kernel_rfl)) ?_
  intro W base args ds gs before hval0 hW hcnd _
  have hval : ∀ (j : Nat) t v, Try.f27.params[j]? = some t → args[j]? = some v → Value.okWide Try.prog W .any base t v := hval0
  have hW' := hW
  obtain ⟨p, q, hA0, hV, rfl, hfz, hnd⟩ := hW
  have hA : DataW.TrodAll enc Try.prog W 0 (fun _ => true) true Try.f27.params.toList args.toList ds p := hA0
  rw [Try.params27] at hA hval
  obtain ⟨v0, vs0, d0, ds0, p0, q0, hargs, rfl, rfl, h0, r0⟩ := trodAll_cons hA
  obtain ⟨rfl, rfl, rfl⟩ := trodAll_nil r0
  obtain rfl : args = #[v0] := by cases args; simp_all
  obtain ⟨rfl, rfl⟩ := trodVars_none hV
  have k0 := h0
  have lt0 : ∀ x ∈ p0, x.block < W.heap.size := by obtain ⟨m, hm⟩ := k0; exact DataW.trod_lt m _ _ _ hm
  obtain ⟨a0, len0, cap0, z0, rfl, w0, l0, m0⟩ := open_code (hval 0 22 v0 rfl rfl) h0
  clear hA0 hval0
  refine (walk a0 len0 cap0 z0 W w0 l0 m0).mono fun e W' ⟨he, bel⟩ => ?_
  subst he
  exact ⟨_, rfl, _, _, _, [], _, [], hW', trodAll_mk1 (shut_bool Try.underlying4 _), (trodAll_cons_mk (Below.trod laidOut (by kernel_rfl) (of_decide_eq_true (by kernel_rfl)) k0 bel lt0) trodAll_mk0), rfl, bel.frame _, fun h => by cases h⟩

theorem closed : joinedFacts Try.prog 27 Try.f27 Rows.fnTurnSizeSpec Rows.fnTurnSizeRow = true := by
  simp only [joinedFacts, Bool.and_eq_true]
  repeat' apply And.intro
  all_goals first | with_reducible exact mayEnterOk | (with_reducible rw [liftsFinalOk]; kernel_rfl) | (with_reducible rw [makeOk]; kernel_rfl) | kernel_rfl

theorem over : Rows.fnTurnSizeRow.holds Try.pinned (OpenSpec.ofChange Rows.fnTurnSizeSpec) :=
  OpenClaim.holds_of_wide 27 Try.f27 rfl rfl rfl rfl rfl rfl rfl ⟨rfl, rfl, rfl, rfl, rfl⟩ rfl rfl rfl rfl rfl (by kernel_rfl) Try.func27 closed
    (of_decide_eq_true (by kernel_rfl)) (by unfold Func.isWrapper; first | (rw [if_pos (by decide +kernel)]; kernel_rfl) | (rw [if_neg (by decide +kernel)]; exact ⟨rfl, rfl⟩))
    (fun os started H enc _ => lifted os started H enc)

theorem proved : Rows.FnTurnSizeSaid := over
#print axioms proved
end Go.Proofs.Ytnibmcihklaigaa.LFTurnSize

