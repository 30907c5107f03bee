/-
  For every slice of bytes the law FnTurnMirror answers true: four quarter turns are none; nothing that was there is written; no condition.
-/
import Derived.Test.YtkpbfhohcffilaaO
import Derived.Test.YtkpbfhohcffilaaK
import Derived.Test.YtkpbfhohcffilaaHc
import Derived.Test.YtkpbfhohcffilaaA
namespace Go.Proofs.Ytkpbfhohcffilaa.LFTurnMirror
set_option maxRecDepth 100000
open Go.ChangeShapes Go.WideShapes Go.ChangeAt Go.RowKit Go.Joins

set_option maxHeartbeats 800000 in
theorem walk (a : Option Addr) (len cap : Nat) (zs : List Int) (w : World) (h : Bys w a len zs) (hl : len ≤ cap) (hm : cap ≤ 9223372036854775807) :
    Calls Try.prog 3 #[.slice a len cap] w fun e w' => e = .returned (.bool true) ∧ Below w.heap.size w w' := by
  by_cases hbig : 1048576 < len
  · clear h
    go_enter Try.func3, Try.ntmps3
    go_wp2_with fail
    go_ret
    exact ⟨rfl, Below.refl _ _⟩
  go_enter Try.func3, Try.ntmps3
  go_wp2_with fail
  refine (draw_DrawImageTurn a len cap zs _ h hl hm).mono ?_
  rintro e w1 ⟨W, s, n, cg, xs, rfl, hR, hn, hb1⟩
  clear h hl hm
  have hn' : n ≤ 9223372036854775807 := by omega
  have hC := (Ctx.nil hb1).push (W := W) (cg := cg) hR
  obtain ⟨R, hRe⟩ : ∃ R : Out, Hid (R = (if validB W xs = true then ⟨true, n, turnL xs W.toNat n⟩ else .no)) := ⟨_, rfl⟩
  clear hR hb1
  go_wp2_with fail
  have hT := turn_impl W s n cg xs _ hC.a0.row hn'
  rw [← hRe.out] at hT
  refine hT.mono ?_
  clear hT
  rintro e w2 ⟨⟨ao, co, rfl, ho⟩, hb⟩
  have hC2 := (hC.move hb).push (W := R.W) (cg := co) ho.row
  have x0 := hC2.a0.c0
  have x1 := hC2.a0.c1
  have y0 := hC2.a1.c0
  have y1 := hC2.a1.c1
  clear hb hC ho
  go_wp2_with fail
  have hT := turn_spec W s n cg xs _ hC2.a1.row hn'
  rw [← hRe.out] at hT
  refine hT.mono ?_
  clear hT
  rintro e w3 ⟨⟨aw, cw, rfl, ho⟩, hb⟩
  have hC3 := (hC2.move hb).push (W := R.W) (cg := cw) ho.row
  have x0 := hC3.a0.c0
  have x1 := hC3.a0.c1
  have y0 := hC3.a1.c0
  have y1 := hC3.a1.c1
  have z0 := hC3.a2.c0
  have z1 := hC3.a2.c1
  clear hb hC2 ho
  have hlR : R.xs.length ≤ 9223372036854775807 := by
    rw [hRe.out]
    have := turn_small W xs n
    omega
  go_wp2_with fail
  refine (sameImage_yes R.W ao aw R.xs.length co cw R.xs _ hC3.a1.row hC3.a0.row hlR).mono ?_
  rintro e w4 ⟨rfl, hb⟩
  have hC4 := hC3.move hb
  have x0 := hC4.a0.c0
  have x1 := hC4.a0.c1
  have y0 := hC4.a1.c0
  have y1 := hC4.a1.c1
  have z0 := hC4.a2.c0
  have z1 := hC4.a2.c1
  clear hb hC3
  by_cases hv : validB W xs = true
  case neg =>
    have hRe := hRe.out
    rw [if_neg hv] at hRe
    subst hRe
    go_wp2_with fail
    refine (sameImage_yes Out.no.W ao aw Out.no.xs.length co cw Out.no.xs _ hC4.a1.row hC4.a0.row hlR).mono ?_
    rintro e w5 ⟨rfl, hb⟩
    have hC5 := hC4.move hb
    clear hC4 hb
    go_wp2_with fail
    go_ret
    exact ⟨rfl, hC5.bel⟩
  have hRe := hRe.out
  rw [if_pos hv] at hRe
  subst hRe
  have hI0 := validB_W hv
  obtain ⟨W, rfl⟩ := Int.eq_ofNat_of_zero_le (by omega : 0 ≤ W)
  have hI := Im.of hv hC4.a2.row.1
  rw [Int.toNat_natCast] at *
  have hW6 := hI.w6
  clear x0 x1 y0 y1 z0 z1 hRe
  simp only [turn_len] at hC4 hlR ⊢
  have hC5 := hC4.pop.pop
  have p0 := hC5.a0.c0
  have p1 := hC5.a0.c1
  have r1 := hI.rots
  have r2 := hI.rots_many
  have r4 := hI.rots4
  have m2 : manyOf W xs = manyI W xs n := hI.many
  have q0 := hC4.a2.c0
  have q1 := hC4.a2.c1
  have x0 := hC4.a1.c0
  have x1 := hC4.a1.c1
  clear hC4 hI hlR hv
  have hfar := row_lt hC5.a0.row
  have hw4 : w1.heap.size < w4.heap.size := block_lt p0
  have hw0 := hC5.bel.size
  have r1 := Lib.hid r1
  have r2 := Lib.hid r2
  have r4 := Lib.hid r4
  have hfar := Lib.hid hfar
  have hC6 := Lib.hid (hC5.push (W := W) (cg := cg) hC5.a0.row)
  clear hC5
  go_wp2_with fail
  go_loopw [9] (fun i wr => ∃ k : Nat, k ≤ 4 ∧ i = .int .i64 k ∧ ∃ s' c', Ctx w wr [⟨w4.heap.size, (rotK W n xs k).1, s', (rotK W n xs k).2.1, c', (rotK W n xs k).2.2⟩, ⟨w1.heap.size, W, s, n, cg, xs⟩] ∧ (∀ o, wr.frozen? ⟨w4.heap.size, o, none⟩ = false)) (fun i _ => 4 - (intOf i).toNat)
  case atStart => exact ⟨0, by omega, rfl, s, cg, hC6.out, fun o => by simp⟩
  case round =>
    obtain ⟨k, hk, rfl, s', c', hQ, hfz⟩ := hrel
    clear hC6 p0 p1 q0 q1 x0 x1
    by_cases hlt : k < 4
    · have g1 := r1.out k
      have g2 := r1.out (k + 1)
      have g3 := r2.out (k + 1)
      have g4 : rotK W n xs (k + 1) = ((rotK W n xs k).2.1, (rotK W n xs k).1, rotL (rotK W n xs k).2.2 (rotK W n xs k).1 (rotK W n xs k).2.1) := rfl
      rw [g4] at g2 g3
      have g4 := Lib.hid g4
      generalize hP : rotK W n xs k = P at *
      have hP := Lib.hid hP
      obtain ⟨Wk, nk, xk⟩ := P
      simp only at hQ g1 g2 g3
      have q0 := hQ.a0.c0
      have q1 := hQ.a0.c1
      have p0 := hQ.a1.c0
      have p1 := hQ.a1.c1
      have hfz := Lib.hid hfz
      have hT := fun wx h => turn_impl Wk s' nk c' xk wx h (by have := g1.l6; omega)
      rw [if_pos g1.valid, Int.toNat_natCast] at hT
      have hM := fun sx cx wx h => mirror_impl nk sx Wk cx (turnL xk Wk nk) wx h (by have := g1.w6; omega)
      rw [if_pos g1.turn.valid, Int.toNat_natCast] at hM
      have hT := Lib.hid hT
      have hM := Lib.hid hM
      go_wp2_with fail
      refine (hT.out _ hQ.a0.row).mono ?_
      simp only [Gives, turn_len]
      rintro e w5 ⟨⟨ax, cx, rfl, hox⟩, hb5⟩
      have hC7 := (hQ.move hb5).push (W := nk) (cg := cx) hox.row
      have hk4 : w4.heap.size < wr.heap.size := block_lt q0
      have hs5 := hb5.size
      have hfz := Lib.hid (frozen_bel (frozen_bel hfz.out hb5 hk4) ((Below.refl _ _).alloc (Nat.le_refl _) (.cells #[.int .i64 nk, .slice ax Wk cx] 25)) (by omega))
      have x0 := hC7.a0.c0
      have x1 := hC7.a0.c1
      clear hQ hT hb5 hox
      go_wp2_with fail
      refine (hM.out ax cx _ hC7.a0.row).mono ?_
      simp only [Gives, rows_len]
      rintro e w6 ⟨⟨ay, cy, rfl, hoy⟩, hb6⟩
      have hoy : OwnI w6 _ ay Wk cy (rotL xk Wk nk) := hoy
      have hC8 := (hC7.move hb6).push (W := nk) (cg := cy) hoy.row
      have hs6 := hb6.size
      simp only [World.size_alloc] at hs6
      have hfz := Lib.hid (frozen_bel (frozen_bel hfz.out hb6 (by simp; omega)) ((Below.refl _ _).alloc (Nat.le_refl _) (.cells #[.int .i64 nk, .slice ay Wk cy] 25)) (by omega))
      have hfy := Lib.hid (own_far (k := w4.heap.size) hoy (by simp; omega))
      have ra := hC8.all _ (.tail _ (.tail _ (.tail _ (.head _))))
      have p0 := ra.c0
      have p1 := ra.c1
      have ra := ra.row
      have ro := hC8.a0.row
      have q0 := hC8.a0.c0
      have q1 := hC8.a0.c1
      have bb := Below.refl (w6.alloc (.cells #[.int .i64 nk, .slice ay Wk cy] 25)).heap.size (w6.alloc (.cells #[.int .i64 nk, .slice ay Wk cy] 25))
      have hC8 := Lib.hid hC8
      generalize rotL xk Wk nk = ys at g2 g3 ro hC8 g4 hoy
      have hWk := g1.w6
      have hnk := g1.l6
      have g1 := Lib.hid g1
      have g2 := Lib.hid g2
      clear hC7 hM hb6 hoy x0 x1
      go_wp2_with fail
      go_region_held3 (fun W' => W'.cell? ⟨w6.heap.size, 0, none⟩ = some (.int .i64 nk) ∧ W'.cell? ⟨w6.heap.size, 1, none⟩ = some (.slice ay Wk cy) ∧ W'.cell? ⟨w1.heap.size, 0, none⟩ = some (.int .i64 W) ∧ W'.cell? ⟨w1.heap.size, 1, none⟩ = some (.slice s n cg) ∧ Row W' s n xs ∧ Row W' ay Wk ys ∧ Below (w6.alloc (.cells #[.int .i64 nk, .slice ay Wk cy] 25)).heap.size (w6.alloc (.cells #[.int .i64 nk, .slice ay Wk cy] 25)) W')
        (first | exact heldTwo ⟨q0, q1, p0, p1, ra, ro, bb⟩ ((Below.refl _ _).drew) | (refine heldTwo ?_ (by assumption); assumption))
        (first | (go_at_call_of 14 ay; refine (many_impl nk ay Wk cy ys _ ?_ (by omega)).mono ?_; (exact And.left (And.right (And.right (And.right (And.right (And.right ‹_ ∧ _ ∧ _ ∧ _ ∧ Row _ _ _ _ ∧ _›)))))); rw [g3]; rintro e w70 ⟨rfl, hb70⟩) | (go_at_call_of 14 s; refine (many_impl W s n cg xs _ ?_ (by omega)).mono ?_; (exact And.left (And.right (And.right (And.right (And.right ‹_ ∧ _ ∧ _ ∧ _ ∧ Row _ _ _ _ ∧ _›))))); rw [m2]; rintro e w71 ⟨rfl, hb71⟩))
      have hB : Below (w6.alloc (.cells #[.int .i64 nk, .slice ay Wk cy] 25)).heap.size (w6.alloc (.cells #[.int .i64 nk, .slice ay Wk cy] 25)) w71 := And.right (And.right (And.right (And.right (And.right (And.right ‹_ ∧ _ ∧ _ ∧ _ ∧ Row _ _ _ _ ∧ _›)))))
      have hC9 := hC8.out.move hB
      have hfz := frozen_bel hfz.out hB (by simp; omega)
      have b0 := hC9.a2.c0
      have b1 := hC9.a2.c1
      have hC9 := Lib.hid hC9
      have g4 := g4.out
      have g4 := Lib.hid g4
      go_wp2_with fail
      refine ⟨⟨k + 1, by omega, by go_num, ay, cy, ?_, fun o => by rw [World.frozen?_setCell, World.frozen?_setCell]; exact hfz o⟩, by simp [intOf]; omega⟩
      rw [g4.out]
      exact hC9.out.pop.pop.put0 (hC9.out.a0.row) hfy.out (fun b off e hl => by have := hfar.out b off e hl; simp only; omega) (by simp only; omega) (by simp only; omega)
    · have : k = 4 := by omega
      subst this
      rw [r4.out] at hQ
      simp only at hQ
      have q0 := hQ.a0.c0
      have q1 := hQ.a0.c1
      have p0 := hQ.a1.c0
      have p1 := hQ.a1.c1
      go_wp2_with fail
      refine (sameImage_yes W s' s n c' cg xs _ hQ.a0.row hQ.a1.row (by omega)).mono ?_
      rintro e w8 ⟨rfl, hb⟩
      have hC8 := hQ.move hb
      have hC8 := Lib.hid hC8
      clear hb hQ
      go_wp2_with fail
      go_ret
      exact ⟨rfl, hC8.out.bel⟩

set_option maxRecDepth 100000 in
theorem lifted (os : Os) (started : os.Started) (H : Type) (enc : TypeId × Value → H) :
    ReturnsInHanded {} Try.checked os 3 .any (Rows.fnTurnMirrorSpec.pre6 enc Try.prog Try.f3 Rows.fnTurnMirrorRow.domain false) (Rows.fnTurnMirrorSpec.post enc Try.prog Try.f3 false true false false) := by
  refine returnsInHanded_of_change (C := Try.checked) own started (by kernel_rfl) Try.func3
    (ChangeSpec.witness6 (enc := enc) (C := Try.checked) false ⟨#[], #[.slice none 0 0], []⟩ 8 (by kernel_rfl) (by kernel_rfl) (by kernel_rfl) (by kernel_rfl)) ?_
  intro W base args ds gs before hval0 hW hcnd _
  have hval : ∀ (j : Nat) t v, Try.f3.params[j]? = some t → args[j]? = some v → Value.okWide Try.prog W .any base t v := hval0
  have hW' := hW
  obtain ⟨p, q, hA0, hV, rfl, hfz, hnd⟩ := hW
  have hA : DataW.TrodAll enc Try.prog W 0 (fun _ => true) true Try.f3.params.toList args.toList ds p := hA0
  rw [Try.params3] at hA hval
  obtain ⟨v0, vs0, d0, ds0, p0, q0, hargs, rfl, rfl, h0, r0⟩ := trodAll_cons hA
  obtain ⟨rfl, rfl, rfl⟩ := trodAll_nil r0
  obtain rfl : args = #[v0] := by cases args; simp_all
  obtain ⟨rfl, rfl⟩ := trodVars_none hV
  have k0 := h0
  have lt0 : ∀ x ∈ p0, x.block < W.heap.size := by obtain ⟨m, hm⟩ := k0; exact DataW.trod_lt m _ _ _ hm
  obtain ⟨a0, len0, cap0, z0, rfl, w0, l0, m0⟩ := open_code (hval 0 22 v0 rfl rfl) h0
  clear hA0 hval0
  refine (walk a0 len0 cap0 z0 W w0 l0 m0).mono fun e W' ⟨he, bel⟩ => ?_
  subst he
  exact ⟨_, rfl, _, _, _, [], _, [], hW', trodAll_mk1 (shut_bool Try.underlying4 _), (trodAll_cons_mk (Below.trod laidOut (by kernel_rfl) (of_decide_eq_true (by kernel_rfl)) k0 bel lt0) trodAll_mk0), rfl, bel.frame _, fun h => by cases h⟩

theorem closed : joinedFacts Try.prog 3 Try.f3 Rows.fnTurnMirrorSpec Rows.fnTurnMirrorRow = true := by
  simp only [joinedFacts, Bool.and_eq_true]
  repeat' apply And.intro
  all_goals first | with_reducible exact mayEnterOk | (with_reducible rw [liftsFinalOk]; kernel_rfl) | (with_reducible rw [makeOk]; kernel_rfl) | kernel_rfl

theorem over : Rows.fnTurnMirrorRow.holds Try.pinned (OpenSpec.ofChange Rows.fnTurnMirrorSpec) :=
  OpenClaim.holds_of_wide 3 Try.f3 rfl rfl rfl rfl rfl rfl rfl ⟨rfl, rfl, rfl, rfl, rfl⟩ rfl rfl rfl rfl rfl (by kernel_rfl) Try.func3 closed
    (of_decide_eq_true (by kernel_rfl)) (by unfold Func.isWrapper; first | (rw [if_pos (by decide +kernel)]; kernel_rfl) | (rw [if_neg (by decide +kernel)]; exact ⟨rfl, rfl⟩))
    (fun os started H enc _ => lifted os started H enc)

theorem proved : Rows.FnTurnMirrorSaid := over
#print axioms proved
end Go.Proofs.Ytkpbfhohcffilaa.LFTurnMirror

