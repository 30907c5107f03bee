/-
  For every slice of bytes the law FnOther answers true: the other image has the other cells, and turns as the image does; nothing that was there is written; no condition.
-/
import Derived.Test.YtiegonpgfbmidaaO
import Derived.Test.YtiegonpgfbmidaaZ
import Derived.Test.YtiegonpgfbmidaaD
import Derived.Test.YtiegonpgfbmidaaR
import Derived.Test.YtiegonpgfbmidaaEp
namespace Go.Proofs.Ytiegonpgfbmidaa.LFOther
open Go.ChangeShapes Go.WideShapes Go.ChangeAt Go.RowKit Go.Joins

set_option maxHeartbeats 800000 in
theorem walk (a : Option Addr) (len cap : Nat) (zs : List Int) (w : World) (h : Bys w a len zs) (hl : len ≤ cap) (hm : cap ≤ 9223372036854775807) :
    Calls Try.prog 8 #[.slice a len cap] w fun e w' => e = .returned (.bool true) ∧ Below w.heap.size w w' := by
  by_cases hbig : 1048576 < len
  · clear h
    go_enter Try.func8, Try.ntmps8
    go_wp2_with fail
    go_ret
    exact ⟨rfl, Below.refl _ _⟩
  go_enter Try.func8, Try.ntmps8
  go_wp2_with fail
  refine (draw_DrawImageOther a len cap zs _ h hl hm).mono ?_
  rintro e w1 ⟨W, s, n, cg, xs, rfl, hR, hn, hb1⟩
  clear h hl hm
  have hn' : n ≤ 9223372036854775807 := by omega
  have hC := (Ctx.nil hb1).push (W := W) (cg := cg) hR
  obtain ⟨R, hRe⟩ : ∃ R : Out, Hid (R = (if validB W xs = true then ⟨true, W, rowsL (fun i => pw W.toNat - 1 - (xs.getD i 0)) n⟩ else .no)) := ⟨_, rfl⟩
  clear hR hb1
  go_wp2_with fail
  have hT := other_impl W s n cg xs _ hC.a0.row hn'
  rw [← hRe.out] at hT
  refine hT.mono ?_
  clear hT
  rintro e w2 ⟨⟨ao, co, rfl, ho⟩, hb⟩
  have hC2 := (hC.move hb).push (W := R.W) (cg := co) ho.row
  have x0 := hC2.a0.c0
  have x1 := hC2.a0.c1
  have y0 := hC2.a1.c0
  have y1 := hC2.a1.c1
  clear hb hC ho
  go_wp2_with fail
  have hT := other_spec W s n cg xs _ hC2.a1.row hn'
  rw [← hRe.out] at hT
  refine hT.mono ?_
  clear hT
  rintro e w3 ⟨⟨aw, cw, rfl, ho⟩, hb⟩
  have hC3 := (hC2.move hb).push (W := R.W) (cg := cw) ho.row
  have x0 := hC3.a0.c0
  have x1 := hC3.a0.c1
  have y0 := hC3.a1.c0
  have y1 := hC3.a1.c1
  have z0 := hC3.a2.c0
  have z1 := hC3.a2.c1
  clear hb hC2 ho
  have hlR : R.xs.length ≤ 9223372036854775807 := by
    rw [hRe.out]
    have := rows_small (fun i => pw W.toNat - 1 - (xs.getD i 0)) W xs n hC3.a2.row.1
    omega
  go_wp2_with fail
  refine (sameImage_yes R.W ao aw R.xs.length co cw R.xs _ hC3.a1.row hC3.a0.row hlR).mono ?_
  rintro e w4 ⟨rfl, hb⟩
  have hC4 := hC3.move hb
  have x0 := hC4.a0.c0
  have x1 := hC4.a0.c1
  have y0 := hC4.a1.c0
  have y1 := hC4.a1.c1
  have z0 := hC4.a2.c0
  have z1 := hC4.a2.c1
  clear hb hC3
  by_cases hv : validB W xs = true
  case neg =>
    have hRe := hRe.out
    rw [if_neg hv] at hRe
    subst hRe
    go_wp2_with fail
    refine (sameImage_yes Out.no.W ao aw Out.no.xs.length co cw Out.no.xs _ hC4.a1.row hC4.a0.row hlR).mono ?_
    rintro e w5 ⟨rfl, hb⟩
    have hC5 := hC4.move hb
    clear hC4 hb
    go_wp2_with fail
    go_ret
    exact ⟨rfl, hC5.bel⟩
  have hRe := hRe.out
  rw [if_pos hv] at hRe
  subst hRe
  have hI0 := validB_W hv
  obtain ⟨W, rfl⟩ := Int.eq_ofNat_of_zero_le (by omega : 0 ≤ W)
  have hI := Im.of hv hC4.a2.row.1
  rw [Int.toNat_natCast] at *
  have hW6 := hI.w6
  clear x0 x1 y0 y1 z0 z1 hRe
  simp only [rows_len] at hC4 hlR ⊢
  have hC := hC4.pop
  have hn1 := hI.l1
  have hW1 := hI.w1
  clear hC4 hlR hv
  have fH := Lib.hid (fun i j (hi : i < n) (hj : j < W) => hI.oth_has hi hj)
  have fO := Lib.hid (fun s cg wx => other_ok hI.oth s cg wx)
  have fT := Lib.hid (fun s cg wx => turn_ok hI s cg wx)
  have fTO := Lib.hid (fun s cg wx => other_ok hI.turn s cg wx)
  have fOT := Lib.hid (fun s cg wx => turn_ok hI.oth s cg wx)
  rw [hI.oth_oth] at fO
  rw [hI.oth_turn] at fOT
  clear hI
  unfold othL at fH fO fTO fOT
  generalize rowsL (fun i => pw W - 1 - (xs.getD i 0)) n = ys at *
  generalize rowsL (fun i => pw n - 1 - ((turnL xs W n).getD i 0)) W = zs2 at *
  generalize turnL xs W n = ts at *
  have b00 := hC.a0.c0
  have b01 := hC.a0.c1
  have b10 := hC.a1.c0
  have b11 := hC.a1.c1
  go_wp2_with fail
  go_loopw [8] (fun i wr => ∃ k : Nat, k ≤ n ∧ i = .int .i64 k ∧ Ctx w wr [⟨w2.heap.size, W, ao, n, co, ys⟩, ⟨w1.heap.size, W, s, n, cg, xs⟩]) (fun i _ => n - (intOf i).toNat)
  case atStart => exact ⟨0, by omega, rfl, hC⟩
  case round =>
    obtain ⟨k, hk, rfl, hQ⟩ := hrel
    clear b00 b01 b10 b11
    replace hC := hQ
    clear hQ
    by_cases hlt : k < n
    · skip
      have b00 := hC.a0.c0
      have b01 := hC.a0.c1
      have b10 := hC.a1.c0
      have b11 := hC.a1.c1
      go_wp2_with fail
      go_loopw [9] (fun j wr => ∃ m : Nat, m ≤ W ∧ j = .int .i64 m ∧ Ctx w wr [⟨w2.heap.size, W, ao, n, co, ys⟩, ⟨w1.heap.size, W, s, n, cg, xs⟩]) (fun j _ => W - (intOf j).toNat)
      case atStart => exact ⟨0, by omega, rfl, hC⟩
      case round =>
        obtain ⟨m, hm, rfl, hQ⟩ := hrel
        clear b00 b01 b10 b11
        replace hC := hQ
        clear hQ
        have q0 := hC.a0.c0
        have q1 := hC.a0.c1
        have p0 := hC.a1.c0
        have p1 := hC.a1.c1
        have ra := hC.a1.row
        have ro := hC.a0.row
        have bb := hC.bel
        by_cases hlm : m < W
        · have m1 := fH.out k m hlt hlm
          obtain ⟨B, hB⟩ : ∃ B, hasB W xs k m = B := ⟨_, rfl⟩
          rw [hB] at m1
          have m2 := Lib.hid hB
          have m1' := Lib.hid m1
          have e1 : (B == !B) = false := by cases B <;> rfl
          have e2 : (B = !B) = False := by cases B <;> simp
          clear m1 hB hC
          go_wp2_with fail
          go_region_held3 (fun W' => W'.cell? ⟨w2.heap.size, 0, none⟩ = some (.int .i64 W) ∧ W'.cell? ⟨w2.heap.size, 1, none⟩ = some (.slice ao n co) ∧ W'.cell? ⟨w1.heap.size, 0, none⟩ = some (.int .i64 W) ∧ W'.cell? ⟨w1.heap.size, 1, none⟩ = some (.slice s n cg) ∧ Row W' s n xs ∧ Row W' ao n ys ∧ Below w.heap.size w W')
            (first | exact heldTwo ⟨q0, q1, p0, p1, ra, ro, bb⟩ ((Below.refl _ _).drew) | (refine heldTwo ?_ (by assumption); assumption))
            (first | (go_at_call_of 17 ao; refine (has_impl W ao n co ys k m _ ?_ (by omega)).mono ?_; (exact And.left (And.right (And.right (And.right (And.right (And.right ‹_ ∧ _ ∧ _ ∧ _ ∧ Row _ _ _ _ ∧ _›)))))); rw [m1'.out]; rintro e w6 ⟨rfl, hb6⟩) | (go_at_call_of 17 s; refine (has_impl W s n cg xs k m _ ?_ (by omega)).mono ?_; (exact And.left (And.right (And.right (And.right (And.right ‹_ ∧ _ ∧ _ ∧ _ ∧ Row _ _ _ _ ∧ _›))))); rw [m2.out]; rintro e w7 ⟨rfl, hb7⟩))
          go_wp2_with fail
          exact ⟨⟨m + 1, by omega, by go_num, Ctx.of2 (by assumption)⟩, by simp [intOf]; omega⟩
        · have : m = W := by omega
          subst this
          go_wp2_with fail
          exact ⟨⟨k + 1, by omega, by go_num, hC⟩, by simp [intOf]; omega⟩
    · have : k = n := by omega
      subst this
      have b00 := hC.a0.c0
      have b01 := hC.a0.c1
      have b10 := hC.a1.c0
      have b11 := hC.a1.c1
      go_wp2_with fail
      refine (fO.out _ _ _ hC.a0.row).mono ?_
      rintro e w8 ⟨⟨a8, c8, rfl, ho⟩, hb⟩
      clear b00 b01 b10 b11
      replace hC := (hC.move hb).push (W := W) (cg := c8) ho.row
      clear ho hb
      have b00 := hC.a0.c0
      have b01 := hC.a0.c1
      have b10 := hC.a1.c0
      have b11 := hC.a1.c1
      have b20 := hC.a2.c0
      have b21 := hC.a2.c1
      go_wp2_with fail
      refine (fT.out _ _ _ hC.a2.row).mono ?_
      rintro e w9 ⟨⟨a9, c9, rfl, ho⟩, hb⟩
      clear b00 b01 b10 b11 b20 b21
      replace hC := (hC.move hb).push (W := k) (cg := c9) ho.row
      clear ho hb
      have b00 := hC.a0.c0
      have b01 := hC.a0.c1
      have b10 := hC.a1.c0
      have b11 := hC.a1.c1
      have b20 := hC.a2.c0
      have b21 := hC.a2.c1
      have b30 := hC.a3.c0
      have b31 := hC.a3.c1
      go_wp2_with fail
      refine (fTO.out _ _ _ hC.a0.row).mono ?_
      rintro e w10 ⟨⟨a10, c10, rfl, ho⟩, hb⟩
      clear b00 b01 b10 b11 b20 b21 b30 b31
      replace hC := (hC.move hb).push (W := k) (cg := c10) ho.row
      clear ho hb
      have b00 := hC.a0.c0
      have b01 := hC.a0.c1
      have b10 := hC.a1.c0
      have b11 := hC.a1.c1
      have b20 := hC.a2.c0
      have b21 := hC.a2.c1
      have b30 := hC.a3.c0
      have b31 := hC.a3.c1
      have b40 := hC.a4.c0
      have b41 := hC.a4.c1
      go_wp2_with fail
      refine (fOT.out _ _ _ hC.a3.row).mono ?_
      rintro e w11 ⟨⟨a11, c11, rfl, ho⟩, hb⟩
      clear b00 b01 b10 b11 b20 b21 b30 b31 b40 b41
      replace hC := (hC.move hb).push (W := k) (cg := c11) ho.row
      clear ho hb
      have b00 := hC.a0.c0
      have b01 := hC.a0.c1
      have b10 := hC.a1.c0
      have b11 := hC.a1.c1
      have b20 := hC.a2.c0
      have b21 := hC.a2.c1
      have b30 := hC.a3.c0
      have b31 := hC.a3.c1
      have b40 := hC.a4.c0
      have b41 := hC.a4.c1
      have b50 := hC.a5.c0
      have b51 := hC.a5.c1
      go_wp2_with fail
      refine (sameImage_yes W _ _ k _ _ xs _ hC.a3.row hC.a5.row (by omega)).mono ?_
      rintro e w12 ⟨rfl, hb⟩
      clear b00 b01 b10 b11 b20 b21 b30 b31 b40 b41 b50 b51
      replace hC := hC.move hb
      clear hb
      have b00 := hC.a0.c0
      have b01 := hC.a0.c1
      have b10 := hC.a1.c0
      have b11 := hC.a1.c1
      have b20 := hC.a2.c0
      have b21 := hC.a2.c1
      have b30 := hC.a3.c0
      have b31 := hC.a3.c1
      have b40 := hC.a4.c0
      have b41 := hC.a4.c1
      have b50 := hC.a5.c0
      have b51 := hC.a5.c1
      go_wp2_with fail
      refine (sameImage_yes k _ _ W _ _ zs2 _ hC.a1.row hC.a0.row (by omega)).mono ?_
      rintro e w13 ⟨rfl, hb⟩
      clear b00 b01 b10 b11 b20 b21 b30 b31 b40 b41 b50 b51
      replace hC := hC.move hb
      clear hb
      have b00 := hC.a0.c0
      have b01 := hC.a0.c1
      have b10 := hC.a1.c0
      have b11 := hC.a1.c1
      have b20 := hC.a2.c0
      have b21 := hC.a2.c1
      have b30 := hC.a3.c0
      have b31 := hC.a3.c1
      have b40 := hC.a4.c0
      have b41 := hC.a4.c1
      have b50 := hC.a5.c0
      have b51 := hC.a5.c1
      go_wp2_with fail
      go_ret
      exact ⟨rfl, hC.bel⟩

set_option maxRecDepth 100000 in
theorem lifted (os : Os) (started : os.Started) (H : Type) (enc : TypeId × Value → H) :
    ReturnsInHanded {} Try.checked os 8 .any (Rows.fnOtherSpec.pre6 enc Try.prog Try.f8 Rows.fnOtherRow.domain false) (Rows.fnOtherSpec.post enc Try.prog Try.f8 false true false false) := by
  refine returnsInHanded_of_change (C := Try.checked) own started (by kernel_rfl) Try.func8
    (ChangeSpec.witness6 (enc := enc) (C := Try.checked) false ⟨#[], #[.slice none 0 0], []⟩ 8 (by kernel_rfl) (by kernel_rfl) (by kernel_rfl) (by kernel_rfl)) ?_
  intro W base args ds gs before hval0 hW hcnd _
  have hval : ∀ (j : Nat) t v, Try.f8.params[j]? = some t → args[j]? = some v → Value.okWide Try.prog W .any base t v := hval0
  have hW' := hW
  obtain ⟨p, q, hA0, hV, rfl, hfz, hnd⟩ := hW
  have hA : DataW.TrodAll enc Try.prog W 0 (fun _ => true) true Try.f8.params.toList args.toList ds p := hA0
  rw [Try.params8] at hA hval
  obtain ⟨v0, vs0, d0, ds0, p0, q0, hargs, rfl, rfl, h0, r0⟩ := trodAll_cons hA
  obtain ⟨rfl, rfl, rfl⟩ := trodAll_nil r0
  obtain rfl : args = #[v0] := by cases args; simp_all
  obtain ⟨rfl, rfl⟩ := trodVars_none hV
  have k0 := h0
  have lt0 : ∀ x ∈ p0, x.block < W.heap.size := by obtain ⟨m, hm⟩ := k0; exact DataW.trod_lt m _ _ _ hm
  obtain ⟨a0, len0, cap0, z0, rfl, w0, l0, m0⟩ := open_code (hval 0 22 v0 rfl rfl) h0
  clear hA0 hval0
  refine (walk a0 len0 cap0 z0 W w0 l0 m0).mono fun e W' ⟨he, bel⟩ => ?_
  subst he
  exact ⟨_, rfl, _, _, _, [], _, [], hW', trodAll_mk1 (shut_bool Try.underlying4 _), (trodAll_cons_mk (Below.trod laidOut (by kernel_rfl) (of_decide_eq_true (by kernel_rfl)) k0 bel lt0) trodAll_mk0), rfl, bel.frame _, fun h => by cases h⟩

theorem closed : joinedFacts Try.prog 8 Try.f8 Rows.fnOtherSpec Rows.fnOtherRow = true := by
  simp only [joinedFacts, Bool.and_eq_true]
  repeat' apply And.intro
  all_goals first | with_reducible exact mayEnterOk | (with_reducible rw [liftsFinalOk]; kernel_rfl) | (with_reducible rw [makeOk]; kernel_rfl) | kernel_rfl

theorem over : Rows.fnOtherRow.holds Try.pinned (OpenSpec.ofChange Rows.fnOtherSpec) :=
  OpenClaim.holds_of_wide 8 Try.f8 rfl rfl rfl rfl rfl rfl rfl ⟨rfl, rfl, rfl, rfl, rfl⟩ rfl rfl rfl rfl rfl (by kernel_rfl) Try.func8 closed
    (of_decide_eq_true (by kernel_rfl)) (by unfold Func.isWrapper; first | (rw [if_pos (by decide +kernel)]; kernel_rfl) | (rw [if_neg (by decide +kernel)]; exact ⟨rfl, rfl⟩))
    (fun os started H enc _ => lifted os started H enc)

theorem proved : Rows.FnOtherSaid := over
#print axioms proved
end Go.Proofs.Ytiegonpgfbmidaa.LFOther

