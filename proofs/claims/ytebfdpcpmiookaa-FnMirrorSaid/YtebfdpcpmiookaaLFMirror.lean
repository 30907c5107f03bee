/-
  For every slice of bytes the law FnMirror answers true: a mirrored image has each cell on the other side, and mirrored again is the image; nothing that was there is written; no condition.
-/
import Derived.Test.YtebfdpcpmiookaaO
import Derived.Test.YtebfdpcpmiookaaZ
import Derived.Test.YtebfdpcpmiookaaE
import Derived.Test.YtebfdpcpmiookaaN
import Derived.Test.YtebfdpcpmiookaaD
import Derived.Test.YtebfdpcpmiookaaQ
import Derived.Test.YtebfdpcpmiookaaS
import Derived.Test.YtebfdpcpmiookaaP
namespace Go.Proofs.Ytebfdpcpmiookaa.LFMirror
open Go.ChangeShapes Go.WideShapes Go.ChangeAt Go.RowKit Go.Joins

set_option maxHeartbeats 800000 in
theorem walk (a : Option Addr) (len cap : Nat) (zs : List Int) (w : World) (h : Bys w a len zs) (hl : len ≤ cap) (hm : cap ≤ 9223372036854775807) :
    Calls Try.prog 5 #[.slice a len cap] w fun e w' => e = .returned (.bool true) ∧ Below w.heap.size w w' := by
  by_cases hbig : 1048576 < len
  · clear h
    go_enter Try.func5, Try.ntmps5
    go_wp2_with fail
    go_ret
    exact ⟨rfl, Below.refl _ _⟩
  go_enter Try.func5, Try.ntmps5
  go_wp2_with fail
  refine (draw_DrawImageMirror a len cap zs _ h hl hm).mono ?_
  rintro e w1 ⟨W, s, n, cg, xs, rfl, hR, hn, hb1⟩
  clear h hl hm
  have hn' : n ≤ 9223372036854775807 := by omega
  have hC := (Ctx.nil hb1).push (W := W) (cg := cg) hR
  obtain ⟨R, hRe⟩ : ∃ R : Out, Hid (R = (if validB W xs = true then ⟨true, W, rowsL (fun i => mirI W.toNat (xs.getD i 0) W.toNat) n⟩ else .no)) := ⟨_, rfl⟩
  clear hR hb1
  go_wp2_with fail
  have hT := mirror_impl W s n cg xs _ hC.a0.row hn'
  rw [← hRe.out] at hT
  refine hT.mono ?_
  clear hT
  rintro e w2 ⟨⟨ao, co, rfl, ho⟩, hb⟩
  have hC2 := (hC.move hb).push (W := R.W) (cg := co) ho.row
  have x0 := hC2.a0.c0
  have x1 := hC2.a0.c1
  have y0 := hC2.a1.c0
  have y1 := hC2.a1.c1
  clear hb hC ho
  go_wp2_with fail
  have hT := mirror_spec W s n cg xs _ hC2.a1.row hn'
  rw [← hRe.out] at hT
  refine hT.mono ?_
  clear hT
  rintro e w3 ⟨⟨aw, cw, rfl, ho⟩, hb⟩
  have hC3 := (hC2.move hb).push (W := R.W) (cg := cw) ho.row
  have x0 := hC3.a0.c0
  have x1 := hC3.a0.c1
  have y0 := hC3.a1.c0
  have y1 := hC3.a1.c1
  have z0 := hC3.a2.c0
  have z1 := hC3.a2.c1
  clear hb hC2 ho
  have hlR : R.xs.length ≤ 9223372036854775807 := by
    rw [hRe.out]
    have := rows_small (fun i => mirI W.toNat (xs.getD i 0) W.toNat) W xs n hC3.a2.row.1
    omega
  go_wp2_with fail
  refine (sameImage_yes R.W ao aw R.xs.length co cw R.xs _ hC3.a1.row hC3.a0.row hlR).mono ?_
  rintro e w4 ⟨rfl, hb⟩
  have hC4 := hC3.move hb
  have x0 := hC4.a0.c0
  have x1 := hC4.a0.c1
  have y0 := hC4.a1.c0
  have y1 := hC4.a1.c1
  have z0 := hC4.a2.c0
  have z1 := hC4.a2.c1
  clear hb hC3
  by_cases hv : validB W xs = true
  case neg =>
    have hRe := hRe.out
    rw [if_neg hv] at hRe
    subst hRe
    go_wp2_with fail
    refine (sameImage_yes Out.no.W ao aw Out.no.xs.length co cw Out.no.xs _ hC4.a1.row hC4.a0.row hlR).mono ?_
    rintro e w5 ⟨rfl, hb⟩
    have hC5 := hC4.move hb
    clear hC4 hb
    go_wp2_with fail
    go_ret
    exact ⟨rfl, hC5.bel⟩
  have hRe := hRe.out
  rw [if_pos hv] at hRe
  subst hRe
  have hI0 := validB_W hv
  obtain ⟨W, rfl⟩ := Int.eq_ofNat_of_zero_le (by omega : 0 ≤ W)
  have hI := Im.of hv hC4.a2.row.1
  rw [Int.toNat_natCast] at *
  have hW6 := hI.w6
  clear x0 x1 y0 y1 z0 z1 hRe
  simp only [rows_len] at hC4 hlR ⊢
  have hC5 := hC4.pop
  have q0 := hC5.a0.c0
  have q1 := hC5.a0.c1
  have p0 := hC5.a1.c0
  have p1 := hC5.a1.c1
  have fM := hI.mir_mir
  have fV := hI.mir.valid
  have fH : ∀ i j : Nat, i < n → j < W → hasB W (mirL xs W n) i ((W : Int) - 1 - j) = hasB W xs i j := fun i j hi hj => by
    rw [← hI.mir_has hi hj, show ((W : Int) - 1 - (j : Int)) = ((W - 1 - j : Nat) : Int) by omega]
  have hn1 := hI.l1
  have hW1 := hI.w1
  clear hC4 hI hlR hv
  simp only [mirL] at fM fV fH
  generalize rowsL (fun i => mirI W (xs.getD i 0) W) n = ys at fM fV fH hC5 ⊢
  have fH := Lib.hid fH
  have fM := Lib.hid fM
  have fV := Lib.hid fV
  have hC5 := Lib.hid hC5
  go_wp2_with fail
  go_loopw [8] (fun i wr => ∃ k : Nat, k ≤ n ∧ i = .int .i64 k ∧ Ctx w wr [⟨w2.heap.size, W, ao, n, co, ys⟩, ⟨w1.heap.size, W, s, n, cg, xs⟩]) (fun i _ => n - (intOf i).toNat)
  case atStart => exact ⟨0, by omega, rfl, hC5.out⟩
  case round =>
    obtain ⟨k, hk, rfl, hQ⟩ := hrel
    clear hC5 p0 p1 q0 q1
    have q0 := hQ.a0.c0
    have q1 := hQ.a0.c1
    have p0 := hQ.a1.c0
    have p1 := hQ.a1.c1
    have hQ := Lib.hid hQ
    by_cases hlt : k < n
    · go_wp2_with fail
      go_loopw [9] (fun j wr => ∃ m : Nat, m ≤ W ∧ j = .int .i64 m ∧ Ctx w wr [⟨w2.heap.size, W, ao, n, co, ys⟩, ⟨w1.heap.size, W, s, n, cg, xs⟩]) (fun j _ => W - (intOf j).toNat)
      case atStart => exact ⟨0, by omega, rfl, hQ.out⟩
      case round =>
        obtain ⟨m, hm, rfl, hQ2⟩ := hrel
        clear hQ p0 p1 q0 q1
        have q0 := hQ2.a0.c0
        have q1 := hQ2.a0.c1
        have p0 := hQ2.a1.c0
        have p1 := hQ2.a1.c1
        have ra := hQ2.a1.row
        have ro := hQ2.a0.row
        have bb := hQ2.bel
        have hQ2 := Lib.hid hQ2
        by_cases hlm : m < W
        · have m1 := fH.out k m hlt hlm
          generalize hB : hasB W xs k m = B at m1
          have s1 : IntKind.i64.wrap ((W : Int) - 1) = (W : Int) - 1 := IntWalk.i64_in _ ⟨by omega, by omega⟩
          have s2 : IntKind.i64.wrap ((W : Int) - 1 - (m : Int)) = (W : Int) - 1 - (m : Int) := IntWalk.i64_in _ ⟨by omega, by omega⟩
          go_wp2_with fail
          go_region_held3 (fun W' => W'.cell? ⟨w2.heap.size, 0, none⟩ = some (.int .i64 W) ∧ W'.cell? ⟨w2.heap.size, 1, none⟩ = some (.slice ao n co) ∧ W'.cell? ⟨w1.heap.size, 0, none⟩ = some (.int .i64 W) ∧ W'.cell? ⟨w1.heap.size, 1, none⟩ = some (.slice s n cg) ∧ Row W' s n xs ∧ Row W' ao n ys ∧ Below w.heap.size w W')
            (first | exact heldTwo ⟨q0, q1, p0, p1, ra, ro, bb⟩ ((Below.refl _ _).drew) | (refine heldTwo ?_ (by assumption); assumption))
            (first | (go_at_call_of 16 ao; refine (has_impl W ao n co ys k ((W : Int) - 1 - (m : Int)) _ ?_ (by omega)).mono ?_; (exact And.left (And.right (And.right (And.right (And.right (And.right ‹_ ∧ _ ∧ _ ∧ _ ∧ Row _ _ _ _ ∧ _›)))))); rw [m1]; rintro e w6 ⟨rfl, hb6⟩) | (go_at_call_of 16 s; refine (has_impl W s n cg xs k m _ ?_ (by omega)).mono ?_; (exact And.left (And.right (And.right (And.right (And.right ‹_ ∧ _ ∧ _ ∧ _ ∧ Row _ _ _ _ ∧ _›))))); rw [hB]; rintro e w7 ⟨rfl, hb7⟩))
          go_wp2_with fail
          exact ⟨⟨m + 1, by omega, by go_num, Ctx.of2 (by assumption)⟩, by simp [intOf]; omega⟩
        · have : m = W := by omega
          subst this
          go_wp2_with fail
          exact ⟨⟨k + 1, by omega, by go_num, hQ2.out⟩, by simp [intOf]; omega⟩
    · have : k = n := by omega
      subst this
      have hxl := hQ.out.a1.row.1
      have hT := fun wx h => mirror_impl W ao k co ys wx h (by omega)
      rw [if_pos fV.out, Int.toNat_natCast, fM.out] at hT
      have hT := Lib.hid hT
      clear fM fV fH
      go_wp2_with fail
      refine (hT.out _ hQ.out.a0.row).mono ?_
      simp only [Gives, hxl]
      rintro e w7 ⟨⟨ax, cx, rfl, hox⟩, hb⟩
      have hC7 := (hQ.out.move hb).push (W := W) (cg := cx) hox.row
      have r0 := hC7.a0.c0
      have r1 := hC7.a0.c1
      have q0 := hC7.a1.c0
      have q1 := hC7.a1.c1
      have p0 := hC7.a2.c0
      have p1 := hC7.a2.c1
      clear hQ hT hb hox
      go_wp2_with fail
      refine (sameImage_yes W ax s k cx cg xs _ hC7.a0.row hC7.a2.row (by omega)).mono ?_
      rintro e w8 ⟨rfl, hb⟩
      have hC8 := hC7.move hb
      have hC8 := Lib.hid hC8
      clear hC7 hb
      go_wp2_with fail
      go_ret
      exact ⟨rfl, hC8.out.bel⟩

set_option maxRecDepth 100000 in
theorem lifted (os : Os) (started : os.Started) (H : Type) (enc : TypeId × Value → H) :
    ReturnsInHanded {} Try.checked os 5 .any (Rows.fnMirrorSpec.pre6 enc Try.prog Try.f5 Rows.fnMirrorRow.domain false) (Rows.fnMirrorSpec.post enc Try.prog Try.f5 false true false false) := by
  refine returnsInHanded_of_change (C := Try.checked) own started (by kernel_rfl) Try.func5
    (ChangeSpec.witness6 (enc := enc) (C := Try.checked) false ⟨#[], #[.slice none 0 0], []⟩ 8 (by kernel_rfl) (by kernel_rfl) (by kernel_rfl) (by kernel_rfl)) ?_
  intro W base args ds gs before hval0 hW hcnd _
  have hval : ∀ (j : Nat) t v, Try.f5.params[j]? = some t → args[j]? = some v → Value.okWide Try.prog W .any base t v := hval0
  have hW' := hW
  obtain ⟨p, q, hA0, hV, rfl, hfz, hnd⟩ := hW
  have hA : DataW.TrodAll enc Try.prog W 0 (fun _ => true) true Try.f5.params.toList args.toList ds p := hA0
  rw [Try.params5] at hA hval
  obtain ⟨v0, vs0, d0, ds0, p0, q0, hargs, rfl, rfl, h0, r0⟩ := trodAll_cons hA
  obtain ⟨rfl, rfl, rfl⟩ := trodAll_nil r0
  obtain rfl : args = #[v0] := by cases args; simp_all
  obtain ⟨rfl, rfl⟩ := trodVars_none hV
  have k0 := h0
  have lt0 : ∀ x ∈ p0, x.block < W.heap.size := by obtain ⟨m, hm⟩ := k0; exact DataW.trod_lt m _ _ _ hm
  obtain ⟨a0, len0, cap0, z0, rfl, w0, l0, m0⟩ := open_code (hval 0 22 v0 rfl rfl) h0
  clear hA0 hval0
  refine (walk a0 len0 cap0 z0 W w0 l0 m0).mono fun e W' ⟨he, bel⟩ => ?_
  subst he
  exact ⟨_, rfl, _, _, _, [], _, [], hW', trodAll_mk1 (shut_bool Try.underlying4 _), (trodAll_cons_mk (Below.trod laidOut (by kernel_rfl) (of_decide_eq_true (by kernel_rfl)) k0 bel lt0) trodAll_mk0), rfl, bel.frame _, fun h => by cases h⟩

theorem closed : joinedFacts Try.prog 5 Try.f5 Rows.fnMirrorSpec Rows.fnMirrorRow = true := by
  simp only [joinedFacts, Bool.and_eq_true]
  repeat' apply And.intro
  all_goals first | with_reducible exact mayEnterOk | (with_reducible rw [liftsFinalOk]; kernel_rfl) | (with_reducible rw [makeOk]; kernel_rfl) | kernel_rfl

theorem over : Rows.fnMirrorRow.holds Try.pinned (OpenSpec.ofChange Rows.fnMirrorSpec) :=
  OpenClaim.holds_of_wide 5 Try.f5 rfl rfl rfl rfl rfl rfl rfl ⟨rfl, rfl, rfl, rfl, rfl⟩ rfl rfl rfl rfl rfl (by kernel_rfl) Try.func5 closed
    (of_decide_eq_true (by kernel_rfl)) (by unfold Func.isWrapper; first | (rw [if_pos (by decide +kernel)]; kernel_rfl) | (rw [if_neg (by decide +kernel)]; exact ⟨rfl, rfl⟩))
    (fun os started H enc _ => lifted os started H enc)

theorem proved : Rows.FnMirrorSaid := over
#print axioms proved
end Go.Proofs.Ytebfdpcpmiookaa.LFMirror

