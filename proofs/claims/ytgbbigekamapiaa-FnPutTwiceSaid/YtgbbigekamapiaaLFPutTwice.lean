/-
  For every slice of bytes the law FnPutTwice answers true: what was put last counts; nothing that was there is written; no condition.
-/
import Derived.Test.YtgbbigekamapiaaO
import Derived.Test.YtgbbigekamapiaaK
import Derived.Test.YtgbbigekamapiaaA
import Derived.Test.YtgbbigekamapiaaEp
import Derived.Test.YtgbbigekamapiaaSh
namespace Go.Proofs.Ytgbbigekamapiaa.LFPutTwice
set_option maxRecDepth 100000
open Go.ChangeShapes Go.WideShapes Go.ChangeAt Go.RowKit Go.Joins

set_option maxHeartbeats 6000000 in
theorem walk (a : Option Addr) (len cap : Nat) (zs : List Int) (w : World) (h : Bys w a len zs) (hl : len ≤ cap) (hm : cap ≤ 9223372036854775807) :
    Calls Try.prog 4 #[.slice a len cap] w fun e w' => e = .returned (.bool true) ∧ Below w.heap.size w w' := by
  by_cases hbig : 1048576 < len
  · clear h
    go_enter Try.func4, Try.ntmps4
    go_wp2_with fail
    go_ret
    exact ⟨rfl, Below.refl _ _⟩
  go_enter Try.func4, Try.ntmps4
  go_wp2_with fail
  refine (draw_DrawImagePut a len cap zs _ h hl hm).mono ?_
  rintro e w1 ⟨W, s, n, cg, xs, i, j, set, rfl, hR, hn, hb1⟩
  clear h hl hm
  have hC := (Ctx.nil hb1).push (W := W) (cg := cg) hR
  clear hR hb1
  by_cases hp : validB W xs = true ∧ cellB W xs.length i j = true
  case neg =>
    have b00 := hC.a0.c0
    have b01 := hC.a0.c1
    go_wp2_with fail
    refine (put_no (n := n) hp set s cg _ hC.a0.row (by omega)).mono ?_
    rintro e w2 ⟨⟨a2, c2, rfl, ho⟩, hb⟩
    clear b00 b01
    replace hC := (hC.move hb).push (W := 0) (cg := c2) ho.row
    clear ho hb
    have b00 := hC.a0.c0
    have b01 := hC.a0.c1
    have b10 := hC.a1.c0
    have b11 := hC.a1.c1
    go_wp2_with fail
    refine (put_sno (n := n) hp set s cg _ hC.a1.row (by omega)).mono ?_
    rintro e w3 ⟨⟨a3, c3, rfl, ho⟩, hb⟩
    clear b00 b01 b10 b11
    replace hC := (hC.move hb).push (W := 0) (cg := c3) ho.row
    clear ho hb
    have b00 := hC.a0.c0
    have b01 := hC.a0.c1
    have b10 := hC.a1.c0
    have b11 := hC.a1.c1
    have b20 := hC.a2.c0
    have b21 := hC.a2.c1
    go_wp2_with fail
    refine (sameImage_yes 0 _ _ 0 _ _ [] _ hC.a1.row hC.a0.row (by omega)).mono ?_
    rintro e w4 ⟨rfl, hb⟩
    clear b00 b01 b10 b11 b20 b21
    replace hC := hC.move hb
    clear hb
    have b00 := hC.a0.c0
    have b01 := hC.a0.c1
    have b10 := hC.a1.c0
    have b11 := hC.a1.c1
    have b20 := hC.a2.c0
    have b21 := hC.a2.c1
    go_wp2_with fail
    refine (sameImage_yes 0 _ _ 0 _ _ [] _ hC.a1.row hC.a0.row (by omega)).mono ?_
    rintro e w5 ⟨rfl, hb⟩
    clear b00 b01 b10 b11 b20 b21
    replace hC := hC.move hb
    clear hb
    have b00 := hC.a0.c0
    have b01 := hC.a0.c1
    have b10 := hC.a1.c0
    have b11 := hC.a1.c1
    have b20 := hC.a2.c0
    have b21 := hC.a2.c1
    go_wp2_with fail
    go_ret
    exact ⟨rfl, hC.bel⟩
  obtain ⟨hv, hce⟩ := hp
  have hI0 := validB_W hv
  obtain ⟨W, rfl⟩ := Int.eq_ofNat_of_zero_le (by omega : 0 ≤ W)
  have hI : Im W n xs := Im.of hv hC.a0.row.1
  have hW6 := hI.w6
  have hW1 := hI.w1
  have hn1 := hI.l1
  rw [hI.hl] at hce
  obtain ⟨q1, q2, q3, q4⟩ := cellB_iff.1 hce
  obtain ⟨i, rfl⟩ := Int.eq_ofNat_of_zero_le q1
  obtain ⟨j, rfl⟩ := Int.eq_ofNat_of_zero_le q3
  have hi : i < n := by omega
  have hj : j < W := by omega
  have hP := Lib.hid (put_ok hI hi hj set)
  have hS := Lib.hid (put_sok hI hi hj set)
  have hIp := hI.put hi hj set
  clear hv hce hI0 q1 q2 q3 q4
  have fx := Lib.hid (fun s cg wx => put_ok hIp hi hj (!set) s cg wx)
  have fy := Lib.hid (fun s cg wx => put_ok (hIp.put hi hj (!set)) hi hj set s cg wx)
  have fz := Lib.hid (fun s cg wx => put_ok hI hi hj (hasB W xs i j) s cg wx)
  have fh := Lib.hid (rfl : hasB W xs i j = hasB W xs i j)
  rw [hI.put_put hi hj set (!set), hI.put_put hi hj (!set) set] at fy
  rw [hI.put_put hi hj set (!set)] at fx
  rw [hI.put_self hi hj] at fz
  clear hIp hI
  generalize putL xs i j (!set) = qs at fx fy
  generalize putL xs i j set = ps at hP hS fx fy
  have b00 := hC.a0.c0
  have b01 := hC.a0.c1
  go_wp2_with fail
  refine (hP.out s cg _ hC.a0.row).mono ?_
  rintro e w2 ⟨⟨a2, c2, rfl, ho⟩, hb⟩
  clear b00 b01
  replace hC := (hC.move hb).push (W := W) (cg := c2) ho.row
  clear ho hb
  have b00 := hC.a0.c0
  have b01 := hC.a0.c1
  have b10 := hC.a1.c0
  have b11 := hC.a1.c1
  go_wp2_with fail
  refine (hS.out s cg _ hC.a1.row).mono ?_
  rintro e w3 ⟨⟨a3, c3, rfl, ho⟩, hb⟩
  clear b00 b01 b10 b11
  replace hC := (hC.move hb).push (W := W) (cg := c3) ho.row
  clear ho hb
  have b00 := hC.a0.c0
  have b01 := hC.a0.c1
  have b10 := hC.a1.c0
  have b11 := hC.a1.c1
  have b20 := hC.a2.c0
  have b21 := hC.a2.c1
  go_wp2_with fail
  refine (sameImage_yes W _ _ n _ _ ps _ hC.a1.row hC.a0.row (by omega)).mono ?_
  rintro e w4 ⟨rfl, hb⟩
  clear b00 b01 b10 b11 b20 b21
  replace hC := hC.move hb
  clear hb
  have b00 := hC.a0.c0
  have b01 := hC.a0.c1
  have b10 := hC.a1.c0
  have b11 := hC.a1.c1
  have b20 := hC.a2.c0
  have b21 := hC.a2.c1
  go_wp2_with fail
  refine (fx.out _ _ _ hC.a1.row).mono ?_
  rintro e w5 ⟨⟨a5, c5, rfl, ho⟩, hb⟩
  clear b00 b01 b10 b11 b20 b21
  replace hC := (hC.move hb).push (W := W) (cg := c5) ho.row
  clear ho hb
  have b00 := hC.a0.c0
  have b01 := hC.a0.c1
  have b10 := hC.a1.c0
  have b11 := hC.a1.c1
  have b20 := hC.a2.c0
  have b21 := hC.a2.c1
  have b30 := hC.a3.c0
  have b31 := hC.a3.c1
  go_wp2_with fail
  refine (fy.out _ _ _ hC.a0.row).mono ?_
  rintro e w6 ⟨⟨a6, c6, rfl, ho⟩, hb⟩
  clear b00 b01 b10 b11 b20 b21 b30 b31
  replace hC := (hC.move hb).push (W := W) (cg := c6) ho.row
  clear ho hb
  obtain ⟨V, hV⟩ : ∃ V, w6.alloc (.cells #[.int .i64 W, .slice a6 n c6] 25) = V := ⟨_, rfl⟩
  have b00 := hC.a0.c0
  have b01 := hC.a0.c1
  have b10 := hC.a1.c0
  have b11 := hC.a1.c1
  have b20 := hC.a2.c0
  have b21 := hC.a2.c1
  have b30 := hC.a3.c0
  have b31 := hC.a3.c1
  have b40 := hC.a4.c0
  have b41 := hC.a4.c1
  go_wp2_with fail
  clear b00 b01 b10 b11 b20 b21 b30 b31 b40 b41
  rw [hV] at hC
  clear hV
  have hVs := hC.bel.size
  have hCd := Lib.hid (hC.move (Below.refl _ _).drew)
  have hCz := hC.push (W := 0) (cg := 0) (row_nil V)
  have hCe := Lib.hid (hCz.move (Below.refl _ _).drew)
  have hzd : Box (V.alloc (.cells #[.int .i64 0, .slice none 0 0] 25)).drew V.heap.size (.int .i64 0) (.slice none 0 0) := ⟨by go_simp, by go_simp, fun o => by go_simp⟩
  have hzd := Lib.hid hzd
  have hold := Lib.hid (hC.olds (Nat.le_refl _))
  have rD : Row V.drew s n xs := hCd.out.a4.row
  have rE : Row (V.alloc (.cells #[.int .i64 0, .slice none 0 0] 25)).drew s n xs := hCe.out.a5.row
  have rD := Lib.hid rD
  have rE := Lib.hid rE
  have mV : w1.heap.size < V.heap.size := block_lt hC.a4.c0
  have b00 := hC.a0.c0
  have b01 := hC.a0.c1
  have b10 := hC.a1.c0
  have b11 := hC.a1.c1
  have b20 := hC.a2.c0
  have b21 := hC.a2.c1
  have b30 := hC.a3.c0
  have b31 := hC.a3.c1
  have b40 := hC.a4.c0
  have b41 := hC.a4.c1
  clear hCz
  go_region_law (first | ((go_simp; go_at_call 21; (with_reducible refine (has_impl W s n cg xs i j _ rD.out (by omega)).mono ?_); rintro e wA ⟨rfl, hb⟩; have hCA := Lib.hid (hCd.out.move hb); have rA := Lib.hid (rD.out.bel hb); have lA : V.heap.size ≤ wA.heap.size := (by have := hb.size; simpa using this); have mA : w1.heap.size < wA.heap.size := Nat.lt_of_lt_of_le mV lA; clear hb; have f00 := hCA.out.a0.c0; have f01 := hCA.out.a0.c1; have f10 := hCA.out.a1.c0; have f11 := hCA.out.a1.c1; have f20 := hCA.out.a2.c0; have f21 := hCA.out.a2.c1; have f30 := hCA.out.a3.c0; have f31 := hCA.out.a3.c1; have f40 := hCA.out.a4.c0; have f41 := hCA.out.a4.c1)) | ((go_simp; go_at_call 21; (with_reducible refine (has_impl W s n cg xs i j _ rE.out (by omega)).mono ?_); rintro e wA ⟨rfl, hb⟩; have hZA := Lib.hid (hCe.out.move hb); have rZ := Lib.hid (rE.out.bel hb); have lZ : V.heap.size < wA.heap.size := (by have := hb.size; simp at this; omega); have hzA := Lib.hid (hzd.out.bel hb); clear hb; have f00 := hZA.out.a1.c0; have f01 := hZA.out.a1.c1; have f10 := hZA.out.a2.c0; have f11 := hZA.out.a2.c1; have f20 := hZA.out.a3.c0; have f21 := hZA.out.a3.c1; have f30 := hZA.out.a4.c0; have f31 := hZA.out.a4.c1; have f40 := hZA.out.a5.c0; have f41 := hZA.out.a5.c1)) | ((go_simp; go_at_call 18; (with_reducible refine (fz.out s cg wA rA.out).mono ?_); rintro e wB ⟨⟨aB, cB, rfl, ho⟩, hb⟩; have hL := Lib.hid ((hCA.out.move hb).push (W := W) (cg := cB) ho.row); clear ho hb)) | ((go_simp; go_at_call 18; (with_reducible refine (fz.out s cg wA rZ.out).mono ?_); rintro e wB ⟨⟨aB, cB, rfl, ho⟩, hb⟩; have hE := Lib.hid (hZA.out.move hb); have hzB := hzA.out.bel hb; have e0 := hzB.c0; have e1 := hzB.c1; have ef := hzB.fz; have hoB := Lib.hid ho; clear ho hb hzB)) | ((go_simp; go_at_call 18; (with_reducible refine (fz.out s cg (wA.alloc (.cells #[.int .i64 0, .slice none 0 0] 25)) (rA.out.alloc _)).mono ?_); rintro e wB ⟨⟨aB, cB, rfl, ho⟩, hb⟩; have hM := Lib.hid ((hCA.out.push (W := 0) (cg := 0) (row_nil wA)).move hb); have hzB := (Box.bel (b := wA.heap.size) (v0 := .int .i64 0) (v1 := .slice none 0 0) ⟨by go_simp, by go_simp, fun o => by go_simp⟩ hb); have e0 := hzB.c0; have e1 := hzB.c1; have ef := hzB.fz; have hoB := Lib.hid ho; clear ho hb hzB)))
  all_goals
    first | have hC := hL.out | have hC := hE.out.putk (W := W) (cg := cB) hoB.out.row (own_far hoB.out lZ) hold.out hVs | have hC := hM.out.putk (W := W) (cg := cB) hoB.out.row (own_far hoB.out (by simp)) (hCA.out.olds (Nat.le_refl _)) (Nat.le_trans hVs lA)
    clear hCd hCe hzd hold rD rE
    try clear hL
    try clear hE
    try clear hM
    have b00 := hC.a0.c0
    have b01 := hC.a0.c1
    have b10 := hC.a1.c0
    have b11 := hC.a1.c1
    have b20 := hC.a2.c0
    have b21 := hC.a2.c1
    have b30 := hC.a3.c0
    have b31 := hC.a3.c1
    have b40 := hC.a4.c0
    have b41 := hC.a4.c1
    have b50 := hC.a5.c0
    have b51 := hC.a5.c1
    go_wp2_with fail
    refine (sameImage_yes W _ _ n _ _ ps _ hC.a1.row hC.a4.row (by omega)).mono ?_
    rintro e w7 ⟨rfl, hb⟩
    clear b00 b01 b10 b11 b20 b21 b30 b31 b40 b41 b50 b51
    replace hC := hC.move hb
    clear hb
    have b00 := hC.a0.c0
    have b01 := hC.a0.c1
    have b10 := hC.a1.c0
    have b11 := hC.a1.c1
    have b20 := hC.a2.c0
    have b21 := hC.a2.c1
    have b30 := hC.a3.c0
    have b31 := hC.a3.c1
    have b40 := hC.a4.c0
    have b41 := hC.a4.c1
    have b50 := hC.a5.c0
    have b51 := hC.a5.c1
    go_wp2_with fail
    refine (sameImage_yes W _ _ n _ _ xs _ hC.a0.row hC.a5.row (by omega)).mono ?_
    rintro e w8 ⟨rfl, hb⟩
    clear b00 b01 b10 b11 b20 b21 b30 b31 b40 b41 b50 b51
    replace hC := hC.move hb
    clear hb
    have b00 := hC.a0.c0
    have b01 := hC.a0.c1
    have b10 := hC.a1.c0
    have b11 := hC.a1.c1
    have b20 := hC.a2.c0
    have b21 := hC.a2.c1
    have b30 := hC.a3.c0
    have b31 := hC.a3.c1
    have b40 := hC.a4.c0
    have b41 := hC.a4.c1
    have b50 := hC.a5.c0
    have b51 := hC.a5.c1
    go_wp2_with fail
    go_ret
    exact ⟨rfl, hC.bel⟩

set_option maxRecDepth 100000 in
theorem lifted (os : Os) (started : os.Started) (H : Type) (enc : TypeId × Value → H) :
    ReturnsInHanded {} Try.checked os 4 .any (Rows.fnPutTwiceSpec.pre6 enc Try.prog Try.f4 Rows.fnPutTwiceRow.domain false) (Rows.fnPutTwiceSpec.post enc Try.prog Try.f4 false true false false) := by
  refine returnsInHanded_of_change (C := Try.checked) own started (by kernel_rfl) Try.func4
    (ChangeSpec.witness6 (enc := enc) (C := Try.checked) false ⟨#[], #[.slice none 0 0], []⟩ 8 (by kernel_rfl) (by kernel_rfl) (by kernel_rfl) (by kernel_rfl)) ?_
  intro W base args ds gs before hval0 hW hcnd _
  have hval : ∀ (j : Nat) t v, Try.f4.params[j]? = some t → args[j]? = some v → Value.okWide Try.prog W .any base t v := hval0
  have hW' := hW
  obtain ⟨p, q, hA0, hV, rfl, hfz, hnd⟩ := hW
  have hA : DataW.TrodAll enc Try.prog W 0 (fun _ => true) true Try.f4.params.toList args.toList ds p := hA0
  rw [Try.params4] at hA hval
  obtain ⟨v0, vs0, d0, ds0, p0, q0, hargs, rfl, rfl, h0, r0⟩ := trodAll_cons hA
  obtain ⟨rfl, rfl, rfl⟩ := trodAll_nil r0
  obtain rfl : args = #[v0] := by cases args; simp_all
  obtain ⟨rfl, rfl⟩ := trodVars_none hV
  have k0 := h0
  have lt0 : ∀ x ∈ p0, x.block < W.heap.size := by obtain ⟨m, hm⟩ := k0; exact DataW.trod_lt m _ _ _ hm
  obtain ⟨a0, len0, cap0, z0, rfl, w0, l0, m0⟩ := open_code (hval 0 22 v0 rfl rfl) h0
  clear hA0 hval0
  refine (walk a0 len0 cap0 z0 W w0 l0 m0).mono fun e W' ⟨he, bel⟩ => ?_
  subst he
  exact ⟨_, rfl, _, _, _, [], _, [], hW', trodAll_mk1 (shut_bool Try.underlying4 _), (trodAll_cons_mk (Below.trod laidOut (by kernel_rfl) (of_decide_eq_true (by kernel_rfl)) k0 bel lt0) trodAll_mk0), rfl, bel.frame _, fun h => by cases h⟩

theorem closed : joinedFacts Try.prog 4 Try.f4 Rows.fnPutTwiceSpec Rows.fnPutTwiceRow = true := by
  simp only [joinedFacts, Bool.and_eq_true]
  repeat' apply And.intro
  all_goals first | with_reducible exact mayEnterOk | (with_reducible rw [liftsFinalOk]; kernel_rfl) | (with_reducible rw [makeOk]; kernel_rfl) | kernel_rfl

theorem over : Rows.fnPutTwiceRow.holds Try.pinned (OpenSpec.ofChange Rows.fnPutTwiceSpec) :=
  OpenClaim.holds_of_wide 4 Try.f4 rfl rfl rfl rfl rfl rfl rfl ⟨rfl, rfl, rfl, rfl, rfl⟩ rfl rfl rfl rfl rfl (by kernel_rfl) Try.func4 closed
    (of_decide_eq_true (by kernel_rfl)) (by unfold Func.isWrapper; first | (rw [if_pos (by decide +kernel)]; kernel_rfl) | (rw [if_neg (by decide +kernel)]; exact ⟨rfl, rfl⟩))
    (fun os started H enc _ => lifted os started H enc)

theorem proved : Rows.FnPutTwiceSaid := over
#print axioms proved
end Go.Proofs.Ytgbbigekamapiaa.LFPutTwice

