/-
  For any two slices of bytes the law FnPutOther answers true: two cells are put in any order; nothing that was there is written; no condition.
-/
import Derived.Test.YtgbbigekamapiaaO
import Derived.Test.YtgbbigekamapiaaK
import Derived.Test.YtgbbigekamapiaaA
import Derived.Test.YtgbbigekamapiaaEp
import Derived.Test.YtgbbigekamapiaaSh
namespace Go.Proofs.Ytgbbigekamapiaa.LFPutOther
set_option maxRecDepth 100000
open Go.ChangeShapes Go.WideShapes Go.ChangeAt Go.RowKit Go.Joins

set_option maxHeartbeats 800000 in
theorem walk (a : Option Addr) (len cap : Nat) (zs : List Int) (a2 : Option Addr) (len2 cap2 : Nat) (zs2 : List Int) (w : World) (h : Bys w a len zs) (hl : len ≤ cap) (hm : cap ≤ 9223372036854775807) (_ : Bys w a2 len2 zs2) (_ : len2 ≤ cap2) (_ : cap2 ≤ 9223372036854775807) :
    Calls Try.prog 5 #[.slice a len cap, .slice a2 len2 cap2] w fun e w' => e = .returned (.bool true) ∧ Below w.heap.size w w' := by
  by_cases hbig : 1048576 < len
  · clear h
    go_enter Try.func5, Try.ntmps5
    go_wp2_with fail
    go_ret
    exact ⟨rfl, Below.refl _ _⟩
  by_cases hbig2 : 1048576 < len2
  · clear h
    go_enter Try.func5, Try.ntmps5
    go_wp2_with fail
    go_ret
    exact ⟨rfl, Below.refl _ _⟩
  go_enter Try.func5, Try.ntmps5
  go_wp2_with fail
  refine (draw_DrawImagePut a len cap zs _ h hl hm).mono ?_
  rintro e w1 ⟨W, s, n, cg, xs, i, j, set, rfl, hR, hn, hb1⟩
  clear h hl hm
  have hC := (Ctx.nil hb1).push (W := W) (cg := cg) hR
  clear hR hb1
  by_cases hp : validB W xs = true ∧ cellB W xs.length i j = true
  case neg =>
    have b00 := hC.a0.c0
    have b01 := hC.a0.c1
    go_wp2_with fail
    refine (put_no (n := n) hp set s cg _ hC.a0.row (by omega)).mono ?_
    rintro e w2 ⟨⟨a2, c2, rfl, ho⟩, hb⟩
    clear b00 b01
    replace hC := (hC.move hb).push (W := 0) (cg := c2) ho.row
    clear ho hb
    have b00 := hC.a0.c0
    have b01 := hC.a0.c1
    have b10 := hC.a1.c0
    have b11 := hC.a1.c1
    go_wp2_with fail
    refine (put_sno (n := n) hp set s cg _ hC.a1.row (by omega)).mono ?_
    rintro e w3 ⟨⟨a3, c3, rfl, ho⟩, hb⟩
    clear b00 b01 b10 b11
    replace hC := (hC.move hb).push (W := 0) (cg := c3) ho.row
    clear ho hb
    have b00 := hC.a0.c0
    have b01 := hC.a0.c1
    have b10 := hC.a1.c0
    have b11 := hC.a1.c1
    have b20 := hC.a2.c0
    have b21 := hC.a2.c1
    go_wp2_with fail
    refine (sameImage_yes 0 _ _ 0 _ _ [] _ hC.a1.row hC.a0.row (by omega)).mono ?_
    rintro e w4 ⟨rfl, hb⟩
    clear b00 b01 b10 b11 b20 b21
    replace hC := hC.move hb
    clear hb
    have b00 := hC.a0.c0
    have b01 := hC.a0.c1
    have b10 := hC.a1.c0
    have b11 := hC.a1.c1
    have b20 := hC.a2.c0
    have b21 := hC.a2.c1
    go_wp2_with fail
    refine (sameImage_yes 0 _ _ 0 _ _ [] _ hC.a1.row hC.a0.row (by omega)).mono ?_
    rintro e w5 ⟨rfl, hb⟩
    clear b00 b01 b10 b11 b20 b21
    replace hC := hC.move hb
    clear hb
    have b00 := hC.a0.c0
    have b01 := hC.a0.c1
    have b10 := hC.a1.c0
    have b11 := hC.a1.c1
    have b20 := hC.a2.c0
    have b21 := hC.a2.c1
    go_wp2_with fail
    go_ret
    exact ⟨rfl, hC.bel⟩
  obtain ⟨hv, hce⟩ := hp
  have hI0 := validB_W hv
  obtain ⟨W, rfl⟩ := Int.eq_ofNat_of_zero_le (by omega : 0 ≤ W)
  have hI : Im W n xs := Im.of hv hC.a0.row.1
  have hW6 := hI.w6
  have hW1 := hI.w1
  have hn1 := hI.l1
  rw [hI.hl] at hce
  obtain ⟨q1, q2, q3, q4⟩ := cellB_iff.1 hce
  obtain ⟨i, rfl⟩ := Int.eq_ofNat_of_zero_le q1
  obtain ⟨j, rfl⟩ := Int.eq_ofNat_of_zero_le q3
  have hi : i < n := by omega
  have hj : j < W := by omega
  have hP := Lib.hid (put_ok hI hi hj set)
  have hS := Lib.hid (put_sok hI hi hj set)
  have hIp := hI.put hi hj set
  clear hv hce hI0 q1 q2 q3 q4
  have k0 : len2 % n < n := Nat.mod_lt _ (by omega)
  have l0 : len2 / n % W < W := Nat.mod_lt _ (by omega)
  have hmod : ((len2 : Int) % (n : Int)) = ((len2 % n : Nat) : Int) := (Int.natCast_emod _ _).symm
  have hmod2 : (((len2 : Int) / (n : Int)) % (W : Int)) = ((len2 / n % W : Nat) : Int) := by rw [Int.natCast_emod, Int.natCast_ediv]
  have hdiv : IntKind.i64.wrap ((len2 : Int).tdiv (n : Int)) = (len2 : Int) / (n : Int) := by
    rw [Int.tdiv_eq_ediv_of_nonneg (by omega)]
    have h1 := Int.ediv_nonneg (show (0 : Int) ≤ len2 by omega) (show (0 : Int) ≤ n by omega)
    have h2 := Int.ediv_le_self (n : Int) (show (0 : Int) ≤ len2 by omega)
    exact IntWalk.i64_in _ ⟨by omega, by omega⟩
  generalize len2 % n = k at k0 hmod
  generalize len2 / n % W = m at l0 hmod2
  have fx := Lib.hid (fun s cg wx => put_ok hIp k0 l0 true s cg wx)
  have fy := Lib.hid (fun s cg wx => put_ok hI k0 l0 true s cg wx)
  have fz := Lib.hid (fun s cg wx => put_ok (hI.put k0 l0 true) hi hj set s cg wx)
  have fc := Lib.hid (fun h => hI.put_comm hi hj k0 l0 h set true)
  clear hIp hI
  generalize putL (putL xs k m true) i j set = zs3 at fz fc
  generalize putL xs k m true = ys at fy fz fc
  generalize putL (putL xs i j set) k m true = xs2 at fx fc
  generalize putL xs i j set = ps at hP hS fx fc
  have b00 := hC.a0.c0
  have b01 := hC.a0.c1
  go_wp2_with fail
  refine (hP.out s cg _ hC.a0.row).mono ?_
  rintro e w2 ⟨⟨a2, c2, rfl, ho⟩, hb⟩
  clear b00 b01
  replace hC := (hC.move hb).push (W := W) (cg := c2) ho.row
  clear ho hb
  have b00 := hC.a0.c0
  have b01 := hC.a0.c1
  have b10 := hC.a1.c0
  have b11 := hC.a1.c1
  go_wp2_with fail
  refine (hS.out s cg _ hC.a1.row).mono ?_
  rintro e w3 ⟨⟨a3, c3, rfl, ho⟩, hb⟩
  clear b00 b01 b10 b11
  replace hC := (hC.move hb).push (W := W) (cg := c3) ho.row
  clear ho hb
  have b00 := hC.a0.c0
  have b01 := hC.a0.c1
  have b10 := hC.a1.c0
  have b11 := hC.a1.c1
  have b20 := hC.a2.c0
  have b21 := hC.a2.c1
  go_wp2_with fail
  refine (sameImage_yes W _ _ n _ _ ps _ hC.a1.row hC.a0.row (by omega)).mono ?_
  rintro e w4 ⟨rfl, hb⟩
  clear b00 b01 b10 b11 b20 b21
  replace hC := hC.move hb
  clear hb
  have hmod3 : (wrap64 ((len2 : Int) / (n : Int))).tmod (W : Int) = (m : Int) := by
    have h1 := Int.ediv_nonneg (show (0 : Int) ≤ len2 by omega) (show (0 : Int) ≤ n by omega)
    have h2 := Int.ediv_le_self (n : Int) (show (0 : Int) ≤ len2 by omega)
    rw [IntWalk.wrap64_in _ ⟨by omega, by omega⟩, Int.tmod_eq_emod_of_nonneg h1]; exact hmod2
  have d1 : ¬ (n : Int) = 0 := by omega
  have d2 : ¬ (W : Int) = 0 := by omega
  have d3 : ((n : Int) == 0) = false := by simpa using d1
  have d4 : ((W : Int) == 0) = false := by simpa using d2
  have b00 := hC.a0.c0
  have b01 := hC.a0.c1
  have b10 := hC.a1.c0
  have b11 := hC.a1.c1
  have b20 := hC.a2.c0
  have b21 := hC.a2.c1
  go_wp2_with fail
  rw [hmod]
  have hC' := Lib.hid hC
  clear hC hmod
  go_quiet (fail)
  have hC := hC'.out.move (below_drewN (Below.refl _ _) nq)
  clear hC' hmod2 hmod3 hdiv d1 d2 d3 d4
  clear b00 b01 b10 b11 b20 b21
  have b00 := hC.a0.c0
  have b01 := hC.a0.c1
  have b10 := hC.a1.c0
  have b11 := hC.a1.c1
  have b20 := hC.a2.c0
  have b21 := hC.a2.c1
  go_wp2_with fail
  refine (fx.out _ _ _ hC.a1.row).mono ?_
  rintro e w5 ⟨⟨a5, c5, rfl, ho⟩, hb⟩
  clear b00 b01 b10 b11 b20 b21
  replace hC := (hC.move hb).push (W := W) (cg := c5) ho.row
  clear ho hb
  have b00 := hC.a0.c0
  have b01 := hC.a0.c1
  have b10 := hC.a1.c0
  have b11 := hC.a1.c1
  have b20 := hC.a2.c0
  have b21 := hC.a2.c1
  have b30 := hC.a3.c0
  have b31 := hC.a3.c1
  go_wp2_with fail
  refine (fy.out _ _ _ hC.a3.row).mono ?_
  rintro e w6 ⟨⟨a6, c6, rfl, ho⟩, hb⟩
  clear b00 b01 b10 b11 b20 b21 b30 b31
  replace hC := (hC.move hb).push (W := W) (cg := c6) ho.row
  clear ho hb
  have b00 := hC.a0.c0
  have b01 := hC.a0.c1
  have b10 := hC.a1.c0
  have b11 := hC.a1.c1
  have b20 := hC.a2.c0
  have b21 := hC.a2.c1
  have b30 := hC.a3.c0
  have b31 := hC.a3.c1
  have b40 := hC.a4.c0
  have b41 := hC.a4.c1
  go_wp2_with fail
  refine (fz.out _ _ _ hC.a0.row).mono ?_
  rintro e w7 ⟨⟨a7, c7, rfl, ho⟩, hb⟩
  clear b00 b01 b10 b11 b20 b21 b30 b31 b40 b41
  replace hC := (hC.move hb).push (W := W) (cg := c7) ho.row
  clear ho hb
  by_cases hsame : k = i ∧ m = j
  · obtain ⟨rfl, rfl⟩ := hsame
    have b00 := hC.a0.c0
    have b01 := hC.a0.c1
    have b10 := hC.a1.c0
    have b11 := hC.a1.c1
    have b20 := hC.a2.c0
    have b21 := hC.a2.c1
    have b30 := hC.a3.c0
    have b31 := hC.a3.c1
    have b40 := hC.a4.c0
    have b41 := hC.a4.c1
    have b50 := hC.a5.c0
    have b51 := hC.a5.c1
    go_wp2_with fail
    go_ret
    exact ⟨rfl, hC.bel⟩
  · have hxz := fc.out hsame
    subst hxz
    have e1 : (((k : Int) == (i : Int)) && ((m : Int) == (j : Int))) = false := by
      rw [Bool.and_eq_false_iff]
      by_cases e : k = i
      · right; simp only [beq_eq_false_iff_ne]; omega
      · left; simp only [beq_eq_false_iff_ne]; omega
    have b00 := hC.a0.c0
    have b01 := hC.a0.c1
    have b10 := hC.a1.c0
    have b11 := hC.a1.c1
    have b20 := hC.a2.c0
    have b21 := hC.a2.c1
    have b30 := hC.a3.c0
    have b31 := hC.a3.c1
    have b40 := hC.a4.c0
    have b41 := hC.a4.c1
    have b50 := hC.a5.c0
    have b51 := hC.a5.c1
    go_wp2_with fail
    all_goals
      refine (sameImage_yes W _ _ n _ _ xs2 _ hC.a2.row hC.a0.row (by omega)).mono ?_
      rintro e w8 ⟨rfl, hb⟩
      clear b00 b01 b10 b11 b20 b21 b30 b31 b40 b41 b50 b51
      replace hC := hC.move hb
      clear hb
      have b00 := hC.a0.c0
      have b01 := hC.a0.c1
      have b10 := hC.a1.c0
      have b11 := hC.a1.c1
      have b20 := hC.a2.c0
      have b21 := hC.a2.c1
      have b30 := hC.a3.c0
      have b31 := hC.a3.c1
      have b40 := hC.a4.c0
      have b41 := hC.a4.c1
      have b50 := hC.a5.c0
      have b51 := hC.a5.c1
      go_wp2_with fail
      go_ret
      exact ⟨rfl, hC.bel⟩

set_option maxRecDepth 100000 in
theorem lifted (os : Os) (started : os.Started) (H : Type) (enc : TypeId × Value → H) :
    ReturnsInHanded {} Try.checked os 5 .any (Rows.fnPutOtherSpec.pre6 enc Try.prog Try.f5 Rows.fnPutOtherRow.domain false) (Rows.fnPutOtherSpec.post enc Try.prog Try.f5 false true false false) := by
  refine returnsInHanded_of_change (C := Try.checked) own started (by kernel_rfl) Try.func5
    (ChangeSpec.witness6 (enc := enc) (C := Try.checked) false ⟨#[], #[.slice none 0 0, .slice none 0 0], []⟩ 8 (by kernel_rfl) (by kernel_rfl) (by kernel_rfl) (by kernel_rfl)) ?_
  intro W base args ds gs before hval0 hW hcnd _
  have hval : ∀ (j : Nat) t v, Try.f5.params[j]? = some t → args[j]? = some v → Value.okWide Try.prog W .any base t v := hval0
  have hW' := hW
  obtain ⟨p, q, hA0, hV, rfl, hfz, hnd⟩ := hW
  have hA : DataW.TrodAll enc Try.prog W 0 (fun _ => true) true Try.f5.params.toList args.toList ds p := hA0
  rw [Try.params5] at hA hval
  obtain ⟨v0, vs0, d0, ds0, p0, q0, hargs, rfl, rfl, h0, r0⟩ := trodAll_cons hA
  obtain ⟨v1, vs1, d1, ds1, p1, q1, rfl, rfl, rfl, h1, r1⟩ := trodAll_cons r0
  obtain ⟨rfl, rfl, rfl⟩ := trodAll_nil r1
  obtain rfl : args = #[v0, v1] := by cases args; simp_all
  obtain ⟨rfl, rfl⟩ := trodVars_none hV
  have k0 := h0
  have lt0 : ∀ x ∈ p0, x.block < W.heap.size := by obtain ⟨m, hm⟩ := k0; exact DataW.trod_lt m _ _ _ hm
  obtain ⟨a0, len0, cap0, z0, rfl, w0, l0, m0⟩ := open_code (hval 0 22 v0 rfl rfl) h0
  have k1 := h1
  have lt1 : ∀ x ∈ p1, x.block < W.heap.size := by obtain ⟨m, hm⟩ := k1; exact DataW.trod_lt m _ _ _ hm
  obtain ⟨a1, len1, cap1, z1, rfl, w1, l1, m1⟩ := open_code (hval 1 22 v1 rfl rfl) h1
  clear hA0 hval0
  refine (walk a0 len0 cap0 z0 a1 len1 cap1 z1 W w0 l0 m0 w1 l1 m1).mono fun e W' ⟨he, bel⟩ => ?_
  subst he
  exact ⟨_, rfl, _, _, _, [], _, [], hW', trodAll_mk1 (shut_bool Try.underlying4 _), (trodAll_cons_mk (Below.trod laidOut (by kernel_rfl) (of_decide_eq_true (by kernel_rfl)) k0 bel lt0) (trodAll_cons_mk (Below.trod laidOut (by kernel_rfl) (of_decide_eq_true (by kernel_rfl)) k1 bel lt1) trodAll_mk0)), rfl, bel.frame _, fun h => by cases h⟩

theorem closed : joinedFacts Try.prog 5 Try.f5 Rows.fnPutOtherSpec Rows.fnPutOtherRow = true := by
  simp only [joinedFacts, Bool.and_eq_true]
  repeat' apply And.intro
  all_goals first | with_reducible exact mayEnterOk | (with_reducible rw [liftsFinalOk]; kernel_rfl) | (with_reducible rw [makeOk]; kernel_rfl) | kernel_rfl

theorem over : Rows.fnPutOtherRow.holds Try.pinned (OpenSpec.ofChange Rows.fnPutOtherSpec) :=
  OpenClaim.holds_of_wide 5 Try.f5 rfl rfl rfl rfl rfl rfl rfl ⟨rfl, rfl, rfl, rfl, rfl⟩ rfl rfl rfl rfl rfl (by kernel_rfl) Try.func5 closed
    (of_decide_eq_true (by kernel_rfl)) (by unfold Func.isWrapper; first | (rw [if_pos (by decide +kernel)]; kernel_rfl) | (rw [if_neg (by decide +kernel)]; exact ⟨rfl, rfl⟩))
    (fun os started H enc _ => lifted os started H enc)

theorem proved : Rows.FnPutOtherSaid := over
#print axioms proved
end Go.Proofs.Ytgbbigekamapiaa.LFPutOther

