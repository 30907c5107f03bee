/-
  For every slice of bytes the law FnHas answers true: a set cell is a bit of its row; nothing that was there is written; no condition.
-/
import Derived.Test.YtiegonpgfbmidaaO
import Derived.Test.YtiegonpgfbmidaaZ
import Derived.Test.YtiegonpgfbmidaaC
import Derived.Test.YtiegonpgfbmidaaEq
import Derived.Test.YtiegonpgfbmidaaAu
namespace Go.Proofs.Ytiegonpgfbmidaa.LFHas
open Go.ChangeShapes Go.WideShapes Go.ChangeAt Go.RowKit Go.Joins

set_option maxHeartbeats 800000 in
theorem walk (a : Option Addr) (len cap : Nat) (zs : List Int) (w : World) (h : Bys w a len zs) (hl : len ≤ cap) (hm : cap ≤ 9223372036854775807) :
    Calls Try.prog 4 #[.slice a len cap] w fun e w' => e = .returned (.bool true) ∧ Below w.heap.size w w' := by
  by_cases hbig : 1048576 < len
  · clear h
    go_enter Try.func4, Try.ntmps4
    go_wp2_with fail
    go_ret
    exact ⟨rfl, Below.refl _ _⟩
  go_enter Try.func4, Try.ntmps4
  go_wp2_with fail
  refine (draw_DrawImageHas a len cap zs _ h hl hm).mono ?_
  rintro e w1 ⟨W, s, n, cg, xs, i, j, rfl, hR, hn, hb1⟩
  clear h hl hm
  have hC := (Ctx.nil hb1).push (W := W) (cg := cg) hR
  clear hR hb1
  have b00 := hC.a0.c0
  have b01 := hC.a0.c1
  go_wp2_with fail
  refine (has_impl W s n cg xs i j _ hC.a0.row (by omega)).mono ?_
  rintro e w2 ⟨rfl, hb⟩
  clear b00 b01
  replace hC := hC.move hb
  clear hb
  have b00 := hC.a0.c0
  have b01 := hC.a0.c1
  go_wp2_with fail
  refine (has_spec W s n cg xs i j _ hC.a0.row (by omega)).mono ?_
  rintro e w3 ⟨rfl, hb⟩
  clear b00 b01
  replace hC := hC.move hb
  clear hb
  by_cases hh : hasB W xs i j = true
  case neg =>
    rw [show hasB W xs i j = false by simpa using hh]
    have b00 := hC.a0.c0
    have b01 := hC.a0.c1
    go_wp2_with fail
    go_ret
    exact ⟨rfl, hC.bel⟩
  rw [hh]
  have hv : validB W xs = true := by unfold hasB at hh; simp only [Bool.and_eq_true] at hh; exact hh.1
  have hce : cellB W xs.length i j = true := by unfold hasB at hh; simp only [Bool.and_eq_true] at hh; exact hh.2.1
  have hI0 := validB_W hv
  obtain ⟨W, rfl⟩ := Int.eq_ofNat_of_zero_le (by omega : 0 ≤ W)
  have hI : Im W n xs := Im.of hv hC.a0.row.1
  have hW6 := hI.w6
  have hW1 := hI.w1
  have hn1 := hI.l1
  rw [hI.hl] at hce
  obtain ⟨c1, c2, c3, c4⟩ := cellB_iff.1 hce
  obtain ⟨i, rfl⟩ := Int.eq_ofNat_of_zero_le c1
  obtain ⟨j, rfl⟩ := Int.eq_ofNat_of_zero_le c3
  have hi : i < n := by omega
  have hj : j < W := by omega
  have hbit : bitI (xs.getD i 0) j = 1 := by rw [hI.has hi hj] at hh; simpa using hh
  have hrow := hI.row i hi
  have hp63 := pw_63 hW6
  have hO := Lib.hid (other_ok hI s cg)
  have hN := hI.oth_has hi hj
  rw [hh] at hN
  have hxi : xs.getD i 0 ≤ 63 := by omega
  have hx0 := hrow.1
  generalize hys : othL xs W n = ys at hN hO
  have hI := Lib.hid hI
  clear hh hv hce hI0 hrow
  have b00 := hC.a0.c0
  have b01 := hC.a0.c1
  go_wp2_with fail
  refine (hO.out _ hC.a0.row).mono ?_
  rintro e w4 ⟨⟨a4, c4, rfl, ho⟩, hb⟩
  clear b00 b01
  replace hC := (hC.move hb).push (W := W) (cg := c4) ho.row
  clear ho hb
  obtain ⟨b, off, rfl, hck⟩ := row_at hC.a1.row hi
  have hbi := Lib.hid hbit
  generalize hx : xs.getD i 0 = x at hck hxi hx0 hbit
  have hx := Lib.hid hx
  have hN := Lib.hid hN
  have b00 := hC.a0.c0
  have b01 := hC.a0.c1
  have b10 := hC.a1.c0
  have b11 := hC.a1.c1
  go_wp2_with fail
  refine (lbit_any x j _ hx0 (by omega) (by omega)).mono ?_
  rintro e w5 ⟨rfl, rfl⟩
  rw [hbit]
  go_wp2_with fail
  refine (has_impl W a4 n c4 ys i j _ hC.a0.row (by omega)).mono ?_
  rintro e w6 ⟨rfl, hb⟩
  rw [hN.out]
  clear b00 b01 b10 b11
  replace hC := hC.move hb
  clear hb hck
  have b00 := hC.a0.c0
  have b01 := hC.a0.c1
  have b10 := hC.a1.c0
  have b11 := hC.a1.c1
  go_wp2_with fail
  go_ret
  exact ⟨rfl, hC.bel⟩

set_option maxRecDepth 100000 in
theorem lifted (os : Os) (started : os.Started) (H : Type) (enc : TypeId × Value → H) :
    ReturnsInHanded {} Try.checked os 4 .any (Rows.fnHasSpec.pre6 enc Try.prog Try.f4 Rows.fnHasRow.domain false) (Rows.fnHasSpec.post enc Try.prog Try.f4 false true false false) := by
  refine returnsInHanded_of_change (C := Try.checked) own started (by kernel_rfl) Try.func4
    (ChangeSpec.witness6 (enc := enc) (C := Try.checked) false ⟨#[], #[.slice none 0 0], []⟩ 8 (by kernel_rfl) (by kernel_rfl) (by kernel_rfl) (by kernel_rfl)) ?_
  intro W base args ds gs before hval0 hW hcnd _
  have hval : ∀ (j : Nat) t v, Try.f4.params[j]? = some t → args[j]? = some v → Value.okWide Try.prog W .any base t v := hval0
  have hW' := hW
  obtain ⟨p, q, hA0, hV, rfl, hfz, hnd⟩ := hW
  have hA : DataW.TrodAll enc Try.prog W 0 (fun _ => true) true Try.f4.params.toList args.toList ds p := hA0
  rw [Try.params4] at hA hval
  obtain ⟨v0, vs0, d0, ds0, p0, q0, hargs, rfl, rfl, h0, r0⟩ := trodAll_cons hA
  obtain ⟨rfl, rfl, rfl⟩ := trodAll_nil r0
  obtain rfl : args = #[v0] := by cases args; simp_all
  obtain ⟨rfl, rfl⟩ := trodVars_none hV
  have k0 := h0
  have lt0 : ∀ x ∈ p0, x.block < W.heap.size := by obtain ⟨m, hm⟩ := k0; exact DataW.trod_lt m _ _ _ hm
  obtain ⟨a0, len0, cap0, z0, rfl, w0, l0, m0⟩ := open_code (hval 0 22 v0 rfl rfl) h0
  clear hA0 hval0
  refine (walk a0 len0 cap0 z0 W w0 l0 m0).mono fun e W' ⟨he, bel⟩ => ?_
  subst he
  exact ⟨_, rfl, _, _, _, [], _, [], hW', trodAll_mk1 (shut_bool Try.underlying4 _), (trodAll_cons_mk (Below.trod laidOut (by kernel_rfl) (of_decide_eq_true (by kernel_rfl)) k0 bel lt0) trodAll_mk0), rfl, bel.frame _, fun h => by cases h⟩

theorem closed : joinedFacts Try.prog 4 Try.f4 Rows.fnHasSpec Rows.fnHasRow = true := by
  simp only [joinedFacts, Bool.and_eq_true]
  repeat' apply And.intro
  all_goals first | with_reducible exact mayEnterOk | (with_reducible rw [liftsFinalOk]; kernel_rfl) | (with_reducible rw [makeOk]; kernel_rfl) | kernel_rfl

theorem over : Rows.fnHasRow.holds Try.pinned (OpenSpec.ofChange Rows.fnHasSpec) :=
  OpenClaim.holds_of_wide 4 Try.f4 rfl rfl rfl rfl rfl rfl rfl ⟨rfl, rfl, rfl, rfl, rfl⟩ rfl rfl rfl rfl rfl (by kernel_rfl) Try.func4 closed
    (of_decide_eq_true (by kernel_rfl)) (by unfold Func.isWrapper; first | (rw [if_pos (by decide +kernel)]; kernel_rfl) | (rw [if_neg (by decide +kernel)]; exact ⟨rfl, rfl⟩))
    (fun os started H enc _ => lifted os started H enc)

theorem proved : Rows.FnHasSaid := over
#print axioms proved
end Go.Proofs.Ytiegonpgfbmidaa.LFHas

