/-
  For any two slices of bytes the law FnHasOutside answers true: outside of a valid image no cell is set; nothing that was there is written; no condition.
-/
import Derived.Test.YtiegonpgfbmidaaO
import Derived.Test.YtiegonpgfbmidaaZ
import Derived.Test.YtiegonpgfbmidaaC
import Derived.Test.YtiegonpgfbmidaaEp
import Derived.Test.YtiegonpgfbmidaaAu
namespace Go.Proofs.Ytiegonpgfbmidaa.LFHasOutside
open Go.ChangeShapes Go.WideShapes Go.ChangeAt Go.RowKit Go.Joins

set_option maxHeartbeats 800000 in
theorem walk (a : Option Addr) (len cap : Nat) (zs : List Int) (a2 : Option Addr) (len2 cap2 : Nat) (zs2 : List Int) (w : World) (h : Bys w a len zs) (hl : len ≤ cap) (hm : cap ≤ 9223372036854775807) (_ : Bys w a2 len2 zs2) (_ : len2 ≤ cap2) (_ : cap2 ≤ 9223372036854775807) :
    Calls Try.prog 11 #[.slice a len cap, .slice a2 len2 cap2] w fun e w' => e = .returned (.bool true) ∧ Below w.heap.size w w' := by
  by_cases hbig : 1048576 < len
  · clear h
    go_enter Try.func11, Try.ntmps11
    go_wp2_with fail
    go_ret
    exact ⟨rfl, Below.refl _ _⟩
  by_cases hbig2 : 1048576 < len2
  · clear h
    go_enter Try.func11, Try.ntmps11
    go_wp2_with fail
    go_ret
    exact ⟨rfl, Below.refl _ _⟩
  go_enter Try.func11, Try.ntmps11
  go_wp2_with fail
  refine (draw_DrawImageValid a len cap zs _ h hl hm).mono ?_
  rintro e w1 ⟨W, s, n, cg, xs, rfl, hR, hn, hb1⟩
  clear h hl hm
  have hC := (Ctx.nil hb1).push (W := W) (cg := cg) hR
  clear hR hb1
  have b00 := hC.a0.c0
  have b01 := hC.a0.c1
  go_wp2_with fail
  refine (valid_impl W s n cg xs _ hC.a0.row (by omega)).mono ?_
  rintro e w2 ⟨rfl, hb⟩
  clear b00 b01
  replace hC := hC.move hb
  clear hb
  have b00 := hC.a0.c0
  have b01 := hC.a0.c1
  go_wp2_with fail
  refine (valid_spec W s n cg xs _ hC.a0.row (by omega)).mono ?_
  rintro e w3 ⟨rfl, hb⟩
  clear b00 b01
  replace hC := hC.move hb
  clear hb
  by_cases hv : validB W xs = true
  case neg =>
    rw [show validB W xs = false by simpa using hv]
    have b00 := hC.a0.c0
    have b01 := hC.a0.c1
    go_wp2_with fail
    go_ret
    exact ⟨rfl, hC.bel⟩
  rw [hv]
  have hI0 := validB_W hv
  obtain ⟨W, rfl⟩ := Int.eq_ofNat_of_zero_le (by omega : 0 ≤ W)
  have hI : Im W n xs := Im.of hv hC.a0.row.1
  have hW6 := hI.w6
  have hW1 := hI.w1
  have hn1 := hI.l1
  have k0 : len2 % 6 < 6 := Nat.mod_lt _ (by omega)
  have hmod : ((len2 : Int) % 6) = ((len2 % 6 : Nat) : Int) := rfl
  generalize len2 % 6 = k at k0 hmod
  have o1 : hasB W xs (-1) k = false := hasB_no2 (by rw [Bool.eq_false_iff]; intro h; have := cellB_iff.1 h; omega)
  have o2 : hasB W xs n k = false := hasB_no2 (by rw [Bool.eq_false_iff]; intro h; have := cellB_iff.1 h; rw [hI.hl] at this; omega)
  have o3 : hasB W xs k (-1) = false := hasB_no2 (by rw [Bool.eq_false_iff]; intro h; have := cellB_iff.1 h; omega)
  have o4 : hasB W xs k W = false := hasB_no2 (by rw [Bool.eq_false_iff]; intro h; have := cellB_iff.1 h; omega)
  have o1 := Lib.hid o1
  have o2 := Lib.hid o2
  have o3 := Lib.hid o3
  have o4 := Lib.hid o4
  clear hI hI0
  have b00 := hC.a0.c0
  have b01 := hC.a0.c1
  go_wp2_with fail
  try rw [hmod]
  refine (has_impl W s n cg xs (-1) k _ hC.a0.row (by omega)).mono ?_
  rintro e w4 ⟨rfl, hb⟩
  rw [o1.out]
  clear b00 b01
  replace hC := hC.move hb
  clear hb
  have b00 := hC.a0.c0
  have b01 := hC.a0.c1
  go_wp2_with fail
  refine (has_impl W s n cg xs n k _ hC.a0.row (by omega)).mono ?_
  rintro e w5 ⟨rfl, hb⟩
  rw [o2.out]
  clear b00 b01
  replace hC := hC.move hb
  clear hb
  have b00 := hC.a0.c0
  have b01 := hC.a0.c1
  go_wp2_with fail
  refine (has_impl W s n cg xs k (-1) _ hC.a0.row (by omega)).mono ?_
  rintro e w6 ⟨rfl, hb⟩
  rw [o3.out]
  clear b00 b01
  replace hC := hC.move hb
  clear hb
  have b00 := hC.a0.c0
  have b01 := hC.a0.c1
  go_wp2_with fail
  refine (has_impl W s n cg xs k W _ hC.a0.row (by omega)).mono ?_
  rintro e w7 ⟨rfl, hb⟩
  rw [o4.out]
  clear b00 b01
  replace hC := hC.move hb
  clear hb
  have b00 := hC.a0.c0
  have b01 := hC.a0.c1
  go_wp2_with fail
  go_ret
  exact ⟨rfl, hC.bel⟩

set_option maxRecDepth 100000 in
theorem lifted (os : Os) (started : os.Started) (H : Type) (enc : TypeId × Value → H) :
    ReturnsInHanded {} Try.checked os 11 .any (Rows.fnHasOutsideSpec.pre6 enc Try.prog Try.f11 Rows.fnHasOutsideRow.domain false) (Rows.fnHasOutsideSpec.post enc Try.prog Try.f11 false true false false) := by
  refine returnsInHanded_of_change (C := Try.checked) own started (by kernel_rfl) Try.func11
    (ChangeSpec.witness6 (enc := enc) (C := Try.checked) false ⟨#[], #[.slice none 0 0, .slice none 0 0], []⟩ 8 (by kernel_rfl) (by kernel_rfl) (by kernel_rfl) (by kernel_rfl)) ?_
  intro W base args ds gs before hval0 hW hcnd _
  have hval : ∀ (j : Nat) t v, Try.f11.params[j]? = some t → args[j]? = some v → Value.okWide Try.prog W .any base t v := hval0
  have hW' := hW
  obtain ⟨p, q, hA0, hV, rfl, hfz, hnd⟩ := hW
  have hA : DataW.TrodAll enc Try.prog W 0 (fun _ => true) true Try.f11.params.toList args.toList ds p := hA0
  rw [Try.params11] at hA hval
  obtain ⟨v0, vs0, d0, ds0, p0, q0, hargs, rfl, rfl, h0, r0⟩ := trodAll_cons hA
  obtain ⟨v1, vs1, d1, ds1, p1, q1, rfl, rfl, rfl, h1, r1⟩ := trodAll_cons r0
  obtain ⟨rfl, rfl, rfl⟩ := trodAll_nil r1
  obtain rfl : args = #[v0, v1] := by cases args; simp_all
  obtain ⟨rfl, rfl⟩ := trodVars_none hV
  have k0 := h0
  have lt0 : ∀ x ∈ p0, x.block < W.heap.size := by obtain ⟨m, hm⟩ := k0; exact DataW.trod_lt m _ _ _ hm
  obtain ⟨a0, len0, cap0, z0, rfl, w0, l0, m0⟩ := open_code (hval 0 22 v0 rfl rfl) h0
  have k1 := h1
  have lt1 : ∀ x ∈ p1, x.block < W.heap.size := by obtain ⟨m, hm⟩ := k1; exact DataW.trod_lt m _ _ _ hm
  obtain ⟨a1, len1, cap1, z1, rfl, w1, l1, m1⟩ := open_code (hval 1 22 v1 rfl rfl) h1
  clear hA0 hval0
  refine (walk a0 len0 cap0 z0 a1 len1 cap1 z1 W w0 l0 m0 w1 l1 m1).mono fun e W' ⟨he, bel⟩ => ?_
  subst he
  exact ⟨_, rfl, _, _, _, [], _, [], hW', trodAll_mk1 (shut_bool Try.underlying4 _), (trodAll_cons_mk (Below.trod laidOut (by kernel_rfl) (of_decide_eq_true (by kernel_rfl)) k0 bel lt0) (trodAll_cons_mk (Below.trod laidOut (by kernel_rfl) (of_decide_eq_true (by kernel_rfl)) k1 bel lt1) trodAll_mk0)), rfl, bel.frame _, fun h => by cases h⟩

theorem closed : joinedFacts Try.prog 11 Try.f11 Rows.fnHasOutsideSpec Rows.fnHasOutsideRow = true := by
  simp only [joinedFacts, Bool.and_eq_true]
  repeat' apply And.intro
  all_goals first | with_reducible exact mayEnterOk | (with_reducible rw [liftsFinalOk]; kernel_rfl) | (with_reducible rw [makeOk]; kernel_rfl) | kernel_rfl

theorem over : Rows.fnHasOutsideRow.holds Try.pinned (OpenSpec.ofChange Rows.fnHasOutsideSpec) :=
  OpenClaim.holds_of_wide 11 Try.f11 rfl rfl rfl rfl rfl rfl rfl ⟨rfl, rfl, rfl, rfl, rfl⟩ rfl rfl rfl rfl rfl (by kernel_rfl) Try.func11 closed
    (of_decide_eq_true (by kernel_rfl)) (by unfold Func.isWrapper; first | (rw [if_pos (by decide +kernel)]; kernel_rfl) | (rw [if_neg (by decide +kernel)]; exact ⟨rfl, rfl⟩))
    (fun os started H enc _ => lifted os started H enc)

theorem proved : Rows.FnHasOutsideSaid := over
#print axioms proved
end Go.Proofs.Ytiegonpgfbmidaa.LFHasOutside

