/-
  For every slice of bytes the law FnManyOther answers true: the set cells and those of the other image are all cells; nothing that was there is written; no condition.
-/
import Derived.Test.YtnibmcihklaigaaO
import Derived.Test.YtnibmcihklaigaaK
import Derived.Test.YtnibmcihklaigaaA
import Derived.Test.YtnibmcihklaigaaEp
namespace Go.Proofs.Ytnibmcihklaigaa.LFManyOther
set_option maxRecDepth 100000
open Go.ChangeShapes Go.WideShapes Go.ChangeAt Go.RowKit Go.Joins

set_option maxHeartbeats 800000 in
theorem walk (a : Option Addr) (len cap : Nat) (zs : List Int) (w : World) (h : Bys w a len zs) (hl : len ≤ cap) (hm : cap ≤ 9223372036854775807) :
    Calls Try.prog 25 #[.slice a len cap] w fun e w' => e = .returned (.bool true) ∧ Below w.heap.size w w' := by
  by_cases hbig : 1048576 < len
  · clear h
    go_enter Try.func25, Try.ntmps25
    go_wp2_with fail
    go_ret
    exact ⟨rfl, Below.refl _ _⟩
  go_enter Try.func25, Try.ntmps25
  go_wp2_with fail
  refine (draw_DrawImageMany a len cap zs _ h hl hm).mono ?_
  rintro e w1 ⟨W, s, n, cg, xs, rfl, hR, hn, hb1⟩
  clear h hl hm
  have hC := (Ctx.nil hb1).push (W := W) (cg := cg) hR
  clear hR hb1
  have b00 := hC.a0.c0
  have b01 := hC.a0.c1
  go_wp2_with fail
  refine (many_impl W s n cg xs _ hC.a0.row (by omega)).mono ?_
  rintro e w2 ⟨rfl, hb⟩
  clear b00 b01
  replace hC := hC.move hb
  clear hb
  have b00 := hC.a0.c0
  have b01 := hC.a0.c1
  go_wp2_with fail
  refine (many_spec W s n cg xs _ hC.a0.row (by omega)).mono ?_
  rintro e w3 ⟨rfl, hb⟩
  clear b00 b01
  replace hC := hC.move hb
  clear hb
  by_cases hv : validB W xs = true
  case neg =>
    rw [show manyOf W xs = -1 from if_neg hv]
    have b00 := hC.a0.c0
    have b01 := hC.a0.c1
    go_wp2_with fail
    go_ret
    exact ⟨rfl, hC.bel⟩
  have hI0 := validB_W hv
  obtain ⟨W, rfl⟩ := Int.eq_ofNat_of_zero_le (by omega : 0 ≤ W)
  have hI : Im W n xs := Im.of hv hC.a0.row.1
  have hW6 := hI.w6
  have hW1 := hI.w1
  have hn1 := hI.l1
  rw [hI.many]
  have hm0 := many_36 xs (W := W) (k := n) (by omega) (by omega)
  have m1 : manyOf W (othL xs W n) = (n : Int) * W - manyI W xs n := by rw [hI.oth.many]; exact hI.oth_many n (Nat.le_refl _)
  obtain ⟨q, hq⟩ : ∃ q : Int, (n : Int) * W = q := ⟨_, rfl⟩
  have hq36 : 0 ≤ q ∧ q ≤ 36 := by
    rw [← hq]; exact ⟨Int.mul_nonneg (by omega) (by omega), by have := Int.mul_le_mul (show (n : Int) ≤ 6 by omega) (show (W : Int) ≤ 6 by omega) (by omega) (by omega); omega⟩
  have hO := Lib.hid (other_ok hI s cg)
  rw [hq] at m1
  generalize othL xs W n = ys at m1 hO
  have hI := Lib.hid hI
  have b00 := hC.a0.c0
  have b01 := hC.a0.c1
  go_wp2_with fail
  refine (hO.out _ hC.a0.row).mono ?_
  rintro e w4 ⟨⟨a4, c4, rfl, ho⟩, hb⟩
  clear b00 b01
  replace hC := (hC.move hb).push (W := W) (cg := c4) ho.row
  clear ho hb
  have q0 := hC.a0.c0
  have q1 := hC.a0.c1
  have p0 := hC.a1.c0
  have p1 := hC.a1.c1
  have ra := hC.a1.row
  have ro := hC.a0.row
  have bb := hC.bel
  have wq : IntKind.i64.wrap ((n : Int) * W) = q := by rw [hq]; exact IntWalk.i64_in _ ⟨by omega, by omega⟩
  have ws : IntKind.i64.wrap (manyI W xs n + (q - manyI W xs n)) = q := by rw [show manyI W xs n + (q - manyI W xs n) = q by omega]; exact IntWalk.i64_in _ ⟨by omega, by omega⟩
  generalize manyI W xs n = mm at *
  clear hC hO hm0 hI0 hq36 hq hv
  go_wp2_with fail
  go_region_held3 (fun W' => W'.cell? ⟨w4.heap.size, 0, none⟩ = some (.int .i64 W) ∧ W'.cell? ⟨w4.heap.size, 1, none⟩ = some (.slice a4 n c4) ∧ W'.cell? ⟨w1.heap.size, 0, none⟩ = some (.int .i64 W) ∧ W'.cell? ⟨w1.heap.size, 1, none⟩ = some (.slice s n cg) ∧ Row W' s n xs ∧ Row W' a4 n ys ∧ Below w.heap.size w W')
    (first | exact heldTwo ⟨q0, q1, p0, p1, ra, ro, bb⟩ ((Below.refl _ _).drew) | (refine heldTwo ?_ (by assumption); assumption))
    (first | (go_at_call 69; refine (many_impl W a4 n c4 ys _ ?_ (by omega)).mono ?_; (exact And.left (And.right (And.right (And.right (And.right (And.right ‹_ ∧ _ ∧ _ ∧ _ ∧ Row _ _ _ _ ∧ _›)))))); rw [m1]; rintro e w6 ⟨rfl, hb6⟩))
  go_wp2
  go_ret
  refine ⟨rfl, ?_⟩
  exact And.right (And.right (And.right (And.right (And.right (And.right ‹_ ∧ _ ∧ _ ∧ _ ∧ Row _ _ _ _ ∧ _›)))))

set_option maxRecDepth 100000 in
theorem lifted (os : Os) (started : os.Started) (H : Type) (enc : TypeId × Value → H) :
    ReturnsInHanded {} Try.checked os 25 .any (Rows.fnManyOtherSpec.pre6 enc Try.prog Try.f25 Rows.fnManyOtherRow.domain false) (Rows.fnManyOtherSpec.post enc Try.prog Try.f25 false true false false) := by
  refine returnsInHanded_of_change (C := Try.checked) own started (by kernel_rfl) Try.func25
    (ChangeSpec.witness6 (enc := enc) (C := Try.checked) false ⟨#[], #[.slice none 0 0], []⟩ 8 (by kernel_rfl) (by kernel_rfl) (by kernel_rfl) (by kernel_rfl)) ?_
  intro W base args ds gs before hval0 hW hcnd _
  have hval : ∀ (j : Nat) t v, Try.f25.params[j]? = some t → args[j]? = some v → Value.okWide Try.prog W .any base t v := hval0
  have hW' := hW
  obtain ⟨p, q, hA0, hV, rfl, hfz, hnd⟩ := hW
  have hA : DataW.TrodAll enc Try.prog W 0 (fun _ => true) true Try.f25.params.toList args.toList ds p := hA0
  rw [Try.params25] at hA hval
  obtain ⟨v0, vs0, d0, ds0, p0, q0, hargs, rfl, rfl, h0, r0⟩ := trodAll_cons hA
  obtain ⟨rfl, rfl, rfl⟩ := trodAll_nil r0
  obtain rfl : args = #[v0] := by cases args; simp_all
  obtain ⟨rfl, rfl⟩ := trodVars_none hV
  have k0 := h0
  have lt0 : ∀ x ∈ p0, x.block < W.heap.size := by obtain ⟨m, hm⟩ := k0; exact DataW.trod_lt m _ _ _ hm
  obtain ⟨a0, len0, cap0, z0, rfl, w0, l0, m0⟩ := open_code (hval 0 22 v0 rfl rfl) h0
  clear hA0 hval0
  refine (walk a0 len0 cap0 z0 W w0 l0 m0).mono fun e W' ⟨he, bel⟩ => ?_
  subst he
  exact ⟨_, rfl, _, _, _, [], _, [], hW', trodAll_mk1 (shut_bool Try.underlying4 _), (trodAll_cons_mk (Below.trod laidOut (by kernel_rfl) (of_decide_eq_true (by kernel_rfl)) k0 bel lt0) trodAll_mk0), rfl, bel.frame _, fun h => by cases h⟩

theorem closed : joinedFacts Try.prog 25 Try.f25 Rows.fnManyOtherSpec Rows.fnManyOtherRow = true := by
  simp only [joinedFacts, Bool.and_eq_true]
  repeat' apply And.intro
  all_goals first | with_reducible exact mayEnterOk | (with_reducible rw [liftsFinalOk]; kernel_rfl) | (with_reducible rw [makeOk]; kernel_rfl) | kernel_rfl

theorem over : Rows.fnManyOtherRow.holds Try.pinned (OpenSpec.ofChange Rows.fnManyOtherSpec) :=
  OpenClaim.holds_of_wide 25 Try.f25 rfl rfl rfl rfl rfl rfl rfl ⟨rfl, rfl, rfl, rfl, rfl⟩ rfl rfl rfl rfl rfl (by kernel_rfl) Try.func25 closed
    (of_decide_eq_true (by kernel_rfl)) (by unfold Func.isWrapper; first | (rw [if_pos (by decide +kernel)]; kernel_rfl) | (rw [if_neg (by decide +kernel)]; exact ⟨rfl, rfl⟩))
    (fun os started H enc _ => lifted os started H enc)

theorem proved : Rows.FnManyOtherSaid := over
#print axioms proved
end Go.Proofs.Ytnibmcihklaigaa.LFManyOther

