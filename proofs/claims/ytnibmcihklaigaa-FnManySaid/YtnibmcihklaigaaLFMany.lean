/-
  For every slice of bytes the law FnMany answers true: an image has as many set cells as are found one by one; nothing that was there is written; no condition.
-/
import Derived.Test.YtnibmcihklaigaaO
import Derived.Test.YtnibmcihklaigaaK
import Derived.Test.YtnibmcihklaigaaHc
import Derived.Test.YtnibmcihklaigaaA
namespace Go.Proofs.Ytnibmcihklaigaa.LFMany
set_option maxRecDepth 100000
open Go.ChangeShapes Go.WideShapes Go.ChangeAt Go.RowKit Go.Joins

set_option maxHeartbeats 800000 in
theorem walk (a : Option Addr) (len cap : Nat) (zs : List Int) (w : World) (h : Bys w a len zs) (hl : len ≤ cap) (hm : cap ≤ 9223372036854775807) :
    Calls Try.prog 24 #[.slice a len cap] w fun e w' => e = .returned (.bool true) ∧ Below w.heap.size w w' := by
  by_cases hbig : 1048576 < len
  · clear h
    go_enter Try.func24, Try.ntmps24
    go_wp2_with fail
    go_ret
    exact ⟨rfl, Below.refl _ _⟩
  go_enter Try.func24, Try.ntmps24
  go_wp2_with fail
  refine (draw_DrawImageMany a len cap zs _ h hl hm).mono ?_
  rintro e w1 ⟨W, s, n, cg, xs, rfl, hR, hn, hb1⟩
  clear h hl hm
  have hL := LS.mk0 (W := W) (cg := cg) hR hb1
  clear hR hb1
  go_wp2_with fail
  refine (many_impl W s n cg xs _ hL.row (by omega)).mono ?_
  rintro e w2 ⟨rfl, hb⟩
  have hL2 := hL.move hb
  have y0 := hL2.c0
  have y1 := hL2.c1
  clear hL hb
  go_wp2_with fail
  refine (many_spec W s n cg xs _ hL2.row (by omega)).mono ?_
  rintro e w3 ⟨rfl, hb⟩
  have hL3 := hL2.move hb
  have y0 := hL3.c0
  have y1 := hL3.c1
  clear hL2 hb
  by_cases hv : validB W xs = true
  case neg =>
    rw [show manyOf W xs = -1 from if_neg hv]
    go_wp2_with fail
    go_ret
    exact ⟨rfl, hL3.bel⟩
  have hI0 := validB_W hv
  obtain ⟨W, rfl⟩ := Int.eq_ofNat_of_zero_le (by omega : 0 ≤ W)
  have hI := Im.of hv hL3.row.1
  have hW6 := hI.w6
  rw [hI.many]
  have hm0 := many_36 xs (W := W) (k := n) (by omega) (by omega)
  have hL3 := Lib.hid hL3
  have hI := Lib.hid hI
  go_wp2_with fail
  go_loopw [6, 7] (fun o i wr => ∃ k : Nat, k ≤ n ∧ i = .int .i64 k ∧ o = .int .i64 (manyI W xs k) ∧ LS w wr w1.heap.size W s n cg xs) (fun _ i _ => n - (intOf i).toNat)
  case atStart => exact ⟨0, by omega, rfl, rfl, hL3.out⟩
  case round =>
    obtain ⟨k, hk, rfl, rfl, hQ⟩ := hrel
    clear hL3 y0 y1
    have y0 := hQ.c0
    have y1 := hQ.c1
    have hmk := many_36 xs (W := W) (k := k) (by omega) (by omega)
    by_cases hlt : k < n
    · have hQ := Lib.hid hQ
      obtain ⟨x, hx⟩ : ∃ x, xs.getD k 0 = x := ⟨_, rfl⟩
      have hx := Lib.hid hx
      go_wp2_with fail
      go_loopw [6, 8] (fun o j wr => ∃ m : Nat, m ≤ W ∧ j = .int .i64 m ∧ o = .int .i64 (manyI W xs k + cntI x m) ∧ LS w wr w1.heap.size W s n cg xs) (fun _ j _ => W - (intOf j).toNat)
      case atStart => exact ⟨0, by omega, rfl, by simp [cntI], hQ.out⟩
      case round =>
        obtain ⟨m, hm, rfl, rfl, hQ2⟩ := hrel
        clear hQ y0 y1
        have y0 := hQ2.c0
        have y1 := hQ2.c1
        have hcn := cnt_bd x m
        have hbi := bit_01 x m
        by_cases hlm : m < W
        · go_wp2_with fail
          refine (has_impl W s n cg xs k m _ hQ2.row (by omega)).mono ?_
          rintro e w5 ⟨rfl, hb⟩
          have hQ3 := Lib.hid (hQ2.move hb)
          rw [hI.out.has hlt hlm, hx.out]
          clear hQ2 hb
          by_cases hbit : bitI x m = 1
          · rw [hbit]
            go_wp2_with fail
            exact ⟨⟨m + 1, by omega, by go_num, by simp only [cntI]; rw [hbit, Int.add_assoc], hQ3.out⟩, by simp [intOf]; omega⟩
          · have h0 : bitI x m = 0 := by omega
            rw [h0]
            go_wp2_with fail
            exact ⟨⟨m + 1, by omega, by go_num, by simp only [cntI]; rw [h0, Int.add_zero], hQ3.out⟩, by simp [intOf]; omega⟩
        · have : m = W := by omega
          subst this
          have hQ2 := Lib.hid hQ2
          go_wp2_with fail
          exact ⟨⟨k + 1, by omega, by go_num, by simp only [manyI]; rw [hx.out], hQ2.out⟩, by simp [intOf]; omega⟩
    · have : k = n := by omega
      subst this
      have hQ := Lib.hid hQ
      go_wp2_with fail
      go_ret
      exact ⟨rfl, hQ.out.bel⟩

set_option maxRecDepth 100000 in
theorem lifted (os : Os) (started : os.Started) (H : Type) (enc : TypeId × Value → H) :
    ReturnsInHanded {} Try.checked os 24 .any (Rows.fnManySpec.pre6 enc Try.prog Try.f24 Rows.fnManyRow.domain false) (Rows.fnManySpec.post enc Try.prog Try.f24 false true false false) := by
  refine returnsInHanded_of_change (C := Try.checked) own started (by kernel_rfl) Try.func24
    (ChangeSpec.witness6 (enc := enc) (C := Try.checked) false ⟨#[], #[.slice none 0 0], []⟩ 8 (by kernel_rfl) (by kernel_rfl) (by kernel_rfl) (by kernel_rfl)) ?_
  intro W base args ds gs before hval0 hW hcnd _
  have hval : ∀ (j : Nat) t v, Try.f24.params[j]? = some t → args[j]? = some v → Value.okWide Try.prog W .any base t v := hval0
  have hW' := hW
  obtain ⟨p, q, hA0, hV, rfl, hfz, hnd⟩ := hW
  have hA : DataW.TrodAll enc Try.prog W 0 (fun _ => true) true Try.f24.params.toList args.toList ds p := hA0
  rw [Try.params24] at hA hval
  obtain ⟨v0, vs0, d0, ds0, p0, q0, hargs, rfl, rfl, h0, r0⟩ := trodAll_cons hA
  obtain ⟨rfl, rfl, rfl⟩ := trodAll_nil r0
  obtain rfl : args = #[v0] := by cases args; simp_all
  obtain ⟨rfl, rfl⟩ := trodVars_none hV
  have k0 := h0
  have lt0 : ∀ x ∈ p0, x.block < W.heap.size := by obtain ⟨m, hm⟩ := k0; exact DataW.trod_lt m _ _ _ hm
  obtain ⟨a0, len0, cap0, z0, rfl, w0, l0, m0⟩ := open_code (hval 0 22 v0 rfl rfl) h0
  clear hA0 hval0
  refine (walk a0 len0 cap0 z0 W w0 l0 m0).mono fun e W' ⟨he, bel⟩ => ?_
  subst he
  exact ⟨_, rfl, _, _, _, [], _, [], hW', trodAll_mk1 (shut_bool Try.underlying4 _), (trodAll_cons_mk (Below.trod laidOut (by kernel_rfl) (of_decide_eq_true (by kernel_rfl)) k0 bel lt0) trodAll_mk0), rfl, bel.frame _, fun h => by cases h⟩

theorem closed : joinedFacts Try.prog 24 Try.f24 Rows.fnManySpec Rows.fnManyRow = true := by
  simp only [joinedFacts, Bool.and_eq_true]
  repeat' apply And.intro
  all_goals first | with_reducible exact mayEnterOk | (with_reducible rw [liftsFinalOk]; kernel_rfl) | (with_reducible rw [makeOk]; kernel_rfl) | kernel_rfl

theorem over : Rows.fnManyRow.holds Try.pinned (OpenSpec.ofChange Rows.fnManySpec) :=
  OpenClaim.holds_of_wide 24 Try.f24 rfl rfl rfl rfl rfl rfl rfl ⟨rfl, rfl, rfl, rfl, rfl⟩ rfl rfl rfl rfl rfl (by kernel_rfl) Try.func24 closed
    (of_decide_eq_true (by kernel_rfl)) (by unfold Func.isWrapper; first | (rw [if_pos (by decide +kernel)]; kernel_rfl) | (rw [if_neg (by decide +kernel)]; exact ⟨rfl, rfl⟩))
    (fun os started H enc _ => lifted os started H enc)

theorem proved : Rows.FnManySaid := over
#print axioms proved
end Go.Proofs.Ytnibmcihklaigaa.LFMany

