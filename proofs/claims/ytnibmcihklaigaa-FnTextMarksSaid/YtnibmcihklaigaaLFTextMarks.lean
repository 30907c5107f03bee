/-
  For every slice of bytes the law FnTextMarks answers true: the marks of a text are the cells; nothing that was there is written; no condition.
-/
import Derived.Test.YtnibmcihklaigaaO
import Derived.Test.YtnibmcihklaigaaK
import Derived.Test.YtnibmcihklaigaaA
import Derived.Test.YtnibmcihklaigaaSh
namespace Go.Proofs.Ytnibmcihklaigaa.LFTextMarks
set_option maxRecDepth 100000
open Go.ChangeShapes Go.WideShapes Go.ChangeAt Go.RowKit Go.Joins

set_option maxHeartbeats 800000 in
theorem walk (a : Option Addr) (len cap : Nat) (zs : List Int) (w : World) (h : Bys w a len zs) (hl : len ≤ cap) (hm : cap ≤ 9223372036854775807) :
    Calls Try.prog 26 #[.slice a len cap] w fun e w' => e = .returned (.bool true) ∧ Below w.heap.size w w' := by
  by_cases hbig : 1048576 < len
  · clear h
    go_enter Try.func26, Try.ntmps26
    go_wp2_with fail
    go_ret
    exact ⟨rfl, Below.refl _ _⟩
  go_enter Try.func26, Try.ntmps26
  go_wp2_with fail
  refine (draw_DrawImageText a len cap zs _ h hl hm).mono ?_
  rintro e w1 ⟨W, s, n, cg, xs, rfl, hR, hn, hb1⟩
  clear h hl hm
  have hL := LS.mk0 (W := W) (cg := cg) hR hb1
  clear hR hb1
  go_wp2_with fail
  refine (text_impl W s n cg xs _ hL.row (by omega)).mono ?_
  rintro e w2 ⟨rfl, hb⟩
  have hL2 := hL.move hb
  have y0 := hL2.c0
  have y1 := hL2.c1
  clear hL hb
  go_wp2_with fail
  refine (text_spec W s n cg xs _ hL2.row (by omega)).mono ?_
  rintro e w3 ⟨rfl, hb⟩
  have hL3 := hL2.move hb
  clear hL2 hb y0 y1
  by_cases hv : validB W xs = true
  case neg =>
    rw [show textOf W xs = [] from if_neg hv]
    go_wp2_with fail
    go_ret
    exact ⟨rfl, hL3.bel⟩
  have hI0 := validB_W hv
  obtain ⟨W, rfl⟩ := Int.eq_ofNat_of_zero_le (by omega : 0 ≤ W)
  have hI := Im.of hv hL3.row.1
  have hW6 := hI.w6
  have hn1 := hI.l1
  have hT := text_txt hI
  have hTl := hT.len
  have hne := hT.ne
  have hm0 := many_36 xs (W := W) (k := n) (by omega) (by omega)
  have hkW : n * (W + 1) ≤ 6 * 7 := Nat.mul_le_mul (by omega) (by omega)
  have hend := Lib.hid (hT.count n (Nat.le_refl _))
  rw [← hTl] at hend
  have hmi := Lib.hid hI.many
  generalize textOf W xs = T at hT hTl hne hend ⊢
  have hne1 : T.isEmpty = false := by simpa using hne
  have hTl' := Lib.hid hTl
  have hlen : T.length ≤ 42 := by omega
  have hL3 := Lib.hid hL3
  clear hT hTl
  go_wp2_with fail
  go_loop [6, 7, 8] (fun a b i => ∃ k : Nat, k ≤ T.length ∧ i = .int .i64 k ∧ a = .int .i64 (cntB T 35 k) ∧ b = .int .i64 (cntB T 46 k)) (fun _ _ i => T.length - (intOf i).toNat)
  case atStart => exact ⟨0, by omega, rfl, rfl, rfl⟩
  case round =>
    obtain ⟨k, hk, rfl, rfl, rfl⟩ := hrel
    have b1 := cntB_bd T 35 k
    have b2 := cntB_bd T 46 k
    by_cases hlt : k < T.length
    · have hlt' : k < (ByteArray.mk T.toArray).size := by simp only [ByteArray.size, List.size_toArray]; exact hlt
      have hg : T.getD k 0 = (ByteArray.mk T.toArray)[k] := byte_get hlt'
      have hg := Lib.hid hg
      go_wp2_with fail
      · rename_i p q
        have p := u8_eq (m := 35) p
        have p : T.getD k 0 = 35 := by rw [hg.out]; exact p
        have e1 := cntB_yes p
        have e2 := cntB_no (l := T) (i := k) (c := 46) (by rw [p]; decide)
        exact ⟨⟨k + 1, by omega, by go_num, by rw [e1], by rw [e2]⟩, by simp [intOf]; omega⟩
      · rename_i p q
        have q := u8_eq (m := 46) q
        have q : T.getD k 0 = 46 := by rw [hg.out]; exact q
        have e1 := cntB_no (l := T) (i := k) (c := 35) (by rw [q]; decide)
        have e2 := cntB_yes q
        exact ⟨⟨k + 1, by omega, by go_num, by rw [e1], by rw [e2]⟩, by simp [intOf]; omega⟩
      · rename_i p q
        have p := u8_ne (m := 35) p
        have q := u8_ne (m := 46) q
        have e1 := cntB_no (l := T) (i := k) (c := 35) (fun e => p (hg.out.symm.trans e))
        have e2 := cntB_no (l := T) (i := k) (c := 46) (fun e => q (hg.out.symm.trans e))
        exact ⟨⟨k + 1, by omega, by go_num, by rw [e1], by rw [e2]⟩, by simp [intOf]; omega⟩
    · have : k = T.length := by omega
      subst this
      rw [hend.out.1, hend.out.2]
      have y0 := hL3.out.c0
      have y1 := hL3.out.c1
      clear b1 b2
      obtain ⟨q, hq⟩ : ∃ q : Int, (n : Int) * W = q := ⟨_, rfl⟩
      have hq36 : 0 ≤ q ∧ q ≤ 36 := by
        rw [← hq]; exact ⟨Int.mul_nonneg (by omega) (by omega), by have := Int.mul_le_mul (show (n : Int) ≤ 6 by omega) (show (W : Int) ≤ 6 by omega) (by omega) (by omega); omega⟩
      rw [hq]
      have hq' := Lib.hid hq
      clear hq
      go_wp2_with fail
      refine (many_impl W s n cg xs _ hL3.out.row (by omega)).mono ?_
      rintro e w4 ⟨rfl, hb⟩
      rw [hmi.out]
      have hL4 := Lib.hid (hL3.out.move hb)
      clear hL3 hb y0 y1
      have y0 := hL4.out.c0
      have y1 := hL4.out.c1
      have hw : wrap64 ((n : Int) * W) = q := by rw [hq'.out]; unfold wrap64; omega
      have hs : manyI W xs n + (q - manyI W xs n) = q := by omega
      go_wp2_with fail
      go_ret
      exact ⟨rfl, hL4.out.bel⟩

set_option maxRecDepth 100000 in
theorem lifted (os : Os) (started : os.Started) (H : Type) (enc : TypeId × Value → H) :
    ReturnsInHanded {} Try.checked os 26 .any (Rows.fnTextMarksSpec.pre6 enc Try.prog Try.f26 Rows.fnTextMarksRow.domain false) (Rows.fnTextMarksSpec.post enc Try.prog Try.f26 false true false false) := by
  refine returnsInHanded_of_change (C := Try.checked) own started (by kernel_rfl) Try.func26
    (ChangeSpec.witness6 (enc := enc) (C := Try.checked) false ⟨#[], #[.slice none 0 0], []⟩ 8 (by kernel_rfl) (by kernel_rfl) (by kernel_rfl) (by kernel_rfl)) ?_
  intro W base args ds gs before hval0 hW hcnd _
  have hval : ∀ (j : Nat) t v, Try.f26.params[j]? = some t → args[j]? = some v → Value.okWide Try.prog W .any base t v := hval0
  have hW' := hW
  obtain ⟨p, q, hA0, hV, rfl, hfz, hnd⟩ := hW
  have hA : DataW.TrodAll enc Try.prog W 0 (fun _ => true) true Try.f26.params.toList args.toList ds p := hA0
  rw [Try.params26] at hA hval
  obtain ⟨v0, vs0, d0, ds0, p0, q0, hargs, rfl, rfl, h0, r0⟩ := trodAll_cons hA
  obtain ⟨rfl, rfl, rfl⟩ := trodAll_nil r0
  obtain rfl : args = #[v0] := by cases args; simp_all
  obtain ⟨rfl, rfl⟩ := trodVars_none hV
  have k0 := h0
  have lt0 : ∀ x ∈ p0, x.block < W.heap.size := by obtain ⟨m, hm⟩ := k0; exact DataW.trod_lt m _ _ _ hm
  obtain ⟨a0, len0, cap0, z0, rfl, w0, l0, m0⟩ := open_code (hval 0 22 v0 rfl rfl) h0
  clear hA0 hval0
  refine (walk a0 len0 cap0 z0 W w0 l0 m0).mono fun e W' ⟨he, bel⟩ => ?_
  subst he
  exact ⟨_, rfl, _, _, _, [], _, [], hW', trodAll_mk1 (shut_bool Try.underlying4 _), (trodAll_cons_mk (Below.trod laidOut (by kernel_rfl) (of_decide_eq_true (by kernel_rfl)) k0 bel lt0) trodAll_mk0), rfl, bel.frame _, fun h => by cases h⟩

theorem closed : joinedFacts Try.prog 26 Try.f26 Rows.fnTextMarksSpec Rows.fnTextMarksRow = true := by
  simp only [joinedFacts, Bool.and_eq_true]
  repeat' apply And.intro
  all_goals first | with_reducible exact mayEnterOk | (with_reducible rw [liftsFinalOk]; kernel_rfl) | (with_reducible rw [makeOk]; kernel_rfl) | kernel_rfl

theorem over : Rows.fnTextMarksRow.holds Try.pinned (OpenSpec.ofChange Rows.fnTextMarksSpec) :=
  OpenClaim.holds_of_wide 26 Try.f26 rfl rfl rfl rfl rfl rfl rfl ⟨rfl, rfl, rfl, rfl, rfl⟩ rfl rfl rfl rfl rfl (by kernel_rfl) Try.func26 closed
    (of_decide_eq_true (by kernel_rfl)) (by unfold Func.isWrapper; first | (rw [if_pos (by decide +kernel)]; kernel_rfl) | (rw [if_neg (by decide +kernel)]; exact ⟨rfl, rfl⟩))
    (fun os started H enc _ => lifted os started H enc)

theorem proved : Rows.FnTextMarksSaid := over
#print axioms proved
end Go.Proofs.Ytnibmcihklaigaa.LFTextMarks

