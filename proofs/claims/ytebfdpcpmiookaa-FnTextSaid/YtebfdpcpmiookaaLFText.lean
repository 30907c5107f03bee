/-
  For every slice of bytes the law FnText answers true: an image is read back; nothing that was there is written; no condition.
-/
import Derived.Test.YtebfdpcpmiookaaO
import Derived.Test.YtebfdpcpmiookaaZ
import Derived.Test.YtebfdpcpmiookaaTy
import Derived.Test.YtebfdpcpmiookaaTn
import Derived.Test.YtebfdpcpmiookaaFi
namespace Go.Proofs.Ytebfdpcpmiookaa.LFText
open Go.ChangeShapes Go.WideShapes Go.ChangeAt Go.RowKit Go.Joins

set_option maxHeartbeats 800000 in
theorem walk (a : Option Addr) (len cap : Nat) (zs : List Int) (w : World) (h : Bys w a len zs) (hl : len ≤ cap) (hm : cap ≤ 9223372036854775807) :
    Calls Try.prog 7 #[.slice a len cap] w fun e w' => e = .returned (.bool true) ∧ Below w.heap.size w w' := by
  by_cases hbig : 1048576 < len
  · clear h
    go_enter Try.func7, Try.ntmps7
    go_wp2_with fail
    go_ret
    exact ⟨rfl, Below.refl _ _⟩
  go_enter Try.func7, Try.ntmps7
  go_wp2_with fail
  refine (draw_DrawImageText a len cap zs _ h hl hm).mono ?_
  rintro e w1 ⟨W, s, n, cg, xs, rfl, hR, hn, hb1⟩
  clear h hl hm
  have hL := LS.mk0 (W := W) (cg := cg) hR hb1
  clear hR hb1
  go_wp2_with fail
  refine (text_impl W s n cg xs _ hL.row (by omega)).mono ?_
  rintro e w2 ⟨rfl, hb⟩
  have hL2 := hL.move hb
  have y0 := hL2.c0
  have y1 := hL2.c1
  clear hL hb
  go_wp2_with fail
  refine (text_spec W s n cg xs _ hL2.row (by omega)).mono ?_
  rintro e w3 ⟨rfl, hb⟩
  have hL3 := hL2.move hb
  clear hL2 hb y0 y1
  by_cases hv : validB W xs = true
  case neg =>
    rw [show textOf W xs = [] from if_neg hv]
    go_wp2_with fail
    go_ret
    exact ⟨rfl, hL3.bel⟩
  have hI0 := validB_W hv
  obtain ⟨W, rfl⟩ := Int.eq_ofNat_of_zero_le (by omega : 0 ≤ W)
  have hI := Im.of hv hL3.row.1
  have hW6 := hI.w6
  have hn1 := hI.l1
  have hT := text_txt hI
  have hTl := hT.len
  have hne := hT.ne
  have hkW : n * (W + 1) ≤ 6 * 7 := Nat.mul_le_mul (by omega) (by omega)
  have hout := hT.out
  generalize textOf W xs = T at hT hTl hne hout ⊢
  have hne1 : T.isEmpty = false := by simpa using hne
  have hlen : T.length ≤ 42 := by omega
  have hFI : Hid (∀ wx : World, Calls Try.prog 27 #[.string ⟨T.toArray⟩] wx fun e w' => (∃ a cap, e = .returned (.tuple #[.agg #[.int .i64 W, .slice a n cap], .bool true]) ∧ OwnI w' wx.heap.size a n cap xs) ∧ Below wx.heap.size wx w') := by
    intro wx
    have h := from_impl ⟨T.toArray⟩ wx (by simp only [ByteArray.size, List.size_toArray]; omega)
    rw [show (ByteArray.mk T.toArray).data.toList = T from rfl, hout] at h
    exact h.mono fun e w' hh => by unfold Gives at hh; simp only [hI.hl] at hh; exact hh
  have hw := area_wrap hTl hlen
  have hL3 := Lib.hid hL3
  clear hT hTl hout
  go_wp2_with fail
  refine (hFI.out _).mono ?_
  rintro e w4 ⟨⟨ax, cx, rfl, ox⟩, hb⟩
  have hL4 := Lib.hid (hL3.out.move hb)
  have z4 : w1.heap.size < w4.heap.size := block_lt hL4.out.c0
  have ox := Lib.hid ox
  have y0 := hL4.out.c0
  have y1 := hL4.out.c1
  clear hL3 hb
  go_wp2_with fail
  refine (sameImage_yes W ax s n cx cg xs _ (ox.out.row.alloc _) (hL4.out.row.alloc _) (by omega)).mono ?_
  rintro e w5 ⟨rfl, hb⟩
  have hL5 := Lib.hid (hL4.out.move (((Below.refl _ _).alloc (Nat.le_refl _) _).trans (hb.mono (by simp))))
  clear hL4 ox hb y0 y1
  have y0 := hL5.out.c0
  have y1 := hL5.out.c1
  go_wp2_with fail
  go_ret
  exact ⟨rfl, hL5.out.bel⟩

set_option maxRecDepth 100000 in
theorem lifted (os : Os) (started : os.Started) (H : Type) (enc : TypeId × Value → H) :
    ReturnsInHanded {} Try.checked os 7 .any (Rows.fnTextSpec.pre6 enc Try.prog Try.f7 Rows.fnTextRow.domain false) (Rows.fnTextSpec.post enc Try.prog Try.f7 false true false false) := by
  refine returnsInHanded_of_change (C := Try.checked) own started (by kernel_rfl) Try.func7
    (ChangeSpec.witness6 (enc := enc) (C := Try.checked) false ⟨#[], #[.slice none 0 0], []⟩ 8 (by kernel_rfl) (by kernel_rfl) (by kernel_rfl) (by kernel_rfl)) ?_
  intro W base args ds gs before hval0 hW hcnd _
  have hval : ∀ (j : Nat) t v, Try.f7.params[j]? = some t → args[j]? = some v → Value.okWide Try.prog W .any base t v := hval0
  have hW' := hW
  obtain ⟨p, q, hA0, hV, rfl, hfz, hnd⟩ := hW
  have hA : DataW.TrodAll enc Try.prog W 0 (fun _ => true) true Try.f7.params.toList args.toList ds p := hA0
  rw [Try.params7] at hA hval
  obtain ⟨v0, vs0, d0, ds0, p0, q0, hargs, rfl, rfl, h0, r0⟩ := trodAll_cons hA
  obtain ⟨rfl, rfl, rfl⟩ := trodAll_nil r0
  obtain rfl : args = #[v0] := by cases args; simp_all
  obtain ⟨rfl, rfl⟩ := trodVars_none hV
  have k0 := h0
  have lt0 : ∀ x ∈ p0, x.block < W.heap.size := by obtain ⟨m, hm⟩ := k0; exact DataW.trod_lt m _ _ _ hm
  obtain ⟨a0, len0, cap0, z0, rfl, w0, l0, m0⟩ := open_code (hval 0 22 v0 rfl rfl) h0
  clear hA0 hval0
  refine (walk a0 len0 cap0 z0 W w0 l0 m0).mono fun e W' ⟨he, bel⟩ => ?_
  subst he
  exact ⟨_, rfl, _, _, _, [], _, [], hW', trodAll_mk1 (shut_bool Try.underlying4 _), (trodAll_cons_mk (Below.trod laidOut (by kernel_rfl) (of_decide_eq_true (by kernel_rfl)) k0 bel lt0) trodAll_mk0), rfl, bel.frame _, fun h => by cases h⟩

theorem closed : joinedFacts Try.prog 7 Try.f7 Rows.fnTextSpec Rows.fnTextRow = true := by
  simp only [joinedFacts, Bool.and_eq_true]
  repeat' apply And.intro
  all_goals first | with_reducible exact mayEnterOk | (with_reducible rw [liftsFinalOk]; kernel_rfl) | (with_reducible rw [makeOk]; kernel_rfl) | kernel_rfl

theorem over : Rows.fnTextRow.holds Try.pinned (OpenSpec.ofChange Rows.fnTextSpec) :=
  OpenClaim.holds_of_wide 7 Try.f7 rfl rfl rfl rfl rfl rfl rfl ⟨rfl, rfl, rfl, rfl, rfl⟩ rfl rfl rfl rfl rfl (by kernel_rfl) Try.func7 closed
    (of_decide_eq_true (by kernel_rfl)) (by unfold Func.isWrapper; first | (rw [if_pos (by decide +kernel)]; kernel_rfl) | (rw [if_neg (by decide +kernel)]; exact ⟨rfl, rfl⟩))
    (fun os started H enc _ => lifted os started H enc)

theorem proved : Rows.FnTextSaid := over
#print axioms proved
end Go.Proofs.Ytebfdpcpmiookaa.LFText

