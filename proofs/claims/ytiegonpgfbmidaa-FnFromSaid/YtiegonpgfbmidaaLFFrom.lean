/-
  For every slice of bytes the law FnFrom answers true: what is read is valid; nothing that was there is written; no condition.
-/
import Derived.Test.YtiegonpgfbmidaaO
import Derived.Test.YtiegonpgfbmidaaZ
import Derived.Test.YtiegonpgfbmidaaEq
import Derived.Test.YtiegonpgfbmidaaTn
import Derived.Test.YtiegonpgfbmidaaFi
import Derived.Test.YtiegonpgfbmidaaFs
import Derived.Test.YtiegonpgfbmidaaFo
namespace Go.Proofs.Ytiegonpgfbmidaa.LFFrom
open Go.ChangeShapes Go.WideShapes Go.ChangeAt Go.RowKit Go.Joins

set_option maxHeartbeats 800000 in
theorem walk (a : Option Addr) (len cap : Nat) (zs : List Int) (w : World) (h : Bys w a len zs) (hl : len ≤ cap) (hm : cap ≤ 9223372036854775807) :
    Calls Try.prog 9 #[.slice a len cap] w fun e w' => e = .returned (.bool true) ∧ Below w.heap.size w w' := by
  by_cases hbig : 1048576 < len
  · clear h
    go_enter Try.func9, Try.ntmps9
    go_wp2_with fail
    go_ret
    exact ⟨rfl, Below.refl _ _⟩
  go_enter Try.func9, Try.ntmps9
  go_wp2_with fail
  refine (draw_DrawImageFrom a len cap zs _ h hl hm).mono ?_
  rintro e w1 ⟨s, rfl, hsz, hb1⟩
  clear h hl hm
  have hC := Ctx.nil hb1
  clear hb1
  obtain ⟨T, rfl⟩ : ∃ T : List UInt8, s = ⟨T.toArray⟩ := ⟨s.data.toList, by apply ByteArray.ext; simp⟩
  have hTs : (ByteArray.mk T.toArray).size = T.length := by simp only [ByteArray.size, List.size_toArray]
  have hTd : (ByteArray.mk T.toArray).data.toList = T := rfl
  have fi := fun wx => from_impl ⟨T.toArray⟩ wx (by omega)
  have fs := fun wx => from_spec ⟨T.toArray⟩ wx (by omega)
  rw [hTd] at fi fs
  rw [hTs] at hsz
  by_cases hF : fromB T = true
  case neg =>
    rw [show fromOut T = Out.no by rw [fromOut, if_neg hF]] at fi fs
    have fi : Hid (∀ wx : World, Calls Try.prog 32 #[.string ⟨T.toArray⟩] wx (GivesN wx)) := fi
    have fs : Hid (∀ wx : World, Calls Try.prog 33 #[.string ⟨T.toArray⟩] wx (GivesN wx)) := fs
    clear hF
    go_wp2_with fail
    refine (fi.out _).mono ?_
    rintro e w2 ⟨⟨a2, c2, rfl, ho⟩, hb⟩
    replace hC := (hC.move hb).push (W := 0) (cg := c2) ho.row
    clear ho hb
    have b00 := hC.a0.c0
    have b01 := hC.a0.c1
    go_wp2_with fail
    refine (fs.out _).mono ?_
    rintro e w3 ⟨⟨a3, c3, rfl, ho⟩, hb⟩
    clear b00 b01
    replace hC := (hC.move hb).push (W := 0) (cg := c3) ho.row
    clear ho hb
    have b00 := hC.a0.c0
    have b01 := hC.a0.c1
    have b10 := hC.a1.c0
    have b11 := hC.a1.c1
    go_wp2_with fail
    refine (sameImage_yes 0 _ _ 0 _ _ [] _ hC.a1.row hC.a0.row (by omega)).mono ?_
    rintro e w4 ⟨rfl, hb⟩
    clear b00 b01 b10 b11
    replace hC := hC.move hb
    clear hb
    have b00 := hC.a0.c0
    have b01 := hC.a0.c1
    have b10 := hC.a1.c0
    have b11 := hC.a1.c1
    go_wp2_with fail
    refine (sameImage_yes 0 _ _ 0 _ _ [] _ hC.a1.row hC.a0.row (by omega)).mono ?_
    rintro e w5 ⟨rfl, hb⟩
    clear b00 b01 b10 b11
    replace hC := hC.move hb
    clear hb
    have b00 := hC.a0.c0
    have b01 := hC.a0.c1
    have b10 := hC.a1.c0
    have b11 := hC.a1.c1
    go_wp2_with fail
    go_ret
    exact ⟨rfl, hC.bel⟩
  obtain ⟨W, n, xs, hT⟩ : ∃ W n xs, Txt T W n xs := ⟨_, _, _, Txt.of hF⟩
  rw [hT.out] at fi fs
  have fi : Hid (∀ wx : World, Calls Try.prog 32 #[.string ⟨T.toArray⟩] wx (GivesI wx W n xs)) := fun wx => (fi wx).mono fun _ _ hg => Gives.ok hg hT.1.hl
  have fs : Hid (∀ wx : World, Calls Try.prog 33 #[.string ⟨T.toArray⟩] wx (GivesI wx W n xs)) := fun wx => (fs wx).mono fun _ _ hg => Gives.ok hg hT.1.hl
  have h2 := hT.two
  have f1 : Hid (∀ wx : World, Calls Try.prog 32 #[.string ((ByteArray.mk T.toArray).extract 0 (T.length - 1))] wx (GivesN wx)) := by
    intro wx
    have h := from_impl ((ByteArray.mk T.toArray).extract 0 (T.length - 1)) wx (by rw [ByteArray.size_extract]; omega)
    rw [ext_list, hTd, List.drop_zero, Nat.sub_zero, hT.cut] at h
    exact h
  have f2 : Hid (∀ wx : World, Calls Try.prog 32 #[.string (ByteArray.mk T.toArray ++ ByteArray.mk #[32])] wx (GivesN wx)) := by
    intro wx
    have h := from_impl (ByteArray.mk T.toArray ++ ByteArray.mk #[32]) wx (by rw [ByteArray.size_append, hTs]; show T.length + 1 ≤ _; omega)
    have hd : (ByteArray.mk T.toArray ++ ByteArray.mk #[32]).data.toList = T ++ [32] := by rw [show ByteArray.mk #[32] = ByteArray.mk [32].toArray from rfl, str_app]
    rw [hd, Txt.more] at h
    exact h
  have hv := hT.1.valid
  have htx : textOf W xs = T := by rw [hT.1.text]; exact hT.2
  have hn6 := hT.1.l6
  have hv := Lib.hid hv
  have htx := Lib.hid htx
  have hlen : 2 ≤ T.length := h2
  clear hT hF h2 hTd hTs
  go_wp2_with fail
  refine (fi.out _).mono ?_
  rintro e w2 ⟨⟨a2, c2, rfl, ho⟩, hb⟩
  replace hC := (hC.move hb).push (W := W) (cg := c2) ho.row
  clear ho hb
  have b00 := hC.a0.c0
  have b01 := hC.a0.c1
  go_wp2_with fail
  refine (fs.out _).mono ?_
  rintro e w3 ⟨⟨a3, c3, rfl, ho⟩, hb⟩
  clear b00 b01
  replace hC := (hC.move hb).push (W := W) (cg := c3) ho.row
  clear ho hb
  have b00 := hC.a0.c0
  have b01 := hC.a0.c1
  have b10 := hC.a1.c0
  have b11 := hC.a1.c1
  go_wp2_with fail
  refine (sameImage_yes W _ _ n _ _ xs _ hC.a1.row hC.a0.row (by omega)).mono ?_
  rintro e w4 ⟨rfl, hb⟩
  clear b00 b01 b10 b11
  replace hC := hC.move hb
  clear hb
  have b00 := hC.a0.c0
  have b01 := hC.a0.c1
  have b10 := hC.a1.c0
  have b11 := hC.a1.c1
  go_wp2_with fail
  refine (f1.out _).mono ?_
  rintro e w5 ⟨⟨a5, c5, rfl, ho⟩, hb⟩
  clear b00 b01 b10 b11
  replace hC := (hC.move hb).push (W := 0) (cg := c5) ho.row
  clear ho hb
  have b00 := hC.a0.c0
  have b01 := hC.a0.c1
  have b10 := hC.a1.c0
  have b11 := hC.a1.c1
  have b20 := hC.a2.c0
  have b21 := hC.a2.c1
  go_wp2_with fail
  refine (f2.out _).mono ?_
  rintro e w6 ⟨⟨a6, c6, rfl, ho⟩, hb⟩
  clear b00 b01 b10 b11 b20 b21
  replace hC := (hC.move hb).push (W := 0) (cg := c6) ho.row
  clear ho hb
  have b00 := hC.a0.c0
  have b01 := hC.a0.c1
  have b10 := hC.a1.c0
  have b11 := hC.a1.c1
  have b20 := hC.a2.c0
  have b21 := hC.a2.c1
  have b30 := hC.a3.c0
  have b31 := hC.a3.c1
  go_wp2_with fail
  refine (valid_impl W _ n _ xs _ hC.a3.row (by omega)).mono ?_
  rintro e w7 ⟨rfl, hb⟩
  clear b00 b01 b10 b11 b20 b21 b30 b31
  replace hC := hC.move hb
  clear hb
  rw [hv.out]
  have b00 := hC.a0.c0
  have b01 := hC.a0.c1
  have b10 := hC.a1.c0
  have b11 := hC.a1.c1
  have b20 := hC.a2.c0
  have b21 := hC.a2.c1
  have b30 := hC.a3.c0
  have b31 := hC.a3.c1
  go_wp2_with fail
  refine (text_impl W _ n _ xs _ hC.a3.row (by omega)).mono ?_
  rintro e w8 ⟨rfl, hb⟩
  clear b00 b01 b10 b11 b20 b21 b30 b31
  replace hC := hC.move hb
  clear hb
  rw [htx.out]
  have b00 := hC.a0.c0
  have b01 := hC.a0.c1
  have b10 := hC.a1.c0
  have b11 := hC.a1.c1
  have b20 := hC.a2.c0
  have b21 := hC.a2.c1
  have b30 := hC.a3.c0
  have b31 := hC.a3.c1
  go_wp2_with fail
  go_ret
  exact ⟨rfl, hC.bel⟩

set_option maxRecDepth 100000 in
theorem lifted (os : Os) (started : os.Started) (H : Type) (enc : TypeId × Value → H) :
    ReturnsInHanded {} Try.checked os 9 .any (Rows.fnFromSpec.pre6 enc Try.prog Try.f9 Rows.fnFromRow.domain false) (Rows.fnFromSpec.post enc Try.prog Try.f9 false true false false) := by
  refine returnsInHanded_of_change (C := Try.checked) own started (by kernel_rfl) Try.func9
    (ChangeSpec.witness6 (enc := enc) (C := Try.checked) false ⟨#[], #[.slice none 0 0], []⟩ 8 (by kernel_rfl) (by kernel_rfl) (by kernel_rfl) (by kernel_rfl)) ?_
  intro W base args ds gs before hval0 hW hcnd _
  have hval : ∀ (j : Nat) t v, Try.f9.params[j]? = some t → args[j]? = some v → Value.okWide Try.prog W .any base t v := hval0
  have hW' := hW
  obtain ⟨p, q, hA0, hV, rfl, hfz, hnd⟩ := hW
  have hA : DataW.TrodAll enc Try.prog W 0 (fun _ => true) true Try.f9.params.toList args.toList ds p := hA0
  rw [Try.params9] at hA hval
  obtain ⟨v0, vs0, d0, ds0, p0, q0, hargs, rfl, rfl, h0, r0⟩ := trodAll_cons hA
  obtain ⟨rfl, rfl, rfl⟩ := trodAll_nil r0
  obtain rfl : args = #[v0] := by cases args; simp_all
  obtain ⟨rfl, rfl⟩ := trodVars_none hV
  have k0 := h0
  have lt0 : ∀ x ∈ p0, x.block < W.heap.size := by obtain ⟨m, hm⟩ := k0; exact DataW.trod_lt m _ _ _ hm
  obtain ⟨a0, len0, cap0, z0, rfl, w0, l0, m0⟩ := open_code (hval 0 22 v0 rfl rfl) h0
  clear hA0 hval0
  refine (walk a0 len0 cap0 z0 W w0 l0 m0).mono fun e W' ⟨he, bel⟩ => ?_
  subst he
  exact ⟨_, rfl, _, _, _, [], _, [], hW', trodAll_mk1 (shut_bool Try.underlying4 _), (trodAll_cons_mk (Below.trod laidOut (by kernel_rfl) (of_decide_eq_true (by kernel_rfl)) k0 bel lt0) trodAll_mk0), rfl, bel.frame _, fun h => by cases h⟩

theorem closed : joinedFacts Try.prog 9 Try.f9 Rows.fnFromSpec Rows.fnFromRow = true := by
  simp only [joinedFacts, Bool.and_eq_true]
  repeat' apply And.intro
  all_goals first | with_reducible exact mayEnterOk | (with_reducible rw [liftsFinalOk]; kernel_rfl) | (with_reducible rw [makeOk]; kernel_rfl) | kernel_rfl

theorem over : Rows.fnFromRow.holds Try.pinned (OpenSpec.ofChange Rows.fnFromSpec) :=
  OpenClaim.holds_of_wide 9 Try.f9 rfl rfl rfl rfl rfl rfl rfl ⟨rfl, rfl, rfl, rfl, rfl⟩ rfl rfl rfl rfl rfl (by kernel_rfl) Try.func9 closed
    (of_decide_eq_true (by kernel_rfl)) (by unfold Func.isWrapper; first | (rw [if_pos (by decide +kernel)]; kernel_rfl) | (rw [if_neg (by decide +kernel)]; exact ⟨rfl, rfl⟩))
    (fun os started H enc _ => lifted os started H enc)

theorem proved : Rows.FnFromSaid := over
#print axioms proved
end Go.Proofs.Ytiegonpgfbmidaa.LFFrom

