/-
  For every list of integers and number the law on CountAll answers true, and nothing that was there is written; no condition.
-/
import Derived.Test.YtmfncheimmcobaaF
import Derived.Test.YtmfncheimmcobaaG
import Derived.Test.YtmfncheimmcobaaK
import Derived.Test.YtmfncheimmcobaaJy
namespace Go.Proofs.Ytmfncheimmcobaa.LCountAll
open Go.ChangeShapes Go.WideShapes Go.ChangeAt Go.RowKit Go.Joins

set_option maxHeartbeats 2000000 in
theorem walk (a0 : Option Addr) (n0 c0 : Nat) (x0 : List Int) (e1 : Int) (w : World) (h0 : Row w a0 n0 x0) (m0 : n0 ≤ 9223372036854775807) :
    Calls Try.prog 17 #[.slice a0 n0 c0, .int .i64 e1] w fun e w' => e = .returned (.bool true) ∧ Below w.heap.size w w' := by
  by_cases big0 : 1048576 < n0
  · clear h0
    go_enter Try.func17, Try.ntmps17
    go_wp2_with fail
    go_ret
    exact ⟨rfl, Below.refl _ _⟩
  obtain ⟨R, hRe⟩ : ∃ R, caO x0 e1 = R := ⟨_, rfl⟩
  have CS : ∀ (a0 : Option Addr) (c0 : Nat) (wx : World), Row wx a0 n0 x0 → Calls Try.prog 33 #[.slice a0 n0 c0, .int .i64 e1] wx (fun e w' => e = .returned (.int .i64 R) ∧ Below wx.heap.size wx w') := by
    intro a0 c0 wx h0; rw [← hRe]; exact ca_spec _ _ _ x0 e1 _ h0 (by omega)
  have DS := Lib.hid CS
  clear CS
  have CI : ∀ (a0 : Option Addr) (c0 : Nat) (wx : World), Row wx a0 n0 x0 → Calls Try.prog 32 #[.slice a0 n0 c0, .int .i64 e1] wx (fun e w' => e = .returned (.int .i64 R) ∧ Below wx.heap.size wx w') := by
    intro a0 c0 wx h0; rw [← hRe]; exact ca_impl _ _ _ x0 e1 _ h0 (by omega)
  have DI := Lib.hid CI
  clear CI
  clear hRe
  have rg0 := rng_row h0
  have h0 := Lib.hid h0
  have bb : Hid (Below w.heap.size w w) := Below.refl _ _
  go_enter Try.func17, Try.ntmps17
  go_wp2_with fail
  go_wp2_with fail
  refine (to_any a0 n0 c0 x0 _ h0.out (by omega)).mono ?_
  rintro e w1 ⟨⟨gw1, rfl, hgw1, ho⟩, hb⟩
  have szw1 := hb.size
  replace h0 := Lib.hid (h0.out.bel hb)
  replace bb := Lib.hid (bb.out.trans (hb.mono bb.out.size))
  clear hb
  have s0 := Lib.hid ho.row
  clear ho hgw1
  go_wp2_with fail
  refine (DS.out _ _ _ s0.out).mono ?_
  rintro e w2 ⟨rfl, hb⟩
  have szw2 := hb.size
  replace h0 := Lib.hid (h0.out.bel hb)
  replace s0 := Lib.hid (s0.out.bel hb)
  replace bb := Lib.hid (bb.out.trans (hb.mono bb.out.size))
  clear hb
  clear s0 DS
  go_wp2_with fail
  refine (to_any a0 n0 c0 x0 _ h0.out (by omega)).mono ?_
  rintro e w3 ⟨⟨gw3, rfl, hgw3, ho⟩, hb⟩
  have szw3 := hb.size
  replace h0 := Lib.hid (h0.out.bel hb)
  replace bb := Lib.hid (bb.out.trans (hb.mono bb.out.size))
  clear hb
  have g0 := Lib.hid ho.row
  clear ho
  obtain ⟨z0, hz0⟩ : ∃ z, z = gw3 := ⟨_, rfl⟩
  rw [← hz0]
  rw [← hz0] at g0 hgw3
  clear hz0
  go_wp2_with fail
  refine (DI.out _ _ _ g0.out).mono ?_
  rintro e w4 ⟨rfl, hb⟩
  have szw4 := hb.size
  replace h0 := Lib.hid (h0.out.bel hb)
  replace g0 := Lib.hid (g0.out.bel hb)
  replace bb := Lib.hid (bb.out.trans (hb.mono bb.out.size))
  clear hb
  go_wp2_with fail
  refine (to_any a0 n0 c0 x0 _ h0.out (by omega)).mono ?_
  rintro e w5 ⟨⟨gw5, rfl, hgw5, ho⟩, hb⟩
  have szw5 := hb.size
  replace h0 := Lib.hid (h0.out.bel hb)
  replace g0 := Lib.hid (g0.out.bel hb)
  replace bb := Lib.hid (bb.out.trans (hb.mono bb.out.size))
  clear hb
  have t0 := Lib.hid ho.row
  clear ho
  go_wp2_with fail
  refine (eq_yes _ _ _ _ _ x0 _ g0.out t0.out (by omega)).mono ?_
  rintro e w6 ⟨rfl, hb⟩
  have szw6 := hb.size
  replace h0 := Lib.hid (h0.out.bel hb)
  replace g0 := Lib.hid (g0.out.bel hb)
  replace t0 := Lib.hid (t0.out.bel hb)
  replace bb := Lib.hid (bb.out.trans (hb.mono bb.out.size))
  clear hb
  clear t0
  go_wp2_with fail
  go_ret
  exact ⟨rfl, bb.out⟩

set_option maxRecDepth 100000 in
theorem lifted (os : Os) (started : os.Started) (H : Type) (enc : TypeId × Value → H) :
    ReturnsInHanded {} Try.checked os 17 .any (Rows.fnExactCountAllSpec.pre6 enc Try.prog Try.f17 Rows.fnExactCountAllRow.domain false) (Rows.fnExactCountAllSpec.post enc Try.prog Try.f17 false true false false) := by
  refine returnsInHanded_of_change (C := Try.checked) own started (by kernel_rfl) Try.func17
    (ChangeSpec.witness6 (enc := enc) (C := Try.checked) false ⟨#[], #[.slice none 0 0, .int .i64 0], []⟩ 8 (by kernel_rfl) (by kernel_rfl) (by kernel_rfl) (by kernel_rfl)) ?_
  intro W base args ds gs before hval0 hW hcnd _
  have hval : ∀ (j : Nat) t v, Try.f17.params[j]? = some t → args[j]? = some v → Value.okWide Try.prog W .any base t v := hval0
  have hW' := hW
  obtain ⟨p, q, hA0, hV, rfl, hfz, hnd⟩ := hW
  have hA : DataW.TrodAll enc Try.prog W 0 (fun _ => true) true Try.f17.params.toList args.toList ds p := hA0
  rw [Try.params17] at hA hval
  obtain ⟨v0, vs0, d0, ds0, p0, q0, hargs, rfl, rfl, h0, r0⟩ := trodAll_cons hA
  obtain ⟨v1, vs1, d1, ds1, p1, q1, rfl, rfl, rfl, h1, r1⟩ := trodAll_cons r0
  obtain ⟨rfl, rfl, rfl⟩ := trodAll_nil r1
  obtain rfl : args = #[v0, v1] := by cases args; simp_all
  obtain ⟨rfl, rfl⟩ := trodVars_none hV
  have k0 := h0
  have lt0 : ∀ x ∈ p0, x.block < W.heap.size := by obtain ⟨m, hm⟩ := k0; exact DataW.trod_lt m _ _ _ hm
  obtain ⟨a0, len0, cap0, z0, rfl, w0, m0⟩ := open_list (hval 0 23 v0 rfl rfl) h0
  obtain ⟨i1, rfl, rfl, rfl, w1⟩ := open_int Try.underlying3 (hval 1 3 v1 rfl rfl) h1
  clear hA0 hval0
  refine (walk a0 len0 cap0 z0 i1 W w0 m0).mono fun e W' ⟨he, bel⟩ => ?_
  subst he
  exact ⟨_, rfl, _, _, _, [], _, [], hW', trodAll_mk1 (shut_bool Try.underlying4 _), (trodAll_cons_mk (Below.trod laidOut (by kernel_rfl) (of_decide_eq_true (by kernel_rfl)) k0 bel lt0) (trodAll_cons_mk (shut_int Try.underlying3 w1) trodAll_mk0)), rfl, bel.frame _, fun h => by cases h⟩

theorem closed : joinedFacts Try.prog 17 Try.f17 Rows.fnExactCountAllSpec Rows.fnExactCountAllRow = true := by
  simp only [joinedFacts, Bool.and_eq_true]
  repeat' apply And.intro
  all_goals first | with_reducible exact mayEnterOk | (with_reducible rw [liftsFinalOk]; kernel_rfl) | (with_reducible rw [makeOk]; kernel_rfl) | kernel_rfl

theorem over : Rows.fnExactCountAllRow.holds Try.pinned (OpenSpec.ofChange Rows.fnExactCountAllSpec) :=
  OpenClaim.holds_of_wide 17 Try.f17 rfl rfl rfl rfl rfl rfl rfl ⟨rfl, rfl, rfl, rfl, rfl⟩ rfl rfl rfl rfl rfl (by kernel_rfl) Try.func17 closed
    (of_decide_eq_true (by kernel_rfl)) (by unfold Func.isWrapper; first | (rw [if_pos (by decide +kernel)]; kernel_rfl) | (rw [if_neg (by decide +kernel)]; exact ⟨rfl, rfl⟩))
    (fun os started H enc _ => lifted os started H enc)

theorem proved : Rows.FnExactCountAllSaid := over
#print axioms proved
end Go.Proofs.Ytmfncheimmcobaa.LCountAll

