/-
  For every list of integers the law on PartOf answers true, and nothing that was there is written; no condition.
-/
import Derived.Test.YteadibgjieimkaaF
import Derived.Test.YteadibgjieimkaaG
import Derived.Test.YteadibgjieimkaaEx
import Derived.Test.YteadibgjieimkaaPe
namespace Go.Proofs.Yteadibgjieimkaa.LPartOf
set_option maxRecDepth 100000
open Go.ChangeShapes Go.WideShapes Go.ChangeAt Go.RowKit Go.Joins

set_option maxHeartbeats 2000000 in
theorem walk (a0 : Option Addr) (n0 c0 : Nat) (x0 : List Int) (w : World) (h0 : Row w a0 n0 x0) (m0 : n0 ≤ 9223372036854775807) :
    Calls Try.prog 13 #[.slice a0 n0 c0] w fun e w' => e = .returned (.bool true) ∧ Below w.heap.size w w' := by
  by_cases big0 : 1048576 < n0
  · clear h0
    go_enter Try.func13, Try.ntmps13
    go_wp2_with fail
    go_ret
    exact ⟨rfl, Below.refl _ _⟩
  obtain ⟨R, hRe⟩ : ∃ R, partOfL x0 = R := ⟨_, rfl⟩
  obtain ⟨O, hOe⟩ : ∃ O, elB x0 = O := ⟨_, rfl⟩
  have hR : R.length ≤ 1048576 := by rw [← hRe]; have := partOf_len x0; omega
  have CS : ∀ (a0 : Option Addr) (c0 : Nat) (wx : World), Row wx a0 n0 x0 → Calls Try.prog 27 #[.slice a0 n0 c0] wx (GivesB wx R O) := by
    intro a0 c0 wx h0; rw [← hRe, ← hOe]; exact partOf_spec _ _ _ x0 _ h0 m0
  have DS := Lib.hid CS
  clear CS
  have CI : ∀ (a0 : Option Addr) (c0 : Nat) (wx : World), Row wx a0 n0 x0 → Calls Try.prog 26 #[.slice a0 n0 c0] wx (GivesB wx R O) := by
    intro a0 c0 wx h0; rw [← hRe, ← hOe]; exact partOf_impl _ _ _ x0 _ h0 m0
  have DI := Lib.hid CI
  clear CI
  clear hRe hOe
  have rg0 := rng_row h0
  have h0 := Lib.hid h0
  have bb : Hid (Below w.heap.size w w) := Below.refl _ _
  go_enter Try.func13, Try.ntmps13
  go_wp2_with fail
  go_wp2_with fail
  refine (to_any a0 n0 c0 x0 _ h0.out (by omega)).mono ?_
  rintro e w1 ⟨⟨gw1, rfl, hgw1, ho⟩, hb⟩
  have szw1 := hb.size
  replace h0 := Lib.hid (h0.out.bel hb)
  replace bb := Lib.hid (bb.out.trans (hb.mono bb.out.size))
  clear hb
  have s0 := Lib.hid ho.row
  clear ho hgw1
  go_wp2_with fail
  refine (DS.out _ _ _ s0.out).mono ?_
  rintro e w2 ⟨⟨aw, cw, rfl, ho⟩, hb⟩
  have szw2 := hb.size
  replace h0 := Lib.hid (h0.out.bel hb)
  replace s0 := Lib.hid (s0.out.bel hb)
  replace bb := Lib.hid (bb.out.trans (hb.mono bb.out.size))
  clear hb
  have ow := Lib.hid ho.row
  have rw0 := rng_cond (n := R.length) (rng_own ho)
  clear ho
  clear s0 DS
  go_wp2_with fail
  refine (to_any a0 n0 c0 x0 _ h0.out (by omega)).mono ?_
  rintro e w3 ⟨⟨gw3, rfl, hgw3, ho⟩, hb⟩
  have szw3 := hb.size
  replace h0 := Lib.hid (h0.out.bel hb)
  replace ow := Lib.hid (ow.out.bel hb)
  replace bb := Lib.hid (bb.out.trans (hb.mono bb.out.size))
  clear hb
  have gr0 := rng_own ho
  have g0 := Lib.hid (ho)
  clear ho
  obtain ⟨z0, hz0⟩ : ∃ z, z = gw3 := ⟨_, rfl⟩
  rw [← hz0]
  rw [← hz0] at g0 hgw3 gr0
  clear hz0
  go_wp2_with fail
  refine (DI.out _ _ _ g0.out.row).mono ?_
  rintro e w4 ⟨⟨ag, cg, rfl, ho⟩, hb⟩
  have szw4 := hb.size
  replace h0 := Lib.hid (h0.out.bel hb)
  replace ow := Lib.hid (ow.out.bel hb)
  replace g0 := Lib.hid (g0.out.bel hb)
  replace bb := Lib.hid (bb.out.trans (hb.mono bb.out.size))
  clear hb
  have rgo : ∀ p, ag = some p → w3.heap.size ≤ p.block ∧ p.block < w4.heap.size := fun p hp => by have := rng_own ho p hp; simpa using this
  have og := Lib.hid ho
  clear ho
  go_wp2_with fail
  refine (eq_yes _ _ _ _ _ R _ og.out.row ow.out (by omega)).mono ?_
  rintro e w5 ⟨rfl, hb⟩
  have szw5 := hb.size
  replace h0 := Lib.hid (h0.out.bel hb)
  replace ow := Lib.hid (ow.out.bel hb)
  replace g0 := Lib.hid (g0.out.bel hb)
  replace og := Lib.hid (og.out.bel hb)
  replace bb := Lib.hid (bb.out.trans (hb.mono bb.out.size))
  clear hb
  go_wp2_with fail
  refine (to_any a0 n0 c0 x0 _ h0.out (by omega)).mono ?_
  rintro e w6 ⟨⟨gw6, rfl, hgw6, ho⟩, hb⟩
  have szw6 := hb.size
  replace h0 := Lib.hid (h0.out.bel hb)
  replace ow := Lib.hid (ow.out.bel hb)
  replace g0 := Lib.hid (g0.out.bel hb)
  replace og := Lib.hid (og.out.bel hb)
  replace bb := Lib.hid (bb.out.trans (hb.mono bb.out.size))
  clear hb
  have t0 := Lib.hid ho.row
  clear ho
  go_wp2_with fail
  refine (eq_yes _ _ _ _ _ x0 _ g0.out.row t0.out (by omega)).mono ?_
  rintro e w7 ⟨rfl, hb⟩
  have szw7 := hb.size
  replace h0 := Lib.hid (h0.out.bel hb)
  replace ow := Lib.hid (ow.out.bel hb)
  replace t0 := Lib.hid (t0.out.bel hb)
  replace g0 := Lib.hid (g0.out.bel hb)
  replace og := Lib.hid (og.out.bel hb)
  replace bb := Lib.hid (bb.out.trans (hb.mono bb.out.size))
  clear hb
  clear t0
  go_wp2_with fail
  refine (mark_own _ _ _ _ x0 (1) _ g0.out (by omega) (by omega) (by omega)).mono ?_
  rintro e w8 ⟨rfl, hg, ho⟩
  have h0 := Lib.hid (h0.out.apart2 hg rg0 gr0 (by omega))
  have ow := Lib.hid (ow.out.apart2 hg rw0 gr0 (by omega))
  have og := Lib.hid (og.out.apart2 hg rgo gr0 (by omega))
  have bb := Lib.hid (bel_write bb.out hg gr0 (by omega))
  have szw8 := hg.size
  clear ho hg g0
  go_wp2_with fail
  refine (eq_yes _ _ _ _ _ R _ og.out.row ow.out (by omega)).mono ?_
  rintro e w9 ⟨rfl, hb⟩
  have szw9 := hb.size
  replace h0 := Lib.hid (h0.out.bel hb)
  replace ow := Lib.hid (ow.out.bel hb)
  replace og := Lib.hid (og.out.bel hb)
  replace bb := Lib.hid (bb.out.trans (hb.mono bb.out.size))
  clear hb
  go_wp2_with fail
  refine (mark_own _ _ _ _ R 1 _ og.out (by omega) (by omega) (by omega)).mono ?_
  rintro e w10 ⟨rfl, hg, ho⟩
  have h0 := Lib.hid (h0.out.apart2 hg rg0 rgo (by omega))
  have ow := Lib.hid (ow.out.apart2 hg rw0 rgo (by omega))
  have bb := Lib.hid (bel_write bb.out hg rgo (by omega))
  have szw10 := hg.size
  have og := Lib.hid ho
  clear ho hg
  go_wp2_with fail
  refine (held_any _ _ _ 1 _ og.out.row (by omega) (by omega) (by omega)).mono ?_
  rintro e w11 ⟨rfl, hb⟩
  have szw11 := hb.size
  replace h0 := Lib.hid (h0.out.bel hb)
  replace ow := Lib.hid (ow.out.bel hb)
  replace og := Lib.hid (og.out.bel hb)
  replace bb := Lib.hid (bb.out.trans (hb.mono bb.out.size))
  clear hb
  go_wp2_with fail
  refine (to_any a0 n0 c0 x0 _ h0.out (by omega)).mono ?_
  rintro e w12 ⟨⟨gw12, rfl, hgw12, ho⟩, hb⟩
  have szw12 := hb.size
  replace h0 := Lib.hid (h0.out.bel hb)
  replace ow := Lib.hid (ow.out.bel hb)
  replace og := Lib.hid (og.out.bel hb)
  replace bb := Lib.hid (bb.out.trans (hb.mono bb.out.size))
  clear hb
  have v0 := Lib.hid ho.row
  clear ho
  go_wp2_with fail
  refine (DI.out _ _ _ v0.out).mono ?_
  rintro e w13 ⟨⟨ah, ch, rfl, ho⟩, hb⟩
  have szw13 := hb.size
  replace h0 := Lib.hid (h0.out.bel hb)
  replace ow := Lib.hid (ow.out.bel hb)
  replace v0 := Lib.hid (v0.out.bel hb)
  replace og := Lib.hid (og.out.bel hb)
  replace bb := Lib.hid (bb.out.trans (hb.mono bb.out.size))
  clear hb
  have oh := Lib.hid ho.row
  clear ho
  go_wp2_with fail
  refine (eq_yes _ _ _ _ _ R _ oh.out ow.out (by omega)).mono ?_
  rintro e w14 ⟨rfl, hb⟩
  have szw14 := hb.size
  replace h0 := Lib.hid (h0.out.bel hb)
  replace ow := Lib.hid (ow.out.bel hb)
  replace v0 := Lib.hid (v0.out.bel hb)
  replace oh := Lib.hid (oh.out.bel hb)
  replace og := Lib.hid (og.out.bel hb)
  replace bb := Lib.hid (bb.out.trans (hb.mono bb.out.size))
  clear hb
  go_wp2_with fail
  refine (held_any _ _ _ 1 _ og.out.row (by omega) (by omega) (by omega)).mono ?_
  rintro e w15 ⟨rfl, hb⟩
  have szw15 := hb.size
  replace h0 := Lib.hid (h0.out.bel hb)
  replace ow := Lib.hid (ow.out.bel hb)
  replace v0 := Lib.hid (v0.out.bel hb)
  replace oh := Lib.hid (oh.out.bel hb)
  replace og := Lib.hid (og.out.bel hb)
  replace bb := Lib.hid (bb.out.trans (hb.mono bb.out.size))
  clear hb
  go_wp2_with fail
  go_ret
  exact ⟨rfl, bb.out⟩

set_option maxRecDepth 100000 in
theorem lifted (os : Os) (started : os.Started) (H : Type) (enc : TypeId × Value → H) :
    ReturnsInHanded {} Try.checked os 13 .any (Rows.fnExactPartOfSpec.pre6 enc Try.prog Try.f13 Rows.fnExactPartOfRow.domain false) (Rows.fnExactPartOfSpec.post enc Try.prog Try.f13 false true false false) := by
  refine returnsInHanded_of_change (C := Try.checked) own started (by kernel_rfl) Try.func13
    (ChangeSpec.witness6 (enc := enc) (C := Try.checked) false ⟨#[], #[.slice none 0 0], []⟩ 8 (by kernel_rfl) (by kernel_rfl) (by kernel_rfl) (by kernel_rfl)) ?_
  intro W base args ds gs before hval0 hW hcnd _
  have hval : ∀ (j : Nat) t v, Try.f13.params[j]? = some t → args[j]? = some v → Value.okWide Try.prog W .any base t v := hval0
  have hW' := hW
  obtain ⟨p, q, hA0, hV, rfl, hfz, hnd⟩ := hW
  have hA : DataW.TrodAll enc Try.prog W 0 (fun _ => true) true Try.f13.params.toList args.toList ds p := hA0
  rw [Try.params13] at hA hval
  obtain ⟨v0, vs0, d0, ds0, p0, q0, hargs, rfl, rfl, h0, r0⟩ := trodAll_cons hA
  obtain ⟨rfl, rfl, rfl⟩ := trodAll_nil r0
  obtain rfl : args = #[v0] := by cases args; simp_all
  obtain ⟨rfl, rfl⟩ := trodVars_none hV
  have k0 := h0
  have lt0 : ∀ x ∈ p0, x.block < W.heap.size := by obtain ⟨m, hm⟩ := k0; exact DataW.trod_lt m _ _ _ hm
  obtain ⟨a0, len0, cap0, z0, rfl, w0, m0⟩ := open_list (hval 0 23 v0 rfl rfl) h0
  clear hA0 hval0
  refine (walk a0 len0 cap0 z0 W w0 m0).mono fun e W' ⟨he, bel⟩ => ?_
  subst he
  exact ⟨_, rfl, _, _, _, [], _, [], hW', trodAll_mk1 (shut_bool Try.underlying4 _), (trodAll_cons_mk (Below.trod laidOut (by kernel_rfl) (of_decide_eq_true (by kernel_rfl)) k0 bel lt0) trodAll_mk0), rfl, bel.frame _, fun h => by cases h⟩

theorem closed : joinedFacts Try.prog 13 Try.f13 Rows.fnExactPartOfSpec Rows.fnExactPartOfRow = true := by
  simp only [joinedFacts, Bool.and_eq_true]
  repeat' apply And.intro
  all_goals first | with_reducible exact mayEnterOk | (with_reducible rw [liftsFinalOk]; kernel_rfl) | (with_reducible rw [makeOk]; kernel_rfl) | kernel_rfl

theorem over : Rows.fnExactPartOfRow.holds Try.pinned (OpenSpec.ofChange Rows.fnExactPartOfSpec) :=
  OpenClaim.holds_of_wide 13 Try.f13 rfl rfl rfl rfl rfl rfl rfl ⟨rfl, rfl, rfl, rfl, rfl⟩ rfl rfl rfl rfl rfl (by kernel_rfl) Try.func13 closed
    (of_decide_eq_true (by kernel_rfl)) (by unfold Func.isWrapper; first | (rw [if_pos (by decide +kernel)]; kernel_rfl) | (rw [if_neg (by decide +kernel)]; exact ⟨rfl, rfl⟩))
    (fun os started H enc _ => lifted os started H enc)

theorem proved : Rows.FnExactPartOfSaid := over
#print axioms proved
end Go.Proofs.Yteadibgjieimkaa.LPartOf

