/-
  For every image and number the law on DirSums answers true, and nothing that was there is written; no condition.
-/
import Derived.Test.YtemmfnlnhekclaaF
import Derived.Test.YtemmfnlnhekclaaG
import Derived.Test.YtemmfnlnhekclaaK
import Derived.Test.YtemmfnlnhekclaaZi
namespace Go.Proofs.Ytemmfnlnhekclaa.LDirSums
open Go.ChangeShapes Go.WideShapes Go.ChangeAt Go.RowKit Go.Joins

set_option maxHeartbeats 2000000 in
theorem walk (W0 : Int) (a0 : Option Addr) (n0 c0 : Nat) (x0 : List Int) (e1 : Int) (w : World) (h0 : Row w a0 n0 x0) (m0 : n0 ≤ 9223372036854775807) :
    Calls Try.prog 18 #[.agg #[.int .i64 W0, .slice a0 n0 c0], .int .i64 e1] w fun e w' => e = .returned (.bool true) ∧ Below w.heap.size w w' := by
  obtain ⟨R, hRe⟩ : ∃ R, dsOut e1 W0 x0 = R := ⟨_, rfl⟩
  have hR : R.length ≤ 1048576 := by rw [← hRe]; have := dso_len e1 W0 x0; omega
  have CS : ∀ (a0 : Option Addr) (c0 : Nat) (wx : World), Row wx a0 n0 x0 → Calls Try.prog 28 #[.agg #[.int .i64 W0, .slice a0 n0 c0], .int .i64 e1] wx (GivesL wx R) := by
    intro a0 c0 wx h0; rw [← hRe]; exact dsums_spec _ _ _ _ _ _ _ h0 m0
  have DS := Lib.hid CS
  clear CS
  have CI : ∀ (a0 : Option Addr) (c0 : Nat) (wx : World), Row wx a0 n0 x0 → Calls Try.prog 27 #[.agg #[.int .i64 W0, .slice a0 n0 c0], .int .i64 e1] wx (GivesL wx R) := by
    intro a0 c0 wx h0; rw [← hRe]; exact dsums_impl _ _ _ _ _ _ _ h0 m0
  have DI := Lib.hid CI
  clear CI
  clear hRe
  have rg0 := rng_row h0
  have h0 := Lib.hid h0
  have bb : Hid (Below w.heap.size w w) := Below.refl _ _
  obtain ⟨w0, hw0⟩ : ∃ w0, w0 = (w.alloc (.cells #[.int .i64 W0, .slice a0 n0 c0] 55)) := ⟨_, rfl⟩
  have hb0 : Below w.heap.size w w0 := by subst hw0; exact (Below.refl _ _).alloc (Nat.le_refl _) _
  have p00 : w0.cell? ⟨w.heap.size, 0, none⟩ = some (.int .i64 W0) := by subst hw0; go_simp
  have p01 : w0.cell? ⟨w.heap.size, 1, none⟩ = some (.slice a0 n0 c0) := by subst hw0; go_simp
  have szw0 := hb0.size
  replace h0 := Lib.hid (h0.out.bel hb0)
  replace bb := Lib.hid (bb.out.trans (hb0.mono bb.out.size))
  clear hb0
  have l0 : w.heap.size + 0 < w0.heap.size := block_lt p00
  go_enter Try.func18, Try.ntmps18
  go_wp2_with fail
  rw [← hw0]
  clear hw0
  refine (szImage_any _ _ _ _ (1048576) _ m0 (by omega) (by omega)).mono ?_
  rintro e w1 ⟨rfl, hb⟩
  have szw1 := hb.size
  replace p00 := kept hb (block_lt p00) p00
  replace p01 := kept hb (block_lt p01) p01
  replace h0 := Lib.hid (h0.out.bel hb)
  replace bb := Lib.hid (bb.out.trans (hb.mono bb.out.size))
  clear hb
  by_cases big0 : 1048576 < (n0 : Int)
  · rw [if_pos big0]
    go_wp2_with fail
    go_ret
    exact ⟨rfl, bb.out⟩
  rw [if_neg big0]
  go_wp2_with fail
  refine (toImage_any W0 a0 n0 c0 x0 _ h0.out (by omega)).mono ?_
  rintro e w2 ⟨⟨gw2, rfl, hgw2, ho⟩, hb⟩
  have szw2 := hb.size
  replace p00 := kept hb (block_lt p00) p00
  replace p01 := kept hb (block_lt p01) p01
  replace h0 := Lib.hid (h0.out.bel hb)
  replace bb := Lib.hid (bb.out.trans (hb.mono bb.out.size))
  clear hb
  have s0 := Lib.hid ho.row
  clear ho hgw2
  go_wp2_with fail
  refine (DS.out _ _ _ s0.out).mono ?_
  rintro e w3 ⟨⟨aw, cw, rfl, ho⟩, hb⟩
  have szw3 := hb.size
  replace p00 := kept hb (block_lt p00) p00
  replace p01 := kept hb (block_lt p01) p01
  replace h0 := Lib.hid (h0.out.bel hb)
  replace s0 := Lib.hid (s0.out.bel hb)
  replace bb := Lib.hid (bb.out.trans (hb.mono bb.out.size))
  clear hb
  have ow := Lib.hid ho.row
  have rw0 := rng_cond (n := R.length) (rng_own ho)
  clear ho
  clear s0 DS
  go_wp2_with fail
  refine (toImage_any W0 a0 n0 c0 x0 _ h0.out (by omega)).mono ?_
  rintro e w4 ⟨⟨gw4, rfl, hgw4, ho⟩, hb⟩
  have szw4 := hb.size
  replace p00 := kept hb (block_lt p00) p00
  replace p01 := kept hb (block_lt p01) p01
  replace h0 := Lib.hid (h0.out.bel hb)
  replace ow := Lib.hid (ow.out.bel hb)
  replace bb := Lib.hid (bb.out.trans (hb.mono bb.out.size))
  clear hb
  have gr0 := rng_own ho
  have g0 := Lib.hid (ho)
  clear ho
  obtain ⟨z0, hz0⟩ : ∃ z, z = gw4 := ⟨_, rfl⟩
  rw [← hz0]
  rw [← hz0] at g0 hgw4 gr0
  clear hz0
  have hbx : Below w4.heap.size w4 (w4.alloc (.cells #[.int .i64 W0, .slice (some ⟨z0, 0, none⟩) n0 n0] 35)) := (Below.refl _ _).alloc (Nat.le_refl _) _
  replace p00 := kept hbx (block_lt p00) p00
  replace p01 := kept hbx (block_lt p01) p01
  replace h0 := Lib.hid (h0.out.bel hbx)
  replace ow := Lib.hid (ow.out.bel hbx)
  replace g0 := Lib.hid (g0.out.bel hbx)
  replace bb := Lib.hid (bb.out.trans (hbx.mono bb.out.size))
  clear hbx
  have q00 : (w4.alloc (.cells #[.int .i64 W0, .slice (some ⟨z0, 0, none⟩) n0 n0] 35)).cell? ⟨w4.heap.size, 0, none⟩ = some (.int .i64 W0) := by simp
  have q01 : (w4.alloc (.cells #[.int .i64 W0, .slice (some ⟨z0, 0, none⟩) n0 n0] 35)).cell? ⟨w4.heap.size, 1, none⟩ = some (.slice (some ⟨z0, 0, none⟩) n0 n0) := by simp
  go_wp2_with fail
  refine (DI.out _ _ _ g0.out.row).mono ?_
  rintro e w5 ⟨⟨ag, cg, rfl, ho⟩, hb⟩
  have szw5 : w4.heap.size + 1 ≤ w5.heap.size := by have := hb.size; simpa using this
  replace p00 := kept hb (block_lt p00) p00
  replace p01 := kept hb (block_lt p01) p01
  replace q00 := kept hb (block_lt q00) q00
  replace q01 := kept hb (block_lt q01) q01
  replace h0 := Lib.hid (h0.out.bel hb)
  replace ow := Lib.hid (ow.out.bel hb)
  replace g0 := Lib.hid (g0.out.bel hb)
  replace bb := Lib.hid (bb.out.trans (hb.mono bb.out.size))
  clear hb
  have rgo : ∀ p, ag = some p → w4.heap.size + 1 ≤ p.block ∧ p.block < w5.heap.size := fun p hp => by have := rng_own ho p hp; simpa using this
  have og := Lib.hid ho
  clear ho
  go_wp2_with fail
  refine (eq_yes _ _ _ _ _ R _ og.out.row ow.out (by omega)).mono ?_
  rintro e w6 ⟨rfl, hb⟩
  have szw6 := hb.size
  replace p00 := kept hb (block_lt p00) p00
  replace p01 := kept hb (block_lt p01) p01
  replace q00 := kept hb (block_lt q00) q00
  replace q01 := kept hb (block_lt q01) q01
  replace h0 := Lib.hid (h0.out.bel hb)
  replace ow := Lib.hid (ow.out.bel hb)
  replace g0 := Lib.hid (g0.out.bel hb)
  replace og := Lib.hid (og.out.bel hb)
  replace bb := Lib.hid (bb.out.trans (hb.mono bb.out.size))
  clear hb
  go_wp2_with fail
  skip
  go_region_law (first | ((go_simp; go_at_call 45; (with_reducible refine (toImage_any W0 a0 n0 c0 x0 _ (h0.out.bel ((Below.refl _ _).drew)) (by omega)).mono ?_); rintro e w7 ⟨⟨gg, rfl, hgg, ho⟩, hb⟩; have szw7 := hb.size; replace p00 := kept hb (block_lt (show w6.drew.cell? _ = _ from p00)) (show w6.drew.cell? _ = _ from p00); replace p01 := kept hb (block_lt (show w6.drew.cell? _ = _ from p01)) (show w6.drew.cell? _ = _ from p01); replace q00 := kept hb (block_lt (show w6.drew.cell? _ = _ from q00)) (show w6.drew.cell? _ = _ from q00); replace q01 := kept hb (block_lt (show w6.drew.cell? _ = _ from q01)) (show w6.drew.cell? _ = _ from q01); replace h0 := Lib.hid ((h0.out.bel ((Below.refl _ _).drew)).bel hb); replace ow := Lib.hid ((ow.out.bel ((Below.refl _ _).drew)).bel hb); replace g0 := Lib.hid ((g0.out.bel ((Below.refl _ _).drew)).bel hb); replace og := Lib.hid ((og.out.bel ((Below.refl _ _).drew)).bel hb); replace bb := Lib.hid (bb.out.drew.trans (hb.mono bb.out.drew.size)); have t0 := Lib.hid ho.row; clear hb ho hgg)) | ((go_simp; go_at_call 47; (with_reducible refine (eqImage_yes _ _ _ _ _ _ x0 _ g0.out.row t0.out (by omega)).mono ?_); rintro e w8 ⟨rfl, hb⟩; have szw8 := hb.size; replace p00 := kept hb (block_lt p00) p00; replace p01 := kept hb (block_lt p01) p01; replace q00 := kept hb (block_lt q00) q00; replace q01 := kept hb (block_lt q01) q01; replace h0 := Lib.hid (h0.out.bel hb); replace ow := Lib.hid (ow.out.bel hb); replace t0 := Lib.hid (t0.out.bel hb); replace g0 := Lib.hid (g0.out.bel hb); replace og := Lib.hid (og.out.bel hb); replace bb := Lib.hid (bb.out.trans (hb.mono bb.out.size)); clear hb)))
  all_goals (
  clear t0
  go_wp2_with fail
  refine (markImage_own _ _ _ _ _ x0 (1) _ g0.out (by omega) (by omega) (by omega)).mono ?_
  rintro e w9 ⟨rfl, hg, ho⟩
  have p00 := hg.cell p00 (ne_rowOf gr0 (by have := block_lt p00; (try dsimp only at this ⊢); omega))
  have p01 := hg.cell p01 (ne_rowOf gr0 (by have := block_lt p01; (try dsimp only at this ⊢); omega))
  have q00 := hg.cell q00 (ne_rowOf gr0 (by have := block_lt q00; (try dsimp only at this ⊢); omega))
  have q01 := hg.cell q01 (ne_rowOf gr0 (by have := block_lt q01; (try dsimp only at this ⊢); omega))
  have h0 := Lib.hid (h0.out.apart2 hg rg0 gr0 (by omega))
  have ow := Lib.hid (ow.out.apart2 hg rw0 gr0 (by omega))
  have og := Lib.hid (og.out.apart2 hg rgo gr0 (by omega))
  have bb := Lib.hid (bel_write bb.out hg gr0 (by omega))
  have szw9 := hg.size
  clear ho hg g0
  go_wp2_with fail
  refine (eq_yes _ _ _ _ _ R _ og.out.row ow.out (by omega)).mono ?_
  rintro e w10 ⟨rfl, hb⟩
  have szw10 := hb.size
  replace p00 := kept hb (block_lt p00) p00
  replace p01 := kept hb (block_lt p01) p01
  replace q00 := kept hb (block_lt q00) q00
  replace q01 := kept hb (block_lt q01) q01
  replace h0 := Lib.hid (h0.out.bel hb)
  replace ow := Lib.hid (ow.out.bel hb)
  replace og := Lib.hid (og.out.bel hb)
  replace bb := Lib.hid (bb.out.trans (hb.mono bb.out.size))
  clear hb
  go_wp2_with fail
  refine (mark_own _ _ _ _ R 1 _ og.out (by omega) (by omega) (by omega)).mono ?_
  rintro e w11 ⟨rfl, hg, ho⟩
  have p00 := hg.cell p00 (ne_rowOf rgo (by have := block_lt p00; (try dsimp only at this ⊢); omega))
  have p01 := hg.cell p01 (ne_rowOf rgo (by have := block_lt p01; (try dsimp only at this ⊢); omega))
  have q00 := hg.cell q00 (ne_rowOf rgo (by have := block_lt q00; (try dsimp only at this ⊢); omega))
  have q01 := hg.cell q01 (ne_rowOf rgo (by have := block_lt q01; (try dsimp only at this ⊢); omega))
  have h0 := Lib.hid (h0.out.apart2 hg rg0 rgo (by omega))
  have ow := Lib.hid (ow.out.apart2 hg rw0 rgo (by omega))
  have bb := Lib.hid (bel_write bb.out hg rgo (by omega))
  have szw11 := hg.size
  have og := Lib.hid ho
  clear ho hg
  go_wp2_with fail
  refine (held_any _ _ _ 1 _ og.out.row (by omega) (by omega) (by omega)).mono ?_
  rintro e w12 ⟨rfl, hb⟩
  have szw12 := hb.size
  replace p00 := kept hb (block_lt p00) p00
  replace p01 := kept hb (block_lt p01) p01
  replace q00 := kept hb (block_lt q00) q00
  replace q01 := kept hb (block_lt q01) q01
  replace h0 := Lib.hid (h0.out.bel hb)
  replace ow := Lib.hid (ow.out.bel hb)
  replace og := Lib.hid (og.out.bel hb)
  replace bb := Lib.hid (bb.out.trans (hb.mono bb.out.size))
  clear hb
  go_wp2_with fail
  refine (toImage_any W0 a0 n0 c0 x0 _ h0.out (by omega)).mono ?_
  rintro e w13 ⟨⟨gw13, rfl, hgw13, ho⟩, hb⟩
  have szw13 := hb.size
  replace p00 := kept hb (block_lt p00) p00
  replace p01 := kept hb (block_lt p01) p01
  replace q00 := kept hb (block_lt q00) q00
  replace q01 := kept hb (block_lt q01) q01
  replace h0 := Lib.hid (h0.out.bel hb)
  replace ow := Lib.hid (ow.out.bel hb)
  replace og := Lib.hid (og.out.bel hb)
  replace bb := Lib.hid (bb.out.trans (hb.mono bb.out.size))
  clear hb
  have v0 := Lib.hid ho.row
  clear ho
  go_wp2_with fail
  refine (DI.out _ _ _ v0.out).mono ?_
  rintro e w14 ⟨⟨ah, ch, rfl, ho⟩, hb⟩
  have szw14 := hb.size
  replace p00 := kept hb (block_lt p00) p00
  replace p01 := kept hb (block_lt p01) p01
  replace q00 := kept hb (block_lt q00) q00
  replace q01 := kept hb (block_lt q01) q01
  replace h0 := Lib.hid (h0.out.bel hb)
  replace ow := Lib.hid (ow.out.bel hb)
  replace v0 := Lib.hid (v0.out.bel hb)
  replace og := Lib.hid (og.out.bel hb)
  replace bb := Lib.hid (bb.out.trans (hb.mono bb.out.size))
  clear hb
  have oh := Lib.hid ho.row
  clear ho
  go_wp2_with fail
  refine (eq_yes _ _ _ _ _ R _ oh.out ow.out (by omega)).mono ?_
  rintro e w15 ⟨rfl, hb⟩
  have szw15 := hb.size
  replace p00 := kept hb (block_lt p00) p00
  replace p01 := kept hb (block_lt p01) p01
  replace q00 := kept hb (block_lt q00) q00
  replace q01 := kept hb (block_lt q01) q01
  replace h0 := Lib.hid (h0.out.bel hb)
  replace ow := Lib.hid (ow.out.bel hb)
  replace v0 := Lib.hid (v0.out.bel hb)
  replace oh := Lib.hid (oh.out.bel hb)
  replace og := Lib.hid (og.out.bel hb)
  replace bb := Lib.hid (bb.out.trans (hb.mono bb.out.size))
  clear hb
  go_wp2_with fail
  refine (held_any _ _ _ 1 _ og.out.row (by omega) (by omega) (by omega)).mono ?_
  rintro e w16 ⟨rfl, hb⟩
  have szw16 := hb.size
  replace p00 := kept hb (block_lt p00) p00
  replace p01 := kept hb (block_lt p01) p01
  replace q00 := kept hb (block_lt q00) q00
  replace q01 := kept hb (block_lt q01) q01
  replace h0 := Lib.hid (h0.out.bel hb)
  replace ow := Lib.hid (ow.out.bel hb)
  replace v0 := Lib.hid (v0.out.bel hb)
  replace oh := Lib.hid (oh.out.bel hb)
  replace og := Lib.hid (og.out.bel hb)
  replace bb := Lib.hid (bb.out.trans (hb.mono bb.out.size))
  clear hb
  go_wp2_with fail
  go_ret
  exact ⟨rfl, bb.out⟩)

set_option maxRecDepth 100000 in
theorem lifted (os : Os) (started : os.Started) (H : Type) (enc : TypeId × Value → H) :
    ReturnsInHanded {} Try.checked os 18 .any (Rows.fnExactDirSumsSpec.pre6 enc Try.prog Try.f18 Rows.fnExactDirSumsRow.domain false) (Rows.fnExactDirSumsSpec.post enc Try.prog Try.f18 false true false false) := by
  refine returnsInHanded_of_change (C := Try.checked) own started (by kernel_rfl) Try.func18
    (ChangeSpec.witness6 (enc := enc) (C := Try.checked) false ⟨#[], #[.agg #[.int .i64 0, .slice none 0 0], .int .i64 0], []⟩ 8 (by kernel_rfl) (by kernel_rfl) (by kernel_rfl) (by kernel_rfl)) ?_
  intro W base args ds gs before hval0 hW hcnd _
  have hval : ∀ (j : Nat) t v, Try.f18.params[j]? = some t → args[j]? = some v → Value.okWide Try.prog W .any base t v := hval0
  have hW' := hW
  obtain ⟨p, q, hA0, hV, rfl, hfz, hnd⟩ := hW
  have hA : DataW.TrodAll enc Try.prog W 0 (fun _ => true) true Try.f18.params.toList args.toList ds p := hA0
  rw [Try.params18] at hA hval
  obtain ⟨v0, vs0, d0, ds0, p0, q0, hargs, rfl, rfl, h0, r0⟩ := trodAll_cons hA
  obtain ⟨v1, vs1, d1, ds1, p1, q1, rfl, rfl, rfl, h1, r1⟩ := trodAll_cons r0
  obtain ⟨rfl, rfl, rfl⟩ := trodAll_nil r1
  obtain rfl : args = #[v0, v1] := by cases args; simp_all
  obtain ⟨rfl, rfl⟩ := trodVars_none hV
  have k0 := h0
  have lt0 : ∀ x ∈ p0, x.block < W.heap.size := by obtain ⟨m, hm⟩ := k0; exact DataW.trod_lt m _ _ _ hm
  obtain ⟨n0, a0, len0, cap0, z0, rfl, w0, m0⟩ := open_img (hval 0 55 v0 rfl rfl) h0
  obtain ⟨i1, rfl, rfl, rfl, w1⟩ := open_int Try.underlying3 (hval 1 3 v1 rfl rfl) h1
  clear hA0 hval0
  refine (walk n0 a0 len0 cap0 z0 i1 W w0 m0).mono fun e W' ⟨he, bel⟩ => ?_
  subst he
  exact ⟨_, rfl, _, _, _, [], _, [], hW', trodAll_mk1 (shut_bool Try.underlying4 _), (trodAll_cons_mk (Below.trod laidOut (by kernel_rfl) (of_decide_eq_true (by kernel_rfl)) k0 bel lt0) (trodAll_cons_mk (shut_int Try.underlying3 w1) trodAll_mk0)), rfl, bel.frame _, fun h => by cases h⟩

theorem closed : joinedFacts Try.prog 18 Try.f18 Rows.fnExactDirSumsSpec Rows.fnExactDirSumsRow = true := by
  simp only [joinedFacts, Bool.and_eq_true]
  repeat' apply And.intro
  all_goals first | with_reducible exact mayEnterOk | (with_reducible rw [liftsFinalOk]; kernel_rfl) | (with_reducible rw [makeOk]; kernel_rfl) | kernel_rfl

theorem over : Rows.fnExactDirSumsRow.holds Try.pinned (OpenSpec.ofChange Rows.fnExactDirSumsSpec) :=
  OpenClaim.holds_of_wide 18 Try.f18 rfl rfl rfl rfl rfl rfl rfl ⟨rfl, rfl, rfl, rfl, rfl⟩ rfl rfl rfl rfl rfl (by kernel_rfl) Try.func18 closed
    (of_decide_eq_true (by kernel_rfl)) (by unfold Func.isWrapper; first | (rw [if_pos (by decide +kernel)]; kernel_rfl) | (rw [if_neg (by decide +kernel)]; exact ⟨rfl, rfl⟩))
    (fun os started H enc _ => lifted os started H enc)

theorem proved : Rows.FnExactDirSumsSaid := over
#print axioms proved
end Go.Proofs.Ytemmfnlnhekclaa.LDirSums

