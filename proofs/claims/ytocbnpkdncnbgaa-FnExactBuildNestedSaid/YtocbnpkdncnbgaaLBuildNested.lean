/-
  For every list of integers and integer the law on BuildNested answers true, and nothing that was there is written; no condition.
-/
import Derived.Test.YtocbnpkdncnbgaaF
import Derived.Test.YtocbnpkdncnbgaaG
import Derived.Test.YtocbnpkdncnbgaaK
import Derived.Test.YtocbnpkdncnbgaaDe
namespace Go.Proofs.Ytocbnpkdncnbgaa.LBuildNested
open Go.ChangeShapes Go.WideShapes Go.ChangeAt Go.RowKit Go.Joins

set_option maxRecDepth 100000 in
set_option maxHeartbeats 4000000 in
theorem walk (a0 : Option Addr) (n0 c0 : Nat) (x0 : List Int) (e1 : Int) (w : World) (h0 : Row w a0 n0 x0) (m0 : n0 ≤ 9223372036854775807) :
    Calls Try.prog 4 #[.slice a0 n0 c0, .int .i64 e1] w fun e w' => e = .returned (.bool true) ∧ Below w.heap.size w w' := by
  by_cases big0 : 1048576 < n0
  · clear h0
    go_enter Try.func4, Try.ntmps4
    go_wp2_with fail
    go_ret
    exact ⟨rfl, Below.refl _ _⟩
  obtain ⟨O, V, R, hRe⟩ : ∃ O V R, nestOut x0 e1 = ⟨O, V, R⟩ := ⟨_, _, _, rfl⟩
  have hR : R.length ≤ 6 := by have h := nestOut_six x0 e1; rw [hRe] at h; exact h
  have CS : ∀ (a0 : Option Addr) (c0 : Nat) (wx : World), Row wx a0 n0 x0 → Calls Try.prog 7 #[.slice a0 n0 c0, .int .i64 e1] wx (Gives wx ⟨O, V, R⟩) := by
    intro a0 c0 wx h0; rw [← hRe]; exact bn_spec _ _ _ x0 e1 _ h0 m0
  have DS := Lib.hid CS
  clear CS
  have CI : ∀ (a0 : Option Addr) (c0 : Nat) (wx : World), Row wx a0 n0 x0 → Calls Try.prog 6 #[.slice a0 n0 c0, .int .i64 e1] wx (Gives wx ⟨O, V, R⟩) := by
    intro a0 c0 wx h0; rw [← hRe]; exact bn_impl _ _ _ x0 e1 _ h0 m0
  have DI := Lib.hid CI
  clear CI
  clear hRe
  have rg0 := rng_row h0
  have h0 := Lib.hid h0
  have bb : Hid (Below w.heap.size w w) := Below.refl _ _
  go_enter Try.func4, Try.ntmps4
  go_wp2_with fail
  refine (to_any a0 n0 c0 x0 _ h0.out (by omega)).mono ?_
  rintro e w1 ⟨⟨gw1, rfl, hgw1, ho⟩, hb⟩
  have szw1 := hb.size
  replace h0 := Lib.hid (h0.out.bel hb)
  replace bb := Lib.hid (bb.out.trans (hb.mono bb.out.size))
  clear hb
  have s0 := Lib.hid ho.row
  clear ho hgw1
  go_wp2_with fail
  refine (DS.out _ _ _ s0.out).mono ?_
  rintro e w2 ⟨⟨aw, cw, rfl, ho⟩, hb⟩
  have szw2 := hb.size
  replace h0 := Lib.hid (h0.out.bel hb)
  replace s0 := Lib.hid (s0.out.bel hb)
  replace bb := Lib.hid (bb.out.trans (hb.mono bb.out.size))
  clear hb
  have ow := Lib.hid ho.row
  have rw0 := rng_cond (n := R.length) (rng_own ho)
  clear ho
  clear s0 DS
  have hbx : Below w2.heap.size w2 (w2.alloc (.cells #[.int .i64 V, .slice aw R.length cw] 27)) := (Below.refl _ _).alloc (Nat.le_refl _) _
  replace h0 := Lib.hid (h0.out.bel hbx)
  replace ow := Lib.hid (ow.out.bel hbx)
  replace bb := Lib.hid (bb.out.trans (hbx.mono bb.out.size))
  clear hbx
  have bw0 : (w2.alloc (.cells #[.int .i64 V, .slice aw R.length cw] 27)).cell? ⟨w2.heap.size, 0, none⟩ = some (.int .i64 V) := by simp
  have bw1 : (w2.alloc (.cells #[.int .i64 V, .slice aw R.length cw] 27)).cell? ⟨w2.heap.size, 1, none⟩ = some (.slice aw R.length cw) := by simp
  go_wp2_with fail
  refine (to_any a0 n0 c0 x0 _ h0.out (by omega)).mono ?_
  rintro e w3 ⟨⟨gw3, rfl, hgw3, ho⟩, hb⟩
  have szw3 : w2.heap.size + 1 ≤ w3.heap.size := by have := hb.size; simpa using this
  replace bw0 := kept hb (block_lt bw0) bw0
  replace bw1 := kept hb (block_lt bw1) bw1
  replace h0 := Lib.hid (h0.out.bel hb)
  replace ow := Lib.hid (ow.out.bel hb)
  replace bb := Lib.hid (bb.out.trans (hb.mono bb.out.size))
  clear hb
  have gr0 : ∀ p : Addr, (some ⟨gw3, 0, none⟩ : Option Addr) = some p → w2.heap.size + 1 ≤ p.block ∧ p.block < w3.heap.size := fun p hp => by have := rng_own ho p hp; simpa using this
  have g0 := Lib.hid (ho)
  clear ho
  obtain ⟨z0, hz0⟩ : ∃ z, z = gw3 := ⟨_, rfl⟩
  rw [← hz0]
  rw [← hz0] at g0 hgw3 gr0
  clear hz0
  have lbw := block_lt bw0
  go_wp2_with fail
  refine (DI.out _ _ _ g0.out.row).mono ?_
  rintro e w4 ⟨⟨ag, cg, rfl, ho⟩, hb⟩
  have szw4 := hb.size
  replace bw0 := kept hb (block_lt bw0) bw0
  replace bw1 := kept hb (block_lt bw1) bw1
  replace h0 := Lib.hid (h0.out.bel hb)
  replace ow := Lib.hid (ow.out.bel hb)
  replace g0 := Lib.hid (g0.out.bel hb)
  replace bb := Lib.hid (bb.out.trans (hb.mono bb.out.size))
  clear hb
  have rgo : ∀ p : Addr, ag = some p → w3.heap.size ≤ p.block ∧ p.block < w4.heap.size := fun p hp => by have := rng_own ho p hp; simpa using this
  have og := Lib.hid ho
  clear ho
  have hbx : Below w4.heap.size w4 (w4.alloc (.cells #[.int .i64 V, .slice ag R.length cg] 27)) := (Below.refl _ _).alloc (Nat.le_refl _) _
  replace bw0 := kept hbx (block_lt bw0) bw0
  replace bw1 := kept hbx (block_lt bw1) bw1
  replace h0 := Lib.hid (h0.out.bel hbx)
  replace ow := Lib.hid (ow.out.bel hbx)
  replace g0 := Lib.hid (g0.out.bel hbx)
  replace og := Lib.hid (og.out.bel hbx)
  replace bb := Lib.hid (bb.out.trans (hbx.mono bb.out.size))
  clear hbx
  have bg0 : (w4.alloc (.cells #[.int .i64 V, .slice ag R.length cg] 27)).cell? ⟨w4.heap.size, 0, none⟩ = some (.int .i64 V) := by simp
  have bg1 : (w4.alloc (.cells #[.int .i64 V, .slice ag R.length cg] 27)).cell? ⟨w4.heap.size, 1, none⟩ = some (.slice ag R.length cg) := by simp
  go_wp2_with fail
  refine (eqImage_yes _ _ _ _ _ _ R _ og.out.row ow.out (by omega)).mono ?_
  rintro e w5 ⟨rfl, hb⟩
  have szw5 : w4.heap.size + 1 ≤ w5.heap.size := by have := hb.size; simpa using this
  replace bw0 := kept hb (block_lt bw0) bw0
  replace bw1 := kept hb (block_lt bw1) bw1
  replace bg0 := kept hb (block_lt bg0) bg0
  replace bg1 := kept hb (block_lt bg1) bg1
  replace h0 := Lib.hid (h0.out.bel hb)
  replace ow := Lib.hid (ow.out.bel hb)
  replace g0 := Lib.hid (g0.out.bel hb)
  replace og := Lib.hid (og.out.bel hb)
  replace bb := Lib.hid (bb.out.trans (hb.mono bb.out.size))
  clear hb
  go_wp2_with fail
  refine (to_any a0 n0 c0 x0 _ h0.out (by omega)).mono ?_
  rintro e w6 ⟨⟨gw6, rfl, hgw6, ho⟩, hb⟩
  have szw6 := hb.size
  replace bw0 := kept hb (block_lt bw0) bw0
  replace bw1 := kept hb (block_lt bw1) bw1
  replace bg0 := kept hb (block_lt bg0) bg0
  replace bg1 := kept hb (block_lt bg1) bg1
  replace h0 := Lib.hid (h0.out.bel hb)
  replace ow := Lib.hid (ow.out.bel hb)
  replace g0 := Lib.hid (g0.out.bel hb)
  replace og := Lib.hid (og.out.bel hb)
  replace bb := Lib.hid (bb.out.trans (hb.mono bb.out.size))
  clear hb
  have t0 := Lib.hid ho.row
  clear ho hgw6
  go_wp2_with fail
  refine (eq_yes _ _ _ _ _ x0 _ g0.out.row t0.out (by omega)).mono ?_
  rintro e w7 ⟨rfl, hb⟩
  have szw7 := hb.size
  replace bw0 := kept hb (block_lt bw0) bw0
  replace bw1 := kept hb (block_lt bw1) bw1
  replace bg0 := kept hb (block_lt bg0) bg0
  replace bg1 := kept hb (block_lt bg1) bg1
  replace h0 := Lib.hid (h0.out.bel hb)
  replace ow := Lib.hid (ow.out.bel hb)
  replace t0 := Lib.hid (t0.out.bel hb)
  replace g0 := Lib.hid (g0.out.bel hb)
  replace og := Lib.hid (og.out.bel hb)
  replace bb := Lib.hid (bb.out.trans (hb.mono bb.out.size))
  clear hb
  clear t0
  go_wp2_with fail
  refine (mark_own _ _ _ _ x0 (1) _ g0.out (by omega) (by omega) (by omega)).mono ?_
  rintro e w8 ⟨rfl, hg, ho⟩
  replace bw0 := hg.cell bw0 (ne_rowOf gr0 (by have := block_lt bw0; simp only at this ⊢; omega))
  replace bw1 := hg.cell bw1 (ne_rowOf gr0 (by have := block_lt bw1; simp only at this ⊢; omega))
  replace bg0 := hg.cell bg0 (ne_rowOf gr0 (by have := block_lt bg0; simp only at this ⊢; omega))
  replace bg1 := hg.cell bg1 (ne_rowOf gr0 (by have := block_lt bg1; simp only at this ⊢; omega))
  have h0 := Lib.hid (h0.out.apart2 hg rg0 gr0 (by omega))
  have ow := Lib.hid (ow.out.apart2 hg rw0 gr0 (by omega))
  have og := Lib.hid (og.out.apart2 hg rgo gr0 (by omega))
  have bb := Lib.hid (bel_write bb.out hg gr0 (by omega))
  have szw8 := hg.size
  clear ho hg g0
  go_wp2_with fail
  refine (eqImage_yes _ _ _ _ _ _ R _ og.out.row ow.out (by omega)).mono ?_
  rintro e w9 ⟨rfl, hb⟩
  have szw9 := hb.size
  replace bw0 := kept hb (block_lt bw0) bw0
  replace bw1 := kept hb (block_lt bw1) bw1
  replace bg0 := kept hb (block_lt bg0) bg0
  replace bg1 := kept hb (block_lt bg1) bg1
  replace h0 := Lib.hid (h0.out.bel hb)
  replace ow := Lib.hid (ow.out.bel hb)
  replace og := Lib.hid (og.out.bel hb)
  replace bb := Lib.hid (bb.out.trans (hb.mono bb.out.size))
  clear hb
  go_wp2_with fail
  refine (markImage_own _ _ _ _ _ R 1 _ og.out (by omega) (by omega) (by omega)).mono ?_
  rintro e w10 ⟨rfl, hg, ho⟩
  replace bw0 := hg.cell bw0 (ne_rowOf rgo (by have := block_lt bw0; simp only at this ⊢; omega))
  replace bw1 := hg.cell bw1 (ne_rowOf rgo (by have := block_lt bw1; simp only at this ⊢; omega))
  replace bg0 := hg.cell bg0 (ne_rowOf rgo (by have := block_lt bg0; simp only at this ⊢; omega))
  replace bg1 := hg.cell bg1 (ne_rowOf rgo (by have := block_lt bg1; simp only at this ⊢; omega))
  have h0 := Lib.hid (h0.out.apart2 hg rg0 rgo (by omega))
  have ow := Lib.hid (ow.out.apart2 hg rw0 rgo (by omega))
  have bb := Lib.hid (bel_write bb.out hg rgo (by omega))
  have szw10 := hg.size
  have og := Lib.hid ho
  clear ho hg
  go_wp2_with fail
  refine (heldImage_any _ _ _ _ 1 _ og.out.row (by omega) (by omega) (by omega)).mono ?_
  rintro e w11 ⟨rfl, hb⟩
  have szw11 := hb.size
  replace bw0 := kept hb (block_lt bw0) bw0
  replace bw1 := kept hb (block_lt bw1) bw1
  replace bg0 := kept hb (block_lt bg0) bg0
  replace bg1 := kept hb (block_lt bg1) bg1
  replace h0 := Lib.hid (h0.out.bel hb)
  replace ow := Lib.hid (ow.out.bel hb)
  replace og := Lib.hid (og.out.bel hb)
  replace bb := Lib.hid (bb.out.trans (hb.mono bb.out.size))
  clear hb
  go_wp2_with fail
  refine (to_any a0 n0 c0 x0 _ h0.out (by omega)).mono ?_
  rintro e w12 ⟨⟨gw12, rfl, hgw12, ho⟩, hb⟩
  have szw12 := hb.size
  replace bw0 := kept hb (block_lt bw0) bw0
  replace bw1 := kept hb (block_lt bw1) bw1
  replace bg0 := kept hb (block_lt bg0) bg0
  replace bg1 := kept hb (block_lt bg1) bg1
  replace h0 := Lib.hid (h0.out.bel hb)
  replace ow := Lib.hid (ow.out.bel hb)
  replace og := Lib.hid (og.out.bel hb)
  replace bb := Lib.hid (bb.out.trans (hb.mono bb.out.size))
  clear hb
  have v0 := Lib.hid ho.row
  clear ho hgw12
  go_wp2_with fail
  refine (DI.out _ _ _ v0.out).mono ?_
  rintro e w13 ⟨⟨ah, ch, rfl, ho⟩, hb⟩
  have szw13 := hb.size
  replace bw0 := kept hb (block_lt bw0) bw0
  replace bw1 := kept hb (block_lt bw1) bw1
  replace bg0 := kept hb (block_lt bg0) bg0
  replace bg1 := kept hb (block_lt bg1) bg1
  replace h0 := Lib.hid (h0.out.bel hb)
  replace ow := Lib.hid (ow.out.bel hb)
  replace v0 := Lib.hid (v0.out.bel hb)
  replace og := Lib.hid (og.out.bel hb)
  replace bb := Lib.hid (bb.out.trans (hb.mono bb.out.size))
  clear hb
  have oh := Lib.hid ho.row
  clear ho
  have hbx : Below w13.heap.size w13 (w13.alloc (.cells #[.int .i64 V, .slice ah R.length ch] 27)) := (Below.refl _ _).alloc (Nat.le_refl _) _
  replace bw0 := kept hbx (block_lt bw0) bw0
  replace bw1 := kept hbx (block_lt bw1) bw1
  replace bg0 := kept hbx (block_lt bg0) bg0
  replace bg1 := kept hbx (block_lt bg1) bg1
  replace h0 := Lib.hid (h0.out.bel hbx)
  replace ow := Lib.hid (ow.out.bel hbx)
  replace v0 := Lib.hid (v0.out.bel hbx)
  replace oh := Lib.hid (oh.out.bel hbx)
  replace og := Lib.hid (og.out.bel hbx)
  replace bb := Lib.hid (bb.out.trans (hbx.mono bb.out.size))
  clear hbx
  have bh0 : (w13.alloc (.cells #[.int .i64 V, .slice ah R.length ch] 27)).cell? ⟨w13.heap.size, 0, none⟩ = some (.int .i64 V) := by simp
  have bh1 : (w13.alloc (.cells #[.int .i64 V, .slice ah R.length ch] 27)).cell? ⟨w13.heap.size, 1, none⟩ = some (.slice ah R.length ch) := by simp
  go_wp2_with fail
  refine (eqImage_yes _ _ _ _ _ _ R _ oh.out ow.out (by omega)).mono ?_
  rintro e w14 ⟨rfl, hb⟩
  have szw14 : w13.heap.size + 1 ≤ w14.heap.size := by have := hb.size; simpa using this
  replace bw0 := kept hb (block_lt bw0) bw0
  replace bw1 := kept hb (block_lt bw1) bw1
  replace bg0 := kept hb (block_lt bg0) bg0
  replace bg1 := kept hb (block_lt bg1) bg1
  replace bh0 := kept hb (block_lt bh0) bh0
  replace bh1 := kept hb (block_lt bh1) bh1
  replace h0 := Lib.hid (h0.out.bel hb)
  replace ow := Lib.hid (ow.out.bel hb)
  replace v0 := Lib.hid (v0.out.bel hb)
  replace oh := Lib.hid (oh.out.bel hb)
  replace og := Lib.hid (og.out.bel hb)
  replace bb := Lib.hid (bb.out.trans (hb.mono bb.out.size))
  clear hb
  go_wp2_with fail
  refine (heldImage_any _ _ _ _ 1 _ og.out.row (by omega) (by omega) (by omega)).mono ?_
  rintro e w15 ⟨rfl, hb⟩
  have szw15 := hb.size
  replace bw0 := kept hb (block_lt bw0) bw0
  replace bw1 := kept hb (block_lt bw1) bw1
  replace bg0 := kept hb (block_lt bg0) bg0
  replace bg1 := kept hb (block_lt bg1) bg1
  replace bh0 := kept hb (block_lt bh0) bh0
  replace bh1 := kept hb (block_lt bh1) bh1
  replace h0 := Lib.hid (h0.out.bel hb)
  replace ow := Lib.hid (ow.out.bel hb)
  replace v0 := Lib.hid (v0.out.bel hb)
  replace oh := Lib.hid (oh.out.bel hb)
  replace og := Lib.hid (og.out.bel hb)
  replace bb := Lib.hid (bb.out.trans (hb.mono bb.out.size))
  clear hb
  go_wp2_with fail
  go_ret
  exact ⟨rfl, bb.out⟩

set_option maxRecDepth 100000 in
theorem lifted (os : Os) (started : os.Started) (H : Type) (enc : TypeId × Value → H) :
    ReturnsInHanded {} Try.checked os 4 .any (Rows.fnExactBuildNestedSpec.pre6 enc Try.prog Try.f4 Rows.fnExactBuildNestedRow.domain false) (Rows.fnExactBuildNestedSpec.post enc Try.prog Try.f4 false true false false) := by
  refine returnsInHanded_of_change (C := Try.checked) own started (by kernel_rfl) Try.func4
    (ChangeSpec.witness6 (enc := enc) (C := Try.checked) false ⟨#[], #[.slice none 0 0, .int .i64 0], []⟩ 8 (by kernel_rfl) (by kernel_rfl) (by kernel_rfl) (by kernel_rfl)) ?_
  intro W base args ds gs before hval0 hW hcnd _
  have hval : ∀ (j : Nat) t v, Try.f4.params[j]? = some t → args[j]? = some v → Value.okWide Try.prog W .any base t v := hval0
  have hW' := hW
  obtain ⟨p, q, hA0, hV, rfl, hfz, hnd⟩ := hW
  have hA : DataW.TrodAll enc Try.prog W 0 (fun _ => true) true Try.f4.params.toList args.toList ds p := hA0
  rw [Try.params4] at hA hval
  obtain ⟨v0, vs0, d0, ds0, p0, q0, hargs, rfl, rfl, h0, r0⟩ := trodAll_cons hA
  obtain ⟨v1, vs1, d1, ds1, p1, q1, rfl, rfl, rfl, h1, r1⟩ := trodAll_cons r0
  obtain ⟨rfl, rfl, rfl⟩ := trodAll_nil r1
  obtain rfl : args = #[v0, v1] := by cases args; simp_all
  obtain ⟨rfl, rfl⟩ := trodVars_none hV
  have k0 := h0
  have lt0 : ∀ x ∈ p0, x.block < W.heap.size := by obtain ⟨m, hm⟩ := k0; exact DataW.trod_lt m _ _ _ hm
  obtain ⟨a0, len0, cap0, z0, rfl, w0, m0⟩ := open_list (hval 0 23 v0 rfl rfl) h0
  obtain ⟨i1, rfl, rfl, rfl, w1⟩ := open_int Try.underlying3 (hval 1 3 v1 rfl rfl) h1
  clear hA0 hval0
  refine (walk a0 len0 cap0 z0 i1 W w0 m0).mono fun e W' ⟨he, bel⟩ => ?_
  subst he
  exact ⟨_, rfl, _, _, _, [], _, [], hW', trodAll_mk1 (shut_bool Try.underlying4 _), (trodAll_cons_mk (Below.trod laidOut (by kernel_rfl) (of_decide_eq_true (by kernel_rfl)) k0 bel lt0) (trodAll_cons_mk (shut_int Try.underlying3 w1) trodAll_mk0)), rfl, bel.frame _, fun h => by cases h⟩

theorem closed : joinedFacts Try.prog 4 Try.f4 Rows.fnExactBuildNestedSpec Rows.fnExactBuildNestedRow = true := by
  simp only [joinedFacts, Bool.and_eq_true]
  repeat' apply And.intro
  all_goals first | with_reducible exact mayEnterOk | (with_reducible rw [liftsFinalOk]; kernel_rfl) | (with_reducible rw [makeOk]; kernel_rfl) | kernel_rfl

theorem over : Rows.fnExactBuildNestedRow.holds Try.pinned (OpenSpec.ofChange Rows.fnExactBuildNestedSpec) :=
  OpenClaim.holds_of_wide 4 Try.f4 rfl rfl rfl rfl rfl rfl rfl ⟨rfl, rfl, rfl, rfl, rfl⟩ rfl rfl rfl rfl rfl (by kernel_rfl) Try.func4 closed
    (of_decide_eq_true (by kernel_rfl)) (by unfold Func.isWrapper; first | (rw [if_pos (by decide +kernel)]; kernel_rfl) | (rw [if_neg (by decide +kernel)]; exact ⟨rfl, rfl⟩))
    (fun os started H enc _ => lifted os started H enc)

theorem proved : Rows.FnExactBuildNestedSaid := over
#print axioms proved
end Go.Proofs.Ytocbnpkdncnbgaa.LBuildNested

