/-
  For every two images the law on ImageDistance answers true, and nothing that was there is written; no condition.
-/
import Derived.Test.YtgamkmkpmcenpaaF
import Derived.Test.YtgamkmkpmcenpaaG
import Derived.Test.YtgamkmkpmcenpaaK
import Derived.Test.YtgamkmkpmcenpaaWa
namespace Go.Proofs.Ytgamkmkpmcenpaa.LImageDistance
open Go.ChangeShapes Go.WideShapes Go.ChangeAt Go.RowKit Go.Joins

set_option maxHeartbeats 2000000 in
theorem walk (W0 : Int) (a0 : Option Addr) (n0 c0 : Nat) (x0 : List Int) (W1 : Int) (a1 : Option Addr) (n1 c1 : Nat) (x1 : List Int) (w : World) (h0 : Row w a0 n0 x0) (m0 : n0 ≤ 9223372036854775807) (h1 : Row w a1 n1 x1) (m1 : n1 ≤ 9223372036854775807) :
    Calls Try.prog 19 #[.agg #[.int .i64 W0, .slice a0 n0 c0], .agg #[.int .i64 W1, .slice a1 n1 c1]] w fun e w' => e = .returned (.bool true) ∧ Below w.heap.size w w' := by
  obtain ⟨R, hRe⟩ : ∃ R, farOut W0 x0 W1 x1 = R := ⟨_, rfl⟩
  have CS : ∀ (a0 : Option Addr) (c0 : Nat) (a1 : Option Addr) (c1 : Nat) (wx : World), Row wx a0 n0 x0 → Row wx a1 n1 x1 → Calls Try.prog 24 #[.agg #[.int .i64 W0, .slice a0 n0 c0], .agg #[.int .i64 W1, .slice a1 n1 c1]] wx (fun e w' => e = .returned (.int .i64 R) ∧ Below wx.heap.size wx w') := by
    intro a0 c0 a1 c1 wx h0 h1; rw [← hRe]; exact far_spec _ _ _ _ _ _ _ _ _ _ _ h0 h1 m0 m1
  have DS := Lib.hid CS
  clear CS
  have CI : ∀ (a0 : Option Addr) (c0 : Nat) (a1 : Option Addr) (c1 : Nat) (wx : World), Row wx a0 n0 x0 → Row wx a1 n1 x1 → Calls Try.prog 23 #[.agg #[.int .i64 W0, .slice a0 n0 c0], .agg #[.int .i64 W1, .slice a1 n1 c1]] wx (fun e w' => e = .returned (.int .i64 R) ∧ Below wx.heap.size wx w') := by
    intro a0 c0 a1 c1 wx h0 h1; rw [← hRe]; exact far_impl _ _ _ _ _ _ _ _ _ _ _ h0 h1 m0 m1
  have DI := Lib.hid CI
  clear CI
  clear hRe
  have rg0 := rng_row h0
  have h0 := Lib.hid h0
  have rg1 := rng_row h1
  have h1 := Lib.hid h1
  have bb : Hid (Below w.heap.size w w) := Below.refl _ _
  obtain ⟨w0, hw0⟩ : ∃ w0, w0 = ((w.alloc (.cells #[.int .i64 W0, .slice a0 n0 c0] 50)).alloc (.cells #[.int .i64 W1, .slice a1 n1 c1] 50)) := ⟨_, rfl⟩
  have hb0 : Below w.heap.size w w0 := by subst hw0; exact ((Below.refl _ _).alloc (Nat.le_refl _) _).alloc (by simp) _
  have p00 : w0.cell? ⟨w.heap.size, 0, none⟩ = some (.int .i64 W0) := by subst hw0; go_simp
  have p01 : w0.cell? ⟨w.heap.size, 1, none⟩ = some (.slice a0 n0 c0) := by subst hw0; go_simp
  have p10 : w0.cell? ⟨w.heap.size + 1, 0, none⟩ = some (.int .i64 W1) := by subst hw0; go_simp
  have p11 : w0.cell? ⟨w.heap.size + 1, 1, none⟩ = some (.slice a1 n1 c1) := by subst hw0; go_simp
  have szw0 := hb0.size
  replace h0 := Lib.hid (h0.out.bel hb0)
  replace h1 := Lib.hid (h1.out.bel hb0)
  replace bb := Lib.hid (bb.out.trans (hb0.mono bb.out.size))
  clear hb0
  have l0 : w.heap.size + 1 < w0.heap.size := block_lt p10
  go_enter Try.func19, Try.ntmps19
  go_wp2_with fail
  rw [← hw0]
  clear hw0
  refine (szImage_any _ _ _ _ (1048576) _ m0 (by omega) (by omega)).mono ?_
  rintro e w1 ⟨rfl, hb⟩
  have szw1 := hb.size
  replace p00 := kept hb (block_lt p00) p00
  replace p01 := kept hb (block_lt p01) p01
  replace p10 := kept hb (block_lt p10) p10
  replace p11 := kept hb (block_lt p11) p11
  replace h0 := Lib.hid (h0.out.bel hb)
  replace h1 := Lib.hid (h1.out.bel hb)
  replace bb := Lib.hid (bb.out.trans (hb.mono bb.out.size))
  clear hb
  by_cases big0 : 1048576 < (n0 : Int)
  · rw [if_pos big0]
    go_wp2_with fail
    go_ret
    exact ⟨rfl, bb.out⟩
  rw [if_neg big0]
  go_wp2_with fail
  refine (szImage_any _ _ _ _ (1048576 - (n0 : Int)) _ m1 (by omega) (by omega)).mono ?_
  rintro e w2 ⟨rfl, hb⟩
  have szw2 := hb.size
  replace p00 := kept hb (block_lt p00) p00
  replace p01 := kept hb (block_lt p01) p01
  replace p10 := kept hb (block_lt p10) p10
  replace p11 := kept hb (block_lt p11) p11
  replace h0 := Lib.hid (h0.out.bel hb)
  replace h1 := Lib.hid (h1.out.bel hb)
  replace bb := Lib.hid (bb.out.trans (hb.mono bb.out.size))
  clear hb
  by_cases big1 : 1048576 - (n0 : Int) < (n1 : Int)
  · rw [if_pos big1]
    go_wp2_with fail
    go_ret
    exact ⟨rfl, bb.out⟩
  rw [if_neg big1]
  go_wp2_with fail
  go_region_law (first | ((go_simp; go_at_call_of 47 a0; (with_reducible refine (toImage_any W0 a0 n0 c0 x0 _ (h0.out.bel ((Below.refl _ _).drew)) (by omega)).mono ?_); rintro e w3 ⟨⟨gw3, rfl, hgw3, ho⟩, hb⟩; have szw3 := hb.size; replace p00 := kept hb (block_lt (show w2.drew.cell? _ = _ from p00)) (show w2.drew.cell? _ = _ from p00); replace p01 := kept hb (block_lt (show w2.drew.cell? _ = _ from p01)) (show w2.drew.cell? _ = _ from p01); replace p10 := kept hb (block_lt (show w2.drew.cell? _ = _ from p10)) (show w2.drew.cell? _ = _ from p10); replace p11 := kept hb (block_lt (show w2.drew.cell? _ = _ from p11)) (show w2.drew.cell? _ = _ from p11); replace h0 := Lib.hid ((h0.out.bel ((Below.refl _ _).drew)).bel hb); replace h1 := Lib.hid ((h1.out.bel ((Below.refl _ _).drew)).bel hb); replace bb := Lib.hid (bb.out.drew.trans (hb.mono bb.out.drew.size)); have s0 := Lib.hid ho.row; clear hb ho hgw3)) | ((go_simp; go_at_call_of 47 a1; (with_reducible refine (toImage_any W1 a1 n1 c1 x1 _ h1.out (by omega)).mono ?_); rintro e w4 ⟨⟨gw4, rfl, hgw4, ho⟩, hb⟩; have szw4 := hb.size; replace p00 := kept hb (block_lt p00) p00; replace p01 := kept hb (block_lt p01) p01; replace p10 := kept hb (block_lt p10) p10; replace p11 := kept hb (block_lt p11) p11; replace h0 := Lib.hid (h0.out.bel hb); replace h1 := Lib.hid (h1.out.bel hb); replace s0 := Lib.hid (s0.out.bel hb); replace bb := Lib.hid (bb.out.trans (hb.mono bb.out.size)); have s1 := Lib.hid ho.row; clear hb ho hgw4)) | ((go_simp; go_at_call 24; (with_reducible refine (DS.out _ _ _ _ _ s0.out s1.out).mono ?_); rintro e w5 ⟨rfl, hb⟩; have szw5 := hb.size; replace p00 := kept hb (block_lt p00) p00; replace p01 := kept hb (block_lt p01) p01; replace p10 := kept hb (block_lt p10) p10; replace p11 := kept hb (block_lt p11) p11; replace h0 := Lib.hid (h0.out.bel hb); replace h1 := Lib.hid (h1.out.bel hb); replace s0 := Lib.hid (s0.out.bel hb); replace s1 := Lib.hid (s1.out.bel hb); replace bb := Lib.hid (bb.out.trans (hb.mono bb.out.size)); clear hb)))
  all_goals (
  clear s0 s1 DS
  go_wp2_with fail
  refine (toImage_any W0 a0 n0 c0 x0 _ h0.out (by omega)).mono ?_
  rintro e w6 ⟨⟨gw6, rfl, hgw6, ho⟩, hb⟩
  have szw6 := hb.size
  replace p00 := kept hb (block_lt p00) p00
  replace p01 := kept hb (block_lt p01) p01
  replace p10 := kept hb (block_lt p10) p10
  replace p11 := kept hb (block_lt p11) p11
  replace h0 := Lib.hid (h0.out.bel hb)
  replace h1 := Lib.hid (h1.out.bel hb)
  replace bb := Lib.hid (bb.out.trans (hb.mono bb.out.size))
  clear hb
  have g0 := Lib.hid ho.row
  clear ho
  obtain ⟨z0, hz0⟩ : ∃ z, z = gw6 := ⟨_, rfl⟩
  rw [← hz0]
  rw [← hz0] at g0 hgw6
  clear hz0
  have hbx : Below w6.heap.size w6 (w6.alloc (.cells #[.int .i64 W0, .slice (some ⟨z0, 0, none⟩) n0 n0] 25)) := (Below.refl _ _).alloc (Nat.le_refl _) _
  replace p00 := kept hbx (block_lt p00) p00
  replace p01 := kept hbx (block_lt p01) p01
  replace p10 := kept hbx (block_lt p10) p10
  replace p11 := kept hbx (block_lt p11) p11
  replace h0 := Lib.hid (h0.out.bel hbx)
  replace h1 := Lib.hid (h1.out.bel hbx)
  replace g0 := Lib.hid (g0.out.bel hbx)
  replace bb := Lib.hid (bb.out.trans (hbx.mono bb.out.size))
  clear hbx
  have q00 : (w6.alloc (.cells #[.int .i64 W0, .slice (some ⟨z0, 0, none⟩) n0 n0] 25)).cell? ⟨w6.heap.size, 0, none⟩ = some (.int .i64 W0) := by simp
  have q01 : (w6.alloc (.cells #[.int .i64 W0, .slice (some ⟨z0, 0, none⟩) n0 n0] 25)).cell? ⟨w6.heap.size, 1, none⟩ = some (.slice (some ⟨z0, 0, none⟩) n0 n0) := by simp
  go_wp2_with fail
  refine (toImage_any W1 a1 n1 c1 x1 _ h1.out (by omega)).mono ?_
  rintro e w7 ⟨⟨gw7, rfl, hgw7, ho⟩, hb⟩
  have szw7 : w6.heap.size + 1 ≤ w7.heap.size := by have := hb.size; simpa using this
  replace p00 := kept hb (block_lt p00) p00
  replace p01 := kept hb (block_lt p01) p01
  replace p10 := kept hb (block_lt p10) p10
  replace p11 := kept hb (block_lt p11) p11
  replace q00 := kept hb (block_lt q00) q00
  replace q01 := kept hb (block_lt q01) q01
  replace h0 := Lib.hid (h0.out.bel hb)
  replace h1 := Lib.hid (h1.out.bel hb)
  replace g0 := Lib.hid (g0.out.bel hb)
  replace bb := Lib.hid (bb.out.trans (hb.mono bb.out.size))
  clear hb
  have g1 := Lib.hid ho.row
  clear ho
  obtain ⟨z1, hz1⟩ : ∃ z, z = gw7 := ⟨_, rfl⟩
  rw [← hz1]
  rw [← hz1] at g1 hgw7
  clear hz1
  have hbx : Below w7.heap.size w7 (w7.alloc (.cells #[.int .i64 W1, .slice (some ⟨z1, 0, none⟩) n1 n1] 25)) := (Below.refl _ _).alloc (Nat.le_refl _) _
  replace p00 := kept hbx (block_lt p00) p00
  replace p01 := kept hbx (block_lt p01) p01
  replace p10 := kept hbx (block_lt p10) p10
  replace p11 := kept hbx (block_lt p11) p11
  replace q00 := kept hbx (block_lt q00) q00
  replace q01 := kept hbx (block_lt q01) q01
  replace h0 := Lib.hid (h0.out.bel hbx)
  replace h1 := Lib.hid (h1.out.bel hbx)
  replace g0 := Lib.hid (g0.out.bel hbx)
  replace g1 := Lib.hid (g1.out.bel hbx)
  replace bb := Lib.hid (bb.out.trans (hbx.mono bb.out.size))
  clear hbx
  have q10 : (w7.alloc (.cells #[.int .i64 W1, .slice (some ⟨z1, 0, none⟩) n1 n1] 25)).cell? ⟨w7.heap.size, 0, none⟩ = some (.int .i64 W1) := by simp
  have q11 : (w7.alloc (.cells #[.int .i64 W1, .slice (some ⟨z1, 0, none⟩) n1 n1] 25)).cell? ⟨w7.heap.size, 1, none⟩ = some (.slice (some ⟨z1, 0, none⟩) n1 n1) := by simp
  go_wp2_with fail
  refine (DI.out _ _ _ _ _ g0.out g1.out).mono ?_
  rintro e w8 ⟨rfl, hb⟩
  have szw8 : w7.heap.size + 1 ≤ w8.heap.size := by have := hb.size; simpa using this
  replace p00 := kept hb (block_lt p00) p00
  replace p01 := kept hb (block_lt p01) p01
  replace p10 := kept hb (block_lt p10) p10
  replace p11 := kept hb (block_lt p11) p11
  replace q00 := kept hb (block_lt q00) q00
  replace q01 := kept hb (block_lt q01) q01
  replace q10 := kept hb (block_lt q10) q10
  replace q11 := kept hb (block_lt q11) q11
  replace h0 := Lib.hid (h0.out.bel hb)
  replace h1 := Lib.hid (h1.out.bel hb)
  replace g0 := Lib.hid (g0.out.bel hb)
  replace g1 := Lib.hid (g1.out.bel hb)
  replace bb := Lib.hid (bb.out.trans (hb.mono bb.out.size))
  clear hb
  go_wp2_with fail
  skip
  go_region_law (first | ((go_simp; go_at_call 47; (with_reducible refine (toImage_any W0 a0 n0 c0 x0 _ (h0.out.bel ((Below.refl _ _).drew)) (by omega)).mono ?_); rintro e w9 ⟨⟨gg, rfl, hgg, ho⟩, hb⟩; have szw9 := hb.size; replace p00 := kept hb (block_lt (show w8.drew.cell? _ = _ from p00)) (show w8.drew.cell? _ = _ from p00); replace p01 := kept hb (block_lt (show w8.drew.cell? _ = _ from p01)) (show w8.drew.cell? _ = _ from p01); replace p10 := kept hb (block_lt (show w8.drew.cell? _ = _ from p10)) (show w8.drew.cell? _ = _ from p10); replace p11 := kept hb (block_lt (show w8.drew.cell? _ = _ from p11)) (show w8.drew.cell? _ = _ from p11); replace q00 := kept hb (block_lt (show w8.drew.cell? _ = _ from q00)) (show w8.drew.cell? _ = _ from q00); replace q01 := kept hb (block_lt (show w8.drew.cell? _ = _ from q01)) (show w8.drew.cell? _ = _ from q01); replace q10 := kept hb (block_lt (show w8.drew.cell? _ = _ from q10)) (show w8.drew.cell? _ = _ from q10); replace q11 := kept hb (block_lt (show w8.drew.cell? _ = _ from q11)) (show w8.drew.cell? _ = _ from q11); replace h0 := Lib.hid ((h0.out.bel ((Below.refl _ _).drew)).bel hb); replace h1 := Lib.hid ((h1.out.bel ((Below.refl _ _).drew)).bel hb); replace g0 := Lib.hid ((g0.out.bel ((Below.refl _ _).drew)).bel hb); replace g1 := Lib.hid ((g1.out.bel ((Below.refl _ _).drew)).bel hb); replace bb := Lib.hid (bb.out.drew.trans (hb.mono bb.out.drew.size)); have t0 := Lib.hid ho.row; clear hb ho hgg)) | ((go_simp; go_at_call 48; (with_reducible refine (eqImage_yes _ _ _ _ _ _ x0 _ g0.out t0.out (by omega)).mono ?_); rintro e w10 ⟨rfl, hb⟩; have szw10 := hb.size; replace p00 := kept hb (block_lt p00) p00; replace p01 := kept hb (block_lt p01) p01; replace p10 := kept hb (block_lt p10) p10; replace p11 := kept hb (block_lt p11) p11; replace q00 := kept hb (block_lt q00) q00; replace q01 := kept hb (block_lt q01) q01; replace q10 := kept hb (block_lt q10) q10; replace q11 := kept hb (block_lt q11) q11; replace h0 := Lib.hid (h0.out.bel hb); replace h1 := Lib.hid (h1.out.bel hb); replace g0 := Lib.hid (g0.out.bel hb); replace g1 := Lib.hid (g1.out.bel hb); replace t0 := Lib.hid (t0.out.bel hb); replace bb := Lib.hid (bb.out.trans (hb.mono bb.out.size)); clear hb)))
  all_goals (
  clear t0
  go_wp2_with fail
  skip
  go_region_law (first | ((go_simp; go_at_call 47; (with_reducible refine (toImage_any W1 a1 n1 c1 x1 _ (h1.out.bel ((Below.refl _ _).drew)) (by omega)).mono ?_); rintro e w11 ⟨⟨gg, rfl, hgg, ho⟩, hb⟩; have szw11 := hb.size; replace p00 := kept hb (block_lt (show w10.drew.cell? _ = _ from p00)) (show w10.drew.cell? _ = _ from p00); replace p01 := kept hb (block_lt (show w10.drew.cell? _ = _ from p01)) (show w10.drew.cell? _ = _ from p01); replace p10 := kept hb (block_lt (show w10.drew.cell? _ = _ from p10)) (show w10.drew.cell? _ = _ from p10); replace p11 := kept hb (block_lt (show w10.drew.cell? _ = _ from p11)) (show w10.drew.cell? _ = _ from p11); replace q00 := kept hb (block_lt (show w10.drew.cell? _ = _ from q00)) (show w10.drew.cell? _ = _ from q00); replace q01 := kept hb (block_lt (show w10.drew.cell? _ = _ from q01)) (show w10.drew.cell? _ = _ from q01); replace q10 := kept hb (block_lt (show w10.drew.cell? _ = _ from q10)) (show w10.drew.cell? _ = _ from q10); replace q11 := kept hb (block_lt (show w10.drew.cell? _ = _ from q11)) (show w10.drew.cell? _ = _ from q11); replace h0 := Lib.hid ((h0.out.bel ((Below.refl _ _).drew)).bel hb); replace h1 := Lib.hid ((h1.out.bel ((Below.refl _ _).drew)).bel hb); replace g0 := Lib.hid ((g0.out.bel ((Below.refl _ _).drew)).bel hb); replace g1 := Lib.hid ((g1.out.bel ((Below.refl _ _).drew)).bel hb); replace bb := Lib.hid (bb.out.drew.trans (hb.mono bb.out.drew.size)); have t1 := Lib.hid ho.row; clear hb ho hgg)) | ((go_simp; go_at_call 48; (with_reducible refine (eqImage_yes _ _ _ _ _ _ x1 _ g1.out t1.out (by omega)).mono ?_); rintro e w12 ⟨rfl, hb⟩; have szw12 := hb.size; replace p00 := kept hb (block_lt p00) p00; replace p01 := kept hb (block_lt p01) p01; replace p10 := kept hb (block_lt p10) p10; replace p11 := kept hb (block_lt p11) p11; replace q00 := kept hb (block_lt q00) q00; replace q01 := kept hb (block_lt q01) q01; replace q10 := kept hb (block_lt q10) q10; replace q11 := kept hb (block_lt q11) q11; replace h0 := Lib.hid (h0.out.bel hb); replace h1 := Lib.hid (h1.out.bel hb); replace g0 := Lib.hid (g0.out.bel hb); replace g1 := Lib.hid (g1.out.bel hb); replace t1 := Lib.hid (t1.out.bel hb); replace bb := Lib.hid (bb.out.trans (hb.mono bb.out.size)); clear hb)))
  all_goals (
  clear t1
  go_wp2_with fail
  go_ret
  exact ⟨rfl, bb.out⟩)))

set_option maxRecDepth 100000 in
theorem lifted (os : Os) (started : os.Started) (H : Type) (enc : TypeId × Value → H) :
    ReturnsInHanded {} Try.checked os 19 .any (Rows.fnExactImageDistanceSpec.pre6 enc Try.prog Try.f19 Rows.fnExactImageDistanceRow.domain false) (Rows.fnExactImageDistanceSpec.post enc Try.prog Try.f19 false true false false) := by
  refine returnsInHanded_of_change (C := Try.checked) own started (by kernel_rfl) Try.func19
    (ChangeSpec.witness6 (enc := enc) (C := Try.checked) false ⟨#[], #[.agg #[.int .i64 0, .slice none 0 0], .agg #[.int .i64 0, .slice none 0 0]], []⟩ 8 (by kernel_rfl) (by kernel_rfl) (by kernel_rfl) (by kernel_rfl)) ?_
  intro W base args ds gs before hval0 hW hcnd _
  have hval : ∀ (j : Nat) t v, Try.f19.params[j]? = some t → args[j]? = some v → Value.okWide Try.prog W .any base t v := hval0
  have hW' := hW
  obtain ⟨p, q, hA0, hV, rfl, hfz, hnd⟩ := hW
  have hA : DataW.TrodAll enc Try.prog W 0 (fun _ => true) true Try.f19.params.toList args.toList ds p := hA0
  rw [Try.params19] at hA hval
  obtain ⟨v0, vs0, d0, ds0, p0, q0, hargs, rfl, rfl, h0, r0⟩ := trodAll_cons hA
  obtain ⟨v1, vs1, d1, ds1, p1, q1, rfl, rfl, rfl, h1, r1⟩ := trodAll_cons r0
  obtain ⟨rfl, rfl, rfl⟩ := trodAll_nil r1
  obtain rfl : args = #[v0, v1] := by cases args; simp_all
  obtain ⟨rfl, rfl⟩ := trodVars_none hV
  have k0 := h0
  have lt0 : ∀ x ∈ p0, x.block < W.heap.size := by obtain ⟨m, hm⟩ := k0; exact DataW.trod_lt m _ _ _ hm
  obtain ⟨n0, a0, len0, cap0, z0, rfl, w0, m0⟩ := open_img (hval 0 50 v0 rfl rfl) h0
  have k1 := h1
  have lt1 : ∀ x ∈ p1, x.block < W.heap.size := by obtain ⟨m, hm⟩ := k1; exact DataW.trod_lt m _ _ _ hm
  obtain ⟨n1, a1, len1, cap1, z1, rfl, w1, m1⟩ := open_img (hval 1 50 v1 rfl rfl) h1
  clear hA0 hval0
  refine (walk n0 a0 len0 cap0 z0 n1 a1 len1 cap1 z1 W w0 m0 w1 m1).mono fun e W' ⟨he, bel⟩ => ?_
  subst he
  exact ⟨_, rfl, _, _, _, [], _, [], hW', trodAll_mk1 (shut_bool Try.underlying4 _), (trodAll_cons_mk (Below.trod laidOut (by kernel_rfl) (of_decide_eq_true (by kernel_rfl)) k0 bel lt0) (trodAll_cons_mk (Below.trod laidOut (by kernel_rfl) (of_decide_eq_true (by kernel_rfl)) k1 bel lt1) trodAll_mk0)), rfl, bel.frame _, fun h => by cases h⟩

theorem closed : joinedFacts Try.prog 19 Try.f19 Rows.fnExactImageDistanceSpec Rows.fnExactImageDistanceRow = true := by
  simp only [joinedFacts, Bool.and_eq_true]
  repeat' apply And.intro
  all_goals first | with_reducible exact mayEnterOk | (with_reducible rw [liftsFinalOk]; kernel_rfl) | (with_reducible rw [makeOk]; kernel_rfl) | kernel_rfl

theorem over : Rows.fnExactImageDistanceRow.holds Try.pinned (OpenSpec.ofChange Rows.fnExactImageDistanceSpec) :=
  OpenClaim.holds_of_wide 19 Try.f19 rfl rfl rfl rfl rfl rfl rfl ⟨rfl, rfl, rfl, rfl, rfl⟩ rfl rfl rfl rfl rfl (by kernel_rfl) Try.func19 closed
    (of_decide_eq_true (by kernel_rfl)) (by unfold Func.isWrapper; first | (rw [if_pos (by decide +kernel)]; kernel_rfl) | (rw [if_neg (by decide +kernel)]; exact ⟨rfl, rfl⟩))
    (fun os started H enc _ => lifted os started H enc)

theorem proved : Rows.FnExactImageDistanceSaid := over
#print axioms proved
end Go.Proofs.Ytgamkmkpmcenpaa.LImageDistance

