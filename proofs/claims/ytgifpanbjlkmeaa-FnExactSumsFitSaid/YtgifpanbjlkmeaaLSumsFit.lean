/-
  For every image and two lists of integers the law on SumsFit answers true, and nothing that was there is written; no condition.
-/
import Derived.Test.YtgifpanbjlkmeaaF
import Derived.Test.YtgifpanbjlkmeaaG
import Derived.Test.YtgifpanbjlkmeaaEx
import Derived.Test.YtgifpanbjlkmeaaSc
namespace Go.Proofs.Ytgifpanbjlkmeaa.LSumsFit
open Go.ChangeShapes Go.WideShapes Go.ChangeAt Go.RowKit Go.Joins

set_option maxHeartbeats 2000000 in
theorem walk (W0 : Int) (a0 : Option Addr) (n0 c0 : Nat) (x0 : List Int) (a1 : Option Addr) (n1 c1 : Nat) (x1 : List Int) (a2 : Option Addr) (n2 c2 : Nat) (x2 : List Int) (w : World) (h0 : Row w a0 n0 x0) (m0 : n0 ≤ 9223372036854775807) (h1 : Row w a1 n1 x1) (m1 : n1 ≤ 9223372036854775807) (h2 : Row w a2 n2 x2) (m2 : n2 ≤ 9223372036854775807) :
    Calls Try.prog 13 #[.agg #[.int .i64 W0, .slice a0 n0 c0], .slice a1 n1 c1, .slice a2 n2 c2] w fun e w' => e = .returned (.bool true) ∧ Below w.heap.size w w' := by
  by_cases big1 : 1048576 < n1
  · clear h0 h1 h2
    go_enter Try.func13, Try.ntmps13
    go_wp2_with fail
    go_ret
    exact ⟨rfl, (Below.refl _ _).alloc (Nat.le_refl _) _⟩
  by_cases big2 : 1048576 < n2
  · clear h0 h1 h2
    go_enter Try.func13, Try.ntmps13
    go_wp2_with fail
    go_ret
    exact ⟨rfl, (Below.refl _ _).alloc (Nat.le_refl _) _⟩
  obtain ⟨R, hRe⟩ : ∃ R, fitB W0 x0 x1 x2 = R := ⟨_, rfl⟩
  have CS : ∀ (a0 : Option Addr) (c0 : Nat) (a1 : Option Addr) (c1 : Nat) (a2 : Option Addr) (c2 : Nat) (wx : World), Row wx a0 n0 x0 → Row wx a1 n1 x1 → Row wx a2 n2 x2 → Calls Try.prog 34 #[.agg #[.int .i64 W0, .slice a0 n0 c0], .slice a1 n1 c1, .slice a2 n2 c2] wx (fun e w' => e = .returned (.bool R) ∧ Below wx.heap.size wx w') := by
    intro a0 c0 a1 c1 a2 c2 wx h0 h1 h2; rw [← hRe]; exact fit_spec _ _ _ _ _ _ _ _ _ _ _ _ _ _ h0 h1 h2 m0 m1 m2
  have DS := Lib.hid CS
  clear CS
  have CI : ∀ (a0 : Option Addr) (c0 : Nat) (a1 : Option Addr) (c1 : Nat) (a2 : Option Addr) (c2 : Nat) (wx : World), Row wx a0 n0 x0 → Row wx a1 n1 x1 → Row wx a2 n2 x2 → Calls Try.prog 33 #[.agg #[.int .i64 W0, .slice a0 n0 c0], .slice a1 n1 c1, .slice a2 n2 c2] wx (fun e w' => e = .returned (.bool R) ∧ Below wx.heap.size wx w') := by
    intro a0 c0 a1 c1 a2 c2 wx h0 h1 h2; rw [← hRe]; exact fit_impl _ _ _ _ _ _ _ _ _ _ _ _ _ _ h0 h1 h2 m0 m1 m2
  have DI := Lib.hid CI
  clear CI
  clear hRe
  have rg0 := rng_row h0
  have h0 := Lib.hid h0
  have rg1 := rng_row h1
  have h1 := Lib.hid h1
  have rg2 := rng_row h2
  have h2 := Lib.hid h2
  have bb : Hid (Below w.heap.size w w) := Below.refl _ _
  obtain ⟨w0, hw0⟩ : ∃ w0, w0 = (w.alloc (.cells #[.int .i64 W0, .slice a0 n0 c0] 42)) := ⟨_, rfl⟩
  have hb0 : Below w.heap.size w w0 := by subst hw0; exact (Below.refl _ _).alloc (Nat.le_refl _) _
  have p00 : w0.cell? ⟨w.heap.size, 0, none⟩ = some (.int .i64 W0) := by subst hw0; go_simp
  have p01 : w0.cell? ⟨w.heap.size, 1, none⟩ = some (.slice a0 n0 c0) := by subst hw0; go_simp
  have szw0 := hb0.size
  replace h0 := Lib.hid (h0.out.bel hb0)
  replace h1 := Lib.hid (h1.out.bel hb0)
  replace h2 := Lib.hid (h2.out.bel hb0)
  replace bb := Lib.hid (bb.out.trans (hb0.mono bb.out.size))
  clear hb0
  have l0 : w.heap.size + 0 < w0.heap.size := block_lt p00
  go_enter Try.func13, Try.ntmps13
  go_wp2_with fail
  rw [← hw0]
  clear hw0
  refine (szImage_any _ _ _ _ (1048576) _ m0 (by omega) (by omega)).mono ?_
  rintro e w1 ⟨rfl, hb⟩
  have szw1 := hb.size
  replace p00 := kept hb (block_lt p00) p00
  replace p01 := kept hb (block_lt p01) p01
  replace h0 := Lib.hid (h0.out.bel hb)
  replace h1 := Lib.hid (h1.out.bel hb)
  replace h2 := Lib.hid (h2.out.bel hb)
  replace bb := Lib.hid (bb.out.trans (hb.mono bb.out.size))
  clear hb
  by_cases big0 : 1048576 < (n0 : Int)
  · rw [if_pos big0]
    go_wp2_with fail
    go_ret
    exact ⟨rfl, bb.out⟩
  rw [if_neg big0]
  go_wp2_with fail
  refine (toImage_any W0 a0 n0 c0 x0 _ h0.out (by omega)).mono ?_
  rintro e w2 ⟨⟨gw2, rfl, hgw2, ho⟩, hb⟩
  have szw2 := hb.size
  replace p00 := kept hb (block_lt p00) p00
  replace p01 := kept hb (block_lt p01) p01
  replace h0 := Lib.hid (h0.out.bel hb)
  replace h1 := Lib.hid (h1.out.bel hb)
  replace h2 := Lib.hid (h2.out.bel hb)
  replace bb := Lib.hid (bb.out.trans (hb.mono bb.out.size))
  clear hb
  have s0 := Lib.hid ho.row
  clear ho hgw2
  go_wp2_with fail
  refine (to_any a1 n1 c1 x1 _ h1.out (by omega)).mono ?_
  rintro e w3 ⟨⟨gw3, rfl, hgw3, ho⟩, hb⟩
  have szw3 := hb.size
  replace p00 := kept hb (block_lt p00) p00
  replace p01 := kept hb (block_lt p01) p01
  replace h0 := Lib.hid (h0.out.bel hb)
  replace h1 := Lib.hid (h1.out.bel hb)
  replace h2 := Lib.hid (h2.out.bel hb)
  replace s0 := Lib.hid (s0.out.bel hb)
  replace bb := Lib.hid (bb.out.trans (hb.mono bb.out.size))
  clear hb
  have s1 := Lib.hid ho.row
  clear ho hgw3
  go_wp2_with fail
  refine (to_any a2 n2 c2 x2 _ h2.out (by omega)).mono ?_
  rintro e w4 ⟨⟨gw4, rfl, hgw4, ho⟩, hb⟩
  have szw4 := hb.size
  replace p00 := kept hb (block_lt p00) p00
  replace p01 := kept hb (block_lt p01) p01
  replace h0 := Lib.hid (h0.out.bel hb)
  replace h1 := Lib.hid (h1.out.bel hb)
  replace h2 := Lib.hid (h2.out.bel hb)
  replace s0 := Lib.hid (s0.out.bel hb)
  replace s1 := Lib.hid (s1.out.bel hb)
  replace bb := Lib.hid (bb.out.trans (hb.mono bb.out.size))
  clear hb
  have s2 := Lib.hid ho.row
  clear ho hgw4
  go_wp2_with fail
  refine (DS.out _ _ _ _ _ _ _ s0.out s1.out s2.out).mono ?_
  rintro e w5 ⟨rfl, hb⟩
  have szw5 := hb.size
  replace p00 := kept hb (block_lt p00) p00
  replace p01 := kept hb (block_lt p01) p01
  replace h0 := Lib.hid (h0.out.bel hb)
  replace h1 := Lib.hid (h1.out.bel hb)
  replace h2 := Lib.hid (h2.out.bel hb)
  replace s0 := Lib.hid (s0.out.bel hb)
  replace s1 := Lib.hid (s1.out.bel hb)
  replace s2 := Lib.hid (s2.out.bel hb)
  replace bb := Lib.hid (bb.out.trans (hb.mono bb.out.size))
  clear hb
  clear s0 s1 s2 DS
  go_wp2_with fail
  refine (toImage_any W0 a0 n0 c0 x0 _ h0.out (by omega)).mono ?_
  rintro e w6 ⟨⟨gw6, rfl, hgw6, ho⟩, hb⟩
  have szw6 := hb.size
  replace p00 := kept hb (block_lt p00) p00
  replace p01 := kept hb (block_lt p01) p01
  replace h0 := Lib.hid (h0.out.bel hb)
  replace h1 := Lib.hid (h1.out.bel hb)
  replace h2 := Lib.hid (h2.out.bel hb)
  replace bb := Lib.hid (bb.out.trans (hb.mono bb.out.size))
  clear hb
  have g0 := Lib.hid ho.row
  clear ho
  obtain ⟨z0, hz0⟩ : ∃ z, z = gw6 := ⟨_, rfl⟩
  rw [← hz0]
  rw [← hz0] at g0 hgw6
  clear hz0
  have hbx : Below w6.heap.size w6 (w6.alloc (.cells #[.int .i64 W0, .slice (some ⟨z0, 0, none⟩) n0 n0] 25)) := (Below.refl _ _).alloc (Nat.le_refl _) _
  replace p00 := kept hbx (block_lt p00) p00
  replace p01 := kept hbx (block_lt p01) p01
  replace h0 := Lib.hid (h0.out.bel hbx)
  replace h1 := Lib.hid (h1.out.bel hbx)
  replace h2 := Lib.hid (h2.out.bel hbx)
  replace g0 := Lib.hid (g0.out.bel hbx)
  replace bb := Lib.hid (bb.out.trans (hbx.mono bb.out.size))
  clear hbx
  have q00 : (w6.alloc (.cells #[.int .i64 W0, .slice (some ⟨z0, 0, none⟩) n0 n0] 25)).cell? ⟨w6.heap.size, 0, none⟩ = some (.int .i64 W0) := by simp
  have q01 : (w6.alloc (.cells #[.int .i64 W0, .slice (some ⟨z0, 0, none⟩) n0 n0] 25)).cell? ⟨w6.heap.size, 1, none⟩ = some (.slice (some ⟨z0, 0, none⟩) n0 n0) := by simp
  go_wp2_with fail
  refine (to_any a1 n1 c1 x1 _ h1.out (by omega)).mono ?_
  rintro e w7 ⟨⟨gw7, rfl, hgw7, ho⟩, hb⟩
  have szw7 : w6.heap.size + 1 ≤ w7.heap.size := by have := hb.size; simpa using this
  replace p00 := kept hb (block_lt p00) p00
  replace p01 := kept hb (block_lt p01) p01
  replace q00 := kept hb (block_lt q00) q00
  replace q01 := kept hb (block_lt q01) q01
  replace h0 := Lib.hid (h0.out.bel hb)
  replace h1 := Lib.hid (h1.out.bel hb)
  replace h2 := Lib.hid (h2.out.bel hb)
  replace g0 := Lib.hid (g0.out.bel hb)
  replace bb := Lib.hid (bb.out.trans (hb.mono bb.out.size))
  clear hb
  have g1 := Lib.hid ho.row
  clear ho
  obtain ⟨z1, hz1⟩ : ∃ z, z = gw7 := ⟨_, rfl⟩
  rw [← hz1]
  rw [← hz1] at g1 hgw7
  clear hz1
  go_wp2_with fail
  refine (to_any a2 n2 c2 x2 _ h2.out (by omega)).mono ?_
  rintro e w8 ⟨⟨gw8, rfl, hgw8, ho⟩, hb⟩
  have szw8 := hb.size
  replace p00 := kept hb (block_lt p00) p00
  replace p01 := kept hb (block_lt p01) p01
  replace q00 := kept hb (block_lt q00) q00
  replace q01 := kept hb (block_lt q01) q01
  replace h0 := Lib.hid (h0.out.bel hb)
  replace h1 := Lib.hid (h1.out.bel hb)
  replace h2 := Lib.hid (h2.out.bel hb)
  replace g0 := Lib.hid (g0.out.bel hb)
  replace g1 := Lib.hid (g1.out.bel hb)
  replace bb := Lib.hid (bb.out.trans (hb.mono bb.out.size))
  clear hb
  have g2 := Lib.hid ho.row
  clear ho
  obtain ⟨z2, hz2⟩ : ∃ z, z = gw8 := ⟨_, rfl⟩
  rw [← hz2]
  rw [← hz2] at g2 hgw8
  clear hz2
  go_wp2_with fail
  refine (DI.out _ _ _ _ _ _ _ g0.out g1.out g2.out).mono ?_
  rintro e w9 ⟨rfl, hb⟩
  have szw9 := hb.size
  replace p00 := kept hb (block_lt p00) p00
  replace p01 := kept hb (block_lt p01) p01
  replace q00 := kept hb (block_lt q00) q00
  replace q01 := kept hb (block_lt q01) q01
  replace h0 := Lib.hid (h0.out.bel hb)
  replace h1 := Lib.hid (h1.out.bel hb)
  replace h2 := Lib.hid (h2.out.bel hb)
  replace g0 := Lib.hid (g0.out.bel hb)
  replace g1 := Lib.hid (g1.out.bel hb)
  replace g2 := Lib.hid (g2.out.bel hb)
  replace bb := Lib.hid (bb.out.trans (hb.mono bb.out.size))
  clear hb
  go_wp2_with fail
  skip
  go_region_law (first | ((go_simp; go_at_call 39; (with_reducible refine (toImage_any W0 a0 n0 c0 x0 _ (h0.out.bel ((Below.refl _ _).drew)) (by omega)).mono ?_); rintro e w10 ⟨⟨gg, rfl, hgg, ho⟩, hb⟩; have szw10 := hb.size; replace p00 := kept hb (block_lt (show w9.drew.cell? _ = _ from p00)) (show w9.drew.cell? _ = _ from p00); replace p01 := kept hb (block_lt (show w9.drew.cell? _ = _ from p01)) (show w9.drew.cell? _ = _ from p01); replace q00 := kept hb (block_lt (show w9.drew.cell? _ = _ from q00)) (show w9.drew.cell? _ = _ from q00); replace q01 := kept hb (block_lt (show w9.drew.cell? _ = _ from q01)) (show w9.drew.cell? _ = _ from q01); replace h0 := Lib.hid ((h0.out.bel ((Below.refl _ _).drew)).bel hb); replace h1 := Lib.hid ((h1.out.bel ((Below.refl _ _).drew)).bel hb); replace h2 := Lib.hid ((h2.out.bel ((Below.refl _ _).drew)).bel hb); replace g0 := Lib.hid ((g0.out.bel ((Below.refl _ _).drew)).bel hb); replace g1 := Lib.hid ((g1.out.bel ((Below.refl _ _).drew)).bel hb); replace g2 := Lib.hid ((g2.out.bel ((Below.refl _ _).drew)).bel hb); replace bb := Lib.hid (bb.out.drew.trans (hb.mono bb.out.drew.size)); have t0 := Lib.hid ho.row; clear hb ho hgg)) | ((go_simp; go_at_call 41; (with_reducible refine (eqImage_yes _ _ _ _ _ _ x0 _ g0.out t0.out (by omega)).mono ?_); rintro e w11 ⟨rfl, hb⟩; have szw11 := hb.size; replace p00 := kept hb (block_lt p00) p00; replace p01 := kept hb (block_lt p01) p01; replace q00 := kept hb (block_lt q00) q00; replace q01 := kept hb (block_lt q01) q01; replace h0 := Lib.hid (h0.out.bel hb); replace h1 := Lib.hid (h1.out.bel hb); replace h2 := Lib.hid (h2.out.bel hb); replace g0 := Lib.hid (g0.out.bel hb); replace g1 := Lib.hid (g1.out.bel hb); replace g2 := Lib.hid (g2.out.bel hb); replace t0 := Lib.hid (t0.out.bel hb); replace bb := Lib.hid (bb.out.trans (hb.mono bb.out.size)); clear hb)))
  all_goals (
  clear t0
  go_wp2_with fail
  refine (to_any a1 n1 c1 x1 _ h1.out (by omega)).mono ?_
  rintro e w12 ⟨⟨gw12, rfl, hgw12, ho⟩, hb⟩
  have szw12 := hb.size
  replace p00 := kept hb (block_lt p00) p00
  replace p01 := kept hb (block_lt p01) p01
  replace q00 := kept hb (block_lt q00) q00
  replace q01 := kept hb (block_lt q01) q01
  replace h0 := Lib.hid (h0.out.bel hb)
  replace h1 := Lib.hid (h1.out.bel hb)
  replace h2 := Lib.hid (h2.out.bel hb)
  replace g0 := Lib.hid (g0.out.bel hb)
  replace g1 := Lib.hid (g1.out.bel hb)
  replace g2 := Lib.hid (g2.out.bel hb)
  replace bb := Lib.hid (bb.out.trans (hb.mono bb.out.size))
  clear hb
  have t1 := Lib.hid ho.row
  clear ho
  go_wp2_with fail
  refine (eq_yes _ _ _ _ _ x1 _ g1.out t1.out (by omega)).mono ?_
  rintro e w13 ⟨rfl, hb⟩
  have szw13 := hb.size
  replace p00 := kept hb (block_lt p00) p00
  replace p01 := kept hb (block_lt p01) p01
  replace q00 := kept hb (block_lt q00) q00
  replace q01 := kept hb (block_lt q01) q01
  replace h0 := Lib.hid (h0.out.bel hb)
  replace h1 := Lib.hid (h1.out.bel hb)
  replace h2 := Lib.hid (h2.out.bel hb)
  replace g0 := Lib.hid (g0.out.bel hb)
  replace g1 := Lib.hid (g1.out.bel hb)
  replace g2 := Lib.hid (g2.out.bel hb)
  replace t1 := Lib.hid (t1.out.bel hb)
  replace bb := Lib.hid (bb.out.trans (hb.mono bb.out.size))
  clear hb
  clear t1
  go_wp2_with fail
  refine (to_any a2 n2 c2 x2 _ h2.out (by omega)).mono ?_
  rintro e w14 ⟨⟨gw14, rfl, hgw14, ho⟩, hb⟩
  have szw14 := hb.size
  replace p00 := kept hb (block_lt p00) p00
  replace p01 := kept hb (block_lt p01) p01
  replace q00 := kept hb (block_lt q00) q00
  replace q01 := kept hb (block_lt q01) q01
  replace h0 := Lib.hid (h0.out.bel hb)
  replace h1 := Lib.hid (h1.out.bel hb)
  replace h2 := Lib.hid (h2.out.bel hb)
  replace g0 := Lib.hid (g0.out.bel hb)
  replace g1 := Lib.hid (g1.out.bel hb)
  replace g2 := Lib.hid (g2.out.bel hb)
  replace bb := Lib.hid (bb.out.trans (hb.mono bb.out.size))
  clear hb
  have t2 := Lib.hid ho.row
  clear ho
  go_wp2_with fail
  refine (eq_yes _ _ _ _ _ x2 _ g2.out t2.out (by omega)).mono ?_
  rintro e w15 ⟨rfl, hb⟩
  have szw15 := hb.size
  replace p00 := kept hb (block_lt p00) p00
  replace p01 := kept hb (block_lt p01) p01
  replace q00 := kept hb (block_lt q00) q00
  replace q01 := kept hb (block_lt q01) q01
  replace h0 := Lib.hid (h0.out.bel hb)
  replace h1 := Lib.hid (h1.out.bel hb)
  replace h2 := Lib.hid (h2.out.bel hb)
  replace g0 := Lib.hid (g0.out.bel hb)
  replace g1 := Lib.hid (g1.out.bel hb)
  replace g2 := Lib.hid (g2.out.bel hb)
  replace t2 := Lib.hid (t2.out.bel hb)
  replace bb := Lib.hid (bb.out.trans (hb.mono bb.out.size))
  clear hb
  clear t2
  go_wp2_with fail
  go_ret
  exact ⟨rfl, bb.out⟩)

set_option maxRecDepth 100000 in
theorem lifted (os : Os) (started : os.Started) (H : Type) (enc : TypeId × Value → H) :
    ReturnsInHanded {} Try.checked os 13 .any (Rows.fnExactSumsFitSpec.pre6 enc Try.prog Try.f13 Rows.fnExactSumsFitRow.domain false) (Rows.fnExactSumsFitSpec.post enc Try.prog Try.f13 false true false false) := by
  refine returnsInHanded_of_change (C := Try.checked) own started (by kernel_rfl) Try.func13
    (ChangeSpec.witness6 (enc := enc) (C := Try.checked) false ⟨#[], #[.agg #[.int .i64 0, .slice none 0 0], .slice none 0 0, .slice none 0 0], []⟩ 8 (by kernel_rfl) (by kernel_rfl) (by kernel_rfl) (by kernel_rfl)) ?_
  intro W base args ds gs before hval0 hW hcnd _
  have hval : ∀ (j : Nat) t v, Try.f13.params[j]? = some t → args[j]? = some v → Value.okWide Try.prog W .any base t v := hval0
  have hW' := hW
  obtain ⟨p, q, hA0, hV, rfl, hfz, hnd⟩ := hW
  have hA : DataW.TrodAll enc Try.prog W 0 (fun _ => true) true Try.f13.params.toList args.toList ds p := hA0
  rw [Try.params13] at hA hval
  obtain ⟨v0, vs0, d0, ds0, p0, q0, hargs, rfl, rfl, h0, r0⟩ := trodAll_cons hA
  obtain ⟨v1, vs1, d1, ds1, p1, q1, rfl, rfl, rfl, h1, r1⟩ := trodAll_cons r0
  obtain ⟨v2, vs2, d2, ds2, p2, q2, rfl, rfl, rfl, h2, r2⟩ := trodAll_cons r1
  obtain ⟨rfl, rfl, rfl⟩ := trodAll_nil r2
  obtain rfl : args = #[v0, v1, v2] := by cases args; simp_all
  obtain ⟨rfl, rfl⟩ := trodVars_none hV
  have k0 := h0
  have lt0 : ∀ x ∈ p0, x.block < W.heap.size := by obtain ⟨m, hm⟩ := k0; exact DataW.trod_lt m _ _ _ hm
  obtain ⟨n0, a0, len0, cap0, z0, rfl, w0, m0⟩ := open_img (hval 0 42 v0 rfl rfl) h0
  have k1 := h1
  have lt1 : ∀ x ∈ p1, x.block < W.heap.size := by obtain ⟨m, hm⟩ := k1; exact DataW.trod_lt m _ _ _ hm
  obtain ⟨a1, len1, cap1, z1, rfl, w1, m1⟩ := open_list (hval 1 23 v1 rfl rfl) h1
  have k2 := h2
  have lt2 : ∀ x ∈ p2, x.block < W.heap.size := by obtain ⟨m, hm⟩ := k2; exact DataW.trod_lt m _ _ _ hm
  obtain ⟨a2, len2, cap2, z2, rfl, w2, m2⟩ := open_list (hval 2 23 v2 rfl rfl) h2
  clear hA0 hval0
  refine (walk n0 a0 len0 cap0 z0 a1 len1 cap1 z1 a2 len2 cap2 z2 W w0 m0 w1 m1 w2 m2).mono fun e W' ⟨he, bel⟩ => ?_
  subst he
  exact ⟨_, rfl, _, _, _, [], _, [], hW', trodAll_mk1 (shut_bool Try.underlying4 _), (trodAll_cons_mk (Below.trod laidOut (by kernel_rfl) (of_decide_eq_true (by kernel_rfl)) k0 bel lt0) (trodAll_cons_mk (Below.trod laidOut (by kernel_rfl) (of_decide_eq_true (by kernel_rfl)) k1 bel lt1) (trodAll_cons_mk (Below.trod laidOut (by kernel_rfl) (of_decide_eq_true (by kernel_rfl)) k2 bel lt2) trodAll_mk0))), rfl, bel.frame _, fun h => by cases h⟩

theorem closed : joinedFacts Try.prog 13 Try.f13 Rows.fnExactSumsFitSpec Rows.fnExactSumsFitRow = true := by
  simp only [joinedFacts, Bool.and_eq_true]
  repeat' apply And.intro
  all_goals first | with_reducible exact mayEnterOk | (with_reducible rw [liftsFinalOk]; kernel_rfl) | (with_reducible rw [makeOk]; kernel_rfl) | kernel_rfl

theorem over : Rows.fnExactSumsFitRow.holds Try.pinned (OpenSpec.ofChange Rows.fnExactSumsFitSpec) :=
  OpenClaim.holds_of_wide 13 Try.f13 rfl rfl rfl rfl rfl rfl rfl ⟨rfl, rfl, rfl, rfl, rfl⟩ rfl rfl rfl rfl rfl (by kernel_rfl) Try.func13 closed
    (of_decide_eq_true (by kernel_rfl)) (by unfold Func.isWrapper; first | (rw [if_pos (by decide +kernel)]; kernel_rfl) | (rw [if_neg (by decide +kernel)]; exact ⟨rfl, rfl⟩))
    (fun os started H enc _ => lifted os started H enc)

theorem proved : Rows.FnExactSumsFitSaid := over
#print axioms proved
end Go.Proofs.Ytgifpanbjlkmeaa.LSumsFit

