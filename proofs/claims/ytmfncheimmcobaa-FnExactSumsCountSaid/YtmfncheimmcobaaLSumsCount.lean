/-
  For every two lists of integers the law on SumsCount answers true, and nothing that was there is written; no condition.
-/
import Derived.Test.YtmfncheimmcobaaF
import Derived.Test.YtmfncheimmcobaaG
import Derived.Test.YtmfncheimmcobaaK
import Derived.Test.YtmfncheimmcobaaJw
namespace Go.Proofs.Ytmfncheimmcobaa.LSumsCount
open Go.ChangeShapes Go.WideShapes Go.ChangeAt Go.RowKit Go.Joins

set_option maxHeartbeats 2000000 in
theorem walk (a0 : Option Addr) (n0 c0 : Nat) (x0 : List Int) (a1 : Option Addr) (n1 c1 : Nat) (x1 : List Int) (w : World) (h0 : Row w a0 n0 x0) (m0 : n0 ≤ 9223372036854775807) (h1 : Row w a1 n1 x1) (m1 : n1 ≤ 9223372036854775807) :
    Calls Try.prog 15 #[.slice a0 n0 c0, .slice a1 n1 c1] w fun e w' => e = .returned (.bool true) ∧ Below w.heap.size w w' := by
  by_cases big0 : 1048576 < n0
  · clear h0 h1
    go_enter Try.func15, Try.ntmps15
    go_wp2_with fail
    go_ret
    exact ⟨rfl, Below.refl _ _⟩
  by_cases big1 : 1048576 < n1
  · clear h0 h1
    go_enter Try.func15, Try.ntmps15
    go_wp2_with fail
    go_ret
    exact ⟨rfl, Below.refl _ _⟩
  obtain ⟨R, hRe⟩ : ∃ R, scO x0 x1 = R := ⟨_, rfl⟩
  have CS : ∀ (a0 : Option Addr) (c0 : Nat) (a1 : Option Addr) (c1 : Nat) (wx : World), Row wx a0 n0 x0 → Row wx a1 n1 x1 → n0 ≤ c0 → Calls Try.prog 20 #[.slice a0 n0 c0, .slice a1 n1 c1] wx (fun e w' => e = .returned (.int .i64 R) ∧ Below wx.heap.size wx w') := by
    intro a0 c0 a1 c1 wx h0 h1 k0; rw [← hRe]; exact sc_spec _ _ _ _ _ _ x0 x1 _ h0 h1 (by omega) (by omega) k0
  have DS := Lib.hid CS
  clear CS
  have CI : ∀ (a0 : Option Addr) (c0 : Nat) (a1 : Option Addr) (c1 : Nat) (wx : World), Row wx a0 n0 x0 → Row wx a1 n1 x1 → n0 ≤ c0 → Calls Try.prog 19 #[.slice a0 n0 c0, .slice a1 n1 c1] wx (fun e w' => e = .returned (.int .i64 R) ∧ Below wx.heap.size wx w') := by
    intro a0 c0 a1 c1 wx h0 h1 k0; rw [← hRe]; exact sc_impl _ _ _ _ _ _ x0 x1 _ h0 h1 (by omega) (by omega)
  have DI := Lib.hid CI
  clear CI
  clear hRe
  have rg0 := rng_row h0
  have h0 := Lib.hid h0
  have rg1 := rng_row h1
  have h1 := Lib.hid h1
  have bb : Hid (Below w.heap.size w w) := Below.refl _ _
  go_enter Try.func15, Try.ntmps15
  go_wp2_with fail
  go_wp2_with fail
  refine (to_any a0 n0 c0 x0 _ h0.out (by omega)).mono ?_
  rintro e w1 ⟨⟨gw1, rfl, hgw1, ho⟩, hb⟩
  have szw1 := hb.size
  replace h0 := Lib.hid (h0.out.bel hb)
  replace h1 := Lib.hid (h1.out.bel hb)
  replace bb := Lib.hid (bb.out.trans (hb.mono bb.out.size))
  clear hb
  have s0 := Lib.hid ho.row
  clear ho hgw1
  go_wp2_with fail
  refine (to_any a1 n1 c1 x1 _ h1.out (by omega)).mono ?_
  rintro e w2 ⟨⟨gw2, rfl, hgw2, ho⟩, hb⟩
  have szw2 := hb.size
  replace h0 := Lib.hid (h0.out.bel hb)
  replace h1 := Lib.hid (h1.out.bel hb)
  replace s0 := Lib.hid (s0.out.bel hb)
  replace bb := Lib.hid (bb.out.trans (hb.mono bb.out.size))
  clear hb
  have s1 := Lib.hid ho.row
  clear ho hgw2
  go_wp2_with fail
  refine (DS.out _ _ _ _ _ s0.out s1.out (Nat.le_refl _)).mono ?_
  rintro e w3 ⟨rfl, hb⟩
  have szw3 := hb.size
  replace h0 := Lib.hid (h0.out.bel hb)
  replace h1 := Lib.hid (h1.out.bel hb)
  replace s0 := Lib.hid (s0.out.bel hb)
  replace s1 := Lib.hid (s1.out.bel hb)
  replace bb := Lib.hid (bb.out.trans (hb.mono bb.out.size))
  clear hb
  clear s0 s1 DS
  go_wp2_with fail
  refine (to_any a0 n0 c0 x0 _ h0.out (by omega)).mono ?_
  rintro e w4 ⟨⟨gw4, rfl, hgw4, ho⟩, hb⟩
  have szw4 := hb.size
  replace h0 := Lib.hid (h0.out.bel hb)
  replace h1 := Lib.hid (h1.out.bel hb)
  replace bb := Lib.hid (bb.out.trans (hb.mono bb.out.size))
  clear hb
  have g0 := Lib.hid ho.row
  clear ho
  obtain ⟨z0, hz0⟩ : ∃ z, z = gw4 := ⟨_, rfl⟩
  rw [← hz0]
  rw [← hz0] at g0 hgw4
  clear hz0
  go_wp2_with fail
  refine (to_any a1 n1 c1 x1 _ h1.out (by omega)).mono ?_
  rintro e w5 ⟨⟨gw5, rfl, hgw5, ho⟩, hb⟩
  have szw5 := hb.size
  replace h0 := Lib.hid (h0.out.bel hb)
  replace h1 := Lib.hid (h1.out.bel hb)
  replace g0 := Lib.hid (g0.out.bel hb)
  replace bb := Lib.hid (bb.out.trans (hb.mono bb.out.size))
  clear hb
  have g1 := Lib.hid ho.row
  clear ho
  obtain ⟨z1, hz1⟩ : ∃ z, z = gw5 := ⟨_, rfl⟩
  rw [← hz1]
  rw [← hz1] at g1 hgw5
  clear hz1
  go_wp2_with fail
  refine (DI.out _ _ _ _ _ g0.out g1.out (Nat.le_refl _)).mono ?_
  rintro e w6 ⟨rfl, hb⟩
  have szw6 := hb.size
  replace h0 := Lib.hid (h0.out.bel hb)
  replace h1 := Lib.hid (h1.out.bel hb)
  replace g0 := Lib.hid (g0.out.bel hb)
  replace g1 := Lib.hid (g1.out.bel hb)
  replace bb := Lib.hid (bb.out.trans (hb.mono bb.out.size))
  clear hb
  go_wp2_with fail
  refine (to_any a0 n0 c0 x0 _ h0.out (by omega)).mono ?_
  rintro e w7 ⟨⟨gw7, rfl, hgw7, ho⟩, hb⟩
  have szw7 := hb.size
  replace h0 := Lib.hid (h0.out.bel hb)
  replace h1 := Lib.hid (h1.out.bel hb)
  replace g0 := Lib.hid (g0.out.bel hb)
  replace g1 := Lib.hid (g1.out.bel hb)
  replace bb := Lib.hid (bb.out.trans (hb.mono bb.out.size))
  clear hb
  have t0 := Lib.hid ho.row
  clear ho
  go_wp2_with fail
  refine (eq_yes _ _ _ _ _ x0 _ g0.out t0.out (by omega)).mono ?_
  rintro e w8 ⟨rfl, hb⟩
  have szw8 := hb.size
  replace h0 := Lib.hid (h0.out.bel hb)
  replace h1 := Lib.hid (h1.out.bel hb)
  replace g0 := Lib.hid (g0.out.bel hb)
  replace g1 := Lib.hid (g1.out.bel hb)
  replace t0 := Lib.hid (t0.out.bel hb)
  replace bb := Lib.hid (bb.out.trans (hb.mono bb.out.size))
  clear hb
  clear t0
  go_wp2_with fail
  refine (to_any a1 n1 c1 x1 _ h1.out (by omega)).mono ?_
  rintro e w9 ⟨⟨gw9, rfl, hgw9, ho⟩, hb⟩
  have szw9 := hb.size
  replace h0 := Lib.hid (h0.out.bel hb)
  replace h1 := Lib.hid (h1.out.bel hb)
  replace g0 := Lib.hid (g0.out.bel hb)
  replace g1 := Lib.hid (g1.out.bel hb)
  replace bb := Lib.hid (bb.out.trans (hb.mono bb.out.size))
  clear hb
  have t1 := Lib.hid ho.row
  clear ho
  go_wp2_with fail
  refine (eq_yes _ _ _ _ _ x1 _ g1.out t1.out (by omega)).mono ?_
  rintro e w10 ⟨rfl, hb⟩
  have szw10 := hb.size
  replace h0 := Lib.hid (h0.out.bel hb)
  replace h1 := Lib.hid (h1.out.bel hb)
  replace g0 := Lib.hid (g0.out.bel hb)
  replace g1 := Lib.hid (g1.out.bel hb)
  replace t1 := Lib.hid (t1.out.bel hb)
  replace bb := Lib.hid (bb.out.trans (hb.mono bb.out.size))
  clear hb
  clear t1
  go_wp2_with fail
  go_ret
  exact ⟨rfl, bb.out⟩

set_option maxRecDepth 100000 in
theorem lifted (os : Os) (started : os.Started) (H : Type) (enc : TypeId × Value → H) :
    ReturnsInHanded {} Try.checked os 15 .any (Rows.fnExactSumsCountSpec.pre6 enc Try.prog Try.f15 Rows.fnExactSumsCountRow.domain false) (Rows.fnExactSumsCountSpec.post enc Try.prog Try.f15 false true false false) := by
  refine returnsInHanded_of_change (C := Try.checked) own started (by kernel_rfl) Try.func15
    (ChangeSpec.witness6 (enc := enc) (C := Try.checked) false ⟨#[], #[.slice none 0 0, .slice none 0 0], []⟩ 8 (by kernel_rfl) (by kernel_rfl) (by kernel_rfl) (by kernel_rfl)) ?_
  intro W base args ds gs before hval0 hW hcnd _
  have hval : ∀ (j : Nat) t v, Try.f15.params[j]? = some t → args[j]? = some v → Value.okWide Try.prog W .any base t v := hval0
  have hW' := hW
  obtain ⟨p, q, hA0, hV, rfl, hfz, hnd⟩ := hW
  have hA : DataW.TrodAll enc Try.prog W 0 (fun _ => true) true Try.f15.params.toList args.toList ds p := hA0
  rw [Try.params15] at hA hval
  obtain ⟨v0, vs0, d0, ds0, p0, q0, hargs, rfl, rfl, h0, r0⟩ := trodAll_cons hA
  obtain ⟨v1, vs1, d1, ds1, p1, q1, rfl, rfl, rfl, h1, r1⟩ := trodAll_cons r0
  obtain ⟨rfl, rfl, rfl⟩ := trodAll_nil r1
  obtain rfl : args = #[v0, v1] := by cases args; simp_all
  obtain ⟨rfl, rfl⟩ := trodVars_none hV
  have k0 := h0
  have lt0 : ∀ x ∈ p0, x.block < W.heap.size := by obtain ⟨m, hm⟩ := k0; exact DataW.trod_lt m _ _ _ hm
  obtain ⟨a0, len0, cap0, z0, rfl, w0, m0⟩ := open_list (hval 0 23 v0 rfl rfl) h0
  have k1 := h1
  have lt1 : ∀ x ∈ p1, x.block < W.heap.size := by obtain ⟨m, hm⟩ := k1; exact DataW.trod_lt m _ _ _ hm
  obtain ⟨a1, len1, cap1, z1, rfl, w1, m1⟩ := open_list (hval 1 23 v1 rfl rfl) h1
  clear hA0 hval0
  refine (walk a0 len0 cap0 z0 a1 len1 cap1 z1 W w0 m0 w1 m1).mono fun e W' ⟨he, bel⟩ => ?_
  subst he
  exact ⟨_, rfl, _, _, _, [], _, [], hW', trodAll_mk1 (shut_bool Try.underlying4 _), (trodAll_cons_mk (Below.trod laidOut (by kernel_rfl) (of_decide_eq_true (by kernel_rfl)) k0 bel lt0) (trodAll_cons_mk (Below.trod laidOut (by kernel_rfl) (of_decide_eq_true (by kernel_rfl)) k1 bel lt1) trodAll_mk0)), rfl, bel.frame _, fun h => by cases h⟩

theorem closed : joinedFacts Try.prog 15 Try.f15 Rows.fnExactSumsCountSpec Rows.fnExactSumsCountRow = true := by
  simp only [joinedFacts, Bool.and_eq_true]
  repeat' apply And.intro
  all_goals first | with_reducible exact mayEnterOk | (with_reducible rw [liftsFinalOk]; kernel_rfl) | (with_reducible rw [makeOk]; kernel_rfl) | kernel_rfl

theorem over : Rows.fnExactSumsCountRow.holds Try.pinned (OpenSpec.ofChange Rows.fnExactSumsCountSpec) :=
  OpenClaim.holds_of_wide 15 Try.f15 rfl rfl rfl rfl rfl rfl rfl ⟨rfl, rfl, rfl, rfl, rfl⟩ rfl rfl rfl rfl rfl (by kernel_rfl) Try.func15 closed
    (of_decide_eq_true (by kernel_rfl)) (by unfold Func.isWrapper; first | (rw [if_pos (by decide +kernel)]; kernel_rfl) | (rw [if_neg (by decide +kernel)]; exact ⟨rfl, rfl⟩))
    (fun os started H enc _ => lifted os started H enc)

theorem proved : Rows.FnExactSumsCountSaid := over
#print axioms proved
end Go.Proofs.Ytmfncheimmcobaa.LSumsCount

