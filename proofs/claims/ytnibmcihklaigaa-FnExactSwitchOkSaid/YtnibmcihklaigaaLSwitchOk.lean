/-
  For every image and every switch the law on SwitchOk answers true, and nothing that was there is written; no condition.
-/
import Derived.Test.YtnibmcihklaigaaF
import Derived.Test.YtnibmcihklaigaaG
import Derived.Test.YtnibmcihklaigaaKk
import Derived.Test.YtnibmcihklaigaaRa
namespace Go.Proofs.Ytnibmcihklaigaa.LSwitchOk
set_option maxRecDepth 100000
open Go.ChangeShapes Go.WideShapes Go.ChangeAt Go.RowKit Go.Joins

theorem held6_1 {V W W' : World} {p0 p1 p2 p3 p4 p5 : Addr} {u0 u1 u2 u3 u4 u5 : Value} {a0 : Option Addr} {n0 : Nat} {x0 : List Int} (h : W.cell? p0 = some u0 ∧ W.cell? p1 = some u1 ∧ W.cell? p2 = some u2 ∧ W.cell? p3 = some u3 ∧ W.cell? p4 = some u4 ∧ W.cell? p5 = some u5 ∧ Row W a0 n0 x0 ∧ Below V.heap.size V W) (hb : Below W.heap.size W W') : W'.cell? p0 = some u0 ∧ W'.cell? p1 = some u1 ∧ W'.cell? p2 = some u2 ∧ W'.cell? p3 = some u3 ∧ W'.cell? p4 = some u4 ∧ W'.cell? p5 = some u5 ∧ Row W' a0 n0 x0 ∧ Below V.heap.size V W' := by
  obtain ⟨h0, h1, h2, h3, h4, h5, r0, b⟩ := h
  exact ⟨kept hb (block_lt h0) h0, kept hb (block_lt h1) h1, kept hb (block_lt h2) h2, kept hb (block_lt h3) h3, kept hb (block_lt h4) h4, kept hb (block_lt h5) h5, r0.bel hb, b.trans (hb.mono b.size)⟩
theorem held4_2 {V W W' : World} {p0 p1 p2 p3 : Addr} {u0 u1 u2 u3 : Value} {a0 : Option Addr} {n0 : Nat} {x0 : List Int} {a1 : Option Addr} {n1 : Nat} {x1 : List Int} (h : W.cell? p0 = some u0 ∧ W.cell? p1 = some u1 ∧ W.cell? p2 = some u2 ∧ W.cell? p3 = some u3 ∧ Row W a0 n0 x0 ∧ Row W a1 n1 x1 ∧ Below V.heap.size V W) (hb : Below W.heap.size W W') : W'.cell? p0 = some u0 ∧ W'.cell? p1 = some u1 ∧ W'.cell? p2 = some u2 ∧ W'.cell? p3 = some u3 ∧ Row W' a0 n0 x0 ∧ Row W' a1 n1 x1 ∧ Below V.heap.size V W' := by
  obtain ⟨h0, h1, h2, h3, r0, r1, b⟩ := h
  exact ⟨kept hb (block_lt h0) h0, kept hb (block_lt h1) h1, kept hb (block_lt h2) h2, kept hb (block_lt h3) h3, r0.bel hb, r1.bel hb, b.trans (hb.mono b.size)⟩

set_option maxHeartbeats 4000000 in
theorem walk (W : Int) (a : Option Addr) (n c : Nat) (xs : List Int) (A B C D : Int) (w : World) (h : Row w a n xs) (hm : n ≤ 9223372036854775807) :
    Calls Try.prog 17 #[.agg #[.int .i64 W, .slice a n c], .agg #[.int .i64 A, .int .i64 B, .int .i64 C, .int .i64 D]] w fun e w' => e = .returned (.bool true) ∧ Below w.heap.size w w' := by
  obtain ⟨R, hRe⟩ : ∃ R, okB W xs A B C D = R := ⟨_, rfl⟩
  have CS : ∀ (a : Option Addr) (c : Nat) (w : World), Row w a n xs → Calls Try.prog 36 #[.agg #[.int .i64 W, .slice a n c], .agg #[.int .i64 A, .int .i64 B, .int .i64 C, .int .i64 D]] w (fun e w' => e = .returned (.bool R) ∧ Below w.heap.size w w') := by
    intro a c w h; rw [← hRe]; exact swok_spec _ _ _ _ _ _ _ _ _ _ h hm
  have CI : ∀ (a : Option Addr) (c : Nat) (w : World), Row w a n xs → Calls Try.prog 34 #[.agg #[.int .i64 W, .slice a n c], .agg #[.int .i64 A, .int .i64 B, .int .i64 C, .int .i64 D]] w (fun e w' => e = .returned (.bool R) ∧ Below w.heap.size w w') := by
    intro a c w h; rw [← hRe]; exact swok_impl _ _ _ _ _ _ _ _ _ _ h hm
  have DS := Lib.hid CS
  have DI := Lib.hid CI
  clear CS CI hRe
  replace h := Lib.hid h
  have bb : Hid (Below w.heap.size w w) := Below.refl _ _
  obtain ⟨w0, hw0⟩ : ∃ w0, w0 = (w.alloc (.cells #[.int .i64 W, .slice a n c] 47)).alloc (.cells #[.int .i64 A, .int .i64 B, .int .i64 C, .int .i64 D] 48) := ⟨_, rfl⟩
  have hb0 : Below w.heap.size w w0 := by subst hw0; exact ((Below.refl _ _).alloc (Nat.le_refl _) _).alloc (by simp) _
  have p0 : w0.cell? ⟨w.heap.size, 0, none⟩ = some (.int .i64 W) := by subst hw0; go_simp
  have p1 : w0.cell? ⟨w.heap.size, 1, none⟩ = some (.slice a n c) := by subst hw0; go_simp
  have s0 : w0.cell? ⟨w.heap.size + 1, 0, none⟩ = some (.int .i64 A) := by subst hw0; go_simp
  have s1 : w0.cell? ⟨w.heap.size + 1, 1, none⟩ = some (.int .i64 B) := by subst hw0; go_simp
  have s2 : w0.cell? ⟨w.heap.size + 1, 2, none⟩ = some (.int .i64 C) := by subst hw0; go_simp
  have s3 : w0.cell? ⟨w.heap.size + 1, 3, none⟩ = some (.int .i64 D) := by subst hw0; go_simp
  replace h := Lib.hid (h.out.bel hb0)
  replace bb := Lib.hid (bb.out.trans (hb0.mono bb.out.size))
  clear hb0
  go_enter Try.func17, Try.ntmps17
  go_wp2_with fail
  rw [← hw0]
  clear hw0
  refine (szImage_any _ _ _ _ (1048576) _ hm (by omega) (by omega)).mono ?_
  rintro e w1 ⟨rfl, hb⟩
  have szw1 := hb.size
  replace p0 := kept hb (block_lt p0) p0
  replace p1 := kept hb (block_lt p1) p1
  replace s0 := kept hb (block_lt s0) s0
  replace s1 := kept hb (block_lt s1) s1
  replace s2 := kept hb (block_lt s2) s2
  replace s3 := kept hb (block_lt s3) s3
  replace h := Lib.hid (h.out.bel hb)
  replace bb := Lib.hid (bb.out.trans (hb.mono bb.out.size))
  clear hb
  by_cases big : 1048576 < (n : Int)
  · rw [if_pos big]
    go_wp2_with fail
    go_ret
    exact ⟨rfl, bb.out⟩
  rw [if_neg big]
  go_wp2_with fail
  have h_ := h.out
  have tok0 : True := trivial
  go_region_held3 (fun W' => W'.cell? ⟨w.heap.size, 0, none⟩ = some (.int .i64 W) ∧ W'.cell? ⟨w.heap.size, 1, none⟩ = some (.slice a n c) ∧ W'.cell? ⟨w.heap.size + 1, 0, none⟩ = some (.int .i64 A) ∧ W'.cell? ⟨w.heap.size + 1, 1, none⟩ = some (.int .i64 B) ∧ W'.cell? ⟨w.heap.size + 1, 2, none⟩ = some (.int .i64 C) ∧ W'.cell? ⟨w.heap.size + 1, 3, none⟩ = some (.int .i64 D) ∧ Row W' a n xs ∧ Below w1.heap.size w1 W')
    (first | exact held6_1 ⟨p0, p1, s0, s1, s2, s3, h_, Below.refl _ _⟩ ((Below.refl _ _).drew) | (refine held6_1 ?_ (by assumption); assumption))
    (first | (go_at_call 55; have _t := tok0; have hS := ‹_ ∧ _ ∧ _ ∧ _ ∧ _ ∧ _ ∧ Row _ _ _ _ ∧ Below _ _ _›; refine (toImage_any W a n c xs _ (hS.2.2.2.2.2.2.1) (by omega)).mono ?_; rintro e w2 ⟨⟨g6, rfl, hg6, ho6⟩, hb6⟩; have r6 := Lib.hid ho6.row; clear hS tok0 _t; have tok1 : True := trivial) | (go_at_call 56; have _t := tok1; have hS := ‹_ ∧ _ ∧ _ ∧ _ ∧ _ ∧ _ ∧ Row _ _ _ _ ∧ Below _ _ _›; refine (toSwitch_any A B C D _).mono ?_; rintro e w3 ⟨rfl, hb7⟩; replace r6 := Lib.hid (r6.out.bel hb7); clear hS tok1 _t; have tok2 : True := trivial) | (go_at_call 36; have _t := tok2; have hS := ‹_ ∧ _ ∧ _ ∧ _ ∧ _ ∧ _ ∧ Row _ _ _ _ ∧ Below _ _ _›; refine (DS.out _ _ _ r6.out).mono ?_; rintro e w4 ⟨rfl, hb8⟩; clear hS tok2 _t; have tok3 : True := trivial))
  have hbl : Below w1.heap.size w1 w4 := And.right (And.right (And.right (And.right (And.right (And.right (And.right (‹w4.cell? _ = _ ∧ _›)))))))
  clear h_
  have szw4 := hbl.size
  replace p0 := kept hbl (block_lt p0) p0
  replace p1 := kept hbl (block_lt p1) p1
  replace s0 := kept hbl (block_lt s0) s0
  replace s1 := kept hbl (block_lt s1) s1
  replace s2 := kept hbl (block_lt s2) s2
  replace s3 := kept hbl (block_lt s3) s3
  replace h := Lib.hid (h.out.bel hbl)
  replace bb := Lib.hid (bb.out.trans (hbl.mono bb.out.size))
  clear hbl
  go_wp2_with fail
  refine (toImage_any W a n c xs _ h.out (by omega)).mono ?_
  rintro e w5 ⟨⟨gx, rfl, hgx, ho⟩, hb⟩
  have szw5 := hb.size
  replace p0 := kept hb (block_lt p0) p0
  replace p1 := kept hb (block_lt p1) p1
  replace s0 := kept hb (block_lt s0) s0
  replace s1 := kept hb (block_lt s1) s1
  replace s2 := kept hb (block_lt s2) s2
  replace s3 := kept hb (block_lt s3) s3
  replace h := Lib.hid (h.out.bel hb)
  replace bb := Lib.hid (bb.out.trans (hb.mono bb.out.size))
  clear hb
  have g := Lib.hid ho.row
  clear ho
  obtain ⟨z, hz⟩ : ∃ z, z = gx := ⟨_, rfl⟩
  rw [← hz]
  rw [← hz] at g hgx
  clear hz
  have hbx : Below w5.heap.size w5 (w5.alloc (.cells #[.int .i64 W, .slice (some ⟨z, 0, none⟩) n n] 25)) := (Below.refl _ _).alloc (Nat.le_refl _) _
  replace p0 := kept hbx (block_lt p0) p0
  replace p1 := kept hbx (block_lt p1) p1
  replace s0 := kept hbx (block_lt s0) s0
  replace s1 := kept hbx (block_lt s1) s1
  replace s2 := kept hbx (block_lt s2) s2
  replace s3 := kept hbx (block_lt s3) s3
  replace h := Lib.hid (h.out.bel hbx)
  replace g := Lib.hid (g.out.bel hbx)
  replace bb := Lib.hid (bb.out.trans (hbx.mono bb.out.size))
  clear hbx
  have q0 : (w5.alloc (.cells #[.int .i64 W, .slice (some ⟨z, 0, none⟩) n n] 25)).cell? ⟨w5.heap.size, 0, none⟩ = some (.int .i64 W) := by simp
  have q1 : (w5.alloc (.cells #[.int .i64 W, .slice (some ⟨z, 0, none⟩) n n] 25)).cell? ⟨w5.heap.size, 1, none⟩ = some (.slice (some ⟨z, 0, none⟩) n n) := by simp
  go_wp2_with fail
  have g_ := g.out
  have tok0 : True := trivial
  go_region_held3 (fun W' => W'.cell? ⟨w5.heap.size, 0, none⟩ = some (.int .i64 W) ∧ W'.cell? ⟨w5.heap.size, 1, none⟩ = some (.slice (some ⟨z, 0, none⟩) n n) ∧ W'.cell? ⟨w.heap.size + 1, 0, none⟩ = some (.int .i64 A) ∧ W'.cell? ⟨w.heap.size + 1, 1, none⟩ = some (.int .i64 B) ∧ W'.cell? ⟨w.heap.size + 1, 2, none⟩ = some (.int .i64 C) ∧ W'.cell? ⟨w.heap.size + 1, 3, none⟩ = some (.int .i64 D) ∧ Row W' (some ⟨z, 0, none⟩) n xs ∧ Below (w5.alloc (.cells #[.int .i64 W, .slice (some ⟨z, 0, none⟩) n n] 25)).heap.size (w5.alloc (.cells #[.int .i64 W, .slice (some ⟨z, 0, none⟩) n n] 25)) W')
    (first | exact held6_1 ⟨q0, q1, s0, s1, s2, s3, g_, Below.refl _ _⟩ ((Below.refl _ _).drew) | (refine held6_1 ?_ (by assumption); assumption))
    (first | (go_at_call 56; have _t := tok0; have hS := ‹_ ∧ _ ∧ _ ∧ _ ∧ _ ∧ _ ∧ Row _ _ _ _ ∧ Below _ _ _›; refine (toSwitch_any A B C D _).mono ?_; rintro e w6 ⟨rfl, hb7⟩; clear hS tok0 _t; have tok1 : True := trivial) | (go_at_call 34; have _t := tok1; have hS := ‹_ ∧ _ ∧ _ ∧ _ ∧ _ ∧ _ ∧ Row _ _ _ _ ∧ Below _ _ _›; refine (DI.out _ _ _ (hS.2.2.2.2.2.2.1)).mono ?_; rintro e w7 ⟨rfl, hb8⟩; clear hS tok1 _t; have tok2 : True := trivial))
  have hbl : Below (w5.alloc (.cells #[.int .i64 W, .slice (some ⟨z, 0, none⟩) n n] 25)).heap.size (w5.alloc (.cells #[.int .i64 W, .slice (some ⟨z, 0, none⟩) n n] 25)) w7 := And.right (And.right (And.right (And.right (And.right (And.right (And.right (‹w7.cell? _ = _ ∧ _›)))))))
  clear g_
  have szw7 : w5.heap.size + 1 ≤ w7.heap.size := by have := hbl.size; simpa using this
  replace p0 := kept hbl (block_lt p0) p0
  replace p1 := kept hbl (block_lt p1) p1
  replace s0 := kept hbl (block_lt s0) s0
  replace s1 := kept hbl (block_lt s1) s1
  replace s2 := kept hbl (block_lt s2) s2
  replace s3 := kept hbl (block_lt s3) s3
  replace q0 := kept hbl (block_lt q0) q0
  replace q1 := kept hbl (block_lt q1) q1
  replace h := Lib.hid (h.out.bel hbl)
  replace g := Lib.hid (g.out.bel hbl)
  replace bb := Lib.hid (bb.out.trans (hbl.mono bb.out.size))
  clear hbl
  go_wp2_with fail
  have g_ := g.out
  have h_ := h.out
  have tok0 : True := trivial
  go_region_held3 (fun W' => W'.cell? ⟨w5.heap.size, 0, none⟩ = some (.int .i64 W) ∧ W'.cell? ⟨w5.heap.size, 1, none⟩ = some (.slice (some ⟨z, 0, none⟩) n n) ∧ W'.cell? ⟨w.heap.size, 0, none⟩ = some (.int .i64 W) ∧ W'.cell? ⟨w.heap.size, 1, none⟩ = some (.slice a n c) ∧ Row W' (some ⟨z, 0, none⟩) n xs ∧ Row W' a n xs ∧ Below w7.heap.size w7 W')
    (first | exact held4_2 ⟨q0, q1, p0, p1, g_, h_, Below.refl _ _⟩ ((Below.refl _ _).drew) | (refine held4_2 ?_ (by assumption); assumption))
    (first | (go_at_call 55; have _t := tok0; have hS := ‹_ ∧ _ ∧ _ ∧ _ ∧ Row _ _ _ _ ∧ Row _ _ _ _ ∧ Below _ _ _›; refine (toImage_any W a n c xs _ (hS.2.2.2.2.2.1) (by omega)).mono ?_; rintro e w8 ⟨⟨g6, rfl, hg6, ho6⟩, hb6⟩; have r6 := Lib.hid ho6.row; clear hS tok0 _t; have tok1 : True := trivial) | (go_at_call 57; have _t := tok1; have hS := ‹_ ∧ _ ∧ _ ∧ _ ∧ Row _ _ _ _ ∧ Row _ _ _ _ ∧ Below _ _ _›; refine (eqImage_yes _ _ _ _ _ _ xs _ (hS.2.2.2.2.1) r6.out (by omega)).mono ?_; rintro e w9 ⟨rfl, hb8⟩; clear hS tok1 _t; have tok2 : True := trivial))
  have hbl : Below w7.heap.size w7 w9 := And.right (And.right (And.right (And.right (And.right (And.right (‹w9.cell? _ = _ ∧ _›))))))
  clear g_
  clear h_
  have szw9 := hbl.size
  replace p0 := kept hbl (block_lt p0) p0
  replace p1 := kept hbl (block_lt p1) p1
  replace s0 := kept hbl (block_lt s0) s0
  replace s1 := kept hbl (block_lt s1) s1
  replace s2 := kept hbl (block_lt s2) s2
  replace s3 := kept hbl (block_lt s3) s3
  replace q0 := kept hbl (block_lt q0) q0
  replace q1 := kept hbl (block_lt q1) q1
  replace h := Lib.hid (h.out.bel hbl)
  replace g := Lib.hid (g.out.bel hbl)
  replace bb := Lib.hid (bb.out.trans (hbl.mono bb.out.size))
  clear hbl
  go_wp2_with fail
  go_ret
  exact ⟨rfl, bb.out⟩

set_option maxRecDepth 100000 in
theorem lifted (os : Os) (started : os.Started) (H : Type) (enc : TypeId × Value → H) :
    ReturnsInHanded {} Try.checked os 17 .any (Rows.fnExactSwitchOkSpec.pre6 enc Try.prog Try.f17 Rows.fnExactSwitchOkRow.domain false) (Rows.fnExactSwitchOkSpec.post enc Try.prog Try.f17 false true false false) := by
  refine returnsInHanded_of_change (C := Try.checked) own started (by kernel_rfl) Try.func17
    (ChangeSpec.witness6 (enc := enc) (C := Try.checked) false ⟨#[], #[.agg #[.int .i64 0, .slice none 0 0], .agg #[.int .i64 0, .int .i64 0, .int .i64 0, .int .i64 0]], []⟩ 8 (by kernel_rfl) (by kernel_rfl) (by kernel_rfl) (by kernel_rfl)) ?_
  intro W base args ds gs before hval0 hW hcnd _
  have hval : ∀ (j : Nat) t v, Try.f17.params[j]? = some t → args[j]? = some v → Value.okWide Try.prog W .any base t v := hval0
  have hW' := hW
  obtain ⟨p, q, hA0, hV, rfl, hfz, hnd⟩ := hW
  have hA : DataW.TrodAll enc Try.prog W 0 (fun _ => true) true Try.f17.params.toList args.toList ds p := hA0
  rw [Try.params17] at hA hval
  obtain ⟨v0, vs0, d0, ds0, p0, q0, hargs, rfl, rfl, h0, r0⟩ := trodAll_cons hA
  obtain ⟨v1, vs1, d1, ds1, p1, q1, rfl, rfl, rfl, h1, r1⟩ := trodAll_cons r0
  obtain ⟨rfl, rfl, rfl⟩ := trodAll_nil r1
  obtain rfl : args = #[v0, v1] := by cases args; simp_all
  obtain ⟨rfl, rfl⟩ := trodVars_none hV
  have k0 := h0
  have lt0 : ∀ x ∈ p0, x.block < W.heap.size := by obtain ⟨m, hm⟩ := k0; exact DataW.trod_lt m _ _ _ hm
  obtain ⟨n0, a0, len0, cap0, z0, rfl, w0, m0⟩ := open_img (hval 0 47 v0 rfl rfl) h0
  have k1 := h1
  have lt1 : ∀ x ∈ p1, x.block < W.heap.size := by obtain ⟨m, hm⟩ := k1; exact DataW.trod_lt m _ _ _ hm
  obtain ⟨A1, B1, C1, D1, rfl⟩ := open_sw (hval 1 48 v1 rfl rfl) h1
  clear hA0 hval0
  refine (walk n0 a0 len0 cap0 z0 A1 B1 C1 D1 W w0 m0).mono fun e W' ⟨he, bel⟩ => ?_
  subst he
  exact ⟨_, rfl, _, _, _, [], _, [], hW', trodAll_mk1 (shut_bool Try.underlying4 _), (trodAll_cons_mk (Below.trod laidOut (by kernel_rfl) (of_decide_eq_true (by kernel_rfl)) k0 bel lt0) (trodAll_cons_mk (Below.trod laidOut (by kernel_rfl) (of_decide_eq_true (by kernel_rfl)) k1 bel lt1) trodAll_mk0)), rfl, bel.frame _, fun h => by cases h⟩

theorem closed : joinedFacts Try.prog 17 Try.f17 Rows.fnExactSwitchOkSpec Rows.fnExactSwitchOkRow = true := by
  simp only [joinedFacts, Bool.and_eq_true]
  repeat' apply And.intro
  all_goals first | with_reducible exact mayEnterOk | (with_reducible rw [liftsFinalOk]; kernel_rfl) | (with_reducible rw [makeOk]; kernel_rfl) | kernel_rfl

theorem over : Rows.fnExactSwitchOkRow.holds Try.pinned (OpenSpec.ofChange Rows.fnExactSwitchOkSpec) :=
  OpenClaim.holds_of_wide 17 Try.f17 rfl rfl rfl rfl rfl rfl rfl ⟨rfl, rfl, rfl, rfl, rfl⟩ rfl rfl rfl rfl rfl (by kernel_rfl) Try.func17 closed
    (of_decide_eq_true (by kernel_rfl)) (by unfold Func.isWrapper; first | (rw [if_pos (by decide +kernel)]; kernel_rfl) | (rw [if_neg (by decide +kernel)]; exact ⟨rfl, rfl⟩))
    (fun os started H enc _ => lifted os started H enc)

theorem proved : Rows.FnExactSwitchOkSaid := over
#print axioms proved
end Go.Proofs.Ytnibmcihklaigaa.LSwitchOk

