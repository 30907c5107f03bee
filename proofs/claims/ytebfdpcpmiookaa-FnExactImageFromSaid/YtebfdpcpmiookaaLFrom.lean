/-
  For every string the law on ImageFrom answers true, and nothing that was there is written; no condition.
-/
import Derived.Test.YtebfdpcpmiookaaF
import Derived.Test.YtebfdpcpmiookaaG
import Derived.Test.YtebfdpcpmiookaaK
import Derived.Test.YtebfdpcpmiookaaFi
import Derived.Test.YtebfdpcpmiookaaFs
import Derived.ChangeMaps5
namespace Go.Proofs.Ytebfdpcpmiookaa.LFrom
open Go.ChangeShapes Go.WideShapes Go.ChangeAt Go.RowKit Go.Joins

theorem out_len (l : List UInt8) : (fromOut l).xs.length ≤ l.length := by
  unfold fromOut
  split
  · exact (parse_bd l l.length).2.2
  · exact Nat.zero_le _
/-- The middle of the law: the boxes of what is wanted and of what was given. -/
structure Sf (w W' : World) (hw hg : Nat) (R : Out) (aw : Option Addr) (cw BG : Nat) (ag : Option Addr) (cg : Nat) (gc : List Int) : Prop where
  w0 : W'.cell? ⟨hw, 0, none⟩ = some (.int .i64 R.W)
  w1 : W'.cell? ⟨hw, 1, none⟩ = some (.slice aw R.xs.length cw)
  g0 : W'.cell? ⟨hg, 0, none⟩ = some (.int .i64 R.W)
  g1 : W'.cell? ⟨hg, 1, none⟩ = some (.slice ag R.xs.length cg)
  rw : Row W' aw R.xs.length R.xs
  og : OwnI W' BG ag R.xs.length cg gc
  bel : Below w.heap.size w W'
  fw : ∀ b off, aw = some ⟨b, off, none⟩ → 0 < R.xs.length → b < BG
  n1 : hw < BG ∧ w.heap.size ≤ BG
  n2 : ∀ g, ag = some ⟨g, 0, none⟩ → hg ≠ g
theorem Sf.move {w W' W'' : World} {hw hg : Nat} {R : Out} {aw : Option Addr} {cw BG : Nat} {ag : Option Addr} {cg : Nat} {gc : List Int} (S : Sf w W' hw hg R aw cw BG ag cg gc) (hb : Below W'.heap.size W' W'') : Sf w W'' hw hg R aw cw BG ag cg gc :=
  ⟨kept hb (block_lt S.w0) S.w0, kept hb (block_lt S.w1) S.w1, kept hb (block_lt S.g0) S.g0, kept hb (block_lt S.g1) S.g1, S.rw.bel hb, S.og.bel hb, S.bel.trans (hb.mono S.bel.size), S.fw, S.n1, S.n2⟩
theorem Sf.markg {w W' W'' : World} {hw hg : Nat} {R : Out} {aw : Option Addr} {cw BG : Nat} {ag : Option Addr} {cg : Nat} {gc ys : List Int} (S : Sf w W' hw hg R aw cw BG ag cg gc) (h : W'.grownBy W'' (rowOf ag)) (ho : OwnI W'' BG ag R.xs.length cg ys) : Sf w W'' hw hg R aw cw BG ag cg ys := by
  have n1 := S.n1
  have hr := rowOf_own S.og
  have ne : ∀ k, k < BG → some k ≠ rowOf ag := fun k hk e => by have := (hr k e).2; omega
  have nh : some hg ≠ rowOf ag := fun e => S.n2 hg (hr hg e).1 rfl
  have hB : Below w.heap.size w W'' := by
    refine S.bel.grown h S.bel.size fun k hk => ?_
    have := (hr k hk.symm).2
    omega
  exact ⟨h.cell S.w0 (ne hw (by omega)), h.cell S.w1 (ne hw (by omega)), h.cell S.g0 nh, h.cell S.g1 nh, S.rw.apart h (fun b off e hl => ne _ (S.fw b off e hl)), ho, hB, S.fw, S.n1, S.n2⟩

set_option maxHeartbeats 1000000 in
theorem walk (s : ByteArray) (w : World) (hs : s.size ≤ maxLen) :
    Calls Try.prog 12 #[.string s] w fun e w' => e = .returned (.bool true) ∧ Below w.heap.size w w' := by
  unfold maxLen at hs
  by_cases hbig : 1048576 < s.size
  · go_enter Try.func12, Try.ntmps12
    go_wp2_with fail
    go_ret
    exact ⟨rfl, Below.refl _ _⟩
  obtain ⟨R, hRe⟩ : ∃ R : Out, R = fromOut s.data.toList := ⟨_, rfl⟩
  have hR : R.xs.length ≤ 1048576 := by rw [hRe]; have := out_len s.data.toList; have e : s.data.toList.length = s.size := by simp
                                        omega
  have DS : Hid (∀ w : World, Calls Try.prog 31 #[.string s] w (Gives w R)) := by
    intro w; rw [hRe]; exact from_spec s w (by omega)
  have DI : Hid (∀ w : World, Calls Try.prog 27 #[.string s] w (Gives w R)) := by
    intro w; rw [hRe]; exact from_impl s w (by omega)
  clear hRe
  go_enter Try.func12, Try.ntmps12
  go_wp2_with fail
  refine (DS.out _).mono ?_
  rintro e w1 ⟨⟨aw, cw, rfl, ow⟩, hb1⟩
  have s1 := hb1.size
  have ow := Lib.hid ow
  have hb1 := Lib.hid hb1
  go_wp2_with fail
  refine (DI.out _).mono ?_
  rintro e w2 ⟨⟨ag, cg, rfl, og⟩, hb2⟩
  have s2 := hb2.size
  have z2 : w1.heap.size < w2.heap.size := by simp at s2; omega
  have hn : ∀ g, ag = some ⟨g, 0, none⟩ → w2.heap.size ≠ g := fun g e => by subst e; have := own_lt og; omega
  have S : Hid (Sf w (w2.alloc (.cells #[.int .i64 R.W, .slice ag R.xs.length cg] 25)) w1.heap.size w2.heap.size R aw cw (w1.heap.size + 1) ag cg R.xs) := by
    have c0 : w2.cell? ⟨w1.heap.size, 0, none⟩ = some (.int .i64 R.W) := kept hb2 (by simp) (by simp)
    have c1 : w2.cell? ⟨w1.heap.size, 1, none⟩ = some (.slice aw R.xs.length cw) := kept hb2 (by simp) (by simp)
    have bb : Below w.heap.size w w2 := (hb1.out.alloc s1 _).trans (hb2.mono (by simp; omega))
    exact ⟨World.cell?_alloc_some c0, World.cell?_alloc_some c1, by simp, by simp, ((ow.out.row.alloc _).bel hb2).alloc _, by simpa using og.bel ((Below.refl _ _).alloc (Nat.le_refl _) _), bb.alloc bb.size _, fun b off e hl => by have := row_lt ow.out.row b off e hl; omega, ⟨by omega, by omega⟩, hn⟩
  clear hb1 ow hb2 og hn
  have w0 := S.out.w0
  have w1' := S.out.w1
  have g0 := S.out.g0
  have g1 := S.out.g1
  go_wp2_with fail
  refine (eqImage_yes _ _ _ _ _ _ R.xs _ S.out.og.row S.out.rw (by omega)).mono ?_
  rintro e w7 ⟨rfl, hb⟩
  have S := Lib.hid (S.out.move hb)
  clear hb g0 g1 w0 w1'
  have g0 := S.out.g0
  have g1 := S.out.g1
  go_wp2_with fail
  refine (markImage_own _ _ _ _ _ R.xs 1 _ S.out.og hR (by omega) (by omega)).mono ?_
  rintro e w11 ⟨rfl, hgr, ho⟩
  have S := Lib.hid (S.out.markg hgr ho)
  clear hgr ho g0 g1
  have g0 := S.out.g0
  have g1 := S.out.g1
  go_wp2_with fail
  refine (heldImage_any _ _ _ _ 1 _ S.out.og.row hR (by omega) (by omega)).mono ?_
  rintro e w12 ⟨rfl, hb⟩
  have S := Lib.hid (S.out.move hb)
  clear hb g0 g1
  go_wp2_with fail
  refine (DI.out _).mono ?_
  rintro e w14 ⟨⟨ah, ch, rfl, oh⟩, hb⟩
  have S := Lib.hid (S.out.move hb)
  have w0 := S.out.w0
  have w1' := S.out.w1
  have q1 : w1.heap.size < w14.heap.size := block_lt w0
  have q2 : w2.heap.size < w14.heap.size := block_lt S.out.g0
  clear hb
  have oh := Lib.hid oh
  go_wp2_with fail
  have S := Lib.hid (S.out.move ((Below.refl _ _).alloc (Nat.le_refl _) (.cells #[.int .i64 R.W, .slice ah R.xs.length ch] 25)))
  refine (eqImage_yes _ _ _ _ _ _ R.xs _ (oh.out.row.alloc _) S.out.rw (by omega)).mono ?_
  rintro e w15 ⟨rfl, hb⟩
  have S := Lib.hid (S.out.move hb)
  clear hb w0 w1' oh q1 q2
  have g0 := S.out.g0
  have g1 := S.out.g1
  go_wp2_with fail
  refine (heldImage_any _ _ _ _ 1 _ S.out.og.row hR (by omega) (by omega)).mono ?_
  rintro e w16 ⟨rfl, hb⟩
  have S := Lib.hid (S.out.move hb)
  clear hb g0 g1
  go_wp2_with fail
  go_ret
  exact ⟨rfl, S.out.bel⟩

set_option maxRecDepth 100000 in
theorem lifted (os : Os) (started : os.Started) (H : Type) (enc : TypeId × Value → H) :
    ReturnsInHanded {} Try.checked os 12 .any (Rows.fnExactImageFromSpec.pre6 enc Try.prog Try.f12 Rows.fnExactImageFromRow.domain false) (Rows.fnExactImageFromSpec.post enc Try.prog Try.f12 false true false false) := by
  refine returnsInHanded_of_change (C := Try.checked) own started (by kernel_rfl) Try.func12
    (ChangeSpec.witness6 (enc := enc) (C := Try.checked) false ⟨#[], #[.string ByteArray.empty], []⟩ 8 (by kernel_rfl) (by kernel_rfl) (by kernel_rfl) (by kernel_rfl)) ?_
  intro W base args ds gs before hval0 hW hcnd _
  have hval : ∀ (j : Nat) t v, Try.f12.params[j]? = some t → args[j]? = some v → Value.okWide Try.prog W .any base t v := hval0
  have hW' := hW
  obtain ⟨p, q, hA0, hV, rfl, hfz, hnd⟩ := hW
  have hA : DataW.TrodAll enc Try.prog W 0 (fun _ => true) true Try.f12.params.toList args.toList ds p := hA0
  rw [Try.params12] at hA hval
  obtain ⟨v0, vs0, d0, ds0, p0, q0, hargs, rfl, rfl, h0, r0⟩ := trodAll_cons hA
  obtain ⟨rfl, rfl, rfl⟩ := trodAll_nil r0
  obtain rfl : args = #[v0] := by cases args; simp_all
  obtain ⟨rfl, rfl⟩ := trodVars_none hV
  obtain ⟨s0, rfl, rfl, rfl, w0⟩ := Go.ChangeMaps.open_string Try.underlying9 (hval 0 9 v0 rfl rfl) h0
  clear hA0 hval0
  refine (walk s0 W w0).mono fun e W' ⟨he, bel⟩ => ?_
  subst he
  exact ⟨_, rfl, _, _, _, [], _, [], hW', trodAll_mk1 (shut_bool Try.underlying4 _), (trodAll_cons_mk (Go.ChangeMaps.shut_string Try.underlying9 w0) trodAll_mk0), rfl, bel.frame _, fun h => by cases h⟩

theorem closed : joinedFacts Try.prog 12 Try.f12 Rows.fnExactImageFromSpec Rows.fnExactImageFromRow = true := by
  simp only [joinedFacts, Bool.and_eq_true]
  repeat' apply And.intro
  all_goals first | with_reducible exact mayEnterOk | (with_reducible rw [liftsFinalOk]; kernel_rfl) | (with_reducible rw [makeOk]; kernel_rfl) | kernel_rfl

theorem over : Rows.fnExactImageFromRow.holds Try.pinned (OpenSpec.ofChange Rows.fnExactImageFromSpec) :=
  OpenClaim.holds_of_wide 12 Try.f12 rfl rfl rfl rfl rfl rfl rfl ⟨rfl, rfl, rfl, rfl, rfl⟩ rfl rfl rfl rfl rfl (by kernel_rfl) Try.func12 closed
    (of_decide_eq_true (by kernel_rfl)) (by unfold Func.isWrapper; first | (rw [if_pos (by decide +kernel)]; kernel_rfl) | (rw [if_neg (by decide +kernel)]; exact ⟨rfl, rfl⟩))
    (fun os started H enc _ => lifted os started H enc)

theorem proved : Rows.FnExactImageFromSaid := over
#print axioms proved
end Go.Proofs.Ytebfdpcpmiookaa.LFrom

