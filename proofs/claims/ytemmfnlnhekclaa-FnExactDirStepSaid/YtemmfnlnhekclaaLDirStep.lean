/-
  For all integers the law FnExactDirStep answers true, and nothing that was there is written; no condition.
-/
import Derived.Test.YtemmfnlnhekclaaF
import Derived.Test.YtemmfnlnhekclaaG
import Derived.Test.YtemmfnlnhekclaaZe
import Derived.Test.YtemmfnlnhekclaaZf
namespace Go.Proofs.Ytemmfnlnhekclaa.LDirStep
open Go.ChangeShapes Go.WideShapes Go.ChangeAt Go.RowKit Go.Joins

set_option maxHeartbeats 1000000 in
theorem walk (D : Int) (w : World) :
    Calls Try.prog 15 #[.int .i64 D] w fun e w' => e = .returned (.bool true) ∧ Below w.heap.size w w' := by
  have bb : Hid (Below w.heap.size w w) := Below.refl _ _
  by_cases hh : 0 ≤ D ∧ D ≤ 7
  case neg =>
    go_enter Try.func15, Try.ntmps15
    go_wp2_with fail
    refine (sstep_no hh _).mono ?_
    rintro e w2 ⟨rfl, hb⟩
    have szw2 := hb.size
    replace bb := Lib.hid (bb.out.trans (hb.mono bb.out.size))
    clear hb
    go_wp2_with fail
    refine (dstep_no hh _).mono ?_
    rintro e w3 ⟨rfl, hb⟩
    have szw3 := hb.size
    replace bb := Lib.hid (bb.out.trans (hb.mono bb.out.size))
    clear hb
    go_wp2_with fail
    go_ret
    exact ⟨rfl, bb.out⟩
  obtain ⟨d, rfl⟩ := Int.eq_ofNat_of_zero_le hh.1
  have hd : d < 8 := by omega
  have hxy := dXY hd
  have cS := Lib.hid (fun wx => sstep_ok hd wx)
  have cI := Lib.hid (fun wx => dstep_ok hd wx)
  generalize dX d = X at *
  generalize dY d = Y at *
  clear hh
  go_enter Try.func15, Try.ntmps15
  go_wp2_with fail
  refine (cS.out _).mono ?_
  rintro e w4 ⟨rfl, hb⟩
  have szw4 := hb.size
  replace bb := Lib.hid (bb.out.trans (hb.mono bb.out.size))
  clear hb
  go_wp2_with fail
  refine (cI.out _).mono ?_
  rintro e w5 ⟨rfl, hb⟩
  have szw5 := hb.size
  replace bb := Lib.hid (bb.out.trans (hb.mono bb.out.size))
  clear hb
  go_wp2_with fail
  go_ret
  exact ⟨rfl, bb.out⟩

set_option maxRecDepth 100000 in
theorem lifted (os : Os) (started : os.Started) (H : Type) (enc : TypeId × Value → H) :
    ReturnsInHanded {} Try.checked os 15 .any (Rows.fnExactDirStepSpec.pre6 enc Try.prog Try.f15 Rows.fnExactDirStepRow.domain false) (Rows.fnExactDirStepSpec.post enc Try.prog Try.f15 false true false false) := by
  refine returnsInHanded_of_change (C := Try.checked) own started (by kernel_rfl) Try.func15
    (ChangeSpec.witness6 (enc := enc) (C := Try.checked) false ⟨#[], #[.int .i64 0], []⟩ 8 (by kernel_rfl) (by kernel_rfl) (by kernel_rfl) (by kernel_rfl)) ?_
  intro W base args ds gs before hval0 hW hcnd _
  have hval : ∀ (j : Nat) t v, Try.f15.params[j]? = some t → args[j]? = some v → Value.okWide Try.prog W .any base t v := hval0
  have hW' := hW
  obtain ⟨p, q, hA0, hV, rfl, hfz, hnd⟩ := hW
  have hA : DataW.TrodAll enc Try.prog W 0 (fun _ => true) true Try.f15.params.toList args.toList ds p := hA0
  rw [Try.params15] at hA hval
  obtain ⟨v0, vs0, d0, ds0, p0, q0, hargs, rfl, rfl, h0, r0⟩ := trodAll_cons hA
  obtain ⟨rfl, rfl, rfl⟩ := trodAll_nil r0
  obtain rfl : args = #[v0] := by cases args; simp_all
  obtain ⟨rfl, rfl⟩ := trodVars_none hV
  obtain ⟨i0, rfl, rfl, rfl, w0⟩ := open_int Try.underlying3 (hval 0 3 v0 rfl rfl) h0
  clear hA0 hval0
  refine (walk i0 W ).mono fun e W' ⟨he, bel⟩ => ?_
  subst he
  exact ⟨_, rfl, _, _, _, [], _, [], hW', trodAll_mk1 (shut_bool Try.underlying4 _), (trodAll_cons_mk (shut_int Try.underlying3 w0) trodAll_mk0), rfl, bel.frame _, fun h => by cases h⟩

theorem closed : joinedFacts Try.prog 15 Try.f15 Rows.fnExactDirStepSpec Rows.fnExactDirStepRow = true := by
  simp only [joinedFacts, Bool.and_eq_true]
  repeat' apply And.intro
  all_goals first | with_reducible exact mayEnterOk | (with_reducible rw [liftsFinalOk]; kernel_rfl) | (with_reducible rw [makeOk]; kernel_rfl) | kernel_rfl

theorem over : Rows.fnExactDirStepRow.holds Try.pinned (OpenSpec.ofChange Rows.fnExactDirStepSpec) :=
  OpenClaim.holds_of_wide 15 Try.f15 rfl rfl rfl rfl rfl rfl rfl ⟨rfl, rfl, rfl, rfl, rfl⟩ rfl rfl rfl rfl rfl (by kernel_rfl) Try.func15 closed
    (of_decide_eq_true (by kernel_rfl)) (by unfold Func.isWrapper; first | (rw [if_pos (by decide +kernel)]; kernel_rfl) | (rw [if_neg (by decide +kernel)]; exact ⟨rfl, rfl⟩))
    (fun os started H enc _ => lifted os started H enc)

theorem proved : Rows.FnExactDirStepSaid := over
#print axioms proved
end Go.Proofs.Ytemmfnlnhekclaa.LDirStep

