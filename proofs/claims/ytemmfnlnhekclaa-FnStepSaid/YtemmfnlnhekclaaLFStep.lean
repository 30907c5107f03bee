/-
  For every slice of bytes the law FnStep answers true: a step stays on its line, and leads on; nothing that was there is written; no condition.
-/
import Derived.Test.YtemmfnlnhekclaaO
import Derived.Test.YtemmfnlnhekclaaK
import Derived.Deep.RegionLaw
import Derived.Test.YtemmfnlnhekclaaZe
import Derived.Test.YtemmfnlnhekclaaZf
import Derived.Test.YtemmfnlnhekclaaZh
namespace Go.Proofs.Ytemmfnlnhekclaa.LFStep
open Go.ChangeShapes Go.WideShapes Go.ChangeAt Go.RowKit Go.Joins

theorem step_line {d : Nat} (hd : d < 8) : lnI d (2 + dY d) (1 + dX d) = lnI d 2 1 := by
  refine dir_all (P := fun d => lnI d (2 + dY d) (1 + dX d) = lnI d 2 1) ?_ ?_ ?_ ?_ ?_ ?_ ?_ ?_ hd <;> decide
theorem step_far {d : Nat} (hd : d < 8) : 1 ≤ dX d + max (dY d) (0 - dY d) := by
  refine dir_all (P := fun d => 1 ≤ dX d + max (dY d) (0 - dY d)) ?_ ?_ ?_ ?_ ?_ ?_ ?_ ?_ hd <;> decide

set_option maxHeartbeats 1000000 in
set_option maxRecDepth 100000 in
theorem walk (a : Option Addr) (len cap : Nat) (zs : List Int) (w : World) (h : Bys w a len zs) (hl : len ≤ cap) (hm : cap ≤ 9223372036854775807) :
    Calls Try.prog 3 #[.slice a len cap] w fun e w' => e = .returned (.bool true) ∧ Below w.heap.size w w' := by
  by_cases hbig : 1048576 < len
  · clear h
    go_enter Try.func3, Try.ntmps3
    go_wp2_with fail
    go_ret
    exact ⟨rfl, Below.refl _ _⟩
  go_enter Try.func3, Try.ntmps3
  go_wp2_with fail
  refine (draw_DrawDirStep a len cap zs _ h hl hm).mono ?_
  rintro e w1 ⟨D, rfl, hb1⟩
  clear h hl hm
  have bb := Lib.hid hb1
  clear hb1
  by_cases hD : 0 ≤ D ∧ D ≤ 7
  case neg =>
    go_wp2_with fail
    refine (dstep_no hD _).mono ?_
    rintro e w2 ⟨rfl, hb⟩
    have szw2 := hb.size
    replace bb := Lib.hid (bb.out.trans (hb.mono bb.out.size))
    clear hb
    go_wp2_with fail
    refine (sstep_no hD _).mono ?_
    rintro e w3 ⟨rfl, hb⟩
    have szw3 := hb.size
    replace bb := Lib.hid (bb.out.trans (hb.mono bb.out.size))
    clear hb
    go_wp2_with fail
    go_ret
    exact ⟨rfl, bb.out⟩
  obtain ⟨d, rfl⟩ := Int.eq_ofNat_of_zero_le hD.1
  have hd : d < 8 := by omega
  have hb := dXY hd
  have hst := step_line hd
  have hge := step_far hd
  have cS := Lib.hid (fun wx => dstep_ok hd wx)
  have cT := Lib.hid (fun wx => sstep_ok hd wx)
  have cA : Hid (∀ wx, Calls Try.prog 22 #[.int .i64 d, .int .i64 2, .int .i64 1] wx fun e w' => e = .returned (.tuple #[.int .i64 (lnI d 2 1), .bool true]) ∧ Below wx.heap.size wx w') := fun wx => dline_ok (i := 2) (j := 1) hd (by decide) (by decide) wx
  have cB : Hid (∀ wx, Calls Try.prog 22 #[.int .i64 d, .int .i64 (2 + dY d), .int .i64 (1 + dX d)] wx fun e w' => e = .returned (.tuple #[.int .i64 (lnI d 2 1), .bool true]) ∧ Below wx.heap.size wx w') := fun wx => by
    obtain ⟨a, ha⟩ := Int.eq_ofNat_of_zero_le (show 0 ≤ 2 + dY d by omega)
    obtain ⟨b, hb'⟩ := Int.eq_ofNat_of_zero_le (show 0 ≤ 1 + dX d by omega)
    rw [← hst, ha, hb']
    exact dline_ok hd (by omega) (by omega) wx
  obtain ⟨X, hX⟩ : ∃ X, dX d = X := ⟨_, rfl⟩
  obtain ⟨Y, hY⟩ : ∃ Y, dY d = Y := ⟨_, rfl⟩
  obtain ⟨z, hz⟩ : ∃ z, lnI d 2 1 = z := ⟨_, rfl⟩
  rw [hX, hY] at hb cS cT cB
  rw [hX, hY] at hge
  rw [hz] at cA cB
  obtain ⟨Z, hZ⟩ : ∃ Z, 0 - Y = Z := ⟨_, rfl⟩
  obtain ⟨m, hm⟩ : ∃ m, max Y (0 - Y) = m := ⟨_, rfl⟩
  rw [hm] at hge
  have hm1 : m ≤ 2 := by omega
  have hif : (if Y < Z then Z else Y) = m := by rw [← hm, ← hZ]; split <;> omega
  have hmx : ∀ ts t (wx : World), (Builtin.max_ ts t #[.int .i64 Y, .int .i64 Z]).run Try.prog wx = .ok (.int .i64 m) wx := fun ts t wx => by
    rw [← hif]; simp [Builtin.max_, Builtin.max2]
  have hm0 : 0 ≤ m := by rw [← hm]; omega
  have hZ2 : -2 ≤ Z ∧ Z ≤ 2 := by omega
  have hz5 := Lib.hid hz
  replace hX := Lib.hid hX
  replace hY := Lib.hid hY
  replace hm := Lib.hid hm
  clear hz hst hD
  go_wp2_with fail
  refine (cS.out _).mono ?_
  rintro e w4 ⟨rfl, hb⟩
  have szw4 := hb.size
  replace bb := Lib.hid (bb.out.trans (hb.mono bb.out.size))
  clear hb
  go_wp2_with fail
  refine (cT.out _).mono ?_
  rintro e w5 ⟨rfl, hb⟩
  have szw5 := hb.size
  replace bb := Lib.hid (bb.out.trans (hb.mono bb.out.size))
  clear hb
  go_wp2_with fail
  refine (cA.out _).mono ?_
  rintro e w6 ⟨rfl, hb⟩
  have szw6 := hb.size
  replace bb := Lib.hid (bb.out.trans (hb.mono bb.out.size))
  clear hb
  go_wp2_with fail
  refine (cB.out _).mono ?_
  rintro e w7 ⟨rfl, hb⟩
  have szw7 := hb.size
  replace bb := Lib.hid (bb.out.trans (hb.mono bb.out.size))
  clear hb
  go_wp2_with fail
  go_ret
  exact ⟨rfl, bb.out⟩

set_option maxRecDepth 100000 in
theorem lifted (os : Os) (started : os.Started) (H : Type) (enc : TypeId × Value → H) :
    ReturnsInHanded {} Try.checked os 3 .any (Rows.fnStepSpec.pre6 enc Try.prog Try.f3 Rows.fnStepRow.domain false) (Rows.fnStepSpec.post enc Try.prog Try.f3 false true false false) := by
  refine returnsInHanded_of_change (C := Try.checked) own started (by kernel_rfl) Try.func3
    (ChangeSpec.witness6 (enc := enc) (C := Try.checked) false ⟨#[], #[.slice none 0 0], []⟩ 8 (by kernel_rfl) (by kernel_rfl) (by kernel_rfl) (by kernel_rfl)) ?_
  intro W base args ds gs before hval0 hW hcnd _
  have hval : ∀ (j : Nat) t v, Try.f3.params[j]? = some t → args[j]? = some v → Value.okWide Try.prog W .any base t v := hval0
  have hW' := hW
  obtain ⟨p, q, hA0, hV, rfl, hfz, hnd⟩ := hW
  have hA : DataW.TrodAll enc Try.prog W 0 (fun _ => true) true Try.f3.params.toList args.toList ds p := hA0
  rw [Try.params3] at hA hval
  obtain ⟨v0, vs0, d0, ds0, p0, q0, hargs, rfl, rfl, h0, r0⟩ := trodAll_cons hA
  obtain ⟨rfl, rfl, rfl⟩ := trodAll_nil r0
  obtain rfl : args = #[v0] := by cases args; simp_all
  obtain ⟨rfl, rfl⟩ := trodVars_none hV
  have k0 := h0
  have lt0 : ∀ x ∈ p0, x.block < W.heap.size := by obtain ⟨m, hm⟩ := k0; exact DataW.trod_lt m _ _ _ hm
  obtain ⟨a0, len0, cap0, z0, rfl, w0, l0, m0⟩ := open_code (hval 0 22 v0 rfl rfl) h0
  clear hA0 hval0
  refine (walk a0 len0 cap0 z0 W w0 l0 m0).mono fun e W' ⟨he, bel⟩ => ?_
  subst he
  exact ⟨_, rfl, _, _, _, [], _, [], hW', trodAll_mk1 (shut_bool Try.underlying4 _), (trodAll_cons_mk (Below.trod laidOut (by kernel_rfl) (of_decide_eq_true (by kernel_rfl)) k0 bel lt0) trodAll_mk0), rfl, bel.frame _, fun h => by cases h⟩

theorem closed : joinedFacts Try.prog 3 Try.f3 Rows.fnStepSpec Rows.fnStepRow = true := by
  simp only [joinedFacts, Bool.and_eq_true]
  repeat' apply And.intro
  all_goals first | with_reducible exact mayEnterOk | (with_reducible rw [liftsFinalOk]; kernel_rfl) | (with_reducible rw [makeOk]; kernel_rfl) | kernel_rfl

theorem over : Rows.fnStepRow.holds Try.pinned (OpenSpec.ofChange Rows.fnStepSpec) :=
  OpenClaim.holds_of_wide 3 Try.f3 rfl rfl rfl rfl rfl rfl rfl ⟨rfl, rfl, rfl, rfl, rfl⟩ rfl rfl rfl rfl rfl (by kernel_rfl) Try.func3 closed
    (of_decide_eq_true (by kernel_rfl)) (by unfold Func.isWrapper; first | (rw [if_pos (by decide +kernel)]; kernel_rfl) | (rw [if_neg (by decide +kernel)]; exact ⟨rfl, rfl⟩))
    (fun os started H enc _ => lifted os started H enc)

theorem proved : Rows.FnStepSaid := over
#print axioms proved
end Go.Proofs.Ytemmfnlnhekclaa.LFStep

