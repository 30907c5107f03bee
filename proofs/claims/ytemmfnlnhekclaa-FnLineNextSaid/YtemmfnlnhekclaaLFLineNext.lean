/-
  For every slice of bytes the law FnLineNext answers true: neighbors are on near lines; nothing that was there is written; no condition.
-/
import Derived.Test.YtemmfnlnhekclaaO
import Derived.Test.YtemmfnlnhekclaaK
import Derived.Deep.RegionLaw
import Derived.Test.YtemmfnlnhekclaaZe
import Derived.Test.YtemmfnlnhekclaaZf
import Derived.Test.YtemmfnlnhekclaaZh
namespace Go.Proofs.Ytemmfnlnhekclaa.LFLineNext
open Go.ChangeShapes Go.WideShapes Go.ChangeAt Go.RowKit Go.Joins

theorem next_row (d i j : Nat) : lnI d ((i + 1 : Nat) : Int) j = lnI d i j + dX d := by
  unfold lnI; push_cast; rw [Int.mul_add, Int.mul_one]; omega
theorem next_col (d i j : Nat) : lnI d i ((j + 1 : Nat) : Int) = lnI d i j - dY d := by
  unfold lnI; push_cast; rw [Int.mul_add, Int.mul_one]; omega
theorem line_small {d i j : Nat} (hd : d < 8) (hi : i < 6) (hj : j < 6) : -100 ≤ lnI d i j ∧ lnI d i j ≤ 100 := by
  have h1 := line_bd (d := d) (n := 6) (W := 6) hd (by omega) (by omega) (by omega) (by omega)
  have h2 := (pos_num (d := d) (n := 6) (W := 6) hd hi hj).2.2.2
  omega

set_option maxHeartbeats 2000000 in
set_option maxRecDepth 100000 in
theorem walk (a : Option Addr) (len cap : Nat) (zs : List Int) (w : World) (h : Bys w a len zs) (hl : len ≤ cap) (hm : cap ≤ 9223372036854775807) :
    Calls Try.prog 11 #[.slice a len cap] w fun e w' => e = .returned (.bool true) ∧ Below w.heap.size w w' := by
  by_cases hbig : 1048576 < len
  · clear h
    go_enter Try.func11, Try.ntmps11
    go_wp2_with fail
    go_ret
    exact ⟨rfl, Below.refl _ _⟩
  go_enter Try.func11, Try.ntmps11
  go_wp2_with fail
  refine (draw_DrawDirLine a len cap zs _ h hl hm).mono ?_
  rintro e w1 ⟨D, i, j, rfl, hb1⟩
  clear h hl hm
  have bb := Lib.hid hb1
  clear hb1
  by_cases hD : (0 ≤ D ∧ D ≤ 7) ∧ (0 ≤ i ∧ i ≤ 5) ∧ (0 ≤ j ∧ j ≤ 5)
  case neg =>
    go_wp2_with fail
    refine (dline_no hD _).mono ?_
    rintro e w2 ⟨rfl, hb⟩
    have szw2 := hb.size
    replace bb := Lib.hid (bb.out.trans (hb.mono bb.out.size))
    clear hb
    go_wp2_with fail
    refine (sdline_no hD _).mono ?_
    rintro e w3 ⟨rfl, hb⟩
    have szw3 := hb.size
    replace bb := Lib.hid (bb.out.trans (hb.mono bb.out.size))
    clear hb
    go_wp2_with fail
    go_ret
    exact ⟨rfl, bb.out⟩
  obtain ⟨hD, hi, hj⟩ := hD
  obtain ⟨d, rfl⟩ := Int.eq_ofNat_of_zero_le hD.1
  obtain ⟨i, rfl⟩ := Int.eq_ofNat_of_zero_le hi.1
  obtain ⟨j, rfl⟩ := Int.eq_ofNat_of_zero_le hj.1
  have hd : d < 8 := by omega
  have hi6 : i < 6 := by omega
  have hj6 : j < 6 := by omega
  have cS := Lib.hid (fun wx => dline_ok hd hi6 hj6 wx)
  have cT := Lib.hid (fun wx => sdline_ok hd hi6 hj6 wx)
  clear hi hj hD
  have hn1 := next_row d i j
  have hn2 := next_col d i j
  have hxy := dXY hd
  have cD := Lib.hid (fun wx => dstep_ok hd wx)
  have hzb := line_small hd hi6 hj6
  have cA1 : Hid (i < 5 → ∀ wx, Calls Try.prog 22 #[.int .i64 d, .int .i64 ((i : Int) + 1), .int .i64 j] wx fun e w' => e = .returned (.tuple #[.int .i64 (lnI d i j + dX d), .bool true]) ∧ Below wx.heap.size wx w') := fun h wx => by
    rw [← hn1]; exact dline_ok (i := i + 1) hd (by omega) hj6 wx
  have cB1 : Hid (j < 5 → ∀ wx, Calls Try.prog 22 #[.int .i64 d, .int .i64 i, .int .i64 ((j : Int) + 1)] wx fun e w' => e = .returned (.tuple #[.int .i64 (lnI d i j - dY d), .bool true]) ∧ Below wx.heap.size wx w') := fun h wx => by
    rw [← hn2]; exact dline_ok (j := j + 1) hd hi6 (by omega) wx
  have cA2 : Hid (¬ i < 5 → ∀ wx, Calls Try.prog 22 #[.int .i64 d, .int .i64 ((i : Int) + 1), .int .i64 j] wx fun e w' => e = .returned (.tuple #[.int .i64 0, .bool false]) ∧ Below wx.heap.size wx w') := fun h wx => dline_no (by omega) wx
  have cB2 : Hid (¬ j < 5 → ∀ wx, Calls Try.prog 22 #[.int .i64 d, .int .i64 i, .int .i64 ((j : Int) + 1)] wx fun e w' => e = .returned (.tuple #[.int .i64 0, .bool false]) ∧ Below wx.heap.size wx w') := fun h wx => dline_no (by omega) wx
  obtain ⟨X, hX⟩ : ∃ X, dX d = X := ⟨_, rfl⟩
  obtain ⟨Y, hY⟩ : ∃ Y, dY d = Y := ⟨_, rfl⟩
  obtain ⟨z, hz⟩ : ∃ z, lnI d i j = z := ⟨_, rfl⟩
  rw [hX, hY] at cD hxy
  rw [hz, hX] at cA1
  rw [hz, hY] at cB1
  rw [hz] at cS cT hzb
  replace hX := Lib.hid hX
  replace hY := Lib.hid hY
  replace hz := Lib.hid hz
  clear hn1 hn2
  go_wp2_with fail
  refine (cS.out _).mono ?_
  rintro e w4 ⟨rfl, hb⟩
  have szw4 := hb.size
  replace bb := Lib.hid (bb.out.trans (hb.mono bb.out.size))
  clear hb
  go_wp2_with fail
  refine (cT.out _).mono ?_
  rintro e w5 ⟨rfl, hb⟩
  have szw5 := hb.size
  replace bb := Lib.hid (bb.out.trans (hb.mono bb.out.size))
  clear hb
  go_wp2_with fail
  refine (cD.out _).mono ?_
  rintro e w6 ⟨rfl, hb⟩
  have szw6 := hb.size
  replace bb := Lib.hid (bb.out.trans (hb.mono bb.out.size))
  clear hb
  by_cases hi5 : i < 5
  · by_cases hj5 : j < 5
    · have hi5z : decide ((i : Int) < 5) = true := decide_eq_true (by omega)
      have hj5z : decide ((j : Int) < 5) = true := decide_eq_true (by omega)
      go_wp2_with fail
      refine (cA1.out hi5 _).mono ?_
      rintro e w7 ⟨rfl, hb⟩
      have szw7 := hb.size
      replace bb := Lib.hid (bb.out.trans (hb.mono bb.out.size))
      clear hb
      go_wp2_with fail
      refine (cB1.out hj5 _).mono ?_
      rintro e w8 ⟨rfl, hb⟩
      have szw8 := hb.size
      replace bb := Lib.hid (bb.out.trans (hb.mono bb.out.size))
      clear hb
      go_wp2_with fail
      go_ret
      exact ⟨rfl, bb.out⟩
    · have hi5z : decide ((i : Int) < 5) = true := decide_eq_true (by omega)
      have hj5z : decide ((j : Int) < 5) = false := decide_eq_false (by omega)
      go_wp2_with fail
      refine (cA1.out hi5 _).mono ?_
      rintro e w9 ⟨rfl, hb⟩
      have szw9 := hb.size
      replace bb := Lib.hid (bb.out.trans (hb.mono bb.out.size))
      clear hb
      go_wp2_with fail
      refine (cB2.out hj5 _).mono ?_
      rintro e w10 ⟨rfl, hb⟩
      have szw10 := hb.size
      replace bb := Lib.hid (bb.out.trans (hb.mono bb.out.size))
      clear hb
      go_wp2_with fail
      go_ret
      exact ⟨rfl, bb.out⟩
  · by_cases hj5 : j < 5
    · have hi5z : decide ((i : Int) < 5) = false := decide_eq_false (by omega)
      have hj5z : decide ((j : Int) < 5) = true := decide_eq_true (by omega)
      go_wp2_with fail
      refine (cA2.out hi5 _).mono ?_
      rintro e w11 ⟨rfl, hb⟩
      have szw11 := hb.size
      replace bb := Lib.hid (bb.out.trans (hb.mono bb.out.size))
      clear hb
      go_wp2_with fail
      refine (cB1.out hj5 _).mono ?_
      rintro e w12 ⟨rfl, hb⟩
      have szw12 := hb.size
      replace bb := Lib.hid (bb.out.trans (hb.mono bb.out.size))
      clear hb
      go_wp2_with fail
      go_ret
      exact ⟨rfl, bb.out⟩
    · have hi5z : decide ((i : Int) < 5) = false := decide_eq_false (by omega)
      have hj5z : decide ((j : Int) < 5) = false := decide_eq_false (by omega)
      go_wp2_with fail
      refine (cA2.out hi5 _).mono ?_
      rintro e w13 ⟨rfl, hb⟩
      have szw13 := hb.size
      replace bb := Lib.hid (bb.out.trans (hb.mono bb.out.size))
      clear hb
      go_wp2_with fail
      refine (cB2.out hj5 _).mono ?_
      rintro e w14 ⟨rfl, hb⟩
      have szw14 := hb.size
      replace bb := Lib.hid (bb.out.trans (hb.mono bb.out.size))
      clear hb
      go_wp2_with fail
      go_ret
      exact ⟨rfl, bb.out⟩

set_option maxRecDepth 100000 in
theorem lifted (os : Os) (started : os.Started) (H : Type) (enc : TypeId × Value → H) :
    ReturnsInHanded {} Try.checked os 11 .any (Rows.fnLineNextSpec.pre6 enc Try.prog Try.f11 Rows.fnLineNextRow.domain false) (Rows.fnLineNextSpec.post enc Try.prog Try.f11 false true false false) := by
  refine returnsInHanded_of_change (C := Try.checked) own started (by kernel_rfl) Try.func11
    (ChangeSpec.witness6 (enc := enc) (C := Try.checked) false ⟨#[], #[.slice none 0 0], []⟩ 8 (by kernel_rfl) (by kernel_rfl) (by kernel_rfl) (by kernel_rfl)) ?_
  intro W base args ds gs before hval0 hW hcnd _
  have hval : ∀ (j : Nat) t v, Try.f11.params[j]? = some t → args[j]? = some v → Value.okWide Try.prog W .any base t v := hval0
  have hW' := hW
  obtain ⟨p, q, hA0, hV, rfl, hfz, hnd⟩ := hW
  have hA : DataW.TrodAll enc Try.prog W 0 (fun _ => true) true Try.f11.params.toList args.toList ds p := hA0
  rw [Try.params11] at hA hval
  obtain ⟨v0, vs0, d0, ds0, p0, q0, hargs, rfl, rfl, h0, r0⟩ := trodAll_cons hA
  obtain ⟨rfl, rfl, rfl⟩ := trodAll_nil r0
  obtain rfl : args = #[v0] := by cases args; simp_all
  obtain ⟨rfl, rfl⟩ := trodVars_none hV
  have k0 := h0
  have lt0 : ∀ x ∈ p0, x.block < W.heap.size := by obtain ⟨m, hm⟩ := k0; exact DataW.trod_lt m _ _ _ hm
  obtain ⟨a0, len0, cap0, z0, rfl, w0, l0, m0⟩ := open_code (hval 0 22 v0 rfl rfl) h0
  clear hA0 hval0
  refine (walk a0 len0 cap0 z0 W w0 l0 m0).mono fun e W' ⟨he, bel⟩ => ?_
  subst he
  exact ⟨_, rfl, _, _, _, [], _, [], hW', trodAll_mk1 (shut_bool Try.underlying4 _), (trodAll_cons_mk (Below.trod laidOut (by kernel_rfl) (of_decide_eq_true (by kernel_rfl)) k0 bel lt0) trodAll_mk0), rfl, bel.frame _, fun h => by cases h⟩

theorem closed : joinedFacts Try.prog 11 Try.f11 Rows.fnLineNextSpec Rows.fnLineNextRow = true := by
  simp only [joinedFacts, Bool.and_eq_true]
  repeat' apply And.intro
  all_goals first | with_reducible exact mayEnterOk | (with_reducible rw [liftsFinalOk]; kernel_rfl) | (with_reducible rw [makeOk]; kernel_rfl) | kernel_rfl

theorem over : Rows.fnLineNextRow.holds Try.pinned (OpenSpec.ofChange Rows.fnLineNextSpec) :=
  OpenClaim.holds_of_wide 11 Try.f11 rfl rfl rfl rfl rfl rfl rfl ⟨rfl, rfl, rfl, rfl, rfl⟩ rfl rfl rfl rfl rfl (by kernel_rfl) Try.func11 closed
    (of_decide_eq_true (by kernel_rfl)) (by unfold Func.isWrapper; first | (rw [if_pos (by decide +kernel)]; kernel_rfl) | (rw [if_neg (by decide +kernel)]; exact ⟨rfl, rfl⟩))
    (fun os started H enc _ => lifted os started H enc)

theorem proved : Rows.FnLineNextSaid := over
#print axioms proved
end Go.Proofs.Ytemmfnlnhekclaa.LFLineNext

