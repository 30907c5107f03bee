/-
  For any two slices of bytes the law FnLine answers true: a line is in the range of its shape; nothing that was there is written; no condition.
-/
import Derived.Test.YtemmfnlnhekclaaO
import Derived.Test.YtemmfnlnhekclaaK
import Derived.Deep.RegionLaw
import Derived.Test.YtemmfnlnhekclaaZe
import Derived.Test.YtemmfnlnhekclaaZf
import Derived.Test.YtemmfnlnhekclaaZh
namespace Go.Proofs.Ytemmfnlnhekclaa.LFLine
open Go.ChangeShapes Go.WideShapes Go.ChangeAt Go.RowKit Go.Joins

set_option maxHeartbeats 1000000 in
set_option maxRecDepth 100000 in
theorem walk (a : Option Addr) (len cap : Nat) (zs : List Int) (a2 : Option Addr) (len2 cap2 : Nat) (zs2 : List Int) (w : World) (h : Bys w a len zs) (hl : len ≤ cap) (hm : cap ≤ 9223372036854775807) (_ : Bys w a2 len2 zs2) (_ : len2 ≤ cap2) (_ : cap2 ≤ 9223372036854775807) :
    Calls Try.prog 4 #[.slice a len cap, .slice a2 len2 cap2] w fun e w' => e = .returned (.bool true) ∧ Below w.heap.size w w' := by
  by_cases hbig : 1048576 < len
  · clear h
    go_enter Try.func4, Try.ntmps4
    go_wp2_with fail
    go_ret
    exact ⟨rfl, Below.refl _ _⟩
  by_cases hbig2 : 1048576 < len2
  · clear h
    go_enter Try.func4, Try.ntmps4
    go_wp2_with fail
    go_ret
    exact ⟨rfl, Below.refl _ _⟩
  go_enter Try.func4, Try.ntmps4
  go_wp2_with fail
  refine (draw_DrawDirLine a len cap zs _ h hl hm).mono ?_
  rintro e w1 ⟨D, i, j, rfl, hb1⟩
  clear h hl hm
  have bb := Lib.hid hb1
  clear hb1
  by_cases hD : (0 ≤ D ∧ D ≤ 7) ∧ (0 ≤ i ∧ i ≤ 5) ∧ (0 ≤ j ∧ j ≤ 5)
  case neg =>
    go_wp2_with fail
    refine (dline_no hD _).mono ?_
    rintro e w2 ⟨rfl, hb⟩
    have szw2 := hb.size
    replace bb := Lib.hid (bb.out.trans (hb.mono bb.out.size))
    clear hb
    go_wp2_with fail
    refine (sdline_no hD _).mono ?_
    rintro e w3 ⟨rfl, hb⟩
    have szw3 := hb.size
    replace bb := Lib.hid (bb.out.trans (hb.mono bb.out.size))
    clear hb
    go_wp2_with fail
    go_ret
    exact ⟨rfl, bb.out⟩
  obtain ⟨hD, hi, hj⟩ := hD
  obtain ⟨d, rfl⟩ := Int.eq_ofNat_of_zero_le hD.1
  obtain ⟨i, rfl⟩ := Int.eq_ofNat_of_zero_le hi.1
  obtain ⟨j, rfl⟩ := Int.eq_ofNat_of_zero_le hj.1
  have hd : d < 8 := by omega
  have hi6 : i < 6 := by omega
  have hj6 : j < 6 := by omega
  have cS := Lib.hid (fun wx => dline_ok hd hi6 hj6 wx)
  have cT := Lib.hid (fun wx => sdline_ok hd hi6 hj6 wx)
  clear hi hj hD
  obtain ⟨q1, hq1⟩ : ∃ q, 6 - i = q := ⟨_, rfl⟩
  obtain ⟨q2, hq2⟩ : ∃ q, 6 - j = q := ⟨_, rfl⟩
  have e1 : (6 : Int) - (i : Int) = (q1 : Int) := by omega
  have e2 : (6 : Int) - (j : Int) = (q2 : Int) := by omega
  have z1 : ((q1 : Int) == 0) = false := by rw [beq_eq_false_iff_ne]; omega
  have z2 : ((q2 : Int) == 0) = false := by rw [beq_eq_false_iff_ne]; omega
  have k1 : len2 % q1 < q1 := Nat.mod_lt _ (by omega)
  have k2 : len2 / 7 % q2 < q2 := Nat.mod_lt _ (by omega)
  have m1 : ((len2 : Int) % (q1 : Int)) = ((len2 % q1 : Nat) : Int) := (Int.natCast_emod _ _).symm
  have m1' : ((len2 : Int)).tmod (q1 : Int) = ((len2 % q1 : Nat) : Int) := by rw [Int.tmod_eq_emod_of_nonneg (by omega)]; exact m1
  have hdv : ((len2 : Int) / 7) = ((len2 / 7 : Nat) : Int) := by rw [Int.natCast_ediv]; rfl
  have hdv' : ((len2 : Int)).tdiv 7 = ((len2 / 7 : Nat) : Int) := by rw [Int.tdiv_eq_ediv_of_nonneg (by omega)]; exact hdv
  have m2 : (((len2 / 7 : Nat) : Int) % (q2 : Int)) = ((len2 / 7 % q2 : Nat) : Int) := (Int.natCast_emod _ _).symm
  have m2' : (((len2 / 7 : Nat) : Int)).tmod (q2 : Int) = ((len2 / 7 % q2 : Nat) : Int) := by rw [Int.tmod_eq_emod_of_nonneg (by omega)]; exact m2
  obtain ⟨l7, hl7⟩ : ∃ l7, len2 / 7 = l7 := ⟨_, rfl⟩
  have hl7b : l7 ≤ len2 := by rw [← hl7]; exact Nat.div_le_self _ _
  rw [hl7] at hdv hdv' m2 m2' k2
  obtain ⟨r1, hr1⟩ : ∃ r, len2 % q1 = r := ⟨_, rfl⟩
  obtain ⟨r2, hr2⟩ : ∃ r, l7 % q2 = r := ⟨_, rfl⟩
  rw [hr1] at m1 m1' k1
  rw [hr2] at m2 m2' k2
  have ew7 : IntKind.i64.wrap (l7 : Int) = (l7 : Int) := IntWalk.i64_in _ ⟨by omega, by omega⟩
  have ew1 : IntKind.i64.wrap (r1 : Int) = (r1 : Int) := IntWalk.i64_in _ ⟨by omega, by omega⟩
  have ew2 : IntKind.i64.wrap (r2 : Int) = (r2 : Int) := IntWalk.i64_in _ ⟨by omega, by omega⟩
  obtain ⟨A, hA⟩ : ∃ A, i + 1 + r1 = A := ⟨_, rfl⟩
  obtain ⟨B, hB⟩ : ∃ B, j + 1 + r2 = B := ⟨_, rfl⟩
  have eA : (i : Int) + 1 + (r1 : Int) = (A : Int) := by omega
  have eB : (j : Int) + 1 + (r2 : Int) = (B : Int) := by omega
  have pn := (pos_num (d := d) (n := A) (W := B) (i := i) (j := j) hd (by omega) (by omega)).2.2.2
  have cL := Lib.hid (fun wx => dlines_ok (n := A) (W := B) hd (by omega) (by omega) wx)
  obtain ⟨lo, hlo⟩ : ∃ lo, loI d B = lo := ⟨_, rfl⟩
  obtain ⟨hi, hhi⟩ : ∃ hi, hiI d A B = hi := ⟨_, rfl⟩
  obtain ⟨z, hz⟩ : ∃ z, lnI d i j = z := ⟨_, rfl⟩
  rw [hlo, hhi, hz] at pn
  rw [hlo, hhi] at cL
  rw [hz] at cS cT
  have jj := pn.1
  have jk := pn.2
  replace hlo := Lib.hid hlo
  replace hhi := Lib.hid hhi
  replace hz := Lib.hid hz
  replace hl7 := Lib.hid hl7
  replace hr1 := Lib.hid hr1
  replace hr2 := Lib.hid hr2
  replace hA := Lib.hid hA
  replace hB := Lib.hid hB
  replace hq1 := Lib.hid hq1
  replace hq2 := Lib.hid hq2
  clear pn
  go_wp2_with fail
  refine (cS.out _).mono ?_
  rintro e w4 ⟨rfl, hb⟩
  have szw4 := hb.size
  replace bb := Lib.hid (bb.out.trans (hb.mono bb.out.size))
  clear hb
  go_wp2_with fail
  refine (cT.out _).mono ?_
  rintro e w5 ⟨rfl, hb⟩
  have szw5 := hb.size
  replace bb := Lib.hid (bb.out.trans (hb.mono bb.out.size))
  clear hb
  have cc0 : ∀ p : Bw w5, Calls Try.prog 25 #[.int .i64 d, .int .i64 A, .int .i64 B] p.v (fun e w' => e = .returned (.tuple #[.int .i64 lo, .int .i64 hi, .bool true]) ∧ ∃ q : Bw w5, w' = q.v) := fun p => bw_of (cL.out p.v)
  replace cc0 := Lib.hid cc0
  go_wp2_with fail
  refine wp_region_bw (by kernel_rfl) (by kernel_rfl) ?_
  repeat (go_big_quiet_step (first | (with_reducible exact cc0.out _)))
  refine wpQuiet_nil ?_
  intro _ hw'
  obtain ⟨pq, rfl⟩ := hw'
  have hb := pq.h
  clear cc0
  generalize pq.v = w6 at hb ⊢
  clear pq
  have szw6 := hb.size
  replace bb := Lib.hid (bb.out.trans (hb.mono bb.out.size))
  clear hb
  go_wp2_with fail
  go_ret
  exact ⟨rfl, bb.out⟩

set_option maxRecDepth 100000 in
theorem lifted (os : Os) (started : os.Started) (H : Type) (enc : TypeId × Value → H) :
    ReturnsInHanded {} Try.checked os 4 .any (Rows.fnLineSpec.pre6 enc Try.prog Try.f4 Rows.fnLineRow.domain false) (Rows.fnLineSpec.post enc Try.prog Try.f4 false true false false) := by
  refine returnsInHanded_of_change (C := Try.checked) own started (by kernel_rfl) Try.func4
    (ChangeSpec.witness6 (enc := enc) (C := Try.checked) false ⟨#[], #[.slice none 0 0, .slice none 0 0], []⟩ 8 (by kernel_rfl) (by kernel_rfl) (by kernel_rfl) (by kernel_rfl)) ?_
  intro W base args ds gs before hval0 hW hcnd _
  have hval : ∀ (j : Nat) t v, Try.f4.params[j]? = some t → args[j]? = some v → Value.okWide Try.prog W .any base t v := hval0
  have hW' := hW
  obtain ⟨p, q, hA0, hV, rfl, hfz, hnd⟩ := hW
  have hA : DataW.TrodAll enc Try.prog W 0 (fun _ => true) true Try.f4.params.toList args.toList ds p := hA0
  rw [Try.params4] at hA hval
  obtain ⟨v0, vs0, d0, ds0, p0, q0, hargs, rfl, rfl, h0, r0⟩ := trodAll_cons hA
  obtain ⟨v1, vs1, d1, ds1, p1, q1, rfl, rfl, rfl, h1, r1⟩ := trodAll_cons r0
  obtain ⟨rfl, rfl, rfl⟩ := trodAll_nil r1
  obtain rfl : args = #[v0, v1] := by cases args; simp_all
  obtain ⟨rfl, rfl⟩ := trodVars_none hV
  have k0 := h0
  have lt0 : ∀ x ∈ p0, x.block < W.heap.size := by obtain ⟨m, hm⟩ := k0; exact DataW.trod_lt m _ _ _ hm
  obtain ⟨a0, len0, cap0, z0, rfl, w0, l0, m0⟩ := open_code (hval 0 22 v0 rfl rfl) h0
  have k1 := h1
  have lt1 : ∀ x ∈ p1, x.block < W.heap.size := by obtain ⟨m, hm⟩ := k1; exact DataW.trod_lt m _ _ _ hm
  obtain ⟨a1, len1, cap1, z1, rfl, w1, l1, m1⟩ := open_code (hval 1 22 v1 rfl rfl) h1
  clear hA0 hval0
  refine (walk a0 len0 cap0 z0 a1 len1 cap1 z1 W w0 l0 m0 w1 l1 m1).mono fun e W' ⟨he, bel⟩ => ?_
  subst he
  exact ⟨_, rfl, _, _, _, [], _, [], hW', trodAll_mk1 (shut_bool Try.underlying4 _), (trodAll_cons_mk (Below.trod laidOut (by kernel_rfl) (of_decide_eq_true (by kernel_rfl)) k0 bel lt0) (trodAll_cons_mk (Below.trod laidOut (by kernel_rfl) (of_decide_eq_true (by kernel_rfl)) k1 bel lt1) trodAll_mk0)), rfl, bel.frame _, fun h => by cases h⟩

theorem closed : joinedFacts Try.prog 4 Try.f4 Rows.fnLineSpec Rows.fnLineRow = true := by
  simp only [joinedFacts, Bool.and_eq_true]
  repeat' apply And.intro
  all_goals first | with_reducible exact mayEnterOk | (with_reducible rw [liftsFinalOk]; kernel_rfl) | (with_reducible rw [makeOk]; kernel_rfl) | kernel_rfl

theorem over : Rows.fnLineRow.holds Try.pinned (OpenSpec.ofChange Rows.fnLineSpec) :=
  OpenClaim.holds_of_wide 4 Try.f4 rfl rfl rfl rfl rfl rfl rfl ⟨rfl, rfl, rfl, rfl, rfl⟩ rfl rfl rfl rfl rfl (by kernel_rfl) Try.func4 closed
    (of_decide_eq_true (by kernel_rfl)) (by unfold Func.isWrapper; first | (rw [if_pos (by decide +kernel)]; kernel_rfl) | (rw [if_neg (by decide +kernel)]; exact ⟨rfl, rfl⟩))
    (fun os started H enc _ => lifted os started H enc)

theorem proved : Rows.FnLineSaid := over
#print axioms proved
end Go.Proofs.Ytemmfnlnhekclaa.LFLine

