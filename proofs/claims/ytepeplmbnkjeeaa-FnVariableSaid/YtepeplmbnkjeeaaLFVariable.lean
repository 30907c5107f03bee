/-
  For every slice of bytes the law FnVariable answers true: a variable cell has another value somewhere; nothing that was there is written; no condition.
-/
import Derived.Test.YtepeplmbnkjeeaaO
import Derived.Test.YtepeplmbnkjeeaaK
import Derived.Deep.RegionLaw
import Derived.Test.YtepeplmbnkjeeaaMm
namespace Go.Proofs.Ytepeplmbnkjeeaa.LFVariable
open Go.ChangeShapes Go.WideShapes Go.ChangeAt Go.RowKit Go.Joins

set_option maxHeartbeats 2000000 in
set_option maxRecDepth 100000 in
theorem walk (a : Option Addr) (len cap : Nat) (zs : List Int) (w : World) (h : Bys w a len zs) (hl : len ≤ cap) (hm : cap ≤ 9223372036854775807) :
    Calls Try.prog 5 #[.slice a len cap] w fun e w' => e = .returned (.bool true) ∧ Below w.heap.size w w' := by
  by_cases hbig : 1048576 < len
  · clear h
    go_enter Try.func5, Try.ntmps5
    go_wp2_with fail
    go_ret
    exact ⟨rfl, Below.refl _ _⟩
  go_enter Try.func5, Try.ntmps5
  go_wp2_with fail
  refine (draw_DrawCellVariable a len cap zs _ h hl hm).mono ?_
  rintro e w1 ⟨V, s, n, cg, xs, i, j, rfl, hR, hn, hb1⟩
  clear h hl hm
  have bb := Lib.hid hb1
  have p := Lib.hid hR
  clear hR hb1
  have hbx : Below w1.heap.size w1 (w1.alloc (.cells #[.int .i64 V, .slice s n cg] 25)) := (Below.refl _ _).alloc (Nat.le_refl _) _
  replace p := Lib.hid (p.out.bel hbx)
  replace bb := Lib.hid (bb.out.trans (hbx.mono bb.out.size))
  clear hbx
  have p0 : (w1.alloc (.cells #[.int .i64 V, .slice s n cg] 25)).cell? ⟨w1.heap.size, 0, none⟩ = some (.int .i64 V) := by simp
  have p1 : (w1.alloc (.cells #[.int .i64 V, .slice s n cg] 25)).cell? ⟨w1.heap.size, 1, none⟩ = some (.slice s n cg) := by simp
  by_cases hv : varO V xs i j = true
  case neg =>
    have hv : varO V xs i j = false := by simpa using hv
    go_wp2_with fail
    refine (var_io hv (by omega) _ _ _ p.out).mono ?_
    rintro e w2 ⟨rfl, hb⟩
    have szw2 : w1.heap.size + 1 ≤ w2.heap.size := by have := hb.size; simpa using this
    replace p0 := kept hb (block_lt p0) p0
    replace p1 := kept hb (block_lt p1) p1
    replace p := Lib.hid (p.out.bel hb)
    replace bb := Lib.hid (bb.out.trans (hb.mono bb.out.size))
    clear hb
    go_wp2_with fail
    refine (var_so hv (by omega) _ _ _ p.out).mono ?_
    rintro e w3 ⟨rfl, hb⟩
    have szw3 := hb.size
    replace p0 := kept hb (block_lt p0) p0
    replace p1 := kept hb (block_lt p1) p1
    replace p := Lib.hid (p.out.bel hb)
    replace bb := Lib.hid (bb.out.trans (hb.mono bb.out.size))
    clear hb
    go_wp2_with fail
    go_ret
    exact ⟨rfl, bb.out⟩
  obtain ⟨W, i, j, rfl, rfl, rfl, hI, hi, hj, hvb⟩ := varO_im p.out.1 hv
  have hW6 := hI.w6
  have hW1 := hI.w1
  have hn1 := hI.l1
  have hn6 := hI.l6
  go_wp2_with fail
  refine (var_io hv (by omega) _ _ _ p.out).mono ?_
  rintro e w4 ⟨rfl, hb⟩
  have szw4 : w1.heap.size + 1 ≤ w4.heap.size := by have := hb.size; simpa using this
  replace p0 := kept hb (block_lt p0) p0
  replace p1 := kept hb (block_lt p1) p1
  replace p := Lib.hid (p.out.bel hb)
  replace bb := Lib.hid (bb.out.trans (hb.mono bb.out.size))
  clear hb
  go_wp2_with fail
  refine (var_so hv (by omega) _ _ _ p.out).mono ?_
  rintro e w5 ⟨rfl, hb⟩
  have szw5 := hb.size
  replace p0 := kept hb (block_lt p0) p0
  replace p1 := kept hb (block_lt p1) p1
  replace p := Lib.hid (p.out.bel hb)
  replace bb := Lib.hid (bb.out.trans (hb.mono bb.out.size))
  clear hb
  clear hv
  have hfa := flip_all hI hi hj hvb
  obtain ⟨L, hL⟩ : ∃ L, flipL xs W n i j = L := ⟨_, rfl⟩
  obtain ⟨b, hb0⟩ : ∃ b, cellOf xs i j = b := ⟨_, rfl⟩
  rw [hL] at hfa
  obtain ⟨hJ, hse, hcj, _, _⟩ := hfa
  rw [hb0] at hcj
  have hbb : (b != !b) = true := by cases b <;> rfl
  have hbb2 : (b == !b) = false := by cases b <;> rfl
  replace hL := Lib.hid hL
  replace hse := Lib.hid hse
  replace hI := Lib.hid hI
  replace hJ := Lib.hid hJ
  replace hcj := Lib.hid hcj
  replace hb0 := Lib.hid hb0
  go_wp2_with fail
  refine (flip_ok hI.out hi hj hvb hL.out _ _ _ p.out).mono ?_
  rintro e w6 ⟨⟨ao, co, rfl, ho⟩, hb⟩
  have o := Lib.hid ho.row
  have szw6 := hb.size
  replace p0 := kept hb (block_lt p0) p0
  replace p1 := kept hb (block_lt p1) p1
  replace p := Lib.hid (p.out.bel hb)
  replace bb := Lib.hid (bb.out.trans (hb.mono bb.out.size))
  clear hb
  clear ho
  have hbx : Below w6.heap.size w6 (w6.alloc (.cells #[.int .i64 W, .slice ao n co] 25)) := (Below.refl _ _).alloc (Nat.le_refl _) _
  replace p0 := kept hbx (block_lt p0) p0
  replace p1 := kept hbx (block_lt p1) p1
  replace p := Lib.hid (p.out.bel hbx)
  replace o := Lib.hid (o.out.bel hbx)
  replace bb := Lib.hid (bb.out.trans (hbx.mono bb.out.size))
  clear hbx
  have o0 : (w6.alloc (.cells #[.int .i64 W, .slice ao n co] 25)).cell? ⟨w6.heap.size, 0, none⟩ = some (.int .i64 W) := by simp
  have o1 : (w6.alloc (.cells #[.int .i64 W, .slice ao n co] 25)).cell? ⟨w6.heap.size, 1, none⟩ = some (.slice ao n co) := by simp
  go_wp2_with fail
  obtain ⟨w7, hwn⟩ : ∃ w7, w6.alloc (.cells #[.int .i64 W, .slice ao n co] 25) = w7 := ⟨_, rfl⟩
  have szw7 : w6.heap.size + 1 ≤ w7.heap.size := by rw [← hwn]; simp
  rw [hwn] at p0 p1 o0 o1 p o bb
  (try rw [hwn])
  clear hwn
  have HP := p
  have HO := o
  have g_p0 := fun p : Bw w7 => bw_cell p0 p
  have g_p1 := fun p : Bw w7 => bw_cell p1 p
  have g_o0 := fun p : Bw w7 => bw_cell o0 p
  have g_o1 := fun p : Bw w7 => bw_cell o1 p
  have cc0 : ∀ p : Bw w7, Calls Try.prog 33 #[.agg #[.int .i64 W, .slice s n cg], .agg #[.int .i64 W, .slice ao n co]] p.v (fun e w' => e = .returned (.bool true) ∧ ∃ q : Bw w7, w' = q.v) := fun p => bw_of (sums_ok hI.out hJ.out hse.out _ _ _ _ p.v (HP.out.bel p.h) (HO.out.bel p.h))
  replace cc0 := Lib.hid cc0
  have cc1 : ∀ p : Bw w7, Calls Try.prog 28 #[.agg #[.int .i64 W, .slice s n cg], .int .i64 i, .int .i64 j] p.v (fun e w' => e = .returned (.bool b) ∧ ∃ q : Bw w7, w' = q.v) := fun p => bw_of (has_ok hI.out hi hj hb0.out _ _ p.v (HP.out.bel p.h))
  replace cc1 := Lib.hid cc1
  have cc2 : ∀ p : Bw w7, Calls Try.prog 28 #[.agg #[.int .i64 W, .slice ao n co], .int .i64 i, .int .i64 j] p.v (fun e w' => e = .returned (.bool !b) ∧ ∃ q : Bw w7, w' = q.v) := fun p => bw_of (has_ok hJ.out hi hj hcj.out _ _ p.v (HO.out.bel p.h))
  replace cc2 := Lib.hid cc2
  go_wp2_with fail
  refine wp_region_bw (by kernel_rfl) (by kernel_rfl) ?_
  repeat (go_big_quiet_step (first | (with_reducible exact cc0.out _) | (with_reducible exact cc1.out _) | (with_reducible exact cc2.out _)))
  refine wpQuiet_nil ?_
  intro _ hw'
  obtain ⟨pq, rfl⟩ := hw'
  have hb := pq.h
  clear g_p0 g_p1 g_o0 g_o1 cc0 cc1 cc2
  generalize pq.v = w8 at hb ⊢
  clear pq
  have szw8 := hb.size
  replace p0 := kept hb (block_lt p0) p0
  replace p1 := kept hb (block_lt p1) p1
  replace o0 := kept hb (block_lt o0) o0
  replace o1 := kept hb (block_lt o1) o1
  replace p := Lib.hid (p.out.bel hb)
  replace o := Lib.hid (o.out.bel hb)
  replace bb := Lib.hid (bb.out.trans (hb.mono bb.out.size))
  clear hb
  clear HP HO
  go_wp2_with fail
  go_ret
  exact ⟨rfl, bb.out⟩

set_option maxRecDepth 100000 in
theorem lifted (os : Os) (started : os.Started) (H : Type) (enc : TypeId × Value → H) :
    ReturnsInHanded {} Try.checked os 5 .any (Rows.fnVariableSpec.pre6 enc Try.prog Try.f5 Rows.fnVariableRow.domain false) (Rows.fnVariableSpec.post enc Try.prog Try.f5 false true false false) := by
  refine returnsInHanded_of_change (C := Try.checked) own started (by kernel_rfl) Try.func5
    (ChangeSpec.witness6 (enc := enc) (C := Try.checked) false ⟨#[], #[.slice none 0 0], []⟩ 8 (by kernel_rfl) (by kernel_rfl) (by kernel_rfl) (by kernel_rfl)) ?_
  intro W base args ds gs before hval0 hW hcnd _
  have hval : ∀ (j : Nat) t v, Try.f5.params[j]? = some t → args[j]? = some v → Value.okWide Try.prog W .any base t v := hval0
  have hW' := hW
  obtain ⟨p, q, hA0, hV, rfl, hfz, hnd⟩ := hW
  have hA : DataW.TrodAll enc Try.prog W 0 (fun _ => true) true Try.f5.params.toList args.toList ds p := hA0
  rw [Try.params5] at hA hval
  obtain ⟨v0, vs0, d0, ds0, p0, q0, hargs, rfl, rfl, h0, r0⟩ := trodAll_cons hA
  obtain ⟨rfl, rfl, rfl⟩ := trodAll_nil r0
  obtain rfl : args = #[v0] := by cases args; simp_all
  obtain ⟨rfl, rfl⟩ := trodVars_none hV
  have k0 := h0
  have lt0 : ∀ x ∈ p0, x.block < W.heap.size := by obtain ⟨m, hm⟩ := k0; exact DataW.trod_lt m _ _ _ hm
  obtain ⟨a0, len0, cap0, z0, rfl, w0, l0, m0⟩ := open_code (hval 0 22 v0 rfl rfl) h0
  clear hA0 hval0
  refine (walk a0 len0 cap0 z0 W w0 l0 m0).mono fun e W' ⟨he, bel⟩ => ?_
  subst he
  exact ⟨_, rfl, _, _, _, [], _, [], hW', trodAll_mk1 (shut_bool Try.underlying4 _), (trodAll_cons_mk (Below.trod laidOut (by kernel_rfl) (of_decide_eq_true (by kernel_rfl)) k0 bel lt0) trodAll_mk0), rfl, bel.frame _, fun h => by cases h⟩

theorem closed : joinedFacts Try.prog 5 Try.f5 Rows.fnVariableSpec Rows.fnVariableRow = true := by
  simp only [joinedFacts, Bool.and_eq_true]
  repeat' apply And.intro
  all_goals first | with_reducible exact mayEnterOk | (with_reducible rw [liftsFinalOk]; kernel_rfl) | (with_reducible rw [makeOk]; kernel_rfl) | kernel_rfl

theorem over : Rows.fnVariableRow.holds Try.pinned (OpenSpec.ofChange Rows.fnVariableSpec) :=
  OpenClaim.holds_of_wide 5 Try.f5 rfl rfl rfl rfl rfl rfl rfl ⟨rfl, rfl, rfl, rfl, rfl⟩ rfl rfl rfl rfl rfl (by kernel_rfl) Try.func5 closed
    (of_decide_eq_true (by kernel_rfl)) (by unfold Func.isWrapper; first | (rw [if_pos (by decide +kernel)]; kernel_rfl) | (rw [if_neg (by decide +kernel)]; exact ⟨rfl, rfl⟩))
    (fun os started H enc _ => lifted os started H enc)

theorem proved : Rows.FnVariableSaid := over
#print axioms proved
end Go.Proofs.Ytepeplmbnkjeeaa.LFVariable

