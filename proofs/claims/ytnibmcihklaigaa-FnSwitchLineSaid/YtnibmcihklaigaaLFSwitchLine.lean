/-
  For every slice of bytes the law FnSwitchLine answers true: one row has no switch, and the number of switches is bounded; nothing that was there is written; no condition.
-/
import Derived.Test.YtnibmcihklaigaaO
import Derived.Test.YtnibmcihklaigaaK
import Derived.Deep.RegionLaw
import Derived.Test.YtnibmcihklaigaaKh
namespace Go.Proofs.Ytnibmcihklaigaa.LFSwitchLine
open Go.ChangeShapes Go.WideShapes Go.ChangeAt Go.RowKit Go.Joins

set_option maxHeartbeats 1000000 in
set_option maxRecDepth 100000 in
theorem walk (a : Option Addr) (len cap : Nat) (zs : List Int) (w : World) (h : Bys w a len zs) (hl : len ≤ cap) (hm : cap ≤ 9223372036854775807) :
    Calls Try.prog 15 #[.slice a len cap] w fun e w' => e = .returned (.bool true) ∧ Below w.heap.size w w' := by
  by_cases hbig : 1048576 < len
  · clear h
    go_enter Try.func15, Try.ntmps15
    go_wp2_with fail
    go_ret
    exact ⟨rfl, Below.refl _ _⟩
  go_enter Try.func15, Try.ntmps15
  go_wp2_with fail
  refine (draw_DrawSwitchMany a len cap zs _ h hl hm).mono ?_
  rintro e w1 ⟨W, s, n, cg, xs, rfl, hR, hn, hb1⟩
  clear h hl hm
  have bb := Lib.hid hb1
  have p := Lib.hid hR
  clear hR hb1
  have hbx : Below w1.heap.size w1 (w1.alloc (.cells #[.int .i64 W, .slice s n cg] 25)) := (Below.refl _ _).alloc (Nat.le_refl _) _
  replace p := Lib.hid (p.out.bel hbx)
  replace bb := Lib.hid (bb.out.trans (hbx.mono bb.out.size))
  clear hbx
  have p0 : (w1.alloc (.cells #[.int .i64 W, .slice s n cg] 25)).cell? ⟨w1.heap.size, 0, none⟩ = some (.int .i64 W) := by simp
  have p1 : (w1.alloc (.cells #[.int .i64 W, .slice s n cg] 25)).cell? ⟨w1.heap.size, 1, none⟩ = some (.slice s n cg) := by simp
  by_cases hv : validB W xs = true
  case neg =>
    have hv : validB W xs = false := by simpa using hv
    replace hv := Lib.hid hv
    go_wp2_with fail
    refine (many_no hv.out (by omega) _ _ _ p.out).mono ?_
    rintro e w2 ⟨rfl, hb⟩
    have szw2 : w1.heap.size + 1 ≤ w2.heap.size := by have := hb.size; simpa using this
    replace p0 := kept hb (block_lt p0) p0
    replace p1 := kept hb (block_lt p1) p1
    replace p := Lib.hid (p.out.bel hb)
    replace bb := Lib.hid (bb.out.trans (hb.mono bb.out.size))
    clear hb
    go_wp2_with fail
    refine (manys_no hv.out (by omega) _ _ _ p.out).mono ?_
    rintro e w3 ⟨rfl, hb⟩
    have szw3 := hb.size
    replace p0 := kept hb (block_lt p0) p0
    replace p1 := kept hb (block_lt p1) p1
    replace p := Lib.hid (p.out.bel hb)
    replace bb := Lib.hid (bb.out.trans (hb.mono bb.out.size))
    clear hb
    go_wp2_with fail
    go_ret
    exact ⟨rfl, bb.out⟩
  have hI0 := validB_W hv
  obtain ⟨W, rfl⟩ := Int.eq_ofNat_of_zero_le (by omega : 0 ≤ W)
  have hI : Im W n xs := Im.of hv p.out.1
  have hW6 := hI.w6
  have hW1 := hI.w1
  have hn1 := hI.l1
  have hn6 := hI.l6
  have hI := Lib.hid hI
  clear hv hI0
  obtain ⟨K, hK⟩ : ∃ K, manyC (cellOf xs) W n = K := ⟨_, rfl⟩
  have hK0 : 0 ≤ K := hK ▸ many_nn _ _ _
  replace hK := Lib.hid hK
  go_wp2_with fail
  refine (many_ok hI.out hK.out _ _ _ p.out).mono ?_
  rintro e w4 ⟨rfl, hb⟩
  have szw4 : w1.heap.size + 1 ≤ w4.heap.size := by have := hb.size; simpa using this
  replace p0 := kept hb (block_lt p0) p0
  replace p1 := kept hb (block_lt p1) p1
  replace p := Lib.hid (p.out.bel hb)
  replace bb := Lib.hid (bb.out.trans (hb.mono bb.out.size))
  clear hb
  go_wp2_with fail
  refine (manys_ok hI.out hK.out _ _ _ p.out).mono ?_
  rintro e w5 ⟨rfl, hb⟩
  have szw5 := hb.size
  replace p0 := kept hb (block_lt p0) p0
  replace p1 := kept hb (block_lt p1) p1
  replace p := Lib.hid (p.out.bel hb)
  replace bb := Lib.hid (bb.out.trans (hb.mono bb.out.size))
  clear hb
  have hb := many_bounds hI.out hK.out
  have hR1 : n = 1 → K = 0 := fun e => by subst e; rw [← hK.out]; exact many_row _ _
  have hC1 : W = 1 → K = 0 := fun e => by subst e; rw [← hK.out]; exact many_col _ _
  have e1 := bnd_num n (by omega) W (by omega)
  have e2 := bnd_num2 n hn1 (by omega) W (by omega)
  by_cases c1 : n = 1
  · have e := hR1 c1
    clear hR1 hC1 e1 e2 hb hI hK
    subst c1
    subst e
    go_wp2_with fail
    go_ret
    exact ⟨rfl, bb.out⟩
  by_cases c2 : W = 1
  · have e := hC1 c2
    clear hR1 hC1 e1 e2 hb hI hK
    subst c2
    subst e
    have c3 : ((n : Int) == 1) = false := by simpa using (show ¬ (n : Int) = 1 by omega)
    go_wp2_with fail
    go_ret
    exact ⟨rfl, bb.out⟩
  have c3 : ((n : Int) == 1) = false := by simpa using (show ¬ (n : Int) = 1 by omega)
  have c4 : ((W : Int) == 1) = false := by simpa using (show ¬ (W : Int) = 1 by omega)
  clear hR1 hC1 hI hK
  have k1 : wrap64 (4 * K) ≤ wrap64 (wrap64 (wrap64 ((n : Int) * (n : Int)) * (W : Int)) * (W : Int)) := line_le1 hK0 hb.2 e1
  have k2 : K ≤ wrap64 (wrap64 ((wrap64 ((n : Int) * ((n : Int) - 1))).tdiv 2) * wrap64 ((wrap64 ((W : Int) * (W : Int))).tdiv 4)) := e2 ▸ hb.1
  have d1 := decide_eq_true k1
  have d2 := decide_eq_true k2
  clear e1 e2 hb
  go_wp2_with fail
  go_ret
  exact ⟨rfl, bb.out⟩

set_option maxRecDepth 100000 in
theorem lifted (os : Os) (started : os.Started) (H : Type) (enc : TypeId × Value → H) :
    ReturnsInHanded {} Try.checked os 15 .any (Rows.fnSwitchLineSpec.pre6 enc Try.prog Try.f15 Rows.fnSwitchLineRow.domain false) (Rows.fnSwitchLineSpec.post enc Try.prog Try.f15 false true false false) := by
  refine returnsInHanded_of_change (C := Try.checked) own started (by kernel_rfl) Try.func15
    (ChangeSpec.witness6 (enc := enc) (C := Try.checked) false ⟨#[], #[.slice none 0 0], []⟩ 8 (by kernel_rfl) (by kernel_rfl) (by kernel_rfl) (by kernel_rfl)) ?_
  intro W base args ds gs before hval0 hW hcnd _
  have hval : ∀ (j : Nat) t v, Try.f15.params[j]? = some t → args[j]? = some v → Value.okWide Try.prog W .any base t v := hval0
  have hW' := hW
  obtain ⟨p, q, hA0, hV, rfl, hfz, hnd⟩ := hW
  have hA : DataW.TrodAll enc Try.prog W 0 (fun _ => true) true Try.f15.params.toList args.toList ds p := hA0
  rw [Try.params15] at hA hval
  obtain ⟨v0, vs0, d0, ds0, p0, q0, hargs, rfl, rfl, h0, r0⟩ := trodAll_cons hA
  obtain ⟨rfl, rfl, rfl⟩ := trodAll_nil r0
  obtain rfl : args = #[v0] := by cases args; simp_all
  obtain ⟨rfl, rfl⟩ := trodVars_none hV
  have k0 := h0
  have lt0 : ∀ x ∈ p0, x.block < W.heap.size := by obtain ⟨m, hm⟩ := k0; exact DataW.trod_lt m _ _ _ hm
  obtain ⟨a0, len0, cap0, z0, rfl, w0, l0, m0⟩ := open_code (hval 0 22 v0 rfl rfl) h0
  clear hA0 hval0
  refine (walk a0 len0 cap0 z0 W w0 l0 m0).mono fun e W' ⟨he, bel⟩ => ?_
  subst he
  exact ⟨_, rfl, _, _, _, [], _, [], hW', trodAll_mk1 (shut_bool Try.underlying4 _), (trodAll_cons_mk (Below.trod laidOut (by kernel_rfl) (of_decide_eq_true (by kernel_rfl)) k0 bel lt0) trodAll_mk0), rfl, bel.frame _, fun h => by cases h⟩

theorem closed : joinedFacts Try.prog 15 Try.f15 Rows.fnSwitchLineSpec Rows.fnSwitchLineRow = true := by
  simp only [joinedFacts, Bool.and_eq_true]
  repeat' apply And.intro
  all_goals first | with_reducible exact mayEnterOk | (with_reducible rw [liftsFinalOk]; kernel_rfl) | (with_reducible rw [makeOk]; kernel_rfl) | kernel_rfl

theorem over : Rows.fnSwitchLineRow.holds Try.pinned (OpenSpec.ofChange Rows.fnSwitchLineSpec) :=
  OpenClaim.holds_of_wide 15 Try.f15 rfl rfl rfl rfl rfl rfl rfl ⟨rfl, rfl, rfl, rfl, rfl⟩ rfl rfl rfl rfl rfl (by kernel_rfl) Try.func15 closed
    (of_decide_eq_true (by kernel_rfl)) (by unfold Func.isWrapper; first | (rw [if_pos (by decide +kernel)]; kernel_rfl) | (rw [if_neg (by decide +kernel)]; exact ⟨rfl, rfl⟩))
    (fun os started H enc _ => lifted os started H enc)

theorem proved : Rows.FnSwitchLineSaid := over
#print axioms proved
end Go.Proofs.Ytnibmcihklaigaa.LFSwitchLine

