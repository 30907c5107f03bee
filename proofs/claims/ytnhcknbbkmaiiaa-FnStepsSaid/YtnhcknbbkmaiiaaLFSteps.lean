/-
  For every slice of bytes the law FnSteps answers true: a unique image needs no change, and all set cells are changes enough; nothing that was there is written; no condition.
-/
import Derived.Test.YtnhcknbbkmaiiaaO
import Derived.Test.YtnhcknbbkmaiiaaK
import Derived.Deep.RegionLaw
import Derived.Test.YtnhcknbbkmaiiaaNu
import Derived.Test.YtnhcknbbkmaiiaaNx
import Derived.Test.YtnhcknbbkmaiiaaHc
import Derived.Test.YtnhcknbbkmaiiaaMi
namespace Go.Proofs.Ytnhcknbbkmaiiaa.LFSteps
open Go.ChangeShapes Go.WideShapes Go.ChangeAt Go.RowKit Go.Joins

set_option maxHeartbeats 1000000 in
set_option maxRecDepth 100000 in
theorem walk (a : Option Addr) (len cap : Nat) (zs : List Int) (w : World) (h : Bys w a len zs) (hl : len ≤ cap) (hm : cap ≤ 9223372036854775807) :
    Calls Try.prog 10 #[.slice a len cap] w fun e w' => e = .returned (.bool true) ∧ Below w.heap.size w w' := by
  by_cases hbig : 1048576 < len
  · clear h
    go_enter Try.func10, Try.ntmps10
    go_wp2_with fail
    go_ret
    exact ⟨rfl, Below.refl _ _⟩
  go_enter Try.func10, Try.ntmps10
  go_wp2_with fail
  refine (draw_DrawImageSteps a len cap zs _ h hl hm).mono ?_
  rintro e w1 ⟨V, s, n, cg, xs, rfl, hR, hn, hb1⟩
  clear h hl hm
  have bb := Lib.hid hb1
  have p := Lib.hid hR
  clear hR hb1
  have hbx : Below w1.heap.size w1 (w1.alloc (.cells #[.int .i64 V, .slice s n cg] 25)) := (Below.refl _ _).alloc (Nat.le_refl _) _
  replace p := Lib.hid (p.out.bel hbx)
  replace bb := Lib.hid (bb.out.trans (hbx.mono bb.out.size))
  clear hbx
  have p0 : (w1.alloc (.cells #[.int .i64 V, .slice s n cg] 25)).cell? ⟨w1.heap.size, 0, none⟩ = some (.int .i64 V) := by simp
  have p1 : (w1.alloc (.cells #[.int .i64 V, .slice s n cg] 25)).cell? ⟨w1.heap.size, 1, none⟩ = some (.slice s n cg) := by simp
  rcases sto_ways V p.out.1 with h1 | ⟨W, rfl, hI, h12, h1⟩
  case inl =>
    go_wp2_with fail
    refine (stp_io h1 (by omega) _ _ _ p.out).mono ?_
    rintro e w2 ⟨rfl, hb⟩
    have szw2 : w1.heap.size + 1 ≤ w2.heap.size := by have := hb.size; simpa using this
    replace p0 := kept hb (block_lt p0) p0
    replace p1 := kept hb (block_lt p1) p1
    replace p := Lib.hid (p.out.bel hb)
    replace bb := Lib.hid (bb.out.trans (hb.mono bb.out.size))
    clear hb
    go_wp2_with fail
    refine (stp_so h1 (by omega) _ _ _ p.out).mono ?_
    rintro e w3 ⟨rfl, hb⟩
    have szw3 := hb.size
    replace p0 := kept hb (block_lt p0) p0
    replace p1 := kept hb (block_lt p1) p1
    replace p := Lib.hid (p.out.bel hb)
    replace bb := Lib.hid (bb.out.trans (hb.mono bb.out.size))
    clear hb
    go_wp2_with fail
    go_ret
    exact ⟨rfl, bb.out⟩
  have hW6 := hI.w6
  have hW1 := hI.w1
  have hn1 := hI.l1
  have hn6 := hI.l6
  obtain ⟨K, hK⟩ : ∃ K, stepI xs W n = K := ⟨_, rfl⟩
  rw [hK] at h1
  have hKb := stepi_bd hI
  rw [hK] at hKb
  have hK0 : ¬ K < 0 := by omega
  have hSt := stepi_is hI
  rw [hK] at hSt
  obtain ⟨N, hN⟩ : ∃ N, n * W = N := ⟨_, rfl⟩
  have ek : (n : Int) * (W : Int) = (N : Int) := by rw [← hN, Int.natCast_mul]
  have hN12 : N ≤ 12 := by omega
  have ewN : wrap64 (N : Int) = (N : Int) := IntWalk.wrap64_in _ ⟨by omega, by omega⟩
  have ewN2 : IntKind.i64.wrap (N : Int) = (N : Int) := IntWalk.i64_in _ ⟨by omega, by omega⟩
  replace h1 := Lib.hid h1
  replace hK := Lib.hid hK
  replace hI := Lib.hid hI
  replace hSt := Lib.hid hSt
  replace hN := Lib.hid hN
  go_wp2_with fail
  refine (stp_io h1.out (by omega) _ _ _ p.out).mono ?_
  rintro e w4 ⟨rfl, hb⟩
  have szw4 : w1.heap.size + 1 ≤ w4.heap.size := by have := hb.size; simpa using this
  replace p0 := kept hb (block_lt p0) p0
  replace p1 := kept hb (block_lt p1) p1
  replace p := Lib.hid (p.out.bel hb)
  replace bb := Lib.hid (bb.out.trans (hb.mono bb.out.size))
  clear hb
  go_wp2_with fail
  refine (stp_so h1.out (by omega) _ _ _ p.out).mono ?_
  rintro e w5 ⟨rfl, hb⟩
  have szw5 := hb.size
  replace p0 := kept hb (block_lt p0) p0
  replace p1 := kept hb (block_lt p1) p1
  replace p := Lib.hid (p.out.bel hb)
  replace bb := Lib.hid (bb.out.trans (hb.mono bb.out.size))
  clear hb
  obtain ⟨M, hM⟩ : ∃ M, manyI W xs n = M := ⟨_, rfl⟩
  have hmo : manyOf W xs = M := by rw [hI.out.many]; exact hM
  have hm36 := many_36 xs hW6 hn6
  have hz := hSt.out.zero hI.out
  have hle := hSt.out.set hI.out
  have hle2 := hSt.out.unset hI.out
  rw [hI.out.oth_many n (Nat.le_refl n), ek] at hle2
  rw [hM] at hm36 hle hle2
  obtain ⟨b, hb0⟩ : ∃ b, uniB xs W n = b := ⟨_, rfl⟩
  have hE : (K == 0) = b := by rw [Bool.eq_iff_iff, beq_iff_eq, hz, unib_iff.1 hb0]
  have hE2 : (b == b) = true := by simp
  have ews : IntKind.i64.wrap ((N : Int) - M) = (N : Int) - M := IntWalk.i64_in _ ⟨by omega, by omega⟩
  replace hM := Lib.hid hM
  replace hmo := Lib.hid hmo
  replace hb0 := Lib.hid hb0
  clear hz
  go_wp2_with fail
  refine (many_impl W s n cg xs _ p.out (by omega)).mono ?_
  rintro e w6 ⟨rfl, hb⟩
  have szw6 := hb.size
  replace p0 := kept hb (block_lt p0) p0
  replace p1 := kept hb (block_lt p1) p1
  replace p := Lib.hid (p.out.bel hb)
  replace bb := Lib.hid (bb.out.trans (hb.mono bb.out.size))
  clear hb
  rw [hmo.out]
  go_wp2_with fail
  refine (uni_ok hI.out hb0.out _ _ _ p.out).mono ?_
  rintro e w7 ⟨rfl, hb⟩
  have szw7 := hb.size
  replace p0 := kept hb (block_lt p0) p0
  replace p1 := kept hb (block_lt p1) p1
  replace p := Lib.hid (p.out.bel hb)
  replace bb := Lib.hid (bb.out.trans (hb.mono bb.out.size))
  clear hb
  go_wp2_with fail
  go_ret
  exact ⟨rfl, bb.out⟩

set_option maxRecDepth 100000 in
theorem lifted (os : Os) (started : os.Started) (H : Type) (enc : TypeId × Value → H) :
    ReturnsInHanded {} Try.checked os 10 .any (Rows.fnStepsSpec.pre6 enc Try.prog Try.f10 Rows.fnStepsRow.domain false) (Rows.fnStepsSpec.post enc Try.prog Try.f10 false true false false) := by
  refine returnsInHanded_of_change (C := Try.checked) own started (by kernel_rfl) Try.func10
    (ChangeSpec.witness6 (enc := enc) (C := Try.checked) false ⟨#[], #[.slice none 0 0], []⟩ 8 (by kernel_rfl) (by kernel_rfl) (by kernel_rfl) (by kernel_rfl)) ?_
  intro W base args ds gs before hval0 hW hcnd _
  have hval : ∀ (j : Nat) t v, Try.f10.params[j]? = some t → args[j]? = some v → Value.okWide Try.prog W .any base t v := hval0
  have hW' := hW
  obtain ⟨p, q, hA0, hV, rfl, hfz, hnd⟩ := hW
  have hA : DataW.TrodAll enc Try.prog W 0 (fun _ => true) true Try.f10.params.toList args.toList ds p := hA0
  rw [Try.params10] at hA hval
  obtain ⟨v0, vs0, d0, ds0, p0, q0, hargs, rfl, rfl, h0, r0⟩ := trodAll_cons hA
  obtain ⟨rfl, rfl, rfl⟩ := trodAll_nil r0
  obtain rfl : args = #[v0] := by cases args; simp_all
  obtain ⟨rfl, rfl⟩ := trodVars_none hV
  have k0 := h0
  have lt0 : ∀ x ∈ p0, x.block < W.heap.size := by obtain ⟨m, hm⟩ := k0; exact DataW.trod_lt m _ _ _ hm
  obtain ⟨a0, len0, cap0, z0, rfl, w0, l0, m0⟩ := open_code (hval 0 22 v0 rfl rfl) h0
  clear hA0 hval0
  refine (walk a0 len0 cap0 z0 W w0 l0 m0).mono fun e W' ⟨he, bel⟩ => ?_
  subst he
  exact ⟨_, rfl, _, _, _, [], _, [], hW', trodAll_mk1 (shut_bool Try.underlying4 _), (trodAll_cons_mk (Below.trod laidOut (by kernel_rfl) (of_decide_eq_true (by kernel_rfl)) k0 bel lt0) trodAll_mk0), rfl, bel.frame _, fun h => by cases h⟩

theorem closed : joinedFacts Try.prog 10 Try.f10 Rows.fnStepsSpec Rows.fnStepsRow = true := by
  simp only [joinedFacts, Bool.and_eq_true]
  repeat' apply And.intro
  all_goals first | with_reducible exact mayEnterOk | (with_reducible rw [liftsFinalOk]; kernel_rfl) | (with_reducible rw [makeOk]; kernel_rfl) | kernel_rfl

theorem over : Rows.fnStepsRow.holds Try.pinned (OpenSpec.ofChange Rows.fnStepsSpec) :=
  OpenClaim.holds_of_wide 10 Try.f10 rfl rfl rfl rfl rfl rfl rfl ⟨rfl, rfl, rfl, rfl, rfl⟩ rfl rfl rfl rfl rfl (by kernel_rfl) Try.func10 closed
    (of_decide_eq_true (by kernel_rfl)) (by unfold Func.isWrapper; first | (rw [if_pos (by decide +kernel)]; kernel_rfl) | (rw [if_neg (by decide +kernel)]; exact ⟨rfl, rfl⟩))
    (fun os started H enc _ => lifted os started H enc)

theorem proved : Rows.FnStepsSaid := over
#print axioms proved
end Go.Proofs.Ytnhcknbbkmaiiaa.LFSteps

