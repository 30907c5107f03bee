/-
  For every slice of bytes the law FnStepsTurn answers true: turned images and the other cells need as many changes; nothing that was there is written; no condition.
-/
import Derived.Test.YtnhcknbbkmaiiaaO
import Derived.Test.YtnhcknbbkmaiiaaK
import Derived.Deep.RegionLaw
import Derived.Test.YtnhcknbbkmaiiaaNx
import Derived.Test.YtnhcknbbkmaiiaaEp
import Derived.Test.YtnhcknbbkmaiiaaMi
namespace Go.Proofs.Ytnhcknbbkmaiiaa.LFStepsTurn
open Go.ChangeShapes Go.WideShapes Go.ChangeAt Go.RowKit Go.Joins

set_option maxHeartbeats 1000000 in
set_option maxRecDepth 100000 in
theorem walk (a : Option Addr) (len cap : Nat) (zs : List Int) (w : World) (h : Bys w a len zs) (hl : len ≤ cap) (hm : cap ≤ 9223372036854775807) :
    Calls Try.prog 12 #[.slice a len cap] w fun e w' => e = .returned (.bool true) ∧ Below w.heap.size w w' := by
  by_cases hbig : 1048576 < len
  · clear h
    go_enter Try.func12, Try.ntmps12
    go_wp2_with fail
    go_ret
    exact ⟨rfl, Below.refl _ _⟩
  go_enter Try.func12, Try.ntmps12
  go_wp2_with fail
  refine (draw_DrawImageSteps a len cap zs _ h hl hm).mono ?_
  rintro e w1 ⟨V, s, n, cg, xs, rfl, hR, hn, hb1⟩
  clear h hl hm
  have bb := Lib.hid hb1
  have p := Lib.hid hR
  clear hR hb1
  have hbx : Below w1.heap.size w1 (w1.alloc (.cells #[.int .i64 V, .slice s n cg] 25)) := (Below.refl _ _).alloc (Nat.le_refl _) _
  replace p := Lib.hid (p.out.bel hbx)
  replace bb := Lib.hid (bb.out.trans (hbx.mono bb.out.size))
  clear hbx
  have p0 : (w1.alloc (.cells #[.int .i64 V, .slice s n cg] 25)).cell? ⟨w1.heap.size, 0, none⟩ = some (.int .i64 V) := by simp
  have p1 : (w1.alloc (.cells #[.int .i64 V, .slice s n cg] 25)).cell? ⟨w1.heap.size, 1, none⟩ = some (.slice s n cg) := by simp
  rcases sto_ways V p.out.1 with h1 | ⟨W, rfl, hI, h12, h1⟩
  case inl =>
    go_wp2_with fail
    refine (stp_io h1 (by omega) _ _ _ p.out).mono ?_
    rintro e w2 ⟨rfl, hb⟩
    have szw2 : w1.heap.size + 1 ≤ w2.heap.size := by have := hb.size; simpa using this
    replace p0 := kept hb (block_lt p0) p0
    replace p1 := kept hb (block_lt p1) p1
    replace p := Lib.hid (p.out.bel hb)
    replace bb := Lib.hid (bb.out.trans (hb.mono bb.out.size))
    clear hb
    go_wp2_with fail
    refine (stp_so h1 (by omega) _ _ _ p.out).mono ?_
    rintro e w3 ⟨rfl, hb⟩
    have szw3 := hb.size
    replace p0 := kept hb (block_lt p0) p0
    replace p1 := kept hb (block_lt p1) p1
    replace p := Lib.hid (p.out.bel hb)
    replace bb := Lib.hid (bb.out.trans (hb.mono bb.out.size))
    clear hb
    go_wp2_with fail
    go_ret
    exact ⟨rfl, bb.out⟩
  have hW6 := hI.w6
  have hW1 := hI.w1
  have hn1 := hI.l1
  have hn6 := hI.l6
  obtain ⟨K, hK⟩ : ∃ K, stepI xs W n = K := ⟨_, rfl⟩
  rw [hK] at h1
  have hKb := stepi_bd hI
  rw [hK] at hKb
  have hK0 : ¬ K < 0 := by omega
  have hSt := stepi_is hI
  rw [hK] at hSt
  obtain ⟨N, hN⟩ : ∃ N, n * W = N := ⟨_, rfl⟩
  have ek : (n : Int) * (W : Int) = (N : Int) := by rw [← hN, Int.natCast_mul]
  have hN12 : N ≤ 12 := by omega
  have ewN : wrap64 (N : Int) = (N : Int) := IntWalk.wrap64_in _ ⟨by omega, by omega⟩
  have ewN2 : IntKind.i64.wrap (N : Int) = (N : Int) := IntWalk.i64_in _ ⟨by omega, by omega⟩
  replace h1 := Lib.hid h1
  replace hK := Lib.hid hK
  replace hI := Lib.hid hI
  replace hSt := Lib.hid hSt
  replace hN := Lib.hid hN
  go_wp2_with fail
  refine (stp_io h1.out (by omega) _ _ _ p.out).mono ?_
  rintro e w4 ⟨rfl, hb⟩
  have szw4 : w1.heap.size + 1 ≤ w4.heap.size := by have := hb.size; simpa using this
  replace p0 := kept hb (block_lt p0) p0
  replace p1 := kept hb (block_lt p1) p1
  replace p := Lib.hid (p.out.bel hb)
  replace bb := Lib.hid (bb.out.trans (hb.mono bb.out.size))
  clear hb
  go_wp2_with fail
  refine (stp_so h1.out (by omega) _ _ _ p.out).mono ?_
  rintro e w5 ⟨rfl, hb⟩
  have szw5 := hb.size
  replace p0 := kept hb (block_lt p0) p0
  replace p1 := kept hb (block_lt p1) p1
  replace p := Lib.hid (p.out.bel hb)
  replace bb := Lib.hid (bb.out.trans (hb.mono bb.out.size))
  clear hb
  have hIt := hI.out.turn
  have hIo := hI.out.oth
  have e1 : stepI (turnL xs W n) n W = K := (stepi_turn hI.out).trans hK.out
  have e2 : stepI (othL xs W n) W n = K := (stepi_is hIo).one (hSt.out.oth hI.out)
  have h12t : W * n ≤ 12 := by rw [Nat.mul_comm]; have := hN.out; omega
  have h12o : n * W ≤ 12 := by have := hN.out; omega
  obtain ⟨T, hT⟩ : ∃ T, turnL xs W n = T := ⟨_, rfl⟩
  obtain ⟨O, hO⟩ : ∃ O, othL xs W n = O := ⟨_, rfl⟩
  rw [hT] at hIt e1
  rw [hO] at hIo e2
  replace hIt := Lib.hid hIt
  replace hIo := Lib.hid hIo
  replace e1 := Lib.hid e1
  replace e2 := Lib.hid e2
  replace hT := Lib.hid hT
  replace hO := Lib.hid hO
  replace h12t := Lib.hid h12t
  replace h12o := Lib.hid h12o
  go_wp2_with fail
  refine ((hT.out ▸ turn_ok hI.out _ _ _ p.out)).mono ?_
  rintro e w6 ⟨⟨ab, cb, rfl, ho⟩, hb⟩
  have b := Lib.hid ho.row
  have szw6 := hb.size
  replace p0 := kept hb (block_lt p0) p0
  replace p1 := kept hb (block_lt p1) p1
  replace p := Lib.hid (p.out.bel hb)
  replace bb := Lib.hid (bb.out.trans (hb.mono bb.out.size))
  clear hb
  clear ho
  have hbx : Below w6.heap.size w6 (w6.alloc (.cells #[.int .i64 n, .slice ab W cb] 25)) := (Below.refl _ _).alloc (Nat.le_refl _) _
  replace p0 := kept hbx (block_lt p0) p0
  replace p1 := kept hbx (block_lt p1) p1
  replace p := Lib.hid (p.out.bel hbx)
  replace b := Lib.hid (b.out.bel hbx)
  replace bb := Lib.hid (bb.out.trans (hbx.mono bb.out.size))
  clear hbx
  have b0 : (w6.alloc (.cells #[.int .i64 n, .slice ab W cb] 25)).cell? ⟨w6.heap.size, 0, none⟩ = some (.int .i64 n) := by simp
  have b1 : (w6.alloc (.cells #[.int .i64 n, .slice ab W cb] 25)).cell? ⟨w6.heap.size, 1, none⟩ = some (.slice ab W cb) := by simp
  go_wp2_with fail
  refine ((hO.out ▸ other_ok hI.out _ _ _ p.out)).mono ?_
  rintro e w7 ⟨⟨ac, cc, rfl, ho⟩, hb⟩
  have c := Lib.hid ho.row
  have szw7 : w6.heap.size + 1 ≤ w7.heap.size := by have := hb.size; simpa using this
  replace p0 := kept hb (block_lt p0) p0
  replace p1 := kept hb (block_lt p1) p1
  replace b0 := kept hb (block_lt b0) b0
  replace b1 := kept hb (block_lt b1) b1
  replace p := Lib.hid (p.out.bel hb)
  replace b := Lib.hid (b.out.bel hb)
  replace bb := Lib.hid (bb.out.trans (hb.mono bb.out.size))
  clear hb
  clear ho
  have hbx : Below w7.heap.size w7 (w7.alloc (.cells #[.int .i64 W, .slice ac n cc] 25)) := (Below.refl _ _).alloc (Nat.le_refl _) _
  replace p0 := kept hbx (block_lt p0) p0
  replace p1 := kept hbx (block_lt p1) p1
  replace b0 := kept hbx (block_lt b0) b0
  replace b1 := kept hbx (block_lt b1) b1
  replace p := Lib.hid (p.out.bel hbx)
  replace b := Lib.hid (b.out.bel hbx)
  replace c := Lib.hid (c.out.bel hbx)
  replace bb := Lib.hid (bb.out.trans (hbx.mono bb.out.size))
  clear hbx
  have c0 : (w7.alloc (.cells #[.int .i64 W, .slice ac n cc] 25)).cell? ⟨w7.heap.size, 0, none⟩ = some (.int .i64 W) := by simp
  have c1 : (w7.alloc (.cells #[.int .i64 W, .slice ac n cc] 25)).cell? ⟨w7.heap.size, 1, none⟩ = some (.slice ac n cc) := by simp
  go_wp2_with fail
  refine (stp_ok hIt.out h12t.out e1.out _ _ _ b.out).mono ?_
  rintro e w8 ⟨rfl, hb⟩
  have szw8 : w7.heap.size + 1 ≤ w8.heap.size := by have := hb.size; simpa using this
  replace p0 := kept hb (block_lt p0) p0
  replace p1 := kept hb (block_lt p1) p1
  replace b0 := kept hb (block_lt b0) b0
  replace b1 := kept hb (block_lt b1) b1
  replace c0 := kept hb (block_lt c0) c0
  replace c1 := kept hb (block_lt c1) c1
  replace p := Lib.hid (p.out.bel hb)
  replace b := Lib.hid (b.out.bel hb)
  replace c := Lib.hid (c.out.bel hb)
  replace bb := Lib.hid (bb.out.trans (hb.mono bb.out.size))
  clear hb
  go_wp2_with fail
  refine (stp_ok hIo.out h12o.out e2.out _ _ _ c.out).mono ?_
  rintro e w9 ⟨rfl, hb⟩
  have szw9 := hb.size
  replace p0 := kept hb (block_lt p0) p0
  replace p1 := kept hb (block_lt p1) p1
  replace b0 := kept hb (block_lt b0) b0
  replace b1 := kept hb (block_lt b1) b1
  replace c0 := kept hb (block_lt c0) c0
  replace c1 := kept hb (block_lt c1) c1
  replace p := Lib.hid (p.out.bel hb)
  replace b := Lib.hid (b.out.bel hb)
  replace c := Lib.hid (c.out.bel hb)
  replace bb := Lib.hid (bb.out.trans (hb.mono bb.out.size))
  clear hb
  go_wp2_with fail
  go_ret
  exact ⟨rfl, bb.out⟩

set_option maxRecDepth 100000 in
theorem lifted (os : Os) (started : os.Started) (H : Type) (enc : TypeId × Value → H) :
    ReturnsInHanded {} Try.checked os 12 .any (Rows.fnStepsTurnSpec.pre6 enc Try.prog Try.f12 Rows.fnStepsTurnRow.domain false) (Rows.fnStepsTurnSpec.post enc Try.prog Try.f12 false true false false) := by
  refine returnsInHanded_of_change (C := Try.checked) own started (by kernel_rfl) Try.func12
    (ChangeSpec.witness6 (enc := enc) (C := Try.checked) false ⟨#[], #[.slice none 0 0], []⟩ 8 (by kernel_rfl) (by kernel_rfl) (by kernel_rfl) (by kernel_rfl)) ?_
  intro W base args ds gs before hval0 hW hcnd _
  have hval : ∀ (j : Nat) t v, Try.f12.params[j]? = some t → args[j]? = some v → Value.okWide Try.prog W .any base t v := hval0
  have hW' := hW
  obtain ⟨p, q, hA0, hV, rfl, hfz, hnd⟩ := hW
  have hA : DataW.TrodAll enc Try.prog W 0 (fun _ => true) true Try.f12.params.toList args.toList ds p := hA0
  rw [Try.params12] at hA hval
  obtain ⟨v0, vs0, d0, ds0, p0, q0, hargs, rfl, rfl, h0, r0⟩ := trodAll_cons hA
  obtain ⟨rfl, rfl, rfl⟩ := trodAll_nil r0
  obtain rfl : args = #[v0] := by cases args; simp_all
  obtain ⟨rfl, rfl⟩ := trodVars_none hV
  have k0 := h0
  have lt0 : ∀ x ∈ p0, x.block < W.heap.size := by obtain ⟨m, hm⟩ := k0; exact DataW.trod_lt m _ _ _ hm
  obtain ⟨a0, len0, cap0, z0, rfl, w0, l0, m0⟩ := open_code (hval 0 22 v0 rfl rfl) h0
  clear hA0 hval0
  refine (walk a0 len0 cap0 z0 W w0 l0 m0).mono fun e W' ⟨he, bel⟩ => ?_
  subst he
  exact ⟨_, rfl, _, _, _, [], _, [], hW', trodAll_mk1 (shut_bool Try.underlying4 _), (trodAll_cons_mk (Below.trod laidOut (by kernel_rfl) (of_decide_eq_true (by kernel_rfl)) k0 bel lt0) trodAll_mk0), rfl, bel.frame _, fun h => by cases h⟩

theorem closed : joinedFacts Try.prog 12 Try.f12 Rows.fnStepsTurnSpec Rows.fnStepsTurnRow = true := by
  simp only [joinedFacts, Bool.and_eq_true]
  repeat' apply And.intro
  all_goals first | with_reducible exact mayEnterOk | (with_reducible rw [liftsFinalOk]; kernel_rfl) | (with_reducible rw [makeOk]; kernel_rfl) | kernel_rfl

theorem over : Rows.fnStepsTurnRow.holds Try.pinned (OpenSpec.ofChange Rows.fnStepsTurnSpec) :=
  OpenClaim.holds_of_wide 12 Try.f12 rfl rfl rfl rfl rfl rfl rfl ⟨rfl, rfl, rfl, rfl, rfl⟩ rfl rfl rfl rfl rfl (by kernel_rfl) Try.func12 closed
    (of_decide_eq_true (by kernel_rfl)) (by unfold Func.isWrapper; first | (rw [if_pos (by decide +kernel)]; kernel_rfl) | (rw [if_neg (by decide +kernel)]; exact ⟨rfl, rfl⟩))
    (fun os started H enc _ => lifted os started H enc)

theorem proved : Rows.FnStepsTurnSaid := over
#print axioms proved
end Go.Proofs.Ytnhcknbbkmaiiaa.LFStepsTurn

