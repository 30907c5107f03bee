/-
  For every slice of bytes the law FnSwitchMany answers true: turned and mirrored images and the other cells have as many switches; nothing that was there is written; no condition.
-/
import Derived.Test.YtnibmcihklaigaaO
import Derived.Test.YtnibmcihklaigaaK
import Derived.Deep.RegionLaw
import Derived.Test.YtnibmcihklaigaaKc
namespace Go.Proofs.Ytnibmcihklaigaa.LFSwitchMany
open Go.ChangeShapes Go.WideShapes Go.ChangeAt Go.RowKit Go.Joins

set_option maxHeartbeats 1000000 in
set_option maxRecDepth 100000 in
theorem walk (a : Option Addr) (len cap : Nat) (zs : List Int) (w : World) (h : Bys w a len zs) (hl : len ≤ cap) (hm : cap ≤ 9223372036854775807) :
    Calls Try.prog 10 #[.slice a len cap] w fun e w' => e = .returned (.bool true) ∧ Below w.heap.size w w' := by
  by_cases hbig : 1048576 < len
  · clear h
    go_enter Try.func10, Try.ntmps10
    go_wp2_with fail
    go_ret
    exact ⟨rfl, Below.refl _ _⟩
  go_enter Try.func10, Try.ntmps10
  go_wp2_with fail
  refine (draw_DrawSwitchMany a len cap zs _ h hl hm).mono ?_
  rintro e w1 ⟨W, s, n, cg, xs, rfl, hR, hn, hb1⟩
  clear h hl hm
  have bb := Lib.hid hb1
  have p := Lib.hid hR
  clear hR hb1
  have hbx : Below w1.heap.size w1 (w1.alloc (.cells #[.int .i64 W, .slice s n cg] 25)) := (Below.refl _ _).alloc (Nat.le_refl _) _
  replace p := Lib.hid (p.out.bel hbx)
  replace bb := Lib.hid (bb.out.trans (hbx.mono bb.out.size))
  clear hbx
  have p0 : (w1.alloc (.cells #[.int .i64 W, .slice s n cg] 25)).cell? ⟨w1.heap.size, 0, none⟩ = some (.int .i64 W) := by simp
  have p1 : (w1.alloc (.cells #[.int .i64 W, .slice s n cg] 25)).cell? ⟨w1.heap.size, 1, none⟩ = some (.slice s n cg) := by simp
  by_cases hv : validB W xs = true
  case neg =>
    have hv : validB W xs = false := by simpa using hv
    replace hv := Lib.hid hv
    go_wp2_with fail
    refine (many_no hv.out (by omega) _ _ _ p.out).mono ?_
    rintro e w2 ⟨rfl, hb⟩
    have szw2 : w1.heap.size + 1 ≤ w2.heap.size := by have := hb.size; simpa using this
    replace p0 := kept hb (block_lt p0) p0
    replace p1 := kept hb (block_lt p1) p1
    replace p := Lib.hid (p.out.bel hb)
    replace bb := Lib.hid (bb.out.trans (hb.mono bb.out.size))
    clear hb
    go_wp2_with fail
    refine (manys_no hv.out (by omega) _ _ _ p.out).mono ?_
    rintro e w3 ⟨rfl, hb⟩
    have szw3 := hb.size
    replace p0 := kept hb (block_lt p0) p0
    replace p1 := kept hb (block_lt p1) p1
    replace p := Lib.hid (p.out.bel hb)
    replace bb := Lib.hid (bb.out.trans (hb.mono bb.out.size))
    clear hb
    go_wp2_with fail
    go_ret
    exact ⟨rfl, bb.out⟩
  have hI0 := validB_W hv
  obtain ⟨W, rfl⟩ := Int.eq_ofNat_of_zero_le (by omega : 0 ≤ W)
  have hI : Im W n xs := Im.of hv p.out.1
  have hW6 := hI.w6
  have hW1 := hI.w1
  have hn1 := hI.l1
  have hn6 := hI.l6
  have hI := Lib.hid hI
  clear hv hI0
  obtain ⟨K, hK⟩ : ∃ K, manyC (cellOf xs) W n = K := ⟨_, rfl⟩
  have hK0 : 0 ≤ K := hK ▸ many_nn _ _ _
  replace hK := Lib.hid hK
  go_wp2_with fail
  refine (many_ok hI.out hK.out _ _ _ p.out).mono ?_
  rintro e w4 ⟨rfl, hb⟩
  have szw4 : w1.heap.size + 1 ≤ w4.heap.size := by have := hb.size; simpa using this
  replace p0 := kept hb (block_lt p0) p0
  replace p1 := kept hb (block_lt p1) p1
  replace p := Lib.hid (p.out.bel hb)
  replace bb := Lib.hid (bb.out.trans (hb.mono bb.out.size))
  clear hb
  go_wp2_with fail
  refine (manys_ok hI.out hK.out _ _ _ p.out).mono ?_
  rintro e w5 ⟨rfl, hb⟩
  have szw5 := hb.size
  replace p0 := kept hb (block_lt p0) p0
  replace p1 := kept hb (block_lt p1) p1
  replace p := Lib.hid (p.out.bel hb)
  replace bb := Lib.hid (bb.out.trans (hb.mono bb.out.size))
  clear hb
  have h1 := Lib.hid ((manyc_turn hI.out).trans hK.out)
  have h2 := Lib.hid ((manyc_mir hI.out).trans hK.out)
  have h3 := Lib.hid ((manyc_oth hI.out).trans hK.out)
  go_wp2_with fail
  refine (turn_ok hI.out _ _ _ p.out).mono ?_
  rintro e w6 ⟨⟨au, cu, rfl, ho⟩, hb⟩
  have u := Lib.hid ho.row
  have szw6 := hb.size
  replace p0 := kept hb (block_lt p0) p0
  replace p1 := kept hb (block_lt p1) p1
  replace p := Lib.hid (p.out.bel hb)
  replace bb := Lib.hid (bb.out.trans (hb.mono bb.out.size))
  clear hb
  clear ho
  have hbx : Below w6.heap.size w6 (w6.alloc (.cells #[.int .i64 n, .slice au W cu] 25)) := (Below.refl _ _).alloc (Nat.le_refl _) _
  replace p0 := kept hbx (block_lt p0) p0
  replace p1 := kept hbx (block_lt p1) p1
  replace p := Lib.hid (p.out.bel hbx)
  replace u := Lib.hid (u.out.bel hbx)
  replace bb := Lib.hid (bb.out.trans (hbx.mono bb.out.size))
  clear hbx
  have u0 : (w6.alloc (.cells #[.int .i64 n, .slice au W cu] 25)).cell? ⟨w6.heap.size, 0, none⟩ = some (.int .i64 n) := by simp
  have u1 : (w6.alloc (.cells #[.int .i64 n, .slice au W cu] 25)).cell? ⟨w6.heap.size, 1, none⟩ = some (.slice au W cu) := by simp
  go_wp2_with fail
  refine (mirror_ok hI.out _ _ _ p.out).mono ?_
  rintro e w7 ⟨⟨av, cv, rfl, ho⟩, hb⟩
  have v := Lib.hid ho.row
  have szw7 : w6.heap.size + 1 ≤ w7.heap.size := by have := hb.size; simpa using this
  replace p0 := kept hb (block_lt p0) p0
  replace p1 := kept hb (block_lt p1) p1
  replace u0 := kept hb (block_lt u0) u0
  replace u1 := kept hb (block_lt u1) u1
  replace p := Lib.hid (p.out.bel hb)
  replace u := Lib.hid (u.out.bel hb)
  replace bb := Lib.hid (bb.out.trans (hb.mono bb.out.size))
  clear hb
  clear ho
  have hbx : Below w7.heap.size w7 (w7.alloc (.cells #[.int .i64 W, .slice av n cv] 25)) := (Below.refl _ _).alloc (Nat.le_refl _) _
  replace p0 := kept hbx (block_lt p0) p0
  replace p1 := kept hbx (block_lt p1) p1
  replace u0 := kept hbx (block_lt u0) u0
  replace u1 := kept hbx (block_lt u1) u1
  replace p := Lib.hid (p.out.bel hbx)
  replace u := Lib.hid (u.out.bel hbx)
  replace v := Lib.hid (v.out.bel hbx)
  replace bb := Lib.hid (bb.out.trans (hbx.mono bb.out.size))
  clear hbx
  have v0 : (w7.alloc (.cells #[.int .i64 W, .slice av n cv] 25)).cell? ⟨w7.heap.size, 0, none⟩ = some (.int .i64 W) := by simp
  have v1 : (w7.alloc (.cells #[.int .i64 W, .slice av n cv] 25)).cell? ⟨w7.heap.size, 1, none⟩ = some (.slice av n cv) := by simp
  go_wp2_with fail
  refine (other_ok hI.out _ _ _ p.out).mono ?_
  rintro e w8 ⟨⟨ax, cx, rfl, ho⟩, hb⟩
  have x := Lib.hid ho.row
  have szw8 : w7.heap.size + 1 ≤ w8.heap.size := by have := hb.size; simpa using this
  replace p0 := kept hb (block_lt p0) p0
  replace p1 := kept hb (block_lt p1) p1
  replace u0 := kept hb (block_lt u0) u0
  replace u1 := kept hb (block_lt u1) u1
  replace v0 := kept hb (block_lt v0) v0
  replace v1 := kept hb (block_lt v1) v1
  replace p := Lib.hid (p.out.bel hb)
  replace u := Lib.hid (u.out.bel hb)
  replace v := Lib.hid (v.out.bel hb)
  replace bb := Lib.hid (bb.out.trans (hb.mono bb.out.size))
  clear hb
  clear ho
  have hbx : Below w8.heap.size w8 (w8.alloc (.cells #[.int .i64 W, .slice ax n cx] 25)) := (Below.refl _ _).alloc (Nat.le_refl _) _
  replace p0 := kept hbx (block_lt p0) p0
  replace p1 := kept hbx (block_lt p1) p1
  replace u0 := kept hbx (block_lt u0) u0
  replace u1 := kept hbx (block_lt u1) u1
  replace v0 := kept hbx (block_lt v0) v0
  replace v1 := kept hbx (block_lt v1) v1
  replace p := Lib.hid (p.out.bel hbx)
  replace u := Lib.hid (u.out.bel hbx)
  replace v := Lib.hid (v.out.bel hbx)
  replace x := Lib.hid (x.out.bel hbx)
  replace bb := Lib.hid (bb.out.trans (hbx.mono bb.out.size))
  clear hbx
  have x0 : (w8.alloc (.cells #[.int .i64 W, .slice ax n cx] 25)).cell? ⟨w8.heap.size, 0, none⟩ = some (.int .i64 W) := by simp
  have x1 : (w8.alloc (.cells #[.int .i64 W, .slice ax n cx] 25)).cell? ⟨w8.heap.size, 1, none⟩ = some (.slice ax n cx) := by simp
  go_wp2_with fail
  refine (many_ok hI.out.turn h1.out _ _ _ u.out).mono ?_
  rintro e w9 ⟨rfl, hb⟩
  have szw9 : w8.heap.size + 1 ≤ w9.heap.size := by have := hb.size; simpa using this
  replace p0 := kept hb (block_lt p0) p0
  replace p1 := kept hb (block_lt p1) p1
  replace u0 := kept hb (block_lt u0) u0
  replace u1 := kept hb (block_lt u1) u1
  replace v0 := kept hb (block_lt v0) v0
  replace v1 := kept hb (block_lt v1) v1
  replace x0 := kept hb (block_lt x0) x0
  replace x1 := kept hb (block_lt x1) x1
  replace p := Lib.hid (p.out.bel hb)
  replace u := Lib.hid (u.out.bel hb)
  replace v := Lib.hid (v.out.bel hb)
  replace x := Lib.hid (x.out.bel hb)
  replace bb := Lib.hid (bb.out.trans (hb.mono bb.out.size))
  clear hb
  go_wp2_with fail
  refine (many_ok hI.out.mir h2.out _ _ _ v.out).mono ?_
  rintro e w10 ⟨rfl, hb⟩
  have szw10 := hb.size
  replace p0 := kept hb (block_lt p0) p0
  replace p1 := kept hb (block_lt p1) p1
  replace u0 := kept hb (block_lt u0) u0
  replace u1 := kept hb (block_lt u1) u1
  replace v0 := kept hb (block_lt v0) v0
  replace v1 := kept hb (block_lt v1) v1
  replace x0 := kept hb (block_lt x0) x0
  replace x1 := kept hb (block_lt x1) x1
  replace p := Lib.hid (p.out.bel hb)
  replace u := Lib.hid (u.out.bel hb)
  replace v := Lib.hid (v.out.bel hb)
  replace x := Lib.hid (x.out.bel hb)
  replace bb := Lib.hid (bb.out.trans (hb.mono bb.out.size))
  clear hb
  go_wp2_with fail
  refine (many_ok hI.out.oth h3.out _ _ _ x.out).mono ?_
  rintro e w11 ⟨rfl, hb⟩
  have szw11 := hb.size
  replace p0 := kept hb (block_lt p0) p0
  replace p1 := kept hb (block_lt p1) p1
  replace u0 := kept hb (block_lt u0) u0
  replace u1 := kept hb (block_lt u1) u1
  replace v0 := kept hb (block_lt v0) v0
  replace v1 := kept hb (block_lt v1) v1
  replace x0 := kept hb (block_lt x0) x0
  replace x1 := kept hb (block_lt x1) x1
  replace p := Lib.hid (p.out.bel hb)
  replace u := Lib.hid (u.out.bel hb)
  replace v := Lib.hid (v.out.bel hb)
  replace x := Lib.hid (x.out.bel hb)
  replace bb := Lib.hid (bb.out.trans (hb.mono bb.out.size))
  clear hb
  go_wp2_with fail
  go_ret
  exact ⟨rfl, bb.out⟩

set_option maxRecDepth 100000 in
theorem lifted (os : Os) (started : os.Started) (H : Type) (enc : TypeId × Value → H) :
    ReturnsInHanded {} Try.checked os 10 .any (Rows.fnSwitchManySpec.pre6 enc Try.prog Try.f10 Rows.fnSwitchManyRow.domain false) (Rows.fnSwitchManySpec.post enc Try.prog Try.f10 false true false false) := by
  refine returnsInHanded_of_change (C := Try.checked) own started (by kernel_rfl) Try.func10
    (ChangeSpec.witness6 (enc := enc) (C := Try.checked) false ⟨#[], #[.slice none 0 0], []⟩ 8 (by kernel_rfl) (by kernel_rfl) (by kernel_rfl) (by kernel_rfl)) ?_
  intro W base args ds gs before hval0 hW hcnd _
  have hval : ∀ (j : Nat) t v, Try.f10.params[j]? = some t → args[j]? = some v → Value.okWide Try.prog W .any base t v := hval0
  have hW' := hW
  obtain ⟨p, q, hA0, hV, rfl, hfz, hnd⟩ := hW
  have hA : DataW.TrodAll enc Try.prog W 0 (fun _ => true) true Try.f10.params.toList args.toList ds p := hA0
  rw [Try.params10] at hA hval
  obtain ⟨v0, vs0, d0, ds0, p0, q0, hargs, rfl, rfl, h0, r0⟩ := trodAll_cons hA
  obtain ⟨rfl, rfl, rfl⟩ := trodAll_nil r0
  obtain rfl : args = #[v0] := by cases args; simp_all
  obtain ⟨rfl, rfl⟩ := trodVars_none hV
  have k0 := h0
  have lt0 : ∀ x ∈ p0, x.block < W.heap.size := by obtain ⟨m, hm⟩ := k0; exact DataW.trod_lt m _ _ _ hm
  obtain ⟨a0, len0, cap0, z0, rfl, w0, l0, m0⟩ := open_code (hval 0 22 v0 rfl rfl) h0
  clear hA0 hval0
  refine (walk a0 len0 cap0 z0 W w0 l0 m0).mono fun e W' ⟨he, bel⟩ => ?_
  subst he
  exact ⟨_, rfl, _, _, _, [], _, [], hW', trodAll_mk1 (shut_bool Try.underlying4 _), (trodAll_cons_mk (Below.trod laidOut (by kernel_rfl) (of_decide_eq_true (by kernel_rfl)) k0 bel lt0) trodAll_mk0), rfl, bel.frame _, fun h => by cases h⟩

theorem closed : joinedFacts Try.prog 10 Try.f10 Rows.fnSwitchManySpec Rows.fnSwitchManyRow = true := by
  simp only [joinedFacts, Bool.and_eq_true]
  repeat' apply And.intro
  all_goals first | with_reducible exact mayEnterOk | (with_reducible rw [liftsFinalOk]; kernel_rfl) | (with_reducible rw [makeOk]; kernel_rfl) | kernel_rfl

theorem over : Rows.fnSwitchManyRow.holds Try.pinned (OpenSpec.ofChange Rows.fnSwitchManySpec) :=
  OpenClaim.holds_of_wide 10 Try.f10 rfl rfl rfl rfl rfl rfl rfl ⟨rfl, rfl, rfl, rfl, rfl⟩ rfl rfl rfl rfl rfl (by kernel_rfl) Try.func10 closed
    (of_decide_eq_true (by kernel_rfl)) (by unfold Func.isWrapper; first | (rw [if_pos (by decide +kernel)]; kernel_rfl) | (rw [if_neg (by decide +kernel)]; exact ⟨rfl, rfl⟩))
    (fun os started H enc _ => lifted os started H enc)

theorem proved : Rows.FnSwitchManySaid := over
#print axioms proved
end Go.Proofs.Ytnibmcihklaigaa.LFSwitchMany

