/-
  For every slice of bytes the law FnSumsFit answers true: sums that an image fits are valid and its own, and it does not fit the sums with the first row sum changed; nothing that was there is written; no condition.
-/
import Derived.Test.YteadibgjieimkaaO
import Derived.Test.YteadibgjieimkaaZ
import Derived.Deep.RegionLaw
import Derived.Test.YteadibgjieimkaaSi
namespace Go.Proofs.Yteadibgjieimkaa.LFSumsFit
set_option maxRecDepth 100000
open Go.ChangeShapes Go.WideShapes Go.ChangeAt Go.RowKit Go.Joins

set_option maxHeartbeats 1000000 in
set_option maxRecDepth 100000 in
theorem walk (a : Option Addr) (len cap : Nat) (zs : List Int) (w : World) (h : Bys w a len zs) (hl : len ≤ cap) (hm : cap ≤ 9223372036854775807) :
    Calls Try.prog 4 #[.slice a len cap] w fun e w' => e = .returned (.bool true) ∧ Below w.heap.size w w' := by
  by_cases hbig : 1048576 < len
  · clear h
    go_enter Try.func4, Try.ntmps4
    go_wp2_with fail
    go_ret
    exact ⟨rfl, Below.refl _ _⟩
  go_enter Try.func4, Try.ntmps4
  go_wp2_with fail
  refine (draw_DrawSumsFit a len cap zs _ h hl hm).mono ?_
  rintro e w1 ⟨W, s, l, cg, xs, aR, n, cR, rows, aC, m, cC, cols, rfl, hI, hR, hC, hn, hcap, bR, bC, hb1⟩
  clear h hl hm
  have bb := Lib.hid hb1
  have p := Lib.hid hI
  have q := Lib.hid hR
  have u := Lib.hid hC
  have lR := hR.1
  have lC := hC.1
  clear hI hR hC hb1 bR bC
  have hbx : Below w1.heap.size w1 (w1.alloc (.cells #[.int .i64 W, .slice s l cg] 29)) := (Below.refl _ _).alloc (Nat.le_refl _) _
  replace p := Lib.hid (p.out.bel hbx)
  replace q := Lib.hid (q.out.bel hbx)
  replace u := Lib.hid (u.out.bel hbx)
  replace bb := Lib.hid (bb.out.trans (hbx.mono bb.out.size))
  clear hbx
  have p0 : (w1.alloc (.cells #[.int .i64 W, .slice s l cg] 29)).cell? ⟨w1.heap.size, 0, none⟩ = some (.int .i64 W) := by simp
  have p1 : (w1.alloc (.cells #[.int .i64 W, .slice s l cg] 29)).cell? ⟨w1.heap.size, 1, none⟩ = some (.slice s l cg) := by simp
  obtain ⟨B, hB⟩ : ∃ B, fitB W xs rows cols = B := ⟨_, rfl⟩
  go_wp2_with fail
  refine (fit_impl W s aR aC l n m cg cR cC xs rows cols _ p.out q.out u.out (by omega) (by omega) (by omega)).mono ?_
  rintro e w2 ⟨rfl, hb⟩
  have szw2 : w1.heap.size + 1 ≤ w2.heap.size := by have := hb.size; simpa using this
  replace p0 := kept hb (block_lt p0) p0
  replace p1 := kept hb (block_lt p1) p1
  replace p := Lib.hid (p.out.bel hb)
  replace q := Lib.hid (q.out.bel hb)
  replace u := Lib.hid (u.out.bel hb)
  replace bb := Lib.hid (bb.out.trans (hb.mono bb.out.size))
  clear hb
  go_wp2_with fail
  refine (fit_spec W s aR aC l n m cg cR cC xs rows cols _ p.out q.out u.out (by omega) (by omega) (by omega)).mono ?_
  rintro e w3 ⟨rfl, hb⟩
  have szw3 := hb.size
  replace p0 := kept hb (block_lt p0) p0
  replace p1 := kept hb (block_lt p1) p1
  replace p := Lib.hid (p.out.bel hb)
  replace q := Lib.hid (q.out.bel hb)
  replace u := Lib.hid (u.out.bel hb)
  replace bb := Lib.hid (bb.out.trans (hb.mono bb.out.size))
  clear hb
  rw [hB]
  by_cases hv : B = true
  case neg =>
    have hv : B = false := by simpa using hv
    subst hv
    go_wp2_with fail
    go_ret
    exact ⟨rfl, bb.out⟩
  subst hv
  unfold fitB at hB
  simp only [Bool.and_eq_true, decide_eq_true_eq] at hB
  obtain ⟨hv, hr, hc⟩ := hB
  have hI0 := validB_W hv
  obtain ⟨W, rfl⟩ := Int.eq_ofNat_of_zero_le (by omega : 0 ≤ W)
  have hI : Im W l xs := Im.of hv p.out.1
  have hW6 := hI.w6
  have hW1 := hI.w1
  have hn1 := hI.l1
  rw [hI.rs] at hr
  rw [hI.cs] at hc
  subst hr hc
  rw [rs_len] at lR
  rw [cs_len] at lC
  subst lR lC
  have r0 := hI.rs_bd (show 0 < l by omega)
  have hsv := Lib.hid hI.sumsV
  have hx : ∀ v : Int, v ≠ (rsL xs W l).getD 0 0 → fitB W xs ((rsL xs W l).set 0 v) (csL xs l W) = false := fun v hne => by
    refine fitB_2 (decide_eq_false fun e => hne ?_)
    rw [hI.rs] at e
    have e : (rsL xs W l).getD 0 0 = ((rsL xs W l).set 0 v).getD 0 0 := congrArg (fun L : List Int => L.getD 0 0) e
    rw [e, getD_elem (by rw [List.length_set, rs_len]; omega), List.getElem_set_self]
  have hx := Lib.hid hx
  have hI := Lib.hid hI
  clear hv hI0
  obtain ⟨x_b, x_o, rfl, x_h⟩ := row_at q.out (show 0 < l by omega)
  have x_n := Lib.hid (row_news q.out (by omega))
  clear x_h
  have x_l := q.out.1
  have lt_x_p := row_lt p.out
  have lt_x_q := row_lt q.out
  have lt_x_u := row_lt u.out
  have lt_x_p0 := block_lt p0
  have lt_x_p1 := block_lt p1
  have x_s := bb.out.size
  obtain ⟨x_i, x_i1, x_i2, x_i3, x_i4⟩ := info_parts infoInt
  go_wp2_with (at_builtin; refine wpList_append_own _ rfl _ _ 23 rfl w3.heap.size 3 x_i (.int .i64 0) 1 8 Try.underlying23 x_i1 x_i2 x_i3 x_i4 rfl (by decide) _ 0 [] rfl (World.ownsRow_lit w3 #[] 0 (Nat.le_refl _) (by decide) rfl) ⟨x_b, x_o, none⟩ l cR ((rsL xs W l).map (Value.int .i64)) rfl ?c1 ?c2 ?c3 ?c4 ?c5 ?c6 ?_)
  case c1 => simp only [List.length_map]; omega
  case c2 => exact fun j u hj => World.cell?_alloc_some (x_n.out j u hj)
  case c3 => exact ints_oneCell _ _
  case c4 => unfold maxLen; omega
  case c5 => omega
  case c6 => simp
  intro v' w4 hown hgr hnil
  obtain ⟨ax, cx, rfl, ho⟩ := own_of (xs := rsL xs W l) (n := l) (by simpa using hown)
  have hb : Below w3.heap.size w3 w4 := ((Below.refl _ _).alloc (Nat.le_refl _) _).grown hgr (by simp) (fun k hk => by simp [Value.ownBlock] at hk; omega)
  clear hown hgr hnil x_n x_i1 x_i2 x_i3 x_i4
  obtain ⟨gx, rfl⟩ : ∃ g, ax = some ⟨g, 0, none⟩ := by
    rcases ho.cases with ⟨_, h, _⟩ | ⟨g, h, _⟩
    · omega
    · exact ⟨g, h⟩
  have x := Lib.hid ho
  have rg_x := rng_own ho
  clear ho
  have szw4 := hb.size
  replace p0 := kept hb (block_lt p0) p0
  replace p1 := kept hb (block_lt p1) p1
  replace p := Lib.hid (p.out.bel hb)
  replace q := Lib.hid (q.out.bel hb)
  replace u := Lib.hid (u.out.bel hb)
  replace bb := Lib.hid (bb.out.trans (hb.mono bb.out.size))
  clear hb
  obtain ⟨v0, hv0⟩ : ∃ v0, (rsL xs W l).getD 0 0 = v0 := ⟨_, rfl⟩
  rw [hv0] at r0
  have ll : (rsL xs W l).length = l := rs_len _ _ _
  have hrc := row_at q.out (show 0 < l by omega)
  obtain ⟨qb, qo, e, hrc⟩ := hrc
  cases e
  rw [hv0] at hrc
  have i1 : IntKind.i64.wrap (v0 + 1) = v0 + 1 := IntWalk.i64_in _ ⟨by omega, by omega⟩
  have hxf := hx.out (v0 + 1) (by rw [hv0]; omega)
  have hxf := Lib.hid hxf
  clear hx
  have hck := own_cell x.out (i := 0) (by omega)
  have hfz := x.out.frozen
  have hst := Lib.hid (x.out.set 0 (v0 + 1))
  have hg5 : w4.grownBy (w4.setCell ⟨gx, 0, none⟩ (.int .i64 (v0 + 1))) (rowOf (some ⟨gx, 0, none⟩)) := grown_set (World.grownBy.refl _ _)
  rw [hv0] at hck
  go_wp2_with fail
  replace p0 := hg5.cell p0 (ne_rowOf rg_x (.inl lt_x_p0))
  replace p1 := hg5.cell p1 (ne_rowOf rg_x (.inl lt_x_p1))
  replace p := Lib.hid (p.out.apart hg5 (fun b o e hn => ne_rowOf rg_x (.inl (lt_x_p b o e hn))))
  replace q := Lib.hid (q.out.apart hg5 (fun b o e hn => ne_rowOf rg_x (.inl (lt_x_q b o e hn))))
  replace u := Lib.hid (u.out.apart hg5 (fun b o e hn => ne_rowOf rg_x (.inl (lt_x_u b o e hn))))
  replace bb := Lib.hid (bb.out.setCell (show w.heap.size ≤ (⟨gx, 0, none⟩ : Addr).block by have := (rg_x _ rfl).1; simp at this ⊢; omega) (.int .i64 (v0 + 1)))
  replace x := hst
  clear hck hfz hst hg5
  generalize hwq : w4.setCell ⟨gx, 0, none⟩ (.int .i64 (v0 + 1)) = w5 at *
  have szw5 : w4.heap.size ≤ w5.heap.size := by rw [← hwq]; simp [World.setCell]
  clear hwq
  refine (sumsV_impl _ _ _ _ _ _ _ _ _ q.out u.out (by omega) (by omega)).mono ?_
  rintro e w6 ⟨rfl, hb⟩
  have szw6 := hb.size
  replace p0 := kept hb (block_lt p0) p0
  replace p1 := kept hb (block_lt p1) p1
  replace p := Lib.hid (p.out.bel hb)
  replace q := Lib.hid (q.out.bel hb)
  replace u := Lib.hid (u.out.bel hb)
  replace x := Lib.hid (x.out.bel hb)
  replace bb := Lib.hid (bb.out.trans (hb.mono bb.out.size))
  clear hb
  rw [hsv.out]
  go_wp2_with fail
  refine (rs_ok hI.out _ _ _ p.out).mono ?_
  rintro e w7 ⟨⟨ao1, co1, rfl, ho⟩, hb⟩
  have o1 := Lib.hid ho.row
  have szw7 := hb.size
  replace p0 := kept hb (block_lt p0) p0
  replace p1 := kept hb (block_lt p1) p1
  replace p := Lib.hid (p.out.bel hb)
  replace q := Lib.hid (q.out.bel hb)
  replace u := Lib.hid (u.out.bel hb)
  replace x := Lib.hid (x.out.bel hb)
  replace bb := Lib.hid (bb.out.trans (hb.mono bb.out.size))
  clear hb
  clear ho
  go_wp2_with fail
  refine (same_yes _ _ _ _ _ (rsL xs W l) _ q.out o1.out (by omega)).mono ?_
  rintro e w8 ⟨rfl, hb⟩
  have szw8 := hb.size
  replace p0 := kept hb (block_lt p0) p0
  replace p1 := kept hb (block_lt p1) p1
  replace p := Lib.hid (p.out.bel hb)
  replace q := Lib.hid (q.out.bel hb)
  replace u := Lib.hid (u.out.bel hb)
  replace o1 := Lib.hid (o1.out.bel hb)
  replace x := Lib.hid (x.out.bel hb)
  replace bb := Lib.hid (bb.out.trans (hb.mono bb.out.size))
  clear hb
  go_wp2_with fail
  refine (cs_ok hI.out _ _ _ p.out).mono ?_
  rintro e w9 ⟨⟨ao2, co2, rfl, ho⟩, hb⟩
  have o2 := Lib.hid ho.row
  have szw9 := hb.size
  replace p0 := kept hb (block_lt p0) p0
  replace p1 := kept hb (block_lt p1) p1
  replace p := Lib.hid (p.out.bel hb)
  replace q := Lib.hid (q.out.bel hb)
  replace u := Lib.hid (u.out.bel hb)
  replace o1 := Lib.hid (o1.out.bel hb)
  replace x := Lib.hid (x.out.bel hb)
  replace bb := Lib.hid (bb.out.trans (hb.mono bb.out.size))
  clear hb
  clear ho
  go_wp2_with fail
  refine (same_yes _ _ _ _ _ (csL xs l W) _ u.out o2.out (by omega)).mono ?_
  rintro e w10 ⟨rfl, hb⟩
  have szw10 := hb.size
  replace p0 := kept hb (block_lt p0) p0
  replace p1 := kept hb (block_lt p1) p1
  replace p := Lib.hid (p.out.bel hb)
  replace q := Lib.hid (q.out.bel hb)
  replace u := Lib.hid (u.out.bel hb)
  replace o1 := Lib.hid (o1.out.bel hb)
  replace o2 := Lib.hid (o2.out.bel hb)
  replace x := Lib.hid (x.out.bel hb)
  replace bb := Lib.hid (bb.out.trans (hb.mono bb.out.size))
  clear hb
  go_wp2_with fail
  refine (fit_impl W s _ aC l l W cg _ cC xs _ _ _ p.out x.out.row u.out (by omega) (by omega) (by omega)).mono ?_
  rintro e w11 ⟨rfl, hb⟩
  have szw11 := hb.size
  replace p0 := kept hb (block_lt p0) p0
  replace p1 := kept hb (block_lt p1) p1
  replace p := Lib.hid (p.out.bel hb)
  replace q := Lib.hid (q.out.bel hb)
  replace u := Lib.hid (u.out.bel hb)
  replace o1 := Lib.hid (o1.out.bel hb)
  replace o2 := Lib.hid (o2.out.bel hb)
  replace x := Lib.hid (x.out.bel hb)
  replace bb := Lib.hid (bb.out.trans (hb.mono bb.out.size))
  clear hb
  rw [hxf.out]
  go_wp2_with fail
  go_ret
  exact ⟨rfl, bb.out⟩

set_option maxRecDepth 100000 in
theorem lifted (os : Os) (started : os.Started) (H : Type) (enc : TypeId × Value → H) :
    ReturnsInHanded {} Try.checked os 4 .any (Rows.fnSumsFitSpec.pre6 enc Try.prog Try.f4 Rows.fnSumsFitRow.domain false) (Rows.fnSumsFitSpec.post enc Try.prog Try.f4 false true false false) := by
  refine returnsInHanded_of_change (C := Try.checked) own started (by kernel_rfl) Try.func4
    (ChangeSpec.witness6 (enc := enc) (C := Try.checked) false ⟨#[], #[.slice none 0 0], []⟩ 8 (by kernel_rfl) (by kernel_rfl) (by kernel_rfl) (by kernel_rfl)) ?_
  intro W base args ds gs before hval0 hW hcnd _
  have hval : ∀ (j : Nat) t v, Try.f4.params[j]? = some t → args[j]? = some v → Value.okWide Try.prog W .any base t v := hval0
  have hW' := hW
  obtain ⟨p, q, hA0, hV, rfl, hfz, hnd⟩ := hW
  have hA : DataW.TrodAll enc Try.prog W 0 (fun _ => true) true Try.f4.params.toList args.toList ds p := hA0
  rw [Try.params4] at hA hval
  obtain ⟨v0, vs0, d0, ds0, p0, q0, hargs, rfl, rfl, h0, r0⟩ := trodAll_cons hA
  obtain ⟨rfl, rfl, rfl⟩ := trodAll_nil r0
  obtain rfl : args = #[v0] := by cases args; simp_all
  obtain ⟨rfl, rfl⟩ := trodVars_none hV
  have k0 := h0
  have lt0 : ∀ x ∈ p0, x.block < W.heap.size := by obtain ⟨m, hm⟩ := k0; exact DataW.trod_lt m _ _ _ hm
  obtain ⟨a0, len0, cap0, z0, rfl, w0, l0, m0⟩ := open_code (hval 0 22 v0 rfl rfl) h0
  clear hA0 hval0
  refine (walk a0 len0 cap0 z0 W w0 l0 m0).mono fun e W' ⟨he, bel⟩ => ?_
  subst he
  exact ⟨_, rfl, _, _, _, [], _, [], hW', trodAll_mk1 (shut_bool Try.underlying4 _), (trodAll_cons_mk (Below.trod laidOut (by kernel_rfl) (of_decide_eq_true (by kernel_rfl)) k0 bel lt0) trodAll_mk0), rfl, bel.frame _, fun h => by cases h⟩

theorem closed : joinedFacts Try.prog 4 Try.f4 Rows.fnSumsFitSpec Rows.fnSumsFitRow = true := by
  simp only [joinedFacts, Bool.and_eq_true]
  repeat' apply And.intro
  all_goals first | with_reducible exact mayEnterOk | (with_reducible rw [liftsFinalOk]; kernel_rfl) | (with_reducible rw [makeOk]; kernel_rfl) | kernel_rfl

theorem over : Rows.fnSumsFitRow.holds Try.pinned (OpenSpec.ofChange Rows.fnSumsFitSpec) :=
  OpenClaim.holds_of_wide 4 Try.f4 rfl rfl rfl rfl rfl rfl rfl ⟨rfl, rfl, rfl, rfl, rfl⟩ rfl rfl rfl rfl rfl (by kernel_rfl) Try.func4 closed
    (of_decide_eq_true (by kernel_rfl)) (by unfold Func.isWrapper; first | (rw [if_pos (by decide +kernel)]; kernel_rfl) | (rw [if_neg (by decide +kernel)]; exact ⟨rfl, rfl⟩))
    (fun os started H enc _ => lifted os started H enc)

theorem proved : Rows.FnSumsFitSaid := over
#print axioms proved
end Go.Proofs.Yteadibgjieimkaa.LFSumsFit

