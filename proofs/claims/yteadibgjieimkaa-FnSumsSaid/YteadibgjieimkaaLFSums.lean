/-
  For every slice of bytes the law FnSums answers true: valid sums are valid exchanged, and not with a row sum too great or without row sums; nothing that was there is written; no condition.
-/
import Derived.Test.YteadibgjieimkaaO
import Derived.Test.YteadibgjieimkaaZ
import Derived.Deep.RegionLaw
import Derived.Test.YteadibgjieimkaaSi
namespace Go.Proofs.Yteadibgjieimkaa.LFSums
set_option maxRecDepth 100000
open Go.ChangeShapes Go.WideShapes Go.ChangeAt Go.RowKit Go.Joins

set_option maxHeartbeats 1000000 in
set_option maxRecDepth 100000 in
theorem walk (a : Option Addr) (len cap : Nat) (zs : List Int) (w : World) (h : Bys w a len zs) (hl : len ≤ cap) (hm : cap ≤ 9223372036854775807) :
    Calls Try.prog 3 #[.slice a len cap] w fun e w' => e = .returned (.bool true) ∧ Below w.heap.size w w' := by
  by_cases hbig : 1048576 < len
  · clear h
    go_enter Try.func3, Try.ntmps3
    go_wp2_with fail
    go_ret
    exact ⟨rfl, Below.refl _ _⟩
  go_enter Try.func3, Try.ntmps3
  go_wp2_with fail
  refine (draw_DrawSumsValid a len cap zs _ h hl hm).mono ?_
  rintro e w1 ⟨aR, n, cR, xs, aC, m, cC, ys, rfl, hR, hC, hnm, hcap, bR, bC, hb1⟩
  clear h hl hm
  have bb := Lib.hid hb1
  have p := Lib.hid hR
  have q := Lib.hid hC
  have lR := hR.1
  have lC := hC.1
  have bR := Lib.hid bR
  have bC := Lib.hid bC
  clear hR hC hb1
  obtain ⟨B, hB⟩ : ∃ B, sumsB xs ys = B := ⟨_, rfl⟩
  go_wp2_with fail
  refine (sumsV_impl _ _ _ _ _ _ xs ys _ p.out q.out (by omega) (by omega)).mono ?_
  rintro e w2 ⟨rfl, hb⟩
  have szw2 := hb.size
  replace p := Lib.hid (p.out.bel hb)
  replace q := Lib.hid (q.out.bel hb)
  replace bb := Lib.hid (bb.out.trans (hb.mono bb.out.size))
  clear hb
  go_wp2_with fail
  refine (sumsV_spec _ _ _ _ _ _ xs ys _ p.out q.out (by omega) (by omega)).mono ?_
  rintro e w3 ⟨rfl, hb⟩
  have szw3 := hb.size
  replace p := Lib.hid (p.out.bel hb)
  replace q := Lib.hid (q.out.bel hb)
  replace bb := Lib.hid (bb.out.trans (hb.mono bb.out.size))
  clear hb
  rw [hB]
  by_cases hv : B = true
  case neg =>
    have hv : B = false := by simpa using hv
    subst hv
    go_wp2_with fail
    go_ret
    exact ⟨rfl, bb.out⟩
  subst hv
  have hf := sumsB_flip hB
  have hp := sumsB_parts hB
  rw [lR, lC] at hp
  have hx : Hid (sumsB (xs.set 0 ((m : Int) + 1)) ys = false) := sumsB_3 (allIn_no (i := 0) (by rw [List.length_set]; omega) (.inr (by rw [getD_elem (by rw [List.length_set]; omega)]; simp; omega)))
  have he : Hid (sumsB [] ys = false) := sumsB_1 (by rfl)
  have hf := Lib.hid hf
  clear hB
  obtain ⟨i0, hi, hz0, hz1, hz2⟩ := info_parts infoInt
  obtain ⟨b, off, rfl, hcb⟩ := row_at p.out (show 0 < n by omega)
  have hnews := Lib.hid (row_news p.out)
  have hbl : b < w3.heap.size := block_lt hcb
  have hql := row_lt q.out
  have hw3 := bb.out.size
  clear hcb
  go_wp2_with (at_builtin; refine wpList_append_own _ rfl _ _ 23 rfl w3.heap.size 3 i0 (.int .i64 0) 1 8 Try.underlying23 hi hz0 hz1 hz2 rfl (by decide) _ 0 [] rfl (World.ownsRow_lit w3 #[] 0 (Nat.le_refl _) (by decide) rfl) ⟨b, off, none⟩ n cR (xs.map (Value.int .i64)) rfl ?c1 ?c2 ?c3 ?c4 ?c5 ?c6 ?_)
  case c1 => simp [lR]
  case c2 => exact fun j u hj => World.cell?_alloc_some (hnews.out j u hj)
  case c3 => exact ints_oneCell _ _
  case c4 => unfold maxLen; omega
  case c5 => omega
  case c6 => simp
  intro v' w9 hown hgr hnil
  obtain ⟨aX, cX, rfl, ho⟩ := own_of (xs := xs) (n := n) (by simpa using hown)
  have hb : Below w3.heap.size w3 w9 := ((Below.refl _ _).alloc (Nat.le_refl _) _).grown hgr (by simp) (fun k hk => by simp [Value.ownBlock] at hk; omega)
  clear hown hgr hnil hnews
  have szw9 := hb.size
  replace p := Lib.hid (p.out.bel hb)
  replace q := Lib.hid (q.out.bel hb)
  replace bb := Lib.hid (bb.out.trans (hb.mono bb.out.size))
  clear hb
  obtain ⟨gX, rfl⟩ : ∃ g, aX = some ⟨g, 0, none⟩ := by
    rcases ho.cases with ⟨_, h, _⟩ | ⟨g, h, _⟩
    · omega
    · exact ⟨g, h⟩
  have hgX := own_ge ho
  have hck := own_cell ho (i := 0) (by omega)
  have hfz := ho.frozen
  have hst := (ho.set 0 ((m : Int) + 1)).row
  have i1 : IntKind.i64.wrap ((m : Int) + 1) = (m : Int) + 1 := IntWalk.i64_in _ ⟨by omega, by omega⟩
  have hg5 : w9.grownBy (w9.setCell ⟨gX, 0, none⟩ (.int .i64 ((m : Int) + 1))) (rowOf (some ⟨gX, 0, none⟩)) := grown_set (World.grownBy.refl _ _)
  have rX : ∀ p, (some ⟨gX, 0, none⟩ : Option Addr) = some p → w3.heap.size ≤ p.block ∧ p.block < w9.heap.size := fun p hp => by cases hp; exact hgX
  have p2 := Lib.hid (p.out.apart hg5 (fun b' o e _ => ne_rowOf rX (.inl (by cases e; exact hbl))))
  have q2 := Lib.hid (q.out.apart hg5 (fun b' o e hn => ne_rowOf rX (.inl (hql b' o e hn))))
  have bb2 := Lib.hid (bb.out.setCell (show w.heap.size ≤ (⟨gX, 0, none⟩ : Addr).block by simp; have := hw3; omega) (.int .i64 ((m : Int) + 1)))
  have x := Lib.hid hst
  clear ho hst hg5 rX
  go_wp2_with fail
  generalize w9.setCell ⟨gX, 0, none⟩ (.int .i64 ((m : Int) + 1)) = w10 at p2 q2 bb2 x ⊢
  clear p q bb hck hfz
  have bb := bb2
  clear bb2
  refine (sumsV_impl _ _ _ _ _ _ ys xs _ q2.out p2.out (by omega) (by omega)).mono ?_
  rintro e w11 ⟨rfl, hb⟩
  have szw11 := hb.size
  replace p2 := Lib.hid (p2.out.bel hb)
  replace q2 := Lib.hid (q2.out.bel hb)
  replace x := Lib.hid (x.out.bel hb)
  replace bb := Lib.hid (bb.out.trans (hb.mono bb.out.size))
  clear hb
  rw [hf.out]
  go_wp2_with fail
  refine (sumsV_impl _ _ _ _ _ _ _ ys _ x.out q2.out (by omega) (by omega)).mono ?_
  rintro e w12 ⟨rfl, hb⟩
  have szw12 := hb.size
  replace p2 := Lib.hid (p2.out.bel hb)
  replace q2 := Lib.hid (q2.out.bel hb)
  replace x := Lib.hid (x.out.bel hb)
  replace bb := Lib.hid (bb.out.trans (hb.mono bb.out.size))
  clear hb
  rw [hx.out]
  go_wp2_with fail
  have nl : Row (w12.alloc (.cells #[] 3)) (some ⟨w12.heap.size, 0, none⟩) 0 [] := ⟨rfl, .inl rfl⟩
  refine (sumsV_impl _ _ _ _ _ _ [] ys _ nl (q2.out.alloc _) (by omega) (by omega)).mono ?_
  rintro e w13 ⟨rfl, hb⟩
  have bb := Lib.hid ((bb.out.alloc bb.out.size _).trans (hb.mono (by have := bb.out.size; simp; omega)))
  rw [he.out]
  clear hb
  go_wp2_with fail
  go_ret
  exact ⟨rfl, bb.out⟩

set_option maxRecDepth 100000 in
theorem lifted (os : Os) (started : os.Started) (H : Type) (enc : TypeId × Value → H) :
    ReturnsInHanded {} Try.checked os 3 .any (Rows.fnSumsSpec.pre6 enc Try.prog Try.f3 Rows.fnSumsRow.domain false) (Rows.fnSumsSpec.post enc Try.prog Try.f3 false true false false) := by
  refine returnsInHanded_of_change (C := Try.checked) own started (by kernel_rfl) Try.func3
    (ChangeSpec.witness6 (enc := enc) (C := Try.checked) false ⟨#[], #[.slice none 0 0], []⟩ 8 (by kernel_rfl) (by kernel_rfl) (by kernel_rfl) (by kernel_rfl)) ?_
  intro W base args ds gs before hval0 hW hcnd _
  have hval : ∀ (j : Nat) t v, Try.f3.params[j]? = some t → args[j]? = some v → Value.okWide Try.prog W .any base t v := hval0
  have hW' := hW
  obtain ⟨p, q, hA0, hV, rfl, hfz, hnd⟩ := hW
  have hA : DataW.TrodAll enc Try.prog W 0 (fun _ => true) true Try.f3.params.toList args.toList ds p := hA0
  rw [Try.params3] at hA hval
  obtain ⟨v0, vs0, d0, ds0, p0, q0, hargs, rfl, rfl, h0, r0⟩ := trodAll_cons hA
  obtain ⟨rfl, rfl, rfl⟩ := trodAll_nil r0
  obtain rfl : args = #[v0] := by cases args; simp_all
  obtain ⟨rfl, rfl⟩ := trodVars_none hV
  have k0 := h0
  have lt0 : ∀ x ∈ p0, x.block < W.heap.size := by obtain ⟨m, hm⟩ := k0; exact DataW.trod_lt m _ _ _ hm
  obtain ⟨a0, len0, cap0, z0, rfl, w0, l0, m0⟩ := open_code (hval 0 22 v0 rfl rfl) h0
  clear hA0 hval0
  refine (walk a0 len0 cap0 z0 W w0 l0 m0).mono fun e W' ⟨he, bel⟩ => ?_
  subst he
  exact ⟨_, rfl, _, _, _, [], _, [], hW', trodAll_mk1 (shut_bool Try.underlying4 _), (trodAll_cons_mk (Below.trod laidOut (by kernel_rfl) (of_decide_eq_true (by kernel_rfl)) k0 bel lt0) trodAll_mk0), rfl, bel.frame _, fun h => by cases h⟩

theorem closed : joinedFacts Try.prog 3 Try.f3 Rows.fnSumsSpec Rows.fnSumsRow = true := by
  simp only [joinedFacts, Bool.and_eq_true]
  repeat' apply And.intro
  all_goals first | with_reducible exact mayEnterOk | (with_reducible rw [liftsFinalOk]; kernel_rfl) | (with_reducible rw [makeOk]; kernel_rfl) | kernel_rfl

theorem over : Rows.fnSumsRow.holds Try.pinned (OpenSpec.ofChange Rows.fnSumsSpec) :=
  OpenClaim.holds_of_wide 3 Try.f3 rfl rfl rfl rfl rfl rfl rfl ⟨rfl, rfl, rfl, rfl, rfl⟩ rfl rfl rfl rfl rfl (by kernel_rfl) Try.func3 closed
    (of_decide_eq_true (by kernel_rfl)) (by unfold Func.isWrapper; first | (rw [if_pos (by decide +kernel)]; kernel_rfl) | (rw [if_neg (by decide +kernel)]; exact ⟨rfl, rfl⟩))
    (fun os started H enc _ => lifted os started H enc)

theorem proved : Rows.FnSumsSaid := over
#print axioms proved
end Go.Proofs.Yteadibgjieimkaa.LFSums

