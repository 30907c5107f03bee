/-
  For any two slices of bytes the law FnExcessMore answers true: one cell more in a row sum makes the excess no less, and greater by at most 1; nothing that was there is written; no condition.
-/
import Derived.Test.YteadibgjieimkaaO
import Derived.Test.YteadibgjieimkaaZ
import Derived.Deep.RegionLaw
import Derived.Test.YteadibgjieimkaaCd
import Derived.Test.YteadibgjieimkaaEw
namespace Go.Proofs.Yteadibgjieimkaa.LFExcessMore
open Go.ChangeShapes Go.WideShapes Go.ChangeAt Go.RowKit Go.Joins

set_option maxHeartbeats 1000000 in
set_option maxRecDepth 100000 in
theorem walk (a : Option Addr) (len cap : Nat) (zs : List Int) (a2 : Option Addr) (len2 cap2 : Nat) (zs2 : List Int) (w : World) (h : Bys w a len zs) (hl : len ≤ cap) (hm : cap ≤ 9223372036854775807) (_ : Bys w a2 len2 zs2) (_ : len2 ≤ cap2) (_ : cap2 ≤ 9223372036854775807) :
    Calls Try.prog 7 #[.slice a len cap, .slice a2 len2 cap2] w fun e w' => e = .returned (.bool true) ∧ Below w.heap.size w w' := by
  by_cases hbig : 1048576 < len
  · clear h
    go_enter Try.func7, Try.ntmps7
    go_wp2_with fail
    go_ret
    exact ⟨rfl, Below.refl _ _⟩
  by_cases hbig2 : 1048576 < len2
  · clear h
    go_enter Try.func7, Try.ntmps7
    go_wp2_with fail
    go_ret
    exact ⟨rfl, Below.refl _ _⟩
  go_enter Try.func7, Try.ntmps7
  go_wp2_with fail
  refine (draw_DrawSumsExcess a len cap zs _ h hl hm).mono ?_
  rintro e w1 ⟨aR, n, cR, xs, aC, m, cC, ys, rfl, hR, hC, hnm, hcap, hb1⟩
  clear h hl hm
  have bb := Lib.hid hb1
  have p := Lib.hid hR
  have q := Lib.hid hC
  have lx := hR.1
  have ly := hC.1
  have hn13 : n ≤ 13 := by omega
  have hm13 : m ≤ 13 := by omega
  clear hR hC hb1
  by_cases hv : sumsB xs ys = true
  case neg =>
    have hv : sumsB xs ys = false := by simpa using hv
    have eE := Lib.hid (excOf_no hv)
    replace hv := Lib.hid hv
    go_wp2_with fail
    refine (exc_ok eE.out _ _ _ _ _ _ _ p.out q.out hn13 hm13).mono ?_
    rintro e w2 ⟨rfl, hb⟩
    have szw2 := hb.size
    replace p := Lib.hid (p.out.bel hb)
    replace q := Lib.hid (q.out.bel hb)
    replace bb := Lib.hid (bb.out.trans (hb.mono bb.out.size))
    clear hb
    go_wp2_with fail
    refine (exc_sok eE.out _ _ _ _ _ _ _ p.out q.out hn13 hm13).mono ?_
    rintro e w3 ⟨rfl, hb⟩
    have szw3 := hb.size
    replace p := Lib.hid (p.out.bel hb)
    replace q := Lib.hid (q.out.bel hb)
    replace bb := Lib.hid (bb.out.trans (hb.mono bb.out.size))
    clear hb
    go_wp2_with fail
    go_ret
    exact ⟨rfl, bb.out⟩
  have hp := sumsB_parts hv
  rw [lx, ly] at hp
  have hn1 := hp.1.1
  have hn6 := hp.1.2
  have hm1 := hp.2.1.1
  have hm6 := hp.2.1.2
  have bx := Lib.hid hp.2.2.1
  have by' := Lib.hid hp.2.2.2
  have hex := Lib.hid (sums_el hv).1
  have hey := Lib.hid (sums_el hv).2
  clear hp
  obtain ⟨E, hE⟩ : ∃ E, excI xs ys = E := ⟨_, rfl⟩
  have bE := excI_small hv
  rw [hE] at bE
  have eE := Lib.hid ((excOf_yes hv).trans hE)
  have hE := Lib.hid hE
  go_wp2_with fail
  refine (exc_ok eE.out _ _ _ _ _ _ _ p.out q.out hn13 hm13).mono ?_
  rintro e w4 ⟨rfl, hb⟩
  have szw4 := hb.size
  replace p := Lib.hid (p.out.bel hb)
  replace q := Lib.hid (q.out.bel hb)
  replace bb := Lib.hid (bb.out.trans (hb.mono bb.out.size))
  clear hb
  go_wp2_with fail
  refine (exc_sok eE.out _ _ _ _ _ _ _ p.out q.out hn13 hm13).mono ?_
  rintro e w5 ⟨rfl, hb⟩
  have szw5 := hb.size
  replace p := Lib.hid (p.out.bel hb)
  replace q := Lib.hid (q.out.bel hb)
  replace bb := Lib.hid (bb.out.trans (hb.mono bb.out.size))
  clear hb
  have k0 : len2 % n < n := Nat.mod_lt _ (by omega)
  have hmod : ((len2 : Int) % (n : Int)) = ((len2 % n : Nat) : Int) := (Int.natCast_emod _ _).symm
  generalize len2 % n = k at k0 hmod
  replace hmod := Lib.hid hmod
  have hd0 : ((n : Int) == 0) = false := by simp; omega
  obtain ⟨x_b, x_o, rfl, pc⟩ := row_at p.out k0
  obtain ⟨v, hv1⟩ : ∃ v, xs.getD k 0 = v := ⟨_, rfl⟩
  have bv := bx.out k (by omega)
  rw [hv1] at pc bv
  by_cases he : v = m
  case pos =>
    subst he
    go_upto_region 9 with fail
    rw [hmod.out]
    go_wp2_with fail
    go_ret
    exact ⟨rfl, bb.out⟩
  have hne : (v == (m : Int)) = false := by simpa using he
  have h1 := excI_more hv (k := k) (by omega) (by rw [hv1]; omega)
  rw [hv1, hE.out] at h1
  obtain ⟨E2, hE2⟩ : ∃ E, excI (xs.set k (v + 1)) ys = E := ⟨_, rfl⟩
  have hv2 := more_valid hv (k := k) (by omega) (by rw [hv1]; omega)
  rw [hv1] at hv2
  rw [hE2] at h1
  have eE2 := Lib.hid ((excOf_yes hv2).trans hE2)
  have i1 : IntKind.i64.wrap (v + 1) = v + 1 := IntWalk.i64_in _ ⟨by omega, by omega⟩
  replace hv := Lib.hid hv
  replace hv1 := Lib.hid hv1
  clear hv2 hE2 he
  go_upto_region 9 with fail
  rw [hmod.out]
  go_upto_region 11 with fail
  have x_h := True.intro
  have x_n := Lib.hid (row_news p.out (by omega))
  clear x_h
  have x_l := p.out.1
  have lt_x_p := row_lt p.out
  have lt_x_q := row_lt q.out
  have lt_x_pc := block_lt pc
  have x_s := bb.out.size
  obtain ⟨x_i, x_i1, x_i2, x_i3, x_i4⟩ := info_parts infoInt
  go_wp2_with (at_builtin; refine wpList_append_own _ rfl _ _ 23 rfl w5.heap.size 3 x_i (.int .i64 0) 1 8 Try.underlying23 x_i1 x_i2 x_i3 x_i4 rfl (by decide) _ 0 [] rfl (World.ownsRow_lit w5 #[] 0 (Nat.le_refl _) (by decide) rfl) ⟨x_b, x_o, none⟩ n cR ((xs).map (Value.int .i64)) rfl ?c1 ?c2 ?c3 ?c4 ?c5 ?c6 ?_)
  skip
  case c2 => exact fun j u hj => by have h := x_n.out j (.int .i64 u) (by simp [hj]); by_cases e : j = 0 <;> simpa [Addr.add, e] using h
  case c3 => exact fun _ _ => rfl
  case c4 => unfold maxLen; omega
  case c5 => omega
  skip
  intro v' w6 hown hgr hnil
  obtain ⟨ax, cx, rfl, ho⟩ := own_of (xs := xs) (n := n) (by simpa using hown)
  have hb : Below w5.heap.size w5 w6 := ((Below.refl _ _).alloc (Nat.le_refl _) _).grown hgr (by simp) (fun k hk => by simp [Value.ownBlock] at hk; omega)
  clear hown hgr hnil x_n x_i1 x_i2 x_i3 x_i4
  obtain ⟨gx, rfl⟩ : ∃ g, ax = some ⟨g, 0, none⟩ := by
    rcases ho.cases with ⟨_, h, _⟩ | ⟨g, h, _⟩
    · omega
    · exact ⟨g, h⟩
  have x := Lib.hid ho
  have rg_x := rng_own ho
  clear ho
  have szw6 := hb.size
  replace pc := kept hb (block_lt pc) pc
  replace p := Lib.hid (p.out.bel hb)
  replace q := Lib.hid (q.out.bel hb)
  replace bb := Lib.hid (bb.out.trans (hb.mono bb.out.size))
  clear hb
  have hck := own_cell x.out (i := k) (by omega)
  have hfz := x.out.frozen
  have hst := Lib.hid (x.out.set k (v + 1))
  have hg5 : w6.grownBy (w6.setCell ⟨gx, k, none⟩ (.int .i64 (v + 1))) (rowOf (some ⟨gx, 0, none⟩)) := grown_set (World.grownBy.refl _ _)
  rw [hv1.out] at hck
  go_wp2_with fail
  replace pc := hg5.cell pc (ne_rowOf rg_x (.inl lt_x_pc))
  replace p := Lib.hid (p.out.apart hg5 (fun b o e hn => ne_rowOf rg_x (.inl (lt_x_p b o e hn))))
  replace q := Lib.hid (q.out.apart hg5 (fun b o e hn => ne_rowOf rg_x (.inl (lt_x_q b o e hn))))
  replace bb := Lib.hid (bb.out.setCell (show w.heap.size ≤ (⟨gx, k, none⟩ : Addr).block by have := (rg_x _ rfl).1; simp at this ⊢; omega) (.int .i64 (v + 1)))
  replace x := hst
  clear hck hfz hst hg5
  generalize hwq : w6.setCell ⟨gx, k, none⟩ (.int .i64 (v + 1)) = w7 at *
  have szw7 : w6.heap.size ≤ w7.heap.size := by rw [← hwq]; simp [World.setCell]
  clear hwq
  refine (exc_ok eE2.out _ _ _ _ _ _ _ x.out.row q.out hn13 hm13).mono ?_
  rintro e w8 ⟨rfl, hb⟩
  have szw8 := hb.size
  replace pc := kept hb (block_lt pc) pc
  replace p := Lib.hid (p.out.bel hb)
  replace q := Lib.hid (q.out.bel hb)
  replace x := Lib.hid (x.out.bel hb)
  replace bb := Lib.hid (bb.out.trans (hb.mono bb.out.size))
  clear hb
  have g1 : decide (E ≤ E2) = true := decide_eq_true h1.1
  have g2 : decide (E2 ≤ E + 1) = true := decide_eq_true h1.2
  go_wp2_with fail
  go_ret
  exact ⟨rfl, bb.out⟩

set_option maxRecDepth 100000 in
theorem lifted (os : Os) (started : os.Started) (H : Type) (enc : TypeId × Value → H) :
    ReturnsInHanded {} Try.checked os 7 .any (Rows.fnExcessMoreSpec.pre6 enc Try.prog Try.f7 Rows.fnExcessMoreRow.domain false) (Rows.fnExcessMoreSpec.post enc Try.prog Try.f7 false true false false) := by
  refine returnsInHanded_of_change (C := Try.checked) own started (by kernel_rfl) Try.func7
    (ChangeSpec.witness6 (enc := enc) (C := Try.checked) false ⟨#[], #[.slice none 0 0, .slice none 0 0], []⟩ 8 (by kernel_rfl) (by kernel_rfl) (by kernel_rfl) (by kernel_rfl)) ?_
  intro W base args ds gs before hval0 hW hcnd _
  have hval : ∀ (j : Nat) t v, Try.f7.params[j]? = some t → args[j]? = some v → Value.okWide Try.prog W .any base t v := hval0
  have hW' := hW
  obtain ⟨p, q, hA0, hV, rfl, hfz, hnd⟩ := hW
  have hA : DataW.TrodAll enc Try.prog W 0 (fun _ => true) true Try.f7.params.toList args.toList ds p := hA0
  rw [Try.params7] at hA hval
  obtain ⟨v0, vs0, d0, ds0, p0, q0, hargs, rfl, rfl, h0, r0⟩ := trodAll_cons hA
  obtain ⟨v1, vs1, d1, ds1, p1, q1, rfl, rfl, rfl, h1, r1⟩ := trodAll_cons r0
  obtain ⟨rfl, rfl, rfl⟩ := trodAll_nil r1
  obtain rfl : args = #[v0, v1] := by cases args; simp_all
  obtain ⟨rfl, rfl⟩ := trodVars_none hV
  have k0 := h0
  have lt0 : ∀ x ∈ p0, x.block < W.heap.size := by obtain ⟨m, hm⟩ := k0; exact DataW.trod_lt m _ _ _ hm
  obtain ⟨a0, len0, cap0, z0, rfl, w0, l0, m0⟩ := open_code (hval 0 22 v0 rfl rfl) h0
  have k1 := h1
  have lt1 : ∀ x ∈ p1, x.block < W.heap.size := by obtain ⟨m, hm⟩ := k1; exact DataW.trod_lt m _ _ _ hm
  obtain ⟨a1, len1, cap1, z1, rfl, w1, l1, m1⟩ := open_code (hval 1 22 v1 rfl rfl) h1
  clear hA0 hval0
  refine (walk a0 len0 cap0 z0 a1 len1 cap1 z1 W w0 l0 m0 w1 l1 m1).mono fun e W' ⟨he, bel⟩ => ?_
  subst he
  exact ⟨_, rfl, _, _, _, [], _, [], hW', trodAll_mk1 (shut_bool Try.underlying4 _), (trodAll_cons_mk (Below.trod laidOut (by kernel_rfl) (of_decide_eq_true (by kernel_rfl)) k0 bel lt0) (trodAll_cons_mk (Below.trod laidOut (by kernel_rfl) (of_decide_eq_true (by kernel_rfl)) k1 bel lt1) trodAll_mk0)), rfl, bel.frame _, fun h => by cases h⟩

theorem closed : joinedFacts Try.prog 7 Try.f7 Rows.fnExcessMoreSpec Rows.fnExcessMoreRow = true := by
  simp only [joinedFacts, Bool.and_eq_true]
  repeat' apply And.intro
  all_goals first | with_reducible exact mayEnterOk | (with_reducible rw [liftsFinalOk]; kernel_rfl) | (with_reducible rw [makeOk]; kernel_rfl) | kernel_rfl

theorem over : Rows.fnExcessMoreRow.holds Try.pinned (OpenSpec.ofChange Rows.fnExcessMoreSpec) :=
  OpenClaim.holds_of_wide 7 Try.f7 rfl rfl rfl rfl rfl rfl rfl ⟨rfl, rfl, rfl, rfl, rfl⟩ rfl rfl rfl rfl rfl (by kernel_rfl) Try.func7 closed
    (of_decide_eq_true (by kernel_rfl)) (by unfold Func.isWrapper; first | (rw [if_pos (by decide +kernel)]; kernel_rfl) | (rw [if_neg (by decide +kernel)]; exact ⟨rfl, rfl⟩))
    (fun os started H enc _ => lifted os started H enc)

theorem proved : Rows.FnExcessMoreSaid := over
#print axioms proved
end Go.Proofs.Yteadibgjieimkaa.LFExcessMore

