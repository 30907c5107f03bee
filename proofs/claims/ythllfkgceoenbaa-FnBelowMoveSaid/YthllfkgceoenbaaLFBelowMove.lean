/-
  For every slice of bytes the law FnBelowMove answers true: moving 1 up to the first element leads to a partition that both are below; nothing that was there is written; no condition.
-/
import Derived.Test.YthllfkgceoenbaaO
import Derived.Test.YthllfkgceoenbaaZ
import Derived.Deep.RegionLaw
import Derived.Test.YthllfkgceoenbaaPk
import Derived.Test.YthllfkgceoenbaaSi
import Derived.Test.YthllfkgceoenbaaEw
namespace Go.Proofs.Ythllfkgceoenbaa.LFBelowMove
open Go.ChangeShapes Go.WideShapes Go.ChangeAt Go.RowKit Go.Joins

set_option maxHeartbeats 4000000 in
set_option maxRecDepth 100000 in
theorem walk (a : Option Addr) (len cap : Nat) (zs : List Int) (w : World) (h : Bys w a len zs) (hl : len ≤ cap) (hm : cap ≤ 9223372036854775807) :
    Calls Try.prog 11 #[.slice a len cap] w fun e w' => e = .returned (.bool true) ∧ Below w.heap.size w w' := by
  by_cases hbig : 1048576 < len
  · clear h
    go_enter Try.func11, Try.ntmps11
    go_wp2_with fail
    go_ret
    exact ⟨rfl, Below.refl _ _⟩
  go_enter Try.func11, Try.ntmps11
  go_wp2_with fail
  refine (draw_DrawPartBelow a len cap zs _ h hl hm).mono ?_
  rintro e w1 ⟨s, n, c, xs, s2, n2, c2, ys, rfl, hR, hR2, hn, hc, hb1⟩
  clear h hl hm
  have bb := Lib.hid hb1
  have p := Lib.hid hR
  have q := Lib.hid hR2
  have lx := hR.1
  have ly := hR2.1
  clear hR hR2 hb1
  by_cases hv : belowB xs ys = true
  case neg =>
    have hv : belowB xs ys = false := by simpa using hv
    replace hv := Lib.hid hv
    go_wp2_with fail
    refine (below_ok hv.out _ _ _ _ _ _ hc.1 hc.2 hn.1 hn.2 _ p.out q.out).mono ?_
    rintro e w2 ⟨rfl, hb⟩
    have szw2 := hb.size
    replace p := Lib.hid (p.out.bel hb)
    replace q := Lib.hid (q.out.bel hb)
    replace bb := Lib.hid (bb.out.trans (hb.mono bb.out.size))
    clear hb
    go_wp2_with fail
    refine (below_sok hv.out _ _ _ _ _ _ hn.1 hn.2 _ p.out q.out).mono ?_
    rintro e w3 ⟨rfl, hb⟩
    have szw3 := hb.size
    replace p := Lib.hid (p.out.bel hb)
    replace q := Lib.hid (q.out.bel hb)
    replace bb := Lib.hid (bb.out.trans (hb.mono bb.out.size))
    clear hb
    go_wp2_with fail
    go_ret
    exact ⟨rfl, bb.out⟩
  have hB := Lib.hid (Bel.of hv)
  replace hv := Lib.hid hv
  have hn6 := p.out.six hB.out.pa
  have hm6 := q.out.six hB.out.pb
  go_wp2_with fail
  refine (below_ok hv.out _ _ _ _ _ _ hc.1 hc.2 hn.1 hn.2 _ p.out q.out).mono ?_
  rintro e w4 ⟨rfl, hb⟩
  have szw4 := hb.size
  replace p := Lib.hid (p.out.bel hb)
  replace q := Lib.hid (q.out.bel hb)
  replace bb := Lib.hid (bb.out.trans (hb.mono bb.out.size))
  clear hb
  go_wp2_with fail
  refine (below_sok hv.out _ _ _ _ _ _ hn.1 hn.2 _ p.out q.out).mono ?_
  rintro e w5 ⟨rfl, hb⟩
  have szw5 := hb.size
  replace p := Lib.hid (p.out.bel hb)
  replace q := Lib.hid (q.out.bel hb)
  replace bb := Lib.hid (bb.out.trans (hb.mono bb.out.size))
  clear hb
  go_wp2_with fail
  go_loop [7] (fun o => ∃ k : Int, -1 ≤ k ∧ k ≤ (n2 : Int) - 1 ∧ o = .int .i64 k ∧ Hid (∀ i : Nat, k < i → ys.getD i 0 = 0)) (fun o => (intOf o + 1).toNat)
  case atStart => exact ⟨(n2 : Int) - 1, by omega, by omega, rfl, fun i hi => getD_out (by omega)⟩
  case round =>
    obtain ⟨k, hk1, hk2, rfl, hz⟩ := hrel
    by_cases hk0 : 0 < k
    case neg =>
      go_wp2_with fail
      refine (pvalid_ok hB.out.pb _ _ _ _ q.out).mono ?_
      rintro e w6 ⟨rfl, hb⟩
      have szw6 := hb.size
      replace p := Lib.hid (p.out.bel hb)
      replace q := Lib.hid (q.out.bel hb)
      replace bb := Lib.hid (bb.out.trans (hb.mono bb.out.size))
      clear hb
      go_wp2_with fail
      go_ret
      exact ⟨rfl, bb.out⟩
    obtain ⟨K, rfl⟩ := Int.eq_ofNat_of_zero_le (by omega : 0 ≤ k)
    have hKn : K < n2 := by omega
    obtain ⟨d_b, d_o, rfl, qc⟩ := row_at q.out hKn
    obtain ⟨b', off', e', qc0⟩ := row_at q.out (show 0 < n2 by omega)
    cases e'
    rw [Nat.add_zero] at qc0
    obtain ⟨v, hv1⟩ : ∃ v, ys.getD K 0 = v := ⟨_, rfl⟩
    obtain ⟨u, hu1⟩ : ∃ u, ys.getD 0 0 = u := ⟨_, rfl⟩
    have bv := hB.out.pb.bd' K
    have bu := hB.out.pb.bd' 0
    rw [hv1] at bv qc
    rw [hu1] at bu qc0
    replace hv1 := Lib.hid hv1
    replace hu1 := Lib.hid hu1
    by_cases hv0 : v = 0
    case pos =>
      have hz' : Hid (∀ i : Nat, (K : Int) - 1 < i → ys.getD i 0 = 0) := fun i hi => by
        by_cases e : i = K
        · subst e; rw [hv1.out]; exact hv0
        · exact hz.out i (by omega)
      subst hv0
      go_wp2_with fail
      exact ⟨⟨(K : Int) - 1, by omega, by omega, rfl, hz'⟩, by simp [intOf]⟩
    have hvb : (v == 0) = false := by simpa using hv0
    have hv3 : 0 < v := by omega
    clear hv0
    by_cases hu6 : u = 6
    case pos =>
      subst hu6
      go_wp2_with fail
      refine (pvalid_ok hB.out.pb _ _ _ _ q.out).mono ?_
      rintro e w7 ⟨rfl, hb⟩
      have szw7 := hb.size
      replace p := Lib.hid (p.out.bel hb)
      replace q := Lib.hid (q.out.bel hb)
      replace bb := Lib.hid (bb.out.trans (hb.mono bb.out.size))
      clear hb
      go_wp2_with fail
      go_ret
      exact ⟨rfl, bb.out⟩
    have hub : (u == 6) = false := by simpa using hu6
    have hu5 : u < 6 := by omega
    clear hu6
    have hM : Bel ys (moveL ys K) := Bel.move hB.out.pb (by omega) (by omega) (by rw [hu1.out]; exact hu5) (by rw [hv1.out]; exact hv3) (fun i hi => hz.out i (by omega))
    have hme : moveL ys K = (ys.set K (v - 1)).set 0 (u + 1) := by unfold moveL; rw [hv1.out, hu1.out]
    rw [hme] at hM
    have hPM := Lib.hid hM.pb
    have k1 := Lib.hid hM.yes
    have k2 := Lib.hid (hB.out.trans hM).yes
    have h00 : (ys.set K (v - 1)).getD 0 0 = u := by rw [set_getD (by omega), if_neg (by omega)]; exact hu1.out
    replace h00 := Lib.hid h00
    have i1 : IntKind.i64.wrap (v - 1) = v - 1 := IntWalk.i64_in _ ⟨by omega, by omega⟩
    have i2 : IntKind.i64.wrap (u + 1) = u + 1 := IntWalk.i64_in _ ⟨by omega, by omega⟩
    clear hM hme hz
    have d_h := True.intro
    have d_n := Lib.hid (row_news q.out (by omega))
    clear d_h
    have d_l := q.out.1
    have lt_d_p := row_lt p.out
    have lt_d_q := row_lt q.out
    have d_s := bb.out.size
    obtain ⟨d_i, d_i1, d_i2, d_i3, d_i4⟩ := info_parts infoInt
    go_wp2_with (at_builtin; refine wpList_append_own _ rfl _ _ 23 rfl w5.heap.size 3 d_i (.int .i64 0) 1 8 Try.underlying23 d_i1 d_i2 d_i3 d_i4 rfl (by decide) _ 0 [] rfl (World.ownsRow_lit w5 #[] 0 (Nat.le_refl _) (by decide) rfl) ⟨d_b, d_o, none⟩ n2 c2 ((ys).map (Value.int .i64)) rfl ?c1 ?c2 ?c3 ?c4 ?c5 ?c6 ?_)
    skip
    case c2 => exact fun j u hj => by have h := d_n.out j (.int .i64 u) (by simp [hj]); by_cases e : j = 0 <;> simpa [Addr.add, e] using h
    case c3 => exact fun _ _ => rfl
    case c4 => unfold maxLen; omega
    case c5 => omega
    skip
    intro v' w8 hown hgr hnil
    obtain ⟨ad, cd, rfl, ho⟩ := own_of (xs := ys) (n := n2) (by simpa using hown)
    have hb : Below w5.heap.size w5 w8 := ((Below.refl _ _).alloc (Nat.le_refl _) _).grown hgr (by simp) (fun k hk => by simp [Value.ownBlock] at hk; omega)
    clear hown hgr hnil d_n d_i1 d_i2 d_i3 d_i4
    obtain ⟨gd, rfl⟩ : ∃ g, ad = some ⟨g, 0, none⟩ := by
      rcases ho.cases with ⟨_, h, _⟩ | ⟨g, h, _⟩
      · omega
      · exact ⟨g, h⟩
    have d := Lib.hid ho
    have rg_d := rng_own ho
    clear ho
    have szw8 := hb.size
    replace p := Lib.hid (p.out.bel hb)
    replace q := Lib.hid (q.out.bel hb)
    replace bb := Lib.hid (bb.out.trans (hb.mono bb.out.size))
    clear hb
    clear qc qc0
    have hck := own_cell d.out (i := K) (by omega)
    have hfz := d.out.frozen
    have hst := Lib.hid (d.out.set K (v - 1))
    have hg5 : w8.grownBy (w8.setCell ⟨gd, K, none⟩ (.int .i64 (v - 1))) (rowOf (some ⟨gd, 0, none⟩)) := grown_set (World.grownBy.refl _ _)
    rw [hv1.out] at hck
    go_upto_region 15 with fail
    replace p := Lib.hid (p.out.apart hg5 (fun b o e hn => ne_rowOf rg_d (.inl (lt_d_p b o e hn))))
    replace q := Lib.hid (q.out.apart hg5 (fun b o e hn => ne_rowOf rg_d (.inl (lt_d_q b o e hn))))
    replace bb := Lib.hid (bb.out.setCell (show w.heap.size ≤ (⟨gd, K, none⟩ : Addr).block by have := (rg_d _ rfl).1; simp at this ⊢; omega) (.int .i64 (v - 1)))
    replace d := hst
    clear hck hfz hst hg5
    generalize hwq : w8.setCell ⟨gd, K, none⟩ (.int .i64 (v - 1)) = w9 at *
    have szw9 : w8.heap.size ≤ w9.heap.size := by rw [← hwq]; simp [World.setCell]
    clear hwq
    have hck := own_cell d.out (i := 0) (by omega)
    have hfz := d.out.frozen
    have hst := Lib.hid (d.out.set 0 (u + 1))
    have hg5 : w9.grownBy (w9.setCell ⟨gd, 0, none⟩ (.int .i64 (u + 1))) (rowOf (some ⟨gd, 0, none⟩)) := grown_set (World.grownBy.refl _ _)
    rw [h00.out] at hck
    go_wp2_with fail
    replace p := Lib.hid (p.out.apart hg5 (fun b o e hn => ne_rowOf rg_d (.inl (lt_d_p b o e hn))))
    replace q := Lib.hid (q.out.apart hg5 (fun b o e hn => ne_rowOf rg_d (.inl (lt_d_q b o e hn))))
    replace bb := Lib.hid (bb.out.setCell (show w.heap.size ≤ (⟨gd, 0, none⟩ : Addr).block by have := (rg_d _ rfl).1; simp at this ⊢; omega) (.int .i64 (u + 1)))
    replace d := hst
    clear hck hfz hst hg5
    generalize hwq : w9.setCell ⟨gd, 0, none⟩ (.int .i64 (u + 1)) = w10 at *
    have szw10 : w9.heap.size ≤ w10.heap.size := by rw [← hwq]; simp [World.setCell]
    clear hwq
    have kd := own_cap d.out
    refine (pvalid_ok hPM.out _ _ _ _ d.out.row).mono ?_
    rintro e w11 ⟨rfl, hb⟩
    have szw11 := hb.size
    replace p := Lib.hid (p.out.bel hb)
    replace q := Lib.hid (q.out.bel hb)
    replace d := Lib.hid (d.out.bel hb)
    replace bb := Lib.hid (bb.out.trans (hb.mono bb.out.size))
    clear hb
    go_wp2_with fail
    refine (below_ok k1.out _ _ _ _ _ _ hc.2 kd hn.2 (by omega) _ q.out d.out.row).mono ?_
    rintro e w12 ⟨rfl, hb⟩
    have szw12 := hb.size
    replace p := Lib.hid (p.out.bel hb)
    replace q := Lib.hid (q.out.bel hb)
    replace d := Lib.hid (d.out.bel hb)
    replace bb := Lib.hid (bb.out.trans (hb.mono bb.out.size))
    clear hb
    go_wp2_with fail
    refine (below_ok k2.out _ _ _ _ _ _ hc.1 kd hn.1 (by omega) _ p.out d.out.row).mono ?_
    rintro e w13 ⟨rfl, hb⟩
    have szw13 := hb.size
    replace p := Lib.hid (p.out.bel hb)
    replace q := Lib.hid (q.out.bel hb)
    replace d := Lib.hid (d.out.bel hb)
    replace bb := Lib.hid (bb.out.trans (hb.mono bb.out.size))
    clear hb
    go_wp2_with fail
    go_ret
    exact ⟨rfl, bb.out⟩

set_option maxRecDepth 100000 in
theorem lifted (os : Os) (started : os.Started) (H : Type) (enc : TypeId × Value → H) :
    ReturnsInHanded {} Try.checked os 11 .any (Rows.fnBelowMoveSpec.pre6 enc Try.prog Try.f11 Rows.fnBelowMoveRow.domain false) (Rows.fnBelowMoveSpec.post enc Try.prog Try.f11 false true false false) := by
  refine returnsInHanded_of_change (C := Try.checked) own started (by kernel_rfl) Try.func11
    (ChangeSpec.witness6 (enc := enc) (C := Try.checked) false ⟨#[], #[.slice none 0 0], []⟩ 8 (by kernel_rfl) (by kernel_rfl) (by kernel_rfl) (by kernel_rfl)) ?_
  intro W base args ds gs before hval0 hW hcnd _
  have hval : ∀ (j : Nat) t v, Try.f11.params[j]? = some t → args[j]? = some v → Value.okWide Try.prog W .any base t v := hval0
  have hW' := hW
  obtain ⟨p, q, hA0, hV, rfl, hfz, hnd⟩ := hW
  have hA : DataW.TrodAll enc Try.prog W 0 (fun _ => true) true Try.f11.params.toList args.toList ds p := hA0
  rw [Try.params11] at hA hval
  obtain ⟨v0, vs0, d0, ds0, p0, q0, hargs, rfl, rfl, h0, r0⟩ := trodAll_cons hA
  obtain ⟨rfl, rfl, rfl⟩ := trodAll_nil r0
  obtain rfl : args = #[v0] := by cases args; simp_all
  obtain ⟨rfl, rfl⟩ := trodVars_none hV
  have k0 := h0
  have lt0 : ∀ x ∈ p0, x.block < W.heap.size := by obtain ⟨m, hm⟩ := k0; exact DataW.trod_lt m _ _ _ hm
  obtain ⟨a0, len0, cap0, z0, rfl, w0, l0, m0⟩ := open_code (hval 0 22 v0 rfl rfl) h0
  clear hA0 hval0
  refine (walk a0 len0 cap0 z0 W w0 l0 m0).mono fun e W' ⟨he, bel⟩ => ?_
  subst he
  exact ⟨_, rfl, _, _, _, [], _, [], hW', trodAll_mk1 (shut_bool Try.underlying4 _), (trodAll_cons_mk (Below.trod laidOut (by kernel_rfl) (of_decide_eq_true (by kernel_rfl)) k0 bel lt0) trodAll_mk0), rfl, bel.frame _, fun h => by cases h⟩

theorem closed : joinedFacts Try.prog 11 Try.f11 Rows.fnBelowMoveSpec Rows.fnBelowMoveRow = true := by
  simp only [joinedFacts, Bool.and_eq_true]
  repeat' apply And.intro
  all_goals first | with_reducible exact mayEnterOk | (with_reducible rw [liftsFinalOk]; kernel_rfl) | (with_reducible rw [makeOk]; kernel_rfl) | kernel_rfl

theorem over : Rows.fnBelowMoveRow.holds Try.pinned (OpenSpec.ofChange Rows.fnBelowMoveSpec) :=
  OpenClaim.holds_of_wide 11 Try.f11 rfl rfl rfl rfl rfl rfl rfl ⟨rfl, rfl, rfl, rfl, rfl⟩ rfl rfl rfl rfl rfl (by kernel_rfl) Try.func11 closed
    (of_decide_eq_true (by kernel_rfl)) (by unfold Func.isWrapper; first | (rw [if_pos (by decide +kernel)]; kernel_rfl) | (rw [if_neg (by decide +kernel)]; exact ⟨rfl, rfl⟩))
    (fun os started H enc _ => lifted os started H enc)

theorem proved : Rows.FnBelowMoveSaid := over
#print axioms proved
end Go.Proofs.Ythllfkgceoenbaa.LFBelowMove

