/-
  For any two slices of bytes the law FnCountOrder answers true: the order of the sums does not matter; nothing that was there is written; no condition.
-/
import Derived.Test.YtmfncheimmcobaaO
import Derived.Test.YtmfncheimmcobaaK
import Derived.Deep.RegionLaw
import Derived.Test.YtmfncheimmcobaaYa
import Derived.Test.YtmfncheimmcobaaJc
import Derived.Test.YtmfncheimmcobaaPa
import Derived.Test.YtmfncheimmcobaaJn
namespace Go.Proofs.Ytmfncheimmcobaa.LFCountOrder
open Go.ChangeShapes Go.WideShapes Go.ChangeAt Go.RowKit Go.Joins

set_option maxHeartbeats 1000000 in
set_option maxRecDepth 100000 in
theorem walk (a : Option Addr) (len cap : Nat) (zs : List Int) (a2 : Option Addr) (len2 cap2 : Nat) (zs2 : List Int) (w : World) (h : Bys w a len zs) (hl : len ≤ cap) (hm : cap ≤ 9223372036854775807) (_ : Bys w a2 len2 zs2) (_ : len2 ≤ cap2) (_ : cap2 ≤ 9223372036854775807) :
    Calls Try.prog 4 #[.slice a len cap, .slice a2 len2 cap2] w fun e w' => e = .returned (.bool true) ∧ Below w.heap.size w w' := by
  by_cases hbig : 1048576 < len
  · clear h
    go_enter Try.func4, Try.ntmps4
    go_wp2_with fail
    go_ret
    exact ⟨rfl, Below.refl _ _⟩
  by_cases hbig2 : 1048576 < len2
  · clear h
    go_enter Try.func4, Try.ntmps4
    go_wp2_with fail
    go_ret
    exact ⟨rfl, Below.refl _ _⟩
  go_enter Try.func4, Try.ntmps4
  go_wp2_with fail
  refine (draw_DrawSumsCount a len cap zs _ h hl hm).mono ?_
  rintro e w1 ⟨aR, n, cR, xs, aC, m, cC, ys, rfl, hR, hC, hnm, hcap, hb1⟩
  clear h hl hm
  have bb := Lib.hid hb1
  have p := Lib.hid hR.row
  have q := Lib.hid hC.row
  have pown := Lib.hid hR
  have qown := Lib.hid hC
  have lx := hR.len
  have ly := hC.len
  have hn13 : n ≤ 13 := by omega
  have hm13 : m ≤ 13 := by omega
  clear hR hC hb1
  obtain ⟨N, hN⟩ : ∃ N, scO xs ys = N := ⟨_, rfl⟩
  go_wp2_with fail
  refine (sc_ok hN _ _ _ _ _ p.out q.out hn13 hm13).mono ?_
  rintro e w2 ⟨rfl, hb⟩
  have szw2 := hb.size
  replace p := Lib.hid (p.out.bel hb)
  replace q := Lib.hid (q.out.bel hb)
  replace pown := Lib.hid (pown.out.bel hb)
  replace qown := Lib.hid (qown.out.bel hb)
  replace bb := Lib.hid (bb.out.trans (hb.mono bb.out.size))
  clear hb
  go_wp2_with fail
  refine (sc_sok hN _ _ _ _ _ p.out q.out hn13 hm13 hcap.1).mono ?_
  rintro e w3 ⟨rfl, hb⟩
  have szw3 := hb.size
  replace p := Lib.hid (p.out.bel hb)
  replace q := Lib.hid (q.out.bel hb)
  replace pown := Lib.hid (pown.out.bel hb)
  replace qown := Lib.hid (qown.out.bel hb)
  replace bb := Lib.hid (bb.out.trans (hb.mono bb.out.size))
  clear hb
  by_cases hct : ctdB xs ys = true
  case neg =>
    obtain rfl : N = -1 := by rw [← hN]; exact if_neg hct
    replace hct := Lib.hid hct
    go_wp2_with fail
    go_ret
    exact ⟨rfl, bb.out⟩
  have hv := (ctdB_parts hct).1
  have h16 := (ctdB_parts hct).2
  rw [lx, ly] at h16
  have hp := sumsB_parts hv
  rw [lx, ly] at hp
  have hn1 := hp.1.1
  have hn6 := hp.1.2
  have hm1 := hp.2.1.1
  have hm6 := hp.2.1.2
  have bx := Lib.hid hp.2.2.1
  have by' := Lib.hid hp.2.2.2
  have hex := Lib.hid (sums_el hv).1
  have hey := Lib.hid (sums_el hv).2
  clear hp
  have hNc : cntS xs ys = N := (sco_yes hct).symm.trans hN
  have hNb := sco_bd hct
  rw [hNc] at hNb
  have hN0 : ¬ N < 0 := by omega
  have k0 : len2 % n < n := Nat.mod_lt _ (by omega)
  have hmod : ((len2 : Int) % (n : Int)) = ((len2 % n : Nat) : Int) := (Int.natCast_emod _ _).symm
  generalize len2 % n = k at k0 hmod
  have l0 : len2 / 7 % m < m := Nat.mod_lt _ (by omega)
  have hmod2 : (((len2 : Int) / 7) % (m : Int)) = ((len2 / 7 % m : Nat) : Int) := by rw [Int.natCast_emod, Int.natCast_ediv]; rfl
  have hdiv : ((len2 : Int) / 7) = ((len2 / 7 : Nat) : Int) := by rw [Int.natCast_ediv]; rfl
  have hdl : len2 / 7 ≤ len2 := Nat.div_le_self _ _
  have hd0 : 0 ≤ (len2 : Int) / 7 := by omega
  have hmod3 : ((len2 : Int) / 7).tmod (m : Int) = ((len2 / 7 % m : Nat) : Int) := by rw [Int.tmod_eq_emod_of_nonneg hd0]; exact hmod2
  have hwd : IntKind.i64.wrap ((len2 : Int) / 7) = (len2 : Int) / 7 := by rw [hdiv]; exact IntWalk.i64_in _ ⟨by omega, by omega⟩
  have hwd2 : wrap64 ((len2 : Int) / 7) = (len2 : Int) / 7 := by rw [hdiv]; unfold wrap64; omega
  generalize len2 / 7 % m = l at l0 hmod2 hmod3
  clear hdiv
  replace hmod := Lib.hid hmod
  replace hmod2 := Lib.hid hmod2
  replace hmod3 := Lib.hid hmod3
  have hn0 : ((n : Int) == 0) = false := by simp; omega
  have hm0 : ((m : Int) == 0) = false := by simp; omega
  obtain ⟨i0, hi, hz0, hz1, hz2⟩ := info_parts infoInt
  have hnk : n - k + k = n := by omega
  have hml : m - l + l = m := by omega
  have hco : Hid (scO (xs.drop k ++ xs.take k) (ys.drop l ++ ys.take l) = N) := Lib.hid (by
    have h1 := cnt_ro hv (k := k) (l := l) (by omega) (by omega)
    rw [hNc] at h1
    rw [sco_yes (ctdB_of (by rw [sumsB_perm (rot_perm xs k) (rot_perm ys l)]; exact hv) (by rw [(rot_perm xs k).length_eq, (rot_perm ys l).length_eq, lx, ly]; exact h16)), h1])
  have hkn : k ≤ n := by omega
  have hlm : l ≤ m := by omega
  have hkc : ¬ cR = k := by omega
  have hlc : ¬ cC = l := by omega
  have hkc2 : k ≤ cR := by omega
  have hlc2 : l ≤ cC := by omega
  obtain ⟨gR, rfl⟩ : ∃ g, aR = some ⟨g, 0, none⟩ := by
    have hpo := pown.out
    rcases hpo.cases with ⟨_, h, _⟩ | ⟨g, h, _⟩
    · exfalso; omega
    · exact ⟨g, h⟩
  obtain ⟨gC, rfl⟩ : ∃ g, aC = some ⟨g, 0, none⟩ := by
    have hpo := qown.out
    rcases hpo.cases with ⟨_, h, _⟩ | ⟨g, h, _⟩
    · exfalso; omega
    · exact ⟨g, h⟩
  replace hv := Lib.hid hv
  replace hN := Lib.hid hN
  replace hNc := Lib.hid hNc
  replace hct := Lib.hid hct
  go_upto_region 10 with fail
  rw [hmod.out, hmod3.out]
  clear hwd hwd2 hmod2
  go_region_law (first | ((refine step_append_any rfl (.tmp 53) (.tmp 56) 23 rfl w3.heap.size 3 i0 (.int .i64 0) 1 8 Try.underlying23 hi hz0 hz1 hz2 rfl (by decide) _ 0 [] rfl (own_drew_lit w3) ⟨gR, k, none⟩ (n - k) (cR - k) ((xs.drop k).map (Value.int .i64)) rfl (by simp only [List.length_map, List.length_drop]; omega) (drop_news (fun i hi => own_cell ((pown.out.bel ((Below.refl _ _).alloc (Nat.le_refl _) (.cells #[] 3))).bel ((Below.refl _ _).drew)) hi) lx (by omega)) (ints_oneCell _ _) (by unfold maxLen; omega) (by omega) (by simp) ?_); intro v1 w9 ho1 hg1; obtain ⟨ax, cx, rfl, ho1x, hb1⟩ := app_first ho1 hg1; clear ho1 hg1; replace ho1x := Lib.hid ho1x; replace hb1 := Lib.hid hb1) | ((refine step_append_any rfl (.tmp 57) (.tmp 60) 23 rfl w3.heap.size 3 i0 (.int .i64 0) 1 8 Try.underlying23 hi hz0 hz1 hz2 rfl (by decide) _ (n - k) ((xs.drop k).map (Value.int .i64)) rfl ho1x.out ⟨gR, 0, none⟩ k cR ((xs.take k).map (Value.int .i64)) rfl (by simp only [List.length_map, List.length_take]; omega) (take_news (fun i hi => own_cell (pown.out.bel hb1.out) hi) lx (by omega)) (ints_oneCell _ _) (by unfold maxLen; omega) (by omega) hb1.out.size ?_); intro v2 w4 ho2 hg2; obtain ⟨au, cu, rfl, ho2x, hb⟩ := app_second ho1x.out hb1.out (show n - k + k = n by omega) ho2 hg2; clear ho2 hg2 ho1x hb1; have u := Lib.hid ho2x.row; have szw4 := hb.size; replace p := Lib.hid (p.out.bel hb); replace q := Lib.hid (q.out.bel hb); replace pown := Lib.hid (pown.out.bel hb); replace qown := Lib.hid (qown.out.bel hb); replace bb := Lib.hid (bb.out.trans (hb.mono bb.out.size)); clear hb ho2x))
  all_goals
    go_upto_region 11 with fail
    go_region_law (first | ((refine step_append_any rfl (.tmp 62) (.tmp 65) 23 rfl w4.heap.size 3 i0 (.int .i64 0) 1 8 Try.underlying23 hi hz0 hz1 hz2 rfl (by decide) _ 0 [] rfl (own_drew_lit w4) ⟨gC, l, none⟩ (m - l) (cC - l) ((ys.drop l).map (Value.int .i64)) rfl (by simp only [List.length_map, List.length_drop]; omega) (drop_news (fun i hi => own_cell ((qown.out.bel ((Below.refl _ _).alloc (Nat.le_refl _) (.cells #[] 3))).bel ((Below.refl _ _).drew)) hi) ly (by omega)) (ints_oneCell _ _) (by unfold maxLen; omega) (by omega) (by simp) ?_); intro v1 w9 ho1 hg1; obtain ⟨ax, cx, rfl, ho1x, hb1⟩ := app_first ho1 hg1; clear ho1 hg1; replace ho1x := Lib.hid ho1x; replace hb1 := Lib.hid hb1) | ((refine step_append_any rfl (.tmp 66) (.tmp 69) 23 rfl w4.heap.size 3 i0 (.int .i64 0) 1 8 Try.underlying23 hi hz0 hz1 hz2 rfl (by decide) _ (m - l) ((ys.drop l).map (Value.int .i64)) rfl ho1x.out ⟨gC, 0, none⟩ l cC ((ys.take l).map (Value.int .i64)) rfl (by simp only [List.length_map, List.length_take]; omega) (take_news (fun i hi => own_cell (qown.out.bel hb1.out) hi) ly (by omega)) (ints_oneCell _ _) (by unfold maxLen; omega) (by omega) hb1.out.size ?_); intro v2 w5 ho2 hg2; obtain ⟨av, cv, rfl, ho2x, hb⟩ := app_second ho1x.out hb1.out (show m - l + l = m by omega) ho2 hg2; clear ho2 hg2 ho1x hb1; have v := Lib.hid ho2x.row; have szw5 := hb.size; replace p := Lib.hid (p.out.bel hb); replace q := Lib.hid (q.out.bel hb); replace u := Lib.hid (u.out.bel hb); replace pown := Lib.hid (pown.out.bel hb); replace qown := Lib.hid (qown.out.bel hb); replace bb := Lib.hid (bb.out.trans (hb.mono bb.out.size)); clear hb ho2x))
    all_goals
      go_wp2_with fail
      refine (sc_ok hco.out _ _ _ _ _ u.out v.out hn13 hm13).mono ?_
      rintro e w6 ⟨rfl, hb⟩
      have szw6 := hb.size
      replace p := Lib.hid (p.out.bel hb)
      replace q := Lib.hid (q.out.bel hb)
      replace u := Lib.hid (u.out.bel hb)
      replace v := Lib.hid (v.out.bel hb)
      replace pown := Lib.hid (pown.out.bel hb)
      replace qown := Lib.hid (qown.out.bel hb)
      replace bb := Lib.hid (bb.out.trans (hb.mono bb.out.size))
      clear hb
      go_wp2_with fail
      go_ret
      exact ⟨rfl, bb.out⟩

set_option maxRecDepth 100000 in
theorem lifted (os : Os) (started : os.Started) (H : Type) (enc : TypeId × Value → H) :
    ReturnsInHanded {} Try.checked os 4 .any (Rows.fnCountOrderSpec.pre6 enc Try.prog Try.f4 Rows.fnCountOrderRow.domain false) (Rows.fnCountOrderSpec.post enc Try.prog Try.f4 false true false false) := by
  refine returnsInHanded_of_change (C := Try.checked) own started (by kernel_rfl) Try.func4
    (ChangeSpec.witness6 (enc := enc) (C := Try.checked) false ⟨#[], #[.slice none 0 0, .slice none 0 0], []⟩ 8 (by kernel_rfl) (by kernel_rfl) (by kernel_rfl) (by kernel_rfl)) ?_
  intro W base args ds gs before hval0 hW hcnd _
  have hval : ∀ (j : Nat) t v, Try.f4.params[j]? = some t → args[j]? = some v → Value.okWide Try.prog W .any base t v := hval0
  have hW' := hW
  obtain ⟨p, q, hA0, hV, rfl, hfz, hnd⟩ := hW
  have hA : DataW.TrodAll enc Try.prog W 0 (fun _ => true) true Try.f4.params.toList args.toList ds p := hA0
  rw [Try.params4] at hA hval
  obtain ⟨v0, vs0, d0, ds0, p0, q0, hargs, rfl, rfl, h0, r0⟩ := trodAll_cons hA
  obtain ⟨v1, vs1, d1, ds1, p1, q1, rfl, rfl, rfl, h1, r1⟩ := trodAll_cons r0
  obtain ⟨rfl, rfl, rfl⟩ := trodAll_nil r1
  obtain rfl : args = #[v0, v1] := by cases args; simp_all
  obtain ⟨rfl, rfl⟩ := trodVars_none hV
  have k0 := h0
  have lt0 : ∀ x ∈ p0, x.block < W.heap.size := by obtain ⟨m, hm⟩ := k0; exact DataW.trod_lt m _ _ _ hm
  obtain ⟨a0, len0, cap0, z0, rfl, w0, l0, m0⟩ := open_code (hval 0 22 v0 rfl rfl) h0
  have k1 := h1
  have lt1 : ∀ x ∈ p1, x.block < W.heap.size := by obtain ⟨m, hm⟩ := k1; exact DataW.trod_lt m _ _ _ hm
  obtain ⟨a1, len1, cap1, z1, rfl, w1, l1, m1⟩ := open_code (hval 1 22 v1 rfl rfl) h1
  clear hA0 hval0
  refine (walk a0 len0 cap0 z0 a1 len1 cap1 z1 W w0 l0 m0 w1 l1 m1).mono fun e W' ⟨he, bel⟩ => ?_
  subst he
  exact ⟨_, rfl, _, _, _, [], _, [], hW', trodAll_mk1 (shut_bool Try.underlying4 _), (trodAll_cons_mk (Below.trod laidOut (by kernel_rfl) (of_decide_eq_true (by kernel_rfl)) k0 bel lt0) (trodAll_cons_mk (Below.trod laidOut (by kernel_rfl) (of_decide_eq_true (by kernel_rfl)) k1 bel lt1) trodAll_mk0)), rfl, bel.frame _, fun h => by cases h⟩

theorem closed : joinedFacts Try.prog 4 Try.f4 Rows.fnCountOrderSpec Rows.fnCountOrderRow = true := by
  simp only [joinedFacts, Bool.and_eq_true]
  repeat' apply And.intro
  all_goals first | with_reducible exact mayEnterOk | (with_reducible rw [liftsFinalOk]; kernel_rfl) | (with_reducible rw [makeOk]; kernel_rfl) | kernel_rfl

theorem over : Rows.fnCountOrderRow.holds Try.pinned (OpenSpec.ofChange Rows.fnCountOrderSpec) :=
  OpenClaim.holds_of_wide 4 Try.f4 rfl rfl rfl rfl rfl rfl rfl ⟨rfl, rfl, rfl, rfl, rfl⟩ rfl rfl rfl rfl rfl (by kernel_rfl) Try.func4 closed
    (of_decide_eq_true (by kernel_rfl)) (by unfold Func.isWrapper; first | (rw [if_pos (by decide +kernel)]; kernel_rfl) | (rw [if_neg (by decide +kernel)]; exact ⟨rfl, rfl⟩))
    (fun os started H enc _ => lifted os started H enc)

theorem proved : Rows.FnCountOrderSaid := over
#print axioms proved
end Go.Proofs.Ytmfncheimmcobaa.LFCountOrder

