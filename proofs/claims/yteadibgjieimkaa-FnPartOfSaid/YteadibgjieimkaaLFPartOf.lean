/-
  For any two slices of bytes the law FnPartOf answers true: a list is sorted into a partition with the same sum, and so is the list with its first elements moved to the end; nothing that was there is written; no condition.
-/
import Derived.Test.YteadibgjieimkaaO
import Derived.Test.YteadibgjieimkaaZ
import Derived.Deep.RegionLaw
import Derived.Test.YteadibgjieimkaaPn
namespace Go.Proofs.Yteadibgjieimkaa.LFPartOf
set_option maxRecDepth 100000
open Go.ChangeShapes Go.WideShapes Go.ChangeAt Go.RowKit Go.Joins

set_option maxHeartbeats 4000000 in
set_option maxRecDepth 100000 in
theorem walk (a : Option Addr) (len cap : Nat) (zs : List Int) (a2 : Option Addr) (len2 cap2 : Nat) (zs2 : List Int) (w : World) (h : Bys w a len zs) (hl : len ≤ cap) (hm : cap ≤ 9223372036854775807) (_ : Bys w a2 len2 zs2) (_ : len2 ≤ cap2) (_ : cap2 ≤ 9223372036854775807) :
    Calls Try.prog 5 #[.slice a len cap, .slice a2 len2 cap2] w fun e w' => e = .returned (.bool true) ∧ Below w.heap.size w w' := by
  by_cases hbig : 1048576 < len
  · clear h
    go_enter Try.func5, Try.ntmps5
    go_wp2_with fail
    go_ret
    exact ⟨rfl, Below.refl _ _⟩
  by_cases hbig2 : 1048576 < len2
  · clear h
    go_enter Try.func5, Try.ntmps5
    go_wp2_with fail
    go_ret
    exact ⟨rfl, Below.refl _ _⟩
  go_enter Try.func5, Try.ntmps5
  go_wp2_with fail
  refine (draw_DrawPartOf a len cap zs _ h hl hm).mono ?_
  rintro e w1 ⟨s, n, c, xs, rfl, ho, hn, hsn, hb1⟩
  clear h hl hm
  have pown := Lib.hid ho
  have bb := Lib.hid hb1
  have hc := own_cap ho
  have p := Lib.hid ho.row
  have lx := ho.len
  clear ho hb1
  by_cases hv : elB xs = true
  case neg =>
    have hv : elB xs = false := by simpa using hv
    replace hv := Lib.hid hv
    go_wp2_with fail
    refine (partOf_ino hv.out _ _ _ _ p.out hn).mono ?_
    rintro e w2 ⟨⟨ao1, co1, rfl, ho⟩, hb⟩
    have o1 := Lib.hid ho.row
    have szw2 := hb.size
    replace p := Lib.hid (p.out.bel hb)
    replace pown := Lib.hid (pown.out.bel hb)
    replace bb := Lib.hid (bb.out.trans (hb.mono bb.out.size))
    clear hb
    clear ho
    go_wp2_with fail
    refine (partOf_sno hv.out _ _ _ _ p.out hn).mono ?_
    rintro e w3 ⟨⟨ao2, co2, rfl, ho⟩, hb⟩
    have o2 := Lib.hid ho.row
    have szw3 := hb.size
    replace p := Lib.hid (p.out.bel hb)
    replace o1 := Lib.hid (o1.out.bel hb)
    replace pown := Lib.hid (pown.out.bel hb)
    replace bb := Lib.hid (bb.out.trans (hb.mono bb.out.size))
    clear hb
    clear ho
    go_wp2_with fail
    refine (same_yes _ _ _ _ _ [] _ o1.out o2.out (by omega)).mono ?_
    rintro e w4 ⟨rfl, hb⟩
    have szw4 := hb.size
    replace p := Lib.hid (p.out.bel hb)
    replace o1 := Lib.hid (o1.out.bel hb)
    replace o2 := Lib.hid (o2.out.bel hb)
    replace pown := Lib.hid (pown.out.bel hb)
    replace bb := Lib.hid (bb.out.trans (hb.mono bb.out.size))
    clear hb
    go_wp2_with fail
    refine (same_yes _ _ _ _ _ [] _ o1.out o2.out (by omega)).mono ?_
    rintro e w5 ⟨rfl, hb⟩
    have szw5 := hb.size
    replace p := Lib.hid (p.out.bel hb)
    replace o1 := Lib.hid (o1.out.bel hb)
    replace o2 := Lib.hid (o2.out.bel hb)
    replace pown := Lib.hid (pown.out.bel hb)
    replace bb := Lib.hid (bb.out.trans (hb.mono bb.out.size))
    clear hb
    go_wp2_with fail
    go_ret
    exact ⟨rfl, bb.out⟩
  have hn6 := (el_parts hv).1
  rw [lx] at hn6
  have hS := Lib.hid (sort_par hv)
  replace hv := Lib.hid hv
  go_wp2_with fail
  refine (partOf_ok hv.out _ _ _ _ p.out).mono ?_
  rintro e w6 ⟨⟨aq, cq, rfl, ho⟩, hb⟩
  have q := Lib.hid ho
  have szw6 := hb.size
  replace p := Lib.hid (p.out.bel hb)
  replace pown := Lib.hid (pown.out.bel hb)
  replace bb := Lib.hid (bb.out.trans (hb.mono bb.out.size))
  clear hb
  clear ho
  go_wp2_with fail
  refine (partOf_sok hv.out _ _ _ _ p.out).mono ?_
  rintro e w7 ⟨⟨au, cu, rfl, ho⟩, hb⟩
  have u := Lib.hid ho.row
  have szw7 := hb.size
  replace p := Lib.hid (p.out.bel hb)
  replace pown := Lib.hid (pown.out.bel hb)
  replace q := Lib.hid (q.out.bel hb)
  replace bb := Lib.hid (bb.out.trans (hb.mono bb.out.size))
  clear hb
  clear ho
  go_wp2_with fail
  refine (same_yes _ _ _ _ _ (sortL xs) _ q.out.row u.out (by omega)).mono ?_
  rintro e w8 ⟨rfl, hb⟩
  have szw8 := hb.size
  replace p := Lib.hid (p.out.bel hb)
  replace u := Lib.hid (u.out.bel hb)
  replace pown := Lib.hid (pown.out.bel hb)
  replace q := Lib.hid (q.out.bel hb)
  replace bb := Lib.hid (bb.out.trans (hb.mono bb.out.size))
  clear hb
  clear u
  have kn : len2 % (n + 1) < n + 1 := Nat.mod_lt _ (by omega)
  have hmod : ((len2 : Int) % ((n : Int) + 1)) = ((len2 % (n + 1) : Nat) : Int) := by rw [Int.natCast_emod]; rfl
  generalize len2 % (n + 1) = k at kn hmod
  have hk : k ≤ n := by omega
  obtain ⟨g, rfl⟩ : ∃ g, s = some ⟨g, 0, none⟩ := by
    have hsn := hsn
    have hpo := pown.out
    rcases hpo.cases with ⟨h, _, _⟩ | ⟨g, h, _⟩
    · exact absurd h hsn
    · exact ⟨g, h⟩
  obtain ⟨T, hT⟩ : ∃ T, psum xs xs.length = T := ⟨_, rfl⟩
  have e1 := Lib.hid hT
  have e2 := Lib.hid ((sort_total hv.out).trans hT)
  have vr := Lib.hid (rot_el hv.out k)
  have sr := Lib.hid (rot_sort xs k)
  have lr := Lib.hid (rot_len (k := k) lx)
  obtain ⟨i0, hi, hz0, hz1, hz2⟩ := info_parts infoInt
  have hnk : n - k + k = n := by omega
  have hd0 : ((n : Int) + 1 == 0) = false := by simp; omega
  clear hT kn
  replace hsn := Lib.hid hsn
  go_wp2_with fail
  rw [hmod]
  replace hmod := Lib.hid hmod
  go_wp2_with fail
  by_cases hkc : k < c
  case neg =>
    obtain rfl : n = k := by omega
    obtain rfl : n = c := by omega
    go_region_law (first | ((refine step_append_any rfl (.tmp 61) (.tmp 64) 23 rfl w8.heap.size 3 i0 (.int .i64 0) 1 8 Try.underlying23 hi hz0 hz1 hz2 rfl (by decide) _ 0 [] rfl (own_drew_lit w8) ⟨g, 0, none⟩ 0 0 ((xs.drop n).map (Value.int .i64)) rfl (by simp only [List.length_map, List.length_drop]; omega) (no_news n (by omega)) (ints_oneCell _ _) (by unfold maxLen; omega) (by omega) (by simp) ?_); intro v1 w9 ho1 hg1; obtain ⟨ax, cx, rfl, ho1x, hb1⟩ := app_first ho1 hg1; clear ho1 hg1; replace ho1x := Lib.hid ho1x; replace hb1 := Lib.hid hb1) | ((refine step_append_any rfl (.tmp 65) (.tmp 68) 23 rfl w8.heap.size 3 i0 (.int .i64 0) 1 8 Try.underlying23 hi hz0 hz1 hz2 rfl (by decide) _ 0 ((xs.drop n).map (Value.int .i64)) rfl ho1x.out ⟨g, 0, none⟩ n n ((xs.take n).map (Value.int .i64)) rfl (by simp only [List.length_map, List.length_take]; omega) (take_news (fun i hi => own_cell (pown.out.bel hb1.out) hi) lx hk) (ints_oneCell _ _) (by unfold maxLen; omega) (by omega) hb1.out.size ?_); intro v2 w10 ho2 hg2; obtain ⟨ay, cy, rfl, ho2x, hb⟩ := app_second ho1x.out hb1.out (show 0 + n = n by omega) ho2 hg2; clear ho2 hg2 ho1x hb1; replace ho2x := Lib.hid ho2x; replace p := Lib.hid (p.out.bel hb); replace pown := Lib.hid (pown.out.bel hb); replace q := Lib.hid (q.out.bel hb); replace bb := Lib.hid (bb.out.trans (hb.mono bb.out.size)); clear hb) | ((go_simp; go_at_call 26; (with_reducible refine (partOf_ok vr.out _ _ _ _ ho2x.out.row).mono ?_); rintro e w11 ⟨⟨az, cz, rfl, ho3⟩, hb⟩; have r := Lib.hid ho3.row; replace p := Lib.hid (p.out.bel hb); replace pown := Lib.hid (pown.out.bel hb); replace q := Lib.hid (q.out.bel hb); replace bb := Lib.hid (bb.out.trans (hb.mono bb.out.size)); clear hb ho3 ho2x)))
    all_goals
      rw [sr.out] at r
      go_wp2_with fail
      refine (same_yes _ _ _ _ _ (sortL xs) _ r.out q.out.row (by omega)).mono ?_
      rintro e w12 ⟨rfl, hb⟩
      have szw12 := hb.size
      replace p := Lib.hid (p.out.bel hb)
      replace r := Lib.hid (r.out.bel hb)
      replace pown := Lib.hid (pown.out.bel hb)
      replace q := Lib.hid (q.out.bel hb)
      replace bb := Lib.hid (bb.out.trans (hb.mono bb.out.size))
      clear hb
      go_wp2_with fail
      refine (pvalid_ok hS.out _ _ _ _ q.out.row).mono ?_
      rintro e w13 ⟨rfl, hb⟩
      have szw13 := hb.size
      replace p := Lib.hid (p.out.bel hb)
      replace r := Lib.hid (r.out.bel hb)
      replace pown := Lib.hid (pown.out.bel hb)
      replace q := Lib.hid (q.out.bel hb)
      replace bb := Lib.hid (bb.out.trans (hb.mono bb.out.size))
      clear hb
      go_wp2_with fail
      refine (sum_ok hS.out e2.out _ _ _ _ q.out.row).mono ?_
      rintro e w14 ⟨rfl, hb⟩
      have szw14 := hb.size
      replace p := Lib.hid (p.out.bel hb)
      replace r := Lib.hid (r.out.bel hb)
      replace pown := Lib.hid (pown.out.bel hb)
      replace q := Lib.hid (q.out.bel hb)
      replace bb := Lib.hid (bb.out.trans (hb.mono bb.out.size))
      clear hb
      go_wp2_with fail
      refine (sum_el hv.out e1.out _ _ _ _ p.out).mono ?_
      rintro e w15 ⟨rfl, hb⟩
      have szw15 := hb.size
      replace p := Lib.hid (p.out.bel hb)
      replace r := Lib.hid (r.out.bel hb)
      replace pown := Lib.hid (pown.out.bel hb)
      replace q := Lib.hid (q.out.bel hb)
      replace bb := Lib.hid (bb.out.trans (hb.mono bb.out.size))
      clear hb
      go_wp2_with fail
      go_ret
      exact ⟨rfl, bb.out⟩
  have hne : ¬ c = k := by omega
  have hkc2 : k ≤ c := by omega
  go_region_law (first | ((refine step_append_any rfl (.tmp 61) (.tmp 64) 23 rfl w8.heap.size 3 i0 (.int .i64 0) 1 8 Try.underlying23 hi hz0 hz1 hz2 rfl (by decide) _ 0 [] rfl (own_drew_lit w8) ⟨g, k, none⟩ (n - k) (c - k) ((xs.drop k).map (Value.int .i64)) rfl (by simp only [List.length_map, List.length_drop]; omega) (drop_news (fun i hi => own_cell ((pown.out.bel ((Below.refl _ _).alloc (Nat.le_refl _) (.cells #[] 3))).bel ((Below.refl _ _).drew)) hi) lx hk) (ints_oneCell _ _) (by unfold maxLen; omega) (by omega) (by simp) ?_); intro v1 w9 ho1 hg1; obtain ⟨ax, cx, rfl, ho1x, hb1⟩ := app_first ho1 hg1; clear ho1 hg1; replace ho1x := Lib.hid ho1x; replace hb1 := Lib.hid hb1) | ((refine step_append_any rfl (.tmp 65) (.tmp 68) 23 rfl w8.heap.size 3 i0 (.int .i64 0) 1 8 Try.underlying23 hi hz0 hz1 hz2 rfl (by decide) _ (n - k) ((xs.drop k).map (Value.int .i64)) rfl ho1x.out ⟨g, 0, none⟩ k c ((xs.take k).map (Value.int .i64)) rfl (by simp only [List.length_map, List.length_take]; omega) (take_news (fun i hi => own_cell (pown.out.bel hb1.out) hi) lx hk) (ints_oneCell _ _) (by unfold maxLen; omega) (by omega) hb1.out.size ?_); intro v2 w10 ho2 hg2; obtain ⟨ay, cy, rfl, ho2x, hb⟩ := app_second ho1x.out hb1.out (show (n - k) + k = n by omega) ho2 hg2; clear ho2 hg2 ho1x hb1; replace ho2x := Lib.hid ho2x; replace p := Lib.hid (p.out.bel hb); replace pown := Lib.hid (pown.out.bel hb); replace q := Lib.hid (q.out.bel hb); replace bb := Lib.hid (bb.out.trans (hb.mono bb.out.size)); clear hb) | ((go_simp; go_at_call 26; (with_reducible refine (partOf_ok vr.out _ _ _ _ ho2x.out.row).mono ?_); rintro e w11 ⟨⟨az, cz, rfl, ho3⟩, hb⟩; have r := Lib.hid ho3.row; replace p := Lib.hid (p.out.bel hb); replace pown := Lib.hid (pown.out.bel hb); replace q := Lib.hid (q.out.bel hb); replace bb := Lib.hid (bb.out.trans (hb.mono bb.out.size)); clear hb ho3 ho2x)))
  all_goals
    rw [sr.out] at r
    go_wp2_with fail
    refine (same_yes _ _ _ _ _ (sortL xs) _ r.out q.out.row (by omega)).mono ?_
    rintro e w12 ⟨rfl, hb⟩
    have szw12 := hb.size
    replace p := Lib.hid (p.out.bel hb)
    replace r := Lib.hid (r.out.bel hb)
    replace pown := Lib.hid (pown.out.bel hb)
    replace q := Lib.hid (q.out.bel hb)
    replace bb := Lib.hid (bb.out.trans (hb.mono bb.out.size))
    clear hb
    go_wp2_with fail
    refine (pvalid_ok hS.out _ _ _ _ q.out.row).mono ?_
    rintro e w13 ⟨rfl, hb⟩
    have szw13 := hb.size
    replace p := Lib.hid (p.out.bel hb)
    replace r := Lib.hid (r.out.bel hb)
    replace pown := Lib.hid (pown.out.bel hb)
    replace q := Lib.hid (q.out.bel hb)
    replace bb := Lib.hid (bb.out.trans (hb.mono bb.out.size))
    clear hb
    go_wp2_with fail
    refine (sum_ok hS.out e2.out _ _ _ _ q.out.row).mono ?_
    rintro e w14 ⟨rfl, hb⟩
    have szw14 := hb.size
    replace p := Lib.hid (p.out.bel hb)
    replace r := Lib.hid (r.out.bel hb)
    replace pown := Lib.hid (pown.out.bel hb)
    replace q := Lib.hid (q.out.bel hb)
    replace bb := Lib.hid (bb.out.trans (hb.mono bb.out.size))
    clear hb
    go_wp2_with fail
    refine (sum_el hv.out e1.out _ _ _ _ p.out).mono ?_
    rintro e w15 ⟨rfl, hb⟩
    have szw15 := hb.size
    replace p := Lib.hid (p.out.bel hb)
    replace r := Lib.hid (r.out.bel hb)
    replace pown := Lib.hid (pown.out.bel hb)
    replace q := Lib.hid (q.out.bel hb)
    replace bb := Lib.hid (bb.out.trans (hb.mono bb.out.size))
    clear hb
    go_wp2_with fail
    go_ret
    exact ⟨rfl, bb.out⟩

set_option maxRecDepth 100000 in
theorem lifted (os : Os) (started : os.Started) (H : Type) (enc : TypeId × Value → H) :
    ReturnsInHanded {} Try.checked os 5 .any (Rows.fnPartOfSpec.pre6 enc Try.prog Try.f5 Rows.fnPartOfRow.domain false) (Rows.fnPartOfSpec.post enc Try.prog Try.f5 false true false false) := by
  refine returnsInHanded_of_change (C := Try.checked) own started (by kernel_rfl) Try.func5
    (ChangeSpec.witness6 (enc := enc) (C := Try.checked) false ⟨#[], #[.slice none 0 0, .slice none 0 0], []⟩ 8 (by kernel_rfl) (by kernel_rfl) (by kernel_rfl) (by kernel_rfl)) ?_
  intro W base args ds gs before hval0 hW hcnd _
  have hval : ∀ (j : Nat) t v, Try.f5.params[j]? = some t → args[j]? = some v → Value.okWide Try.prog W .any base t v := hval0
  have hW' := hW
  obtain ⟨p, q, hA0, hV, rfl, hfz, hnd⟩ := hW
  have hA : DataW.TrodAll enc Try.prog W 0 (fun _ => true) true Try.f5.params.toList args.toList ds p := hA0
  rw [Try.params5] at hA hval
  obtain ⟨v0, vs0, d0, ds0, p0, q0, hargs, rfl, rfl, h0, r0⟩ := trodAll_cons hA
  obtain ⟨v1, vs1, d1, ds1, p1, q1, rfl, rfl, rfl, h1, r1⟩ := trodAll_cons r0
  obtain ⟨rfl, rfl, rfl⟩ := trodAll_nil r1
  obtain rfl : args = #[v0, v1] := by cases args; simp_all
  obtain ⟨rfl, rfl⟩ := trodVars_none hV
  have k0 := h0
  have lt0 : ∀ x ∈ p0, x.block < W.heap.size := by obtain ⟨m, hm⟩ := k0; exact DataW.trod_lt m _ _ _ hm
  obtain ⟨a0, len0, cap0, z0, rfl, w0, l0, m0⟩ := open_code (hval 0 22 v0 rfl rfl) h0
  have k1 := h1
  have lt1 : ∀ x ∈ p1, x.block < W.heap.size := by obtain ⟨m, hm⟩ := k1; exact DataW.trod_lt m _ _ _ hm
  obtain ⟨a1, len1, cap1, z1, rfl, w1, l1, m1⟩ := open_code (hval 1 22 v1 rfl rfl) h1
  clear hA0 hval0
  refine (walk a0 len0 cap0 z0 a1 len1 cap1 z1 W w0 l0 m0 w1 l1 m1).mono fun e W' ⟨he, bel⟩ => ?_
  subst he
  exact ⟨_, rfl, _, _, _, [], _, [], hW', trodAll_mk1 (shut_bool Try.underlying4 _), (trodAll_cons_mk (Below.trod laidOut (by kernel_rfl) (of_decide_eq_true (by kernel_rfl)) k0 bel lt0) (trodAll_cons_mk (Below.trod laidOut (by kernel_rfl) (of_decide_eq_true (by kernel_rfl)) k1 bel lt1) trodAll_mk0)), rfl, bel.frame _, fun h => by cases h⟩

theorem closed : joinedFacts Try.prog 5 Try.f5 Rows.fnPartOfSpec Rows.fnPartOfRow = true := by
  simp only [joinedFacts, Bool.and_eq_true]
  repeat' apply And.intro
  all_goals first | with_reducible exact mayEnterOk | (with_reducible rw [liftsFinalOk]; kernel_rfl) | (with_reducible rw [makeOk]; kernel_rfl) | kernel_rfl

theorem over : Rows.fnPartOfRow.holds Try.pinned (OpenSpec.ofChange Rows.fnPartOfSpec) :=
  OpenClaim.holds_of_wide 5 Try.f5 rfl rfl rfl rfl rfl rfl rfl ⟨rfl, rfl, rfl, rfl, rfl⟩ rfl rfl rfl rfl rfl (by kernel_rfl) Try.func5 closed
    (of_decide_eq_true (by kernel_rfl)) (by unfold Func.isWrapper; first | (rw [if_pos (by decide +kernel)]; kernel_rfl) | (rw [if_neg (by decide +kernel)]; exact ⟨rfl, rfl⟩))
    (fun os started H enc _ => lifted os started H enc)

theorem proved : Rows.FnPartOfSaid := over
#print axioms proved
end Go.Proofs.Yteadibgjieimkaa.LFPartOf

