/-
  For any two slices of bytes the law FnConsistentNested answers true: the sums of a nested image are consistent, without excess, in any order; nothing that was there is written; no condition.
-/
import Derived.Test.YtocbnpkdncnbgaaDoorO
import Derived.Test.YtocbnpkdncnbgaaDoorCf
import Derived.Test.YtocbnpkdncnbgaaDoorK
import Derived.Deep.RegionLaw
import Derived.Test.YtocbnpkdncnbgaaDoorDq
import Derived.Test.YtocbnpkdncnbgaaDoorDr
import Derived.Test.YtocbnpkdncnbgaaDoorCa
import Derived.Test.YtocbnpkdncnbgaaDoorPa
import Derived.Test.YtocbnpkdncnbgaaDoorCe
import Derived.Test.YtocbnpkdncnbgaaDoorEp
namespace Go.Proofs.YtocbnpkdncnbgaaDoor.LFConsistentNested
open Go.ChangeShapes Go.WideShapes Go.ChangeAt Go.RowKit Go.Joins

set_option maxHeartbeats 1000000 in
set_option maxRecDepth 100000 in
theorem walk (a : Option Addr) (len cap : Nat) (zs : List Int) (a2 : Option Addr) (len2 cap2 : Nat) (zs2 : List Int) (w : World) (pE : Addr) (hE : w.cell? ⟨0, 0, none⟩ = some (errV pE)) (h : Bys w a len zs) (hl : len ≤ cap) (hm : cap ≤ 9223372036854775807) (_ : Bys w a2 len2 zs2) (_ : len2 ≤ cap2) (_ : cap2 ≤ 9223372036854775807) :
    Calls Tryd.prog 3 #[.slice a len cap, .slice a2 len2 cap2] w fun e w' => e = .returned (.bool true) ∧ Below w.heap.size w w' := by
  by_cases hbig : 1048576 < len
  · clear h
    go_enter Tryd.func3, Tryd.ntmps3
    go_wp2_with fail
    go_ret
    exact ⟨rfl, Below.refl _ _⟩
  by_cases hbig2 : 1048576 < len2
  · clear h
    go_enter Tryd.func3, Tryd.ntmps3
    go_wp2_with fail
    go_ret
    exact ⟨rfl, Below.refl _ _⟩
  go_enter Tryd.func3, Tryd.ntmps3
  go_wp2_with fail
  refine (draw_DrawBuildNested a len cap zs _ h hl hm).mono ?_
  rintro e w1 ⟨aR, n, cR, xs, v, rfl, hR, hn6, hcap, hv, hb1⟩
  clear h hl hm
  have bb := Lib.hid hb1
  have p := Lib.hid hR.row
  have lx := Lib.hid hR.len
  have hn13 : n ≤ 13 := by omega
  have es := kept hb1 (block_lt hE) hE
  clear hR hb1 hE
  by_cases hB : nestB xs v = true
  case neg =>
    have hB : nestB xs v = false := by simpa using hB
    replace hB := Lib.hid hB
    go_wp2_with fail
    refine (bn_no hB.out hn13 _ _ _ p.out).mono ?_
    rintro e w2 ⟨⟨ao, co, rfl, ho⟩, hb⟩
    have o := Lib.hid ho.row
    have szw2 := hb.size
    replace es := kept hb (block_lt es) es
    replace p := Lib.hid (p.out.bel hb)
    replace bb := Lib.hid (bb.out.trans (hb.mono bb.out.size))
    clear hb
    clear ho
    have hbx : Below w2.heap.size w2 (w2.alloc (.cells #[.int .i64 0, .slice ao 0 co] 27)) := (Below.refl _ _).alloc (Nat.le_refl _) _
    replace es := kept hbx (block_lt es) es
    replace p := Lib.hid (p.out.bel hbx)
    replace o := Lib.hid (o.out.bel hbx)
    replace bb := Lib.hid (bb.out.trans (hbx.mono bb.out.size))
    clear hbx
    have o0 : (w2.alloc (.cells #[.int .i64 0, .slice ao 0 co] 27)).cell? ⟨w2.heap.size, 0, none⟩ = some (.int .i64 0) := by simp
    have o1 : (w2.alloc (.cells #[.int .i64 0, .slice ao 0 co] 27)).cell? ⟨w2.heap.size, 1, none⟩ = some (.slice ao 0 co) := by simp
    go_wp2_with fail
    refine (bns_no hB.out hn13 _ _ _ p.out).mono ?_
    rintro e w3 ⟨⟨aow, cow, rfl, ho⟩, hb⟩
    have ow := Lib.hid ho.row
    have szw3 : w2.heap.size + 1 ≤ w3.heap.size := by have := hb.size; simpa using this
    replace es := kept hb (block_lt es) es
    replace o0 := kept hb (block_lt o0) o0
    replace o1 := kept hb (block_lt o1) o1
    replace p := Lib.hid (p.out.bel hb)
    replace o := Lib.hid (o.out.bel hb)
    replace bb := Lib.hid (bb.out.trans (hb.mono bb.out.size))
    clear hb
    clear ho
    have hbx : Below w3.heap.size w3 (w3.alloc (.cells #[.int .i64 0, .slice aow 0 cow] 27)) := (Below.refl _ _).alloc (Nat.le_refl _) _
    replace es := kept hbx (block_lt es) es
    replace o0 := kept hbx (block_lt o0) o0
    replace o1 := kept hbx (block_lt o1) o1
    replace p := Lib.hid (p.out.bel hbx)
    replace o := Lib.hid (o.out.bel hbx)
    replace ow := Lib.hid (ow.out.bel hbx)
    replace bb := Lib.hid (bb.out.trans (hbx.mono bb.out.size))
    clear hbx
    have ow0 : (w3.alloc (.cells #[.int .i64 0, .slice aow 0 cow] 27)).cell? ⟨w3.heap.size, 0, none⟩ = some (.int .i64 0) := by simp
    have ow1 : (w3.alloc (.cells #[.int .i64 0, .slice aow 0 cow] 27)).cell? ⟨w3.heap.size, 1, none⟩ = some (.slice aow 0 cow) := by simp
    go_wp2_with fail
    refine (sameImage_yes _ _ _ _ _ _ [] _ o.out ow.out (by omega)).mono ?_
    rintro e w4 ⟨rfl, hb⟩
    have szw4 : w3.heap.size + 1 ≤ w4.heap.size := by have := hb.size; simpa using this
    replace es := kept hb (block_lt es) es
    replace o0 := kept hb (block_lt o0) o0
    replace o1 := kept hb (block_lt o1) o1
    replace ow0 := kept hb (block_lt ow0) ow0
    replace ow1 := kept hb (block_lt ow1) ow1
    replace p := Lib.hid (p.out.bel hb)
    replace o := Lib.hid (o.out.bel hb)
    replace ow := Lib.hid (ow.out.bel hb)
    replace bb := Lib.hid (bb.out.trans (hb.mono bb.out.size))
    clear hb
    go_wp2_with fail
    refine (sameImage_yes _ _ _ _ _ _ [] _ o.out ow.out (by omega)).mono ?_
    rintro e w5 ⟨rfl, hb⟩
    have szw5 := hb.size
    replace es := kept hb (block_lt es) es
    replace o0 := kept hb (block_lt o0) o0
    replace o1 := kept hb (block_lt o1) o1
    replace ow0 := kept hb (block_lt ow0) ow0
    replace ow1 := kept hb (block_lt ow1) ow1
    replace p := Lib.hid (p.out.bel hb)
    replace o := Lib.hid (o.out.bel hb)
    replace ow := Lib.hid (ow.out.bel hb)
    replace bb := Lib.hid (bb.out.trans (hb.mono bb.out.size))
    clear hb
    go_wp2_with fail
    go_ret
    exact ⟨rfl, bb.out⟩
  have hv0 := nestB_W hB
  obtain ⟨W, rfl⟩ := Int.eq_ofNat_of_zero_le (by omega : 0 ≤ v)
  have hp := nestB_parts hB
  rw [lx.out] at hp
  have hn1 := hp.1.1
  have hW1 := hp.2.1.1
  have hW6 := hp.2.1.2
  have bx := Lib.hid hp.2.2
  clear hp hv0 hv
  obtain ⟨L, hL⟩ : ∃ L, nestL xs W = L := ⟨_, rfl⟩
  have hI : Im W n L := by have := nest_im hB; rwa [hL, lx.out] at this
  have hcs : Hid (csL L n W = conjL xs W) := by have := nest_cs hB; rwa [hL, lx.out] at this
  have hrs : Hid (rsL L W n = xs) := by have := nest_rs hB; rwa [hL, lx.out] at this
  replace hB := Lib.hid hB
  replace hL := Lib.hid hL
  replace hI := Lib.hid hI
  go_wp2_with fail
  refine (bn_ok hB.out hL.out lx.out _ _ _ p.out).mono ?_
  rintro e w6 ⟨⟨ao, co, rfl, ho⟩, hb⟩
  have o := Lib.hid ho.row
  have szw6 := hb.size
  replace es := kept hb (block_lt es) es
  replace p := Lib.hid (p.out.bel hb)
  replace bb := Lib.hid (bb.out.trans (hb.mono bb.out.size))
  clear hb
  clear ho
  have hbx : Below w6.heap.size w6 (w6.alloc (.cells #[.int .i64 W, .slice ao n co] 27)) := (Below.refl _ _).alloc (Nat.le_refl _) _
  replace es := kept hbx (block_lt es) es
  replace p := Lib.hid (p.out.bel hbx)
  replace o := Lib.hid (o.out.bel hbx)
  replace bb := Lib.hid (bb.out.trans (hbx.mono bb.out.size))
  clear hbx
  have o0 : (w6.alloc (.cells #[.int .i64 W, .slice ao n co] 27)).cell? ⟨w6.heap.size, 0, none⟩ = some (.int .i64 W) := by simp
  have o1 : (w6.alloc (.cells #[.int .i64 W, .slice ao n co] 27)).cell? ⟨w6.heap.size, 1, none⟩ = some (.slice ao n co) := by simp
  go_wp2_with fail
  refine (bns_ok hB.out hL.out lx.out _ _ _ p.out).mono ?_
  rintro e w7 ⟨⟨aow, cow, rfl, ho⟩, hb⟩
  have ow := Lib.hid ho.row
  have szw7 : w6.heap.size + 1 ≤ w7.heap.size := by have := hb.size; simpa using this
  replace es := kept hb (block_lt es) es
  replace o0 := kept hb (block_lt o0) o0
  replace o1 := kept hb (block_lt o1) o1
  replace p := Lib.hid (p.out.bel hb)
  replace o := Lib.hid (o.out.bel hb)
  replace bb := Lib.hid (bb.out.trans (hb.mono bb.out.size))
  clear hb
  clear ho
  have hbx : Below w7.heap.size w7 (w7.alloc (.cells #[.int .i64 W, .slice aow n cow] 27)) := (Below.refl _ _).alloc (Nat.le_refl _) _
  replace es := kept hbx (block_lt es) es
  replace o0 := kept hbx (block_lt o0) o0
  replace o1 := kept hbx (block_lt o1) o1
  replace p := Lib.hid (p.out.bel hbx)
  replace o := Lib.hid (o.out.bel hbx)
  replace ow := Lib.hid (ow.out.bel hbx)
  replace bb := Lib.hid (bb.out.trans (hbx.mono bb.out.size))
  clear hbx
  have ow0 : (w7.alloc (.cells #[.int .i64 W, .slice aow n cow] 27)).cell? ⟨w7.heap.size, 0, none⟩ = some (.int .i64 W) := by simp
  have ow1 : (w7.alloc (.cells #[.int .i64 W, .slice aow n cow] 27)).cell? ⟨w7.heap.size, 1, none⟩ = some (.slice aow n cow) := by simp
  go_wp2_with fail
  refine (sameImage_yes _ _ _ _ _ _ L _ o.out ow.out (by omega)).mono ?_
  rintro e w8 ⟨rfl, hb⟩
  have szw8 : w7.heap.size + 1 ≤ w8.heap.size := by have := hb.size; simpa using this
  replace es := kept hb (block_lt es) es
  replace o0 := kept hb (block_lt o0) o0
  replace o1 := kept hb (block_lt o1) o1
  replace ow0 := kept hb (block_lt ow0) ow0
  replace ow1 := kept hb (block_lt ow1) ow1
  replace p := Lib.hid (p.out.bel hb)
  replace o := Lib.hid (o.out.bel hb)
  replace ow := Lib.hid (ow.out.bel hb)
  replace bb := Lib.hid (bb.out.trans (hb.mono bb.out.size))
  clear hb
  clear ow0 ow1 ow
  have hc0 := nest_con hB.out
  have lc := conj_len xs W
  have hcr : conB xs ((conjL xs W).drop (len2 % W) ++ (conjL xs W).take (len2 % W)) = true := by rw [conB_perm (List.Perm.refl xs) (rot_perm (conjL xs W) (len2 % W))]; exact hc0
  have hxc : excOf xs ((conjL xs W).drop (len2 % W) ++ (conjL xs W).take (len2 % W)) = 0 := (excOf_yes (conB_valid hcr)).trans ((conB_iff (conB_valid hcr)).1 hcr).2
  have k0 : len2 % W < W := Nat.mod_lt _ (by omega)
  have hmod : ((len2 : Int) % (W : Int)) = ((len2 % W : Nat) : Int) := (Int.natCast_emod _ _).symm
  generalize len2 % W = k at k0 hmod hcr hxc
  generalize hC : conjL xs W = C at *
  have hn0 : ((W : Int) == 0) = false := by simp; omega
  obtain ⟨i0, hi, hz0, hz1, hz2⟩ := info_parts infoInt
  have hnk : W - k + k = W := by omega
  have hkn : k ≤ W := by omega
  replace hmod := Lib.hid hmod
  replace hcr := Lib.hid hcr
  replace hxc := Lib.hid hxc
  replace hC := Lib.hid hC
  clear hc0
  have hcc := cs_ok hI.out ao co _ o.out
  rw [hcs.out] at hcc
  replace hcc := Lib.hid hcc
  go_wp2_with fail
  refine (hcc.out).mono ?_
  rintro e w9 ⟨⟨ac1_, cc1_, rfl, ho⟩, hb⟩
  have c1_ := Lib.hid ho
  have szw9 := hb.size
  replace es := kept hb (block_lt es) es
  replace o0 := kept hb (block_lt o0) o0
  replace o1 := kept hb (block_lt o1) o1
  replace p := Lib.hid (p.out.bel hb)
  replace o := Lib.hid (o.out.bel hb)
  replace bb := Lib.hid (bb.out.trans (hb.mono bb.out.size))
  clear hb
  clear ho
  have c1c := c1_.out.cap
  obtain ⟨gc, rfl⟩ : ∃ g, ac1_ = some ⟨g, 0, none⟩ := by
    rcases c1_.out.cases with ⟨_, h, _⟩ | ⟨g, h, _⟩
    · omega
    · exact ⟨g, h⟩
  have hkc : ¬ cc1_ = k := by omega
  have hkc2 : k ≤ cc1_ := by omega
  go_upto_region 10 with fail
  rw [hmod.out]
  go_region_law (first | ((refine step_append_any rfl (.tmp 67) (.tmp 70) 23 rfl w9.heap.size 3 i0 (.int .i64 0) 1 8 Tryd.underlying23 hi hz0 hz1 hz2 rfl (by decide) _ 0 [] rfl (own_drew_lit w9) ⟨gc, k, none⟩ (W - k) (cc1_ - k) ((C.drop k).map (Value.int .i64)) rfl (by simp only [List.length_map, List.length_drop]; omega) (drop_news (fun i hi => own_cell ((c1_.out.bel ((Below.refl _ _).alloc (Nat.le_refl _) (.cells #[] 3))).bel ((Below.refl _ _).drew)) hi) lc (by omega)) (ints_oneCell _ _) (by unfold maxLen; omega) (by omega) (by simp) ?_); intro v1 w9x ho1 hg1; obtain ⟨ax, cx, rfl, ho1x, hb1⟩ := app_first ho1 hg1; clear ho1 hg1; replace ho1x := Lib.hid ho1x; replace hb1 := Lib.hid hb1) | ((refine step_append_any rfl (.tmp 71) (.tmp 74) 23 rfl w9.heap.size 3 i0 (.int .i64 0) 1 8 Tryd.underlying23 hi hz0 hz1 hz2 rfl (by decide) _ (W - k) ((C.drop k).map (Value.int .i64)) rfl ho1x.out ⟨gc, 0, none⟩ k cc1_ ((C.take k).map (Value.int .i64)) rfl (by simp only [List.length_map, List.length_take]; omega) (take_news (fun i hi => own_cell (c1_.out.bel hb1.out) hi) lc (by omega)) (ints_oneCell _ _) (by unfold maxLen; omega) (by omega) hb1.out.size ?_); intro v2 w10 ho2 hg2; obtain ⟨au, cu, rfl, ho2x, hb⟩ := app_second ho1x.out hb1.out (show W - k + k = W by omega) ho2 hg2; clear ho2 hg2 ho1x hb1; have u := Lib.hid ho2x.row; have szw10 := hb.size; replace es := kept hb (block_lt es) es; replace o0 := kept hb (block_lt o0) o0; replace o1 := kept hb (block_lt o1) o1; replace p := Lib.hid (p.out.bel hb); replace o := Lib.hid (o.out.bel hb); replace c1_ := Lib.hid (c1_.out.bel hb); replace bb := Lib.hid (bb.out.trans (hb.mono bb.out.size)); clear hb ho2x))
  all_goals
    go_wp2_with fail
    refine (con_ok hcr.out _ _ _ _ _ _ pE _ p.out u.out es hn13 (by omega)).mono ?_
    rintro e w11 ⟨rfl, hb⟩
    have szw11 := hb.size
    replace es := kept hb (block_lt es) es
    replace o0 := kept hb (block_lt o0) o0
    replace o1 := kept hb (block_lt o1) o1
    replace p := Lib.hid (p.out.bel hb)
    replace o := Lib.hid (o.out.bel hb)
    replace u := Lib.hid (u.out.bel hb)
    replace c1_ := Lib.hid (c1_.out.bel hb)
    replace bb := Lib.hid (bb.out.trans (hb.mono bb.out.size))
    clear hb
    go_wp2_with fail
    refine (exc_ok hxc.out _ _ _ _ _ _ _ p.out u.out hn13 (by omega)).mono ?_
    rintro e w12 ⟨rfl, hb⟩
    have szw12 := hb.size
    replace es := kept hb (block_lt es) es
    replace o0 := kept hb (block_lt o0) o0
    replace o1 := kept hb (block_lt o1) o1
    replace p := Lib.hid (p.out.bel hb)
    replace o := Lib.hid (o.out.bel hb)
    replace u := Lib.hid (u.out.bel hb)
    replace c1_ := Lib.hid (c1_.out.bel hb)
    replace bb := Lib.hid (bb.out.trans (hb.mono bb.out.size))
    clear hb
    go_wp2_with fail
    go_ret
    exact ⟨rfl, bb.out⟩

set_option maxRecDepth 100000 in
theorem lifted (os : Os) (started : os.Started) (H : Type) (enc : TypeId × Value → H) :
    ReturnsInHanded {} Tryd.checked os 3 .any (fun w args => (Rows.fnConsistentNestedSpec.pre enc Tryd.prog Tryd.f3 [] false w args ∧ laidMetH Tryd.prog Rows.fnConsistentNestedRow.laid w) ∧ sizedMet enc Tryd.prog Tryd.f3 (OpenSpec.ofChange Rows.fnConsistentNestedSpec) false w args) (Rows.fnConsistentNestedSpec.post enc Tryd.prog Tryd.f3 false true false false) := by
  refine returnsInHanded_of_change_and (C := Tryd.checked) (X := fun w _ => laidMetH Tryd.prog Rows.fnConsistentNestedRow.laid w) (fun _ _ _ hh h => h.of_heap hh) own started (by kernel_rfl) Tryd.func3
    (ChangeSpec.witness_shaped (enc := enc) (C := Tryd.checked) (os := os) (X := fun w _ => laidMetH Tryd.prog Rows.fnConsistentNestedRow.laid w) false (World.doorLaid Tryd.prog 28 os) #[.slice none 0 0, .slice none 0 0] 8 rfl (World.shaped_of_RefB (by kernel_rfl) (by kernel_rfl)) (by kernel_rfl) (by kernel_rfl) (by kernel_rfl) (door_met os _)) ?_
  intro W base args ds gs before hval0 hW _ _ hL _
  have hval : ∀ (j : Nat) t v, Tryd.f3.params[j]? = some t → args[j]? = some v → Value.okWide Tryd.prog W .any base t v := hval0
  have hW' := hW
  obtain ⟨p, q, hA0, hV, rfl, hfz, hnd⟩ := hW
  have hA : DataW.TrodAll enc Tryd.prog W 0 (fun _ => true) true Tryd.f3.params.toList args.toList ds p := hA0
  rw [Tryd.params3] at hA hval
  obtain ⟨v0, vs0, d0, ds0, p0, q0, hargs, rfl, rfl, h0, r0⟩ := trodAll_cons hA
  obtain ⟨v1, vs1, d1, ds1, p1, q1, rfl, rfl, rfl, h1, r1⟩ := trodAll_cons r0
  obtain ⟨rfl, rfl, rfl⟩ := trodAll_nil r1
  obtain rfl : args = #[v0, v1] := by cases args; simp_all
  obtain ⟨pE, hv0, hE⟩ := sentinel_of hL
  have hV' : DataW.TrodVars enc Tryd.prog W (fun _ => true) ["loop.example/discretetomography/impl.errNoImage"] gs q := hV
  obtain ⟨rfl, rfl⟩ := hV'.unique (vars_read1 enc gE gEType Tryd.underlying55 hv0 trivial _)
  have k0 := h0
  have lt0 : ∀ x ∈ p0, x.block < W.heap.size := by obtain ⟨m, hm⟩ := k0; exact DataW.trod_lt m _ _ _ hm
  obtain ⟨a0, len0, cap0, z0, rfl, w0, l0, m0⟩ := open_code (hval 0 22 v0 rfl rfl) h0
  have k1 := h1
  have lt1 : ∀ x ∈ p1, x.block < W.heap.size := by obtain ⟨m, hm⟩ := k1; exact DataW.trod_lt m _ _ _ hm
  obtain ⟨a1, len1, cap1, z1, rfl, w1, l1, m1⟩ := open_code (hval 1 22 v1 rfl rfl) h1
  clear hA0 hval0
  refine (walk a0 len0 cap0 z0 a1 len1 cap1 z1 W pE hE w0 l0 m0 w1 l1 m1).mono fun e W' ⟨he, bel⟩ => ?_
  subst he
  exact ⟨_, rfl, _, _, _, [], _, [.cell 0 0], hW', trodAll_mk1 (shut_bool Tryd.underlying4 _), (trodAll_cons_mk (Below.trod laidOut (by kernel_rfl) (of_decide_eq_true (by kernel_rfl)) k0 bel lt0) (trodAll_cons_mk (Below.trod laidOut (by kernel_rfl) (of_decide_eq_true (by kernel_rfl)) k1 bel lt1) trodAll_mk0)), vars_read1 enc gE gEType Tryd.underlying55 (var_bel bel hv0) trivial _, bel.frame _, fun h => by cases h⟩

theorem closed : joinedFacts Tryd.prog 3 Tryd.f3 Rows.fnConsistentNestedSpec Rows.fnConsistentNestedRow = true := by
  simp only [joinedFacts, Bool.and_eq_true]
  repeat' apply And.intro
  all_goals first | with_reducible exact mayEnterOk | (with_reducible rw [liftsFinalOk]; kernel_rfl) | (with_reducible rw [makeOk]; kernel_rfl) | kernel_rfl

theorem over : Rows.fnConsistentNestedRow.holds Tryd.pinned (OpenSpec.ofChange Rows.fnConsistentNestedSpec) :=
  OpenClaim.holds_of_wide 3 Tryd.f3 rfl rfl rfl rfl rfl rfl rfl ⟨rfl, rfl, rfl, rfl, rfl⟩ rfl rfl rfl rfl rfl (by kernel_rfl) Tryd.func3 closed
    (of_decide_eq_true (by kernel_rfl)) (by unfold Func.isWrapper; first | (rw [if_pos (by decide +kernel)]; kernel_rfl) | (rw [if_neg (by decide +kernel)]; exact ⟨rfl, rfl⟩))
    (fun os started H enc _ => lifted os started H enc)

theorem plain (f : FuncId) (fn : Func) (hf : Tryd.pinned.checked.prog.funcNamed "loop.example/discretetomography/laws.FnConsistentNested" = some f) (hfn : Tryd.pinned.checked.prog.funcs[f]? = some fn) :
    true = Tryd.pinned.checked.prog.looks [] ∧ ∀ (j : Nat) t, fn.params[j]? = some t → Tryd.pinned.checked.prog.wantsStandIn t = false := by
  obtain rfl : f = 3 := Option.some.inj ((show Tryd.prog.funcNamed "loop.example/discretetomography/laws.FnConsistentNested" = some 3 by kernel_rfl).symm.trans hf) |>.symm
  obtain rfl : fn = Tryd.f3 := (Option.some.inj (Tryd.func3.symm.trans hfn)).symm
  refine ⟨looksOk, fun j t ht => ?_⟩
  rw [Tryd.params3] at ht
  obtain rfl : t = 22 := by simpa using Array.mem_of_getElem? ht
  exact wantsCode

theorem proved : Rows.FnConsistentNestedCardSaid :=
  Claim7.holds_tied_plain_at .later [] _ _ _ _ over (fun _ h => by cases h) (by kernel_rfl) (fun _ h => by cases h) fnConsistentNested_row_tie rfl ⟨rfl, rfl⟩ (by kernel_rfl) rfl plain (by kernel_rfl)
#print axioms proved
end Go.Proofs.YtocbnpkdncnbgaaDoor.LFConsistentNested

