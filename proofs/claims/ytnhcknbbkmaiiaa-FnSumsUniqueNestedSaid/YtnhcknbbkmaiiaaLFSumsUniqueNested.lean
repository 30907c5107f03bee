/-
  For every slice of bytes the law FnSumsUniqueNested answers true: unique sums are those of a nested image; nothing that was there is written; no condition.
-/
import Derived.Test.YtnhcknbbkmaiiaaO
import Derived.Test.YtnhcknbbkmaiiaaK
import Derived.Deep.RegionLaw
import Derived.Test.YtnhcknbbkmaiiaaNv
import Derived.Test.YtnhcknbbkmaiiaaEp
import Derived.Test.YtnhcknbbkmaiiaaDe
import Derived.Test.YtnhcknbbkmaiiaaPa
import Derived.Test.YtnhcknbbkmaiiaaNy
namespace Go.Proofs.Ytnhcknbbkmaiiaa.LFSumsUniqueNested
open Go.ChangeShapes Go.WideShapes Go.ChangeAt Go.RowKit Go.Joins

theorem nestB_of {xs ys : List Int} {m : Nat} (h : sumsB xs ys = true) (ly : ys.length = m) : nestB xs (m : Nat) = true := by
  simp only [sumsB, Bool.and_eq_true] at h
  unfold nestB
  rw [← ly, h.1, h.2.1, h.2.2.1]; rfl

set_option maxHeartbeats 1000000 in
set_option maxRecDepth 100000 in
theorem walk (a : Option Addr) (len cap : Nat) (zs : List Int) (w : World) (h : Bys w a len zs) (hl : len ≤ cap) (hm : cap ≤ 9223372036854775807) :
    Calls Try.prog 6 #[.slice a len cap] w fun e w' => e = .returned (.bool true) ∧ Below w.heap.size w w' := by
  by_cases hbig : 1048576 < len
  · clear h
    go_enter Try.func6, Try.ntmps6
    go_wp2_with fail
    go_ret
    exact ⟨rfl, Below.refl _ _⟩
  go_enter Try.func6, Try.ntmps6
  go_wp2_with fail
  refine (draw_DrawSumsUnique a len cap zs _ h hl hm).mono ?_
  rintro e w1 ⟨aR, n, cR, xs, aC, m, cC, ys, rfl, hR, hC, hnm, hcap, hb1⟩
  clear h hl hm
  have bb := Lib.hid hb1
  have p := Lib.hid hR.row
  have q := Lib.hid hC.row
  have lx := hR.len
  have ly := hC.len
  have hn13 : n ≤ 13 := by omega
  have hm13 : m ≤ 13 := by omega
  clear hR hC hb1
  by_cases hv : uniqS xs ys = true
  case neg =>
    have hv : uniqS xs ys = false := by simpa using hv
    replace hv := Lib.hid hv
    go_wp2_with fail
    refine (su_ok hv.out _ _ _ _ _ _ _ p.out q.out hn13 hm13).mono ?_
    rintro e w2 ⟨rfl, hb⟩
    have szw2 := hb.size
    replace p := Lib.hid (p.out.bel hb)
    replace q := Lib.hid (q.out.bel hb)
    replace bb := Lib.hid (bb.out.trans (hb.mono bb.out.size))
    clear hb
    go_wp2_with fail
    refine (su_sok hv.out _ _ _ _ _ _ _ p.out q.out hn13 hm13).mono ?_
    rintro e w3 ⟨rfl, hb⟩
    have szw3 := hb.size
    replace p := Lib.hid (p.out.bel hb)
    replace q := Lib.hid (q.out.bel hb)
    replace bb := Lib.hid (bb.out.trans (hb.mono bb.out.size))
    clear hb
    go_wp2_with fail
    go_ret
    exact ⟨rfl, bb.out⟩
  have hB := uniqs_con hv
  have hU := Lib.hid hv
  replace hv := conB_valid hB
  have hp := sumsB_parts hv
  rw [lx, ly] at hp
  have hn1 := hp.1.1
  have hn6 := hp.1.2
  have hm1 := hp.2.1.1
  have hm6 := hp.2.1.2
  have bx := Lib.hid hp.2.2.1
  have by' := Lib.hid hp.2.2.2
  have hex := Lib.hid (sums_el hv).1
  have hey := Lib.hid (sums_el hv).2
  clear hp
  replace hv := Lib.hid hv
  replace hB := Lib.hid hB
  go_wp2_with fail
  refine (su_ok hU.out _ _ _ _ _ _ _ p.out q.out hn13 hm13).mono ?_
  rintro e w4 ⟨rfl, hb⟩
  have szw4 := hb.size
  replace p := Lib.hid (p.out.bel hb)
  replace q := Lib.hid (q.out.bel hb)
  replace bb := Lib.hid (bb.out.trans (hb.mono bb.out.size))
  clear hb
  go_wp2_with fail
  refine (su_sok hU.out _ _ _ _ _ _ _ p.out q.out hn13 hm13).mono ?_
  rintro e w5 ⟨rfl, hb⟩
  have szw5 := hb.size
  replace p := Lib.hid (p.out.bel hb)
  replace q := Lib.hid (q.out.bel hb)
  replace bb := Lib.hid (bb.out.trans (hb.mono bb.out.size))
  clear hb
  have hc0 := uniqs_nest hU.out
  rw [ly] at hc0
  have hnb : nestB xs (m : Nat) = true := nestB_of hv.out ly
  obtain ⟨L, hL⟩ : ∃ L, nestL xs m = L := ⟨_, rfl⟩
  have hJ : Im m n L := by have := nest_im hnb; rwa [hL, lx] at this
  have hcs : csL L n m = sortL ys := by have := nest_cs hnb; rw [hL, lx] at this; rw [this, hc0]
  have hpc := Lib.hid (fun s c wx hx => partOf_ok (xs := ys) hey.out s m c wx hx)
  have hcc := Lib.hid (fun s c wx hx => cs_ok hJ s c wx hx)
  obtain ⟨Z, hZ⟩ : ∃ Z, sortL ys = Z := ⟨_, rfl⟩
  rw [hZ] at hpc hcs
  rw [hcs] at hcc
  have lxn : xs.length = n := lx
  replace hnb := Lib.hid hnb
  replace hL := Lib.hid hL
  replace hJ := Lib.hid hJ
  replace hcs := Lib.hid hcs
  replace hZ := Lib.hid hZ
  replace lxn := Lib.hid lxn
  clear hc0
  go_wp2_with fail
  refine (bn_ok hnb.out hL.out lxn.out _ _ _ p.out).mono ?_
  rintro e w6 ⟨⟨ao, co, rfl, ho⟩, hb⟩
  have o := Lib.hid ho.row
  have szw6 := hb.size
  replace p := Lib.hid (p.out.bel hb)
  replace q := Lib.hid (q.out.bel hb)
  replace bb := Lib.hid (bb.out.trans (hb.mono bb.out.size))
  clear hb
  clear ho
  have hbx : Below w6.heap.size w6 (w6.alloc (.cells #[.int .i64 m, .slice ao n co] 25)) := (Below.refl _ _).alloc (Nat.le_refl _) _
  replace p := Lib.hid (p.out.bel hbx)
  replace q := Lib.hid (q.out.bel hbx)
  replace o := Lib.hid (o.out.bel hbx)
  replace bb := Lib.hid (bb.out.trans (hbx.mono bb.out.size))
  clear hbx
  have o0 : (w6.alloc (.cells #[.int .i64 m, .slice ao n co] 25)).cell? ⟨w6.heap.size, 0, none⟩ = some (.int .i64 m) := by simp
  have o1 : (w6.alloc (.cells #[.int .i64 m, .slice ao n co] 25)).cell? ⟨w6.heap.size, 1, none⟩ = some (.slice ao n co) := by simp
  go_wp2_with fail
  refine (hpc.out _ _ _ q.out).mono ?_
  rintro e w7 ⟨⟨ar1, cr1, rfl, ho⟩, hb⟩
  have r1 := Lib.hid ho.row
  have szw7 : w6.heap.size + 1 ≤ w7.heap.size := by have := hb.size; simpa using this
  replace o0 := kept hb (block_lt o0) o0
  replace o1 := kept hb (block_lt o1) o1
  replace p := Lib.hid (p.out.bel hb)
  replace q := Lib.hid (q.out.bel hb)
  replace o := Lib.hid (o.out.bel hb)
  replace bb := Lib.hid (bb.out.trans (hb.mono bb.out.size))
  clear hb
  clear ho
  go_wp2_with fail
  refine (hcc.out _ _ _ o.out).mono ?_
  rintro e w8 ⟨⟨ac1_, cc1_, rfl, ho⟩, hb⟩
  have c1_ := Lib.hid ho.row
  have szw8 := hb.size
  replace o0 := kept hb (block_lt o0) o0
  replace o1 := kept hb (block_lt o1) o1
  replace p := Lib.hid (p.out.bel hb)
  replace q := Lib.hid (q.out.bel hb)
  replace o := Lib.hid (o.out.bel hb)
  replace r1 := Lib.hid (r1.out.bel hb)
  replace bb := Lib.hid (bb.out.trans (hb.mono bb.out.size))
  clear hb
  clear ho
  go_wp2_with fail
  refine (same_yes _ _ _ _ _ Z _ c1_.out r1.out (by omega)).mono ?_
  rintro e w9 ⟨rfl, hb⟩
  have szw9 := hb.size
  replace o0 := kept hb (block_lt o0) o0
  replace o1 := kept hb (block_lt o1) o1
  replace p := Lib.hid (p.out.bel hb)
  replace q := Lib.hid (q.out.bel hb)
  replace o := Lib.hid (o.out.bel hb)
  replace r1 := Lib.hid (r1.out.bel hb)
  replace c1_ := Lib.hid (c1_.out.bel hb)
  replace bb := Lib.hid (bb.out.trans (hb.mono bb.out.size))
  clear hb
  go_wp2_with fail
  go_ret
  exact ⟨rfl, bb.out⟩

set_option maxRecDepth 100000 in
theorem lifted (os : Os) (started : os.Started) (H : Type) (enc : TypeId × Value → H) :
    ReturnsInHanded {} Try.checked os 6 .any (Rows.fnSumsUniqueNestedSpec.pre6 enc Try.prog Try.f6 Rows.fnSumsUniqueNestedRow.domain false) (Rows.fnSumsUniqueNestedSpec.post enc Try.prog Try.f6 false true false false) := by
  refine returnsInHanded_of_change (C := Try.checked) own started (by kernel_rfl) Try.func6
    (ChangeSpec.witness6 (enc := enc) (C := Try.checked) false ⟨#[], #[.slice none 0 0], []⟩ 8 (by kernel_rfl) (by kernel_rfl) (by kernel_rfl) (by kernel_rfl)) ?_
  intro W base args ds gs before hval0 hW hcnd _
  have hval : ∀ (j : Nat) t v, Try.f6.params[j]? = some t → args[j]? = some v → Value.okWide Try.prog W .any base t v := hval0
  have hW' := hW
  obtain ⟨p, q, hA0, hV, rfl, hfz, hnd⟩ := hW
  have hA : DataW.TrodAll enc Try.prog W 0 (fun _ => true) true Try.f6.params.toList args.toList ds p := hA0
  rw [Try.params6] at hA hval
  obtain ⟨v0, vs0, d0, ds0, p0, q0, hargs, rfl, rfl, h0, r0⟩ := trodAll_cons hA
  obtain ⟨rfl, rfl, rfl⟩ := trodAll_nil r0
  obtain rfl : args = #[v0] := by cases args; simp_all
  obtain ⟨rfl, rfl⟩ := trodVars_none hV
  have k0 := h0
  have lt0 : ∀ x ∈ p0, x.block < W.heap.size := by obtain ⟨m, hm⟩ := k0; exact DataW.trod_lt m _ _ _ hm
  obtain ⟨a0, len0, cap0, z0, rfl, w0, l0, m0⟩ := open_code (hval 0 22 v0 rfl rfl) h0
  clear hA0 hval0
  refine (walk a0 len0 cap0 z0 W w0 l0 m0).mono fun e W' ⟨he, bel⟩ => ?_
  subst he
  exact ⟨_, rfl, _, _, _, [], _, [], hW', trodAll_mk1 (shut_bool Try.underlying4 _), (trodAll_cons_mk (Below.trod laidOut (by kernel_rfl) (of_decide_eq_true (by kernel_rfl)) k0 bel lt0) trodAll_mk0), rfl, bel.frame _, fun h => by cases h⟩

theorem closed : joinedFacts Try.prog 6 Try.f6 Rows.fnSumsUniqueNestedSpec Rows.fnSumsUniqueNestedRow = true := by
  simp only [joinedFacts, Bool.and_eq_true]
  repeat' apply And.intro
  all_goals first | with_reducible exact mayEnterOk | (with_reducible rw [liftsFinalOk]; kernel_rfl) | (with_reducible rw [makeOk]; kernel_rfl) | kernel_rfl

theorem over : Rows.fnSumsUniqueNestedRow.holds Try.pinned (OpenSpec.ofChange Rows.fnSumsUniqueNestedSpec) :=
  OpenClaim.holds_of_wide 6 Try.f6 rfl rfl rfl rfl rfl rfl rfl ⟨rfl, rfl, rfl, rfl, rfl⟩ rfl rfl rfl rfl rfl (by kernel_rfl) Try.func6 closed
    (of_decide_eq_true (by kernel_rfl)) (by unfold Func.isWrapper; first | (rw [if_pos (by decide +kernel)]; kernel_rfl) | (rw [if_neg (by decide +kernel)]; exact ⟨rfl, rfl⟩))
    (fun os started H enc _ => lifted os started H enc)

theorem proved : Rows.FnSumsUniqueNestedSaid := over
#print axioms proved
end Go.Proofs.Ytnhcknbbkmaiiaa.LFSumsUniqueNested

