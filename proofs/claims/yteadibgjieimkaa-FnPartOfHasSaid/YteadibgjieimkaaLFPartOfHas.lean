/-
  For every slice of bytes the law FnPartOfHas answers true: each number is in the sorted list as often as in the list; nothing that was there is written; no condition.
-/
import Derived.Test.YteadibgjieimkaaO
import Derived.Test.YteadibgjieimkaaZ
import Derived.Deep.RegionLaw
import Derived.Test.YteadibgjieimkaaPk
namespace Go.Proofs.Yteadibgjieimkaa.LFPartOfHas
set_option maxRecDepth 100000
open Go.ChangeShapes Go.WideShapes Go.ChangeAt Go.RowKit Go.Joins

set_option maxHeartbeats 1000000 in
set_option maxRecDepth 100000 in
theorem walk (a : Option Addr) (len cap : Nat) (zs : List Int) (w : World) (h : Bys w a len zs) (hl : len ≤ cap) (hm : cap ≤ 9223372036854775807) :
    Calls Try.prog 6 #[.slice a len cap] w fun e w' => e = .returned (.bool true) ∧ Below w.heap.size w w' := by
  by_cases hbig : 1048576 < len
  · clear h
    go_enter Try.func6, Try.ntmps6
    go_wp2_with fail
    go_ret
    exact ⟨rfl, Below.refl _ _⟩
  go_enter Try.func6, Try.ntmps6
  go_wp2_with fail
  refine (draw_DrawPartOf a len cap zs _ h hl hm).mono ?_
  rintro e w1 ⟨s, n, c, xs, rfl, ho, hn, hsn, hb1⟩
  clear h hl hm
  have bb := Lib.hid hb1
  have hc := own_cap ho
  have p := Lib.hid ho.row
  have lx := ho.len
  clear ho hb1
  by_cases hv : elB xs = true
  case neg =>
    have hv : elB xs = false := by simpa using hv
    replace hv := Lib.hid hv
    go_wp2_with fail
    refine (partOf_ino hv.out _ _ _ _ p.out hn).mono ?_
    rintro e w2 ⟨⟨ao1, co1, rfl, ho⟩, hb⟩
    have o1 := Lib.hid ho.row
    have szw2 := hb.size
    replace p := Lib.hid (p.out.bel hb)
    replace bb := Lib.hid (bb.out.trans (hb.mono bb.out.size))
    clear hb
    clear ho
    go_wp2_with fail
    refine (partOf_sno hv.out _ _ _ _ p.out hn).mono ?_
    rintro e w3 ⟨⟨ao2, co2, rfl, ho⟩, hb⟩
    have o2 := Lib.hid ho.row
    have szw3 := hb.size
    replace p := Lib.hid (p.out.bel hb)
    replace o1 := Lib.hid (o1.out.bel hb)
    replace bb := Lib.hid (bb.out.trans (hb.mono bb.out.size))
    clear hb
    clear ho
    go_wp2_with fail
    refine (same_yes _ _ _ _ _ [] _ o1.out o2.out (by omega)).mono ?_
    rintro e w4 ⟨rfl, hb⟩
    have szw4 := hb.size
    replace p := Lib.hid (p.out.bel hb)
    replace o1 := Lib.hid (o1.out.bel hb)
    replace o2 := Lib.hid (o2.out.bel hb)
    replace bb := Lib.hid (bb.out.trans (hb.mono bb.out.size))
    clear hb
    go_wp2_with fail
    refine (same_yes _ _ _ _ _ [] _ o1.out o2.out (by omega)).mono ?_
    rintro e w5 ⟨rfl, hb⟩
    have szw5 := hb.size
    replace p := Lib.hid (p.out.bel hb)
    replace o1 := Lib.hid (o1.out.bel hb)
    replace o2 := Lib.hid (o2.out.bel hb)
    replace bb := Lib.hid (bb.out.trans (hb.mono bb.out.size))
    clear hb
    go_wp2_with fail
    go_ret
    exact ⟨rfl, bb.out⟩
  have hn6 := (el_parts hv).1
  rw [lx] at hn6
  have hS := Lib.hid (sort_par hv)
  replace hv := Lib.hid hv
  go_wp2_with fail
  refine (partOf_ok hv.out _ _ _ _ p.out).mono ?_
  rintro e w6 ⟨⟨aq, cq, rfl, ho⟩, hb⟩
  have q := Lib.hid ho
  have szw6 := hb.size
  replace p := Lib.hid (p.out.bel hb)
  replace bb := Lib.hid (bb.out.trans (hb.mono bb.out.size))
  clear hb
  clear ho
  go_wp2_with fail
  refine (partOf_sok hv.out _ _ _ _ p.out).mono ?_
  rintro e w7 ⟨⟨au, cu, rfl, ho⟩, hb⟩
  have u := Lib.hid ho.row
  have szw7 := hb.size
  replace p := Lib.hid (p.out.bel hb)
  replace q := Lib.hid (q.out.bel hb)
  replace bb := Lib.hid (bb.out.trans (hb.mono bb.out.size))
  clear hb
  clear ho
  go_wp2_with fail
  refine (same_yes _ _ _ _ _ (sortL xs) _ q.out.row u.out (by omega)).mono ?_
  rintro e w8 ⟨rfl, hb⟩
  have szw8 := hb.size
  replace p := Lib.hid (p.out.bel hb)
  replace u := Lib.hid (u.out.bel hb)
  replace q := Lib.hid (q.out.bel hb)
  replace bb := Lib.hid (bb.out.trans (hb.mono bb.out.size))
  clear hb
  clear u
  have hcs : Hid (∀ v : Int, ceq (sortL xs) v n = ceq xs v n) := fun v => by rw [← lx]; exact ceq_sort hv.out v
  have b1 : Hid (∀ (v : Int) k, 0 ≤ ceq xs v k ∧ ceq xs v k ≤ k) := fun v k => ceq_bd xs v k
  have b2 : Hid (∀ (v : Int) k, 0 ≤ ceq (sortL xs) v k ∧ ceq (sortL xs) v k ≤ k) := fun v k => ceq_bd (sortL xs) v k
  go_wp2_with fail
  go_loop [8] (fun i => ∃ k : Nat, k ≤ 7 ∧ i = .int .i64 k) (fun i => 7 - (intOf i).toNat)
  case atStart => exact ⟨0, Nat.zero_le _, rfl⟩
  case round =>
    obtain ⟨k, hk, rfl⟩ := hrel
    by_cases hlt : k < 7
    · go_wp2_with fail
      go_loop [9, 10] (fun o i => ∃ j : Nat, j ≤ n ∧ i = .int .i64 j ∧ o = .int .i64 (ceq xs k j - ceq (sortL xs) k j)) (fun _ i => n - (intOf i).toNat)
      case atStart => exact ⟨0, Nat.zero_le _, rfl, rfl⟩
      case round =>
        obtain ⟨j, hj, rfl, rfl⟩ := hrel
        have c1 := b1.out k j
        have c2 := b2.out k j
        by_cases hlj : j < n
        · obtain ⟨bp, op, rp, hcp⟩ := row_at p.out hlj
          obtain ⟨bq, oq, rq, hcq⟩ := row_at q.out.row hlj
          cases rp
          cases rq
          have s1 := ceq_succ xs k j
          have s2 := ceq_succ (sortL xs) k j
          generalize ceq xs k j = A at c1 s1
          generalize ceq (sortL xs) k j = A2 at c2 s2
          by_cases e1 : xs.getD j 0 = k
          · rw [if_pos e1] at s1
            rw [e1] at hcp
            clear e1
            by_cases e2 : (sortL xs).getD j 0 = k
            · rw [if_pos e2] at s2
              rw [e2] at hcq
              clear e2
              have hs := Lib.hid (show ceq xs k (j + 1) - ceq (sortL xs) k (j + 1) = A - A2 + 1 - 1 by omega)
              clear s1 s2
              go_wp2_with fail
              exact ⟨⟨j + 1, by omega, by go_num, by first | (rw [hs.out]; done) | exact int_eq (by rw [hs.out]; omega)⟩, by simp [intOf]; omega⟩
            · rw [if_neg e2] at s2
              have t2 : ((sortL xs).getD j 0 == (k : Int)) = false := by simpa using e2
              generalize (sortL xs).getD j 0 = v at hcq t2
              clear e2
              have hs := Lib.hid (show ceq xs k (j + 1) - ceq (sortL xs) k (j + 1) = A - A2 + 1 by omega)
              clear s1 s2
              go_wp2_with fail
              exact ⟨⟨j + 1, by omega, by go_num, by first | (rw [hs.out]; done) | exact int_eq (by rw [hs.out]; omega)⟩, by simp [intOf]; omega⟩
          · rw [if_neg e1] at s1
            have t1 : (xs.getD j 0 == (k : Int)) = false := by simpa using e1
            generalize xs.getD j 0 = v1 at hcp t1
            clear e1
            by_cases e2 : (sortL xs).getD j 0 = k
            · rw [if_pos e2] at s2
              rw [e2] at hcq
              clear e2
              have hs := Lib.hid (show ceq xs k (j + 1) - ceq (sortL xs) k (j + 1) = A - A2 - 1 by omega)
              clear s1 s2
              go_wp2_with fail
              exact ⟨⟨j + 1, by omega, by go_num, by first | (rw [hs.out]; done) | exact int_eq (by rw [hs.out]; omega)⟩, by simp [intOf]; omega⟩
            · rw [if_neg e2] at s2
              have t2 : ((sortL xs).getD j 0 == (k : Int)) = false := by simpa using e2
              generalize (sortL xs).getD j 0 = v at hcq t2
              clear e2
              have hs := Lib.hid (show ceq xs k (j + 1) - ceq (sortL xs) k (j + 1) = A - A2 by omega)
              clear s1 s2
              go_wp2_with fail
              exact ⟨⟨j + 1, by omega, by go_num, by first | (rw [hs.out]; done) | exact int_eq (by rw [hs.out]; omega)⟩, by simp [intOf]; omega⟩
        · have : j = n := by omega
          subst this
          rw [hcs.out k, Int.sub_self]
          clear c1 c2
          go_wp2_with fail
          exact ⟨⟨k + 1, by omega, by go_num⟩, by simp [intOf]; omega⟩
    · have : k = 7 := by omega
      subst this
      go_wp2_with fail
      go_ret
      exact ⟨rfl, bb.out⟩

set_option maxRecDepth 100000 in
theorem lifted (os : Os) (started : os.Started) (H : Type) (enc : TypeId × Value → H) :
    ReturnsInHanded {} Try.checked os 6 .any (Rows.fnPartOfHasSpec.pre6 enc Try.prog Try.f6 Rows.fnPartOfHasRow.domain false) (Rows.fnPartOfHasSpec.post enc Try.prog Try.f6 false true false false) := by
  refine returnsInHanded_of_change (C := Try.checked) own started (by kernel_rfl) Try.func6
    (ChangeSpec.witness6 (enc := enc) (C := Try.checked) false ⟨#[], #[.slice none 0 0], []⟩ 8 (by kernel_rfl) (by kernel_rfl) (by kernel_rfl) (by kernel_rfl)) ?_
  intro W base args ds gs before hval0 hW hcnd _
  have hval : ∀ (j : Nat) t v, Try.f6.params[j]? = some t → args[j]? = some v → Value.okWide Try.prog W .any base t v := hval0
  have hW' := hW
  obtain ⟨p, q, hA0, hV, rfl, hfz, hnd⟩ := hW
  have hA : DataW.TrodAll enc Try.prog W 0 (fun _ => true) true Try.f6.params.toList args.toList ds p := hA0
  rw [Try.params6] at hA hval
  obtain ⟨v0, vs0, d0, ds0, p0, q0, hargs, rfl, rfl, h0, r0⟩ := trodAll_cons hA
  obtain ⟨rfl, rfl, rfl⟩ := trodAll_nil r0
  obtain rfl : args = #[v0] := by cases args; simp_all
  obtain ⟨rfl, rfl⟩ := trodVars_none hV
  have k0 := h0
  have lt0 : ∀ x ∈ p0, x.block < W.heap.size := by obtain ⟨m, hm⟩ := k0; exact DataW.trod_lt m _ _ _ hm
  obtain ⟨a0, len0, cap0, z0, rfl, w0, l0, m0⟩ := open_code (hval 0 22 v0 rfl rfl) h0
  clear hA0 hval0
  refine (walk a0 len0 cap0 z0 W w0 l0 m0).mono fun e W' ⟨he, bel⟩ => ?_
  subst he
  exact ⟨_, rfl, _, _, _, [], _, [], hW', trodAll_mk1 (shut_bool Try.underlying4 _), (trodAll_cons_mk (Below.trod laidOut (by kernel_rfl) (of_decide_eq_true (by kernel_rfl)) k0 bel lt0) trodAll_mk0), rfl, bel.frame _, fun h => by cases h⟩

theorem closed : joinedFacts Try.prog 6 Try.f6 Rows.fnPartOfHasSpec Rows.fnPartOfHasRow = true := by
  simp only [joinedFacts, Bool.and_eq_true]
  repeat' apply And.intro
  all_goals first | with_reducible exact mayEnterOk | (with_reducible rw [liftsFinalOk]; kernel_rfl) | (with_reducible rw [makeOk]; kernel_rfl) | kernel_rfl

theorem over : Rows.fnPartOfHasRow.holds Try.pinned (OpenSpec.ofChange Rows.fnPartOfHasSpec) :=
  OpenClaim.holds_of_wide 6 Try.f6 rfl rfl rfl rfl rfl rfl rfl ⟨rfl, rfl, rfl, rfl, rfl⟩ rfl rfl rfl rfl rfl (by kernel_rfl) Try.func6 closed
    (of_decide_eq_true (by kernel_rfl)) (by unfold Func.isWrapper; first | (rw [if_pos (by decide +kernel)]; kernel_rfl) | (rw [if_neg (by decide +kernel)]; exact ⟨rfl, rfl⟩))
    (fun os started H enc _ => lifted os started H enc)

theorem proved : Rows.FnPartOfHasSaid := over
#print axioms proved
end Go.Proofs.Yteadibgjieimkaa.LFPartOfHas

