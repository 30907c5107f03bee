/-
  For every slice of bytes the law FnSwitchList answers true: all switches are listed, in their order; nothing that was there is written; no condition.
-/
import Derived.Test.YtnibmcihklaigaaO
import Derived.Test.YtnibmcihklaigaaK
import Derived.Deep.RegionLaw
import Derived.Test.YtnibmcihklaigaaKi
namespace Go.Proofs.Ytnibmcihklaigaa.LFSwitchList
open Go.ChangeShapes Go.WideShapes Go.ChangeAt Go.RowKit Go.Joins

set_option maxHeartbeats 4000000 in
set_option maxRecDepth 100000 in
theorem walk (a : Option Addr) (len cap : Nat) (zs : List Int) (w : World) (h : Bys w a len zs) (hl : len ≤ cap) (hm : cap ≤ 9223372036854775807) :
    Calls Try.prog 8 #[.slice a len cap] w fun e w' => e = .returned (.bool true) ∧ Below w.heap.size w w' := by
  by_cases hbig : 1048576 < len
  · clear h
    go_enter Try.func8, Try.ntmps8
    go_wp2_with fail
    go_ret
    exact ⟨rfl, Below.refl _ _⟩
  go_enter Try.func8, Try.ntmps8
  go_wp2_with fail
  refine (draw_DrawSwitchList a len cap zs _ h hl hm).mono ?_
  rintro e w1 ⟨W, s, n, cg, xs, rfl, hR, hn, hb1⟩
  clear h hl hm
  have bb := Lib.hid hb1
  have p := Lib.hid hR
  clear hR hb1
  have hbx : Below w1.heap.size w1 (w1.alloc (.cells #[.int .i64 W, .slice s n cg] 25)) := (Below.refl _ _).alloc (Nat.le_refl _) _
  replace p := Lib.hid (p.out.bel hbx)
  replace bb := Lib.hid (bb.out.trans (hbx.mono bb.out.size))
  clear hbx
  have p0 : (w1.alloc (.cells #[.int .i64 W, .slice s n cg] 25)).cell? ⟨w1.heap.size, 0, none⟩ = some (.int .i64 W) := by simp
  have p1 : (w1.alloc (.cells #[.int .i64 W, .slice s n cg] 25)).cell? ⟨w1.heap.size, 1, none⟩ = some (.slice s n cg) := by simp
  have hlen := list_len (W := W) p.out.1 (by omega)
  have him := fun t (ht : t ∈ listS W xs) => listS_im p.out.1 ht
  obtain ⟨Z, hZ⟩ : ∃ Z, listS W xs = Z := ⟨_, rfl⟩
  rw [hZ] at hlen him
  obtain ⟨N, hN⟩ : ∃ N, Z.length = N := ⟨_, rfl⟩
  rw [hN] at hlen
  replace hZ := Lib.hid hZ
  replace hN := Lib.hid hN
  replace him := Lib.hid him
  go_wp2_with fail
  refine (swlist_iN hZ.out hN.out (by omega) _ _ _ p.out).mono ?_
  rintro e w2 ⟨⟨ao, co, rfl, ho⟩, hb⟩
  have o := Lib.hid ho
  have szw2 : w1.heap.size + 1 ≤ w2.heap.size := by have := hb.size; simpa using this
  replace p0 := kept hb (block_lt p0) p0
  replace p1 := kept hb (block_lt p1) p1
  replace p := Lib.hid (p.out.bel hb)
  replace bb := Lib.hid (bb.out.trans (hb.mono bb.out.size))
  clear hb
  clear ho
  go_wp2_with fail
  refine (swlist_sN hZ.out hN.out (by omega) _ _ _ p.out).mono ?_
  rintro e w3 ⟨⟨aow, cow, rfl, ho⟩, hb⟩
  have ow := Lib.hid ho
  have szw3 := hb.size
  replace p0 := kept hb (block_lt p0) p0
  replace p1 := kept hb (block_lt p1) p1
  replace p := Lib.hid (p.out.bel hb)
  replace o := Lib.hid (o.out.bel hb)
  replace bb := Lib.hid (bb.out.trans (hb.mono bb.out.size))
  clear hb
  clear ho
  go_wp2_with fail
  refine (sameSw_yes _ _ _ _ _ Z _ o.out ow.out (by omega)).mono ?_
  rintro e w4 ⟨rfl, hb⟩
  have szw4 := hb.size
  replace p0 := kept hb (block_lt p0) p0
  replace p1 := kept hb (block_lt p1) p1
  replace p := Lib.hid (p.out.bel hb)
  replace o := Lib.hid (o.out.bel hb)
  replace ow := Lib.hid (ow.out.bel hb)
  replace bb := Lib.hid (bb.out.trans (hb.mono bb.out.size))
  clear hb
  by_cases hz : N = 0
  case pos =>
    subst hz
    go_wp2_with fail
    refine (sameSw_yes _ _ _ _ _ Z _ o.out ow.out (by omega)).mono ?_
    rintro e w5 ⟨rfl, hb⟩
    have szw5 := hb.size
    replace p0 := kept hb (block_lt p0) p0
    replace p1 := kept hb (block_lt p1) p1
    replace p := Lib.hid (p.out.bel hb)
    replace o := Lib.hid (o.out.bel hb)
    replace ow := Lib.hid (ow.out.bel hb)
    replace bb := Lib.hid (bb.out.trans (hb.mono bb.out.size))
    clear hb
    go_wp2_with fail
    go_ret
    exact ⟨rfl, bb.out⟩
  clear ow
  obtain ⟨W, rfl, hI, -⟩ := him.out (Z[0]'(by rw [hN.out]; omega)) (List.getElem_mem _)
  have hall : Hid (∀ k A B C D : Nat, ∀ hk : k < Z.length, Z[k] = (A, B, C, D) → A < B ∧ B < n ∧ C < D ∧ D < W ∧ okB W xs A B C D = true) := fun k A B C D hk e => by
    obtain ⟨W', e2, hI', h1, h2, h3, h4, h5⟩ := him.out Z[k] (List.getElem_mem hk)
    rw [e] at h1 h2 h3 h4 h5
    have e3 : W = W' := by omega
    subst e3
    exact ⟨h1, h2, h3, h4, (okB_yes hI h1 h2 h3 h4).trans h5⟩
  have hW6 := hI.w6
  have hW1 := hI.w1
  have hn1 := hI.l1
  have hn6 := hI.l6
  replace hI := Lib.hid hI
  clear him
  have hmany : Hid (manyC (cellOf xs) W n = (N : Int)) := by
    have e := swl_len (cellOf xs) W n
    rw [← list_im hI.out, hZ.out, hN.out] at e
    exact e.symm
  have hlts : Hid (∀ j, ∀ hj : j + 1 < Z.length, ltS (Z[j]'(by omega)) Z[j + 1]) := fun j hj => list_lt hI.out hZ.out (Nat.lt_succ_self j) hj
  have P := Lib.hid (show LS w w4 w1.heap.size W s n cg xs from ⟨p0, p1, p.out, bb.out⟩)
  clear p p0 p1 bb
  go_wp2_with fail
  go_loopw [6] (fun i wr => ∃ k : Nat, k ≤ N ∧ i = .int .i64 k ∧ Hid (LS w wr w1.heap.size W s n cg xs) ∧ Hid (SRow wr ao N Z)) (fun i _ => N - (intOf i).toNat)
  case atStart => exact ⟨0, Nat.zero_le _, rfl, P, o⟩
  case round =>
    clear P o
    obtain ⟨k, hk, rfl, P, o⟩ := hrel
    have p0 := P.out.c0
    have p1 := P.out.c1
    by_cases hlt : k < N
    · have hkZ : k < Z.length := hN.out.symm ▸ hlt
      obtain ⟨⟨A, B, C, D⟩, e⟩ : ∃ t, Z[k] = t := ⟨_, rfl⟩
      obtain ⟨hAB, hBn, hCD, hDW, hok⟩ := hall.out k A B C D hkZ e
      obtain ⟨g, rfl, x0, x1, x2, x3⟩ := srow_at o.out hlt e
      have fp0 := fun p : Bw wr => bw_cell p0 p
      have fp1 := fun p : Bw wr => bw_cell p1 p
      have fx0 := fun p : Bw wr => bw_cell x0 p
      have fx1 := fun p : Bw wr => bw_cell x1 p
      have fx2 := fun p : Bw wr => bw_cell x2 p
      have fx3 := fun p : Bw wr => bw_cell x3 p
      have rp := P.out.row
      have cA : ∀ p : Bw wr, Calls Try.prog 34 #[.agg #[.int .i64 W, .slice s n cg], .agg #[.int .i64 A, .int .i64 B, .int .i64 C, .int .i64 D]] p.v (fun e w' => e = .returned (.bool true) ∧ ∃ q : Bw wr, w' = q.v) := fun p =>
        bw_of (ok_ok hok (by omega) _ _ _ (bw_row rp p))
      replace cA := Lib.hid cA
      replace hok := Lib.hid hok
      replace rp := Lib.hid rp
      by_cases hk0 : k = 0
      · subst hk0
        clear e
        rw [Nat.zero_mul] at x0 x1 x2 x3
        rw [Nat.zero_add] at x1 x2 x3
        rw [Nat.zero_mul] at fx0 fx1 fx2 fx3
        rw [Nat.zero_add] at fx1 fx2 fx3
        go_wp2_with fail
        refine wp_region_bw (by kernel_rfl) (by kernel_rfl) ?_
        repeat (go_big_quiet_step (with_reducible exact cA.out _))
        refine wpQuiet_nil ?_
        intro _ hw'
        obtain ⟨pq, rfl⟩ := hw'
        go_wp2_with fail
        exact ⟨⟨0 + 1, by omega, by go_num, P.out.move pq.h, bw_srow o.out pq⟩, by simp [intOf]; omega⟩
      · obtain ⟨j, rfl⟩ : ∃ j, k = j + 1 := ⟨k - 1, by omega⟩
        have hl := hlts.out j hkZ
        rw [e] at hl
        have hjN : j < N := by omega
        have hjZ : j < Z.length := by omega
        obtain ⟨⟨A', B', C', D'⟩, e'⟩ : ∃ t, Z[j]'hjZ = t := ⟨_, rfl⟩
        rw [e'] at hl
        obtain ⟨g', eg, u0, u1, u2, u3⟩ := srow_at o.out hjN e'
        cases eg
        have fu0 := fun p : Bw wr => bw_cell u0 p
        have fu1 := fun p : Bw wr => bw_cell u1 p
        have fu2 := fun p : Bw wr => bw_cell u2 p
        have fu3 := fun p : Bw wr => bw_cell u3 p
        replace hl := Lib.hid hl
        clear e e' u0 u1 u2 u3
        go_wp2_with fail
        refine wp_region_bw (by kernel_rfl) (by kernel_rfl) ?_
        repeat (go_big_quiet_step (with_reducible exact cA.out _))
        refine wpQuiet_nil ?_
        intro _ hw'
        obtain ⟨pq, rfl⟩ := hw'
        have k0 := fu0 pq
        have k1 := fu1 pq
        have k2 := fu2 pq
        have k3 := fu3 pq
        have m0 := World.cell?_alloc_some (o := .cells #[.int .i64 A', .int .i64 B', .int .i64 C', .int .i64 D'] 27) (fx0 pq)
        have m1 := World.cell?_alloc_some (o := .cells #[.int .i64 A', .int .i64 B', .int .i64 C', .int .i64 D'] 27) (fx1 pq)
        have m2 := World.cell?_alloc_some (o := .cells #[.int .i64 A', .int .i64 B', .int .i64 C', .int .i64 D'] 27) (fx2 pq)
        have m3 := World.cell?_alloc_some (o := .cells #[.int .i64 A', .int .i64 B', .int .i64 C', .int .i64 D'] 27) (fx3 pq)
        have P2 := Lib.hid (P.out.move pq.h)
        have o2 := Lib.hid (bw_srow o.out pq)
        clear fu0 fu1 fu2 fu3 fx0 fx1 fx2 fx3 fp0 fp1 cA P o p0 p1 x0 x1 x2 x3 rp hk0
        generalize pq.v = V at *
        have b2 : Below V.heap.size V ((V.alloc (.cells #[.int .i64 A', .int .i64 B', .int .i64 C', .int .i64 D'] 27)).alloc (.cells #[.int .i64 A, .int .i64 B, .int .i64 C, .int .i64 D] 27)) := ((Below.refl _ _).alloc (Nat.le_refl _) _).alloc (by simp) _
        have hfin : Hid (∃ k : Nat, k ≤ N ∧ Value.int .i64 ((j : Int) + 1 + 1) = .int .i64 k ∧ Hid (LS w ((V.alloc (.cells #[.int .i64 A', .int .i64 B', .int .i64 C', .int .i64 D'] 27)).alloc (.cells #[.int .i64 A, .int .i64 B, .int .i64 C, .int .i64 D] 27)) w1.heap.size W s n cg xs) ∧ Hid (SRow ((V.alloc (.cells #[.int .i64 A', .int .i64 B', .int .i64 C', .int .i64 D'] 27)).alloc (.cells #[.int .i64 A, .int .i64 B, .int .i64 C, .int .i64 D] 27)) (some ⟨g, 0, none⟩) N Z)) := ⟨j + 1 + 1, by omega, by go_num, P2.out.move b2, o2.out.bel b2⟩
        clear P2 o2 b2
        rcases hl.out with h | ⟨h, h' | ⟨h', h'' | ⟨h'', h3⟩⟩⟩
        · have d1 : (A' : Int) < (A : Int) := by simpa using h
          go_wp2_with fail
          exact ⟨hfin.out, by simp [intOf]; omega⟩
        · obtain rfl : A' = A := h
          have d1 : (B' : Int) < (B : Int) := by simpa using h'
          go_wp2_with fail
          exact ⟨hfin.out, by simp [intOf]; omega⟩
        · obtain rfl : A' = A := h
          obtain rfl : B' = B := h'
          have d1 : (C' : Int) < (C : Int) := by simpa using h''
          go_wp2_with fail
          exact ⟨hfin.out, by simp [intOf]; omega⟩
        · obtain rfl : A' = A := h
          obtain rfl : B' = B := h'
          obtain rfl : C' = C := h''
          have d1 : (D' : Int) < (D : Int) := by simpa using h3
          go_wp2_with fail
          exact ⟨hfin.out, by simp [intOf]; omega⟩
    · have : k = N := by omega
      subst this
      have rp := Lib.hid P.out.row
      go_wp2_with fail
      refine (many_ok hI.out hmany.out _ _ _ rp.out).mono ?_
      rintro e w9 ⟨rfl, hb⟩
      go_wp2_with fail
      go_ret
      exact ⟨rfl, P.out.bel.trans (hb.mono P.out.bel.size)⟩

set_option maxRecDepth 100000 in
theorem lifted (os : Os) (started : os.Started) (H : Type) (enc : TypeId × Value → H) :
    ReturnsInHanded {} Try.checked os 8 .any (Rows.fnSwitchListSpec.pre6 enc Try.prog Try.f8 Rows.fnSwitchListRow.domain false) (Rows.fnSwitchListSpec.post enc Try.prog Try.f8 false true false false) := by
  refine returnsInHanded_of_change (C := Try.checked) own started (by kernel_rfl) Try.func8
    (ChangeSpec.witness6 (enc := enc) (C := Try.checked) false ⟨#[], #[.slice none 0 0], []⟩ 8 (by kernel_rfl) (by kernel_rfl) (by kernel_rfl) (by kernel_rfl)) ?_
  intro W base args ds gs before hval0 hW hcnd _
  have hval : ∀ (j : Nat) t v, Try.f8.params[j]? = some t → args[j]? = some v → Value.okWide Try.prog W .any base t v := hval0
  have hW' := hW
  obtain ⟨p, q, hA0, hV, rfl, hfz, hnd⟩ := hW
  have hA : DataW.TrodAll enc Try.prog W 0 (fun _ => true) true Try.f8.params.toList args.toList ds p := hA0
  rw [Try.params8] at hA hval
  obtain ⟨v0, vs0, d0, ds0, p0, q0, hargs, rfl, rfl, h0, r0⟩ := trodAll_cons hA
  obtain ⟨rfl, rfl, rfl⟩ := trodAll_nil r0
  obtain rfl : args = #[v0] := by cases args; simp_all
  obtain ⟨rfl, rfl⟩ := trodVars_none hV
  have k0 := h0
  have lt0 : ∀ x ∈ p0, x.block < W.heap.size := by obtain ⟨m, hm⟩ := k0; exact DataW.trod_lt m _ _ _ hm
  obtain ⟨a0, len0, cap0, z0, rfl, w0, l0, m0⟩ := open_code (hval 0 22 v0 rfl rfl) h0
  clear hA0 hval0
  refine (walk a0 len0 cap0 z0 W w0 l0 m0).mono fun e W' ⟨he, bel⟩ => ?_
  subst he
  exact ⟨_, rfl, _, _, _, [], _, [], hW', trodAll_mk1 (shut_bool Try.underlying4 _), (trodAll_cons_mk (Below.trod laidOut (by kernel_rfl) (of_decide_eq_true (by kernel_rfl)) k0 bel lt0) trodAll_mk0), rfl, bel.frame _, fun h => by cases h⟩

theorem closed : joinedFacts Try.prog 8 Try.f8 Rows.fnSwitchListSpec Rows.fnSwitchListRow = true := by
  simp only [joinedFacts, Bool.and_eq_true]
  repeat' apply And.intro
  all_goals first | with_reducible exact mayEnterOk | (with_reducible rw [liftsFinalOk]; kernel_rfl) | (with_reducible rw [makeOk]; kernel_rfl) | kernel_rfl

theorem over : Rows.fnSwitchListRow.holds Try.pinned (OpenSpec.ofChange Rows.fnSwitchListSpec) :=
  OpenClaim.holds_of_wide 8 Try.f8 rfl rfl rfl rfl rfl rfl rfl ⟨rfl, rfl, rfl, rfl, rfl⟩ rfl rfl rfl rfl rfl (by kernel_rfl) Try.func8 closed
    (of_decide_eq_true (by kernel_rfl)) (by unfold Func.isWrapper; first | (rw [if_pos (by decide +kernel)]; kernel_rfl) | (rw [if_neg (by decide +kernel)]; exact ⟨rfl, rfl⟩))
    (fun os started H enc _ => lifted os started H enc)

theorem proved : Rows.FnSwitchListSaid := over
#print axioms proved
end Go.Proofs.Ytnibmcihklaigaa.LFSwitchList

