/-
  For every slice of bytes the law FnPut answers true: one cell is changed; nothing that was there is written; no condition.
-/
import Derived.Test.YtgbbigekamapiaaO
import Derived.Test.YtgbbigekamapiaaK
import Derived.Test.YtgbbigekamapiaaA
import Derived.Test.YtgbbigekamapiaaEp
import Derived.Test.YtgbbigekamapiaaSh
namespace Go.Proofs.Ytgbbigekamapiaa.LFPut
set_option maxRecDepth 100000
open Go.ChangeShapes Go.WideShapes Go.ChangeAt Go.RowKit Go.Joins

set_option maxHeartbeats 60000000 in
theorem walk (a : Option Addr) (len cap : Nat) (zs : List Int) (w : World) (h : Bys w a len zs) (hl : len ≤ cap) (hm : cap ≤ 9223372036854775807) :
    Calls Try.prog 3 #[.slice a len cap] w fun e w' => e = .returned (.bool true) ∧ Below w.heap.size w w' := by
  by_cases hbig : 1048576 < len
  · clear h
    go_enter Try.func3, Try.ntmps3
    go_wp2_with fail
    go_ret
    exact ⟨rfl, Below.refl _ _⟩
  go_enter Try.func3, Try.ntmps3
  go_wp2_with fail
  refine (draw_DrawImagePut a len cap zs _ h hl hm).mono ?_
  rintro e w1 ⟨W, s, n, cg, xs, i, j, set, rfl, hR, hn, hb1⟩
  clear h hl hm
  have hC := (Ctx.nil hb1).push (W := W) (cg := cg) hR
  clear hR hb1
  by_cases hp : validB W xs = true ∧ cellB W xs.length i j = true
  case neg =>
    have b00 := hC.a0.c0
    have b01 := hC.a0.c1
    go_wp2_with fail
    refine (put_no (n := n) hp set s cg _ hC.a0.row (by omega)).mono ?_
    rintro e w2 ⟨⟨a2, c2, rfl, ho⟩, hb⟩
    clear b00 b01
    replace hC := (hC.move hb).push (W := 0) (cg := c2) ho.row
    clear ho hb
    have b00 := hC.a0.c0
    have b01 := hC.a0.c1
    have b10 := hC.a1.c0
    have b11 := hC.a1.c1
    go_wp2_with fail
    refine (put_sno (n := n) hp set s cg _ hC.a1.row (by omega)).mono ?_
    rintro e w3 ⟨⟨a3, c3, rfl, ho⟩, hb⟩
    clear b00 b01 b10 b11
    replace hC := (hC.move hb).push (W := 0) (cg := c3) ho.row
    clear ho hb
    have b00 := hC.a0.c0
    have b01 := hC.a0.c1
    have b10 := hC.a1.c0
    have b11 := hC.a1.c1
    have b20 := hC.a2.c0
    have b21 := hC.a2.c1
    go_wp2_with fail
    refine (sameImage_yes 0 _ _ 0 _ _ [] _ hC.a1.row hC.a0.row (by omega)).mono ?_
    rintro e w4 ⟨rfl, hb⟩
    clear b00 b01 b10 b11 b20 b21
    replace hC := hC.move hb
    clear hb
    have b00 := hC.a0.c0
    have b01 := hC.a0.c1
    have b10 := hC.a1.c0
    have b11 := hC.a1.c1
    have b20 := hC.a2.c0
    have b21 := hC.a2.c1
    go_wp2_with fail
    refine (sameImage_yes 0 _ _ 0 _ _ [] _ hC.a1.row hC.a0.row (by omega)).mono ?_
    rintro e w5 ⟨rfl, hb⟩
    clear b00 b01 b10 b11 b20 b21
    replace hC := hC.move hb
    clear hb
    have b00 := hC.a0.c0
    have b01 := hC.a0.c1
    have b10 := hC.a1.c0
    have b11 := hC.a1.c1
    have b20 := hC.a2.c0
    have b21 := hC.a2.c1
    go_wp2_with fail
    go_ret
    exact ⟨rfl, hC.bel⟩
  obtain ⟨hv, hce⟩ := hp
  have hI0 := validB_W hv
  obtain ⟨W, rfl⟩ := Int.eq_ofNat_of_zero_le (by omega : 0 ≤ W)
  have hI : Im W n xs := Im.of hv hC.a0.row.1
  have hW6 := hI.w6
  have hW1 := hI.w1
  have hn1 := hI.l1
  rw [hI.hl] at hce
  obtain ⟨q1, q2, q3, q4⟩ := cellB_iff.1 hce
  obtain ⟨i, rfl⟩ := Int.eq_ofNat_of_zero_le q1
  obtain ⟨j, rfl⟩ := Int.eq_ofNat_of_zero_le q3
  have hi : i < n := by omega
  have hj : j < W := by omega
  have hP := Lib.hid (put_ok hI hi hj set)
  have hS := Lib.hid (put_sok hI hi hj set)
  have hIp := hI.put hi hj set
  clear hv hce hI0 q1 q2 q3 q4
  have fH := Lib.hid (fun k m (hk : k < n) (hm : m < W) => hI.put_has hi hj hk hm set)
  have fV := Lib.hid hIp.valid
  clear hIp hI
  generalize putL xs i j set = ps at hP hS fH fV
  have b00 := hC.a0.c0
  have b01 := hC.a0.c1
  go_wp2_with fail
  refine (hP.out s cg _ hC.a0.row).mono ?_
  rintro e w2 ⟨⟨a2, c2, rfl, ho⟩, hb⟩
  clear b00 b01
  replace hC := (hC.move hb).push (W := W) (cg := c2) ho.row
  clear ho hb
  have b00 := hC.a0.c0
  have b01 := hC.a0.c1
  have b10 := hC.a1.c0
  have b11 := hC.a1.c1
  go_wp2_with fail
  refine (hS.out s cg _ hC.a1.row).mono ?_
  rintro e w3 ⟨⟨a3, c3, rfl, ho⟩, hb⟩
  clear b00 b01 b10 b11
  replace hC := (hC.move hb).push (W := W) (cg := c3) ho.row
  clear ho hb
  have b00 := hC.a0.c0
  have b01 := hC.a0.c1
  have b10 := hC.a1.c0
  have b11 := hC.a1.c1
  have b20 := hC.a2.c0
  have b21 := hC.a2.c1
  go_wp2_with fail
  refine (sameImage_yes W _ _ n _ _ ps _ hC.a1.row hC.a0.row (by omega)).mono ?_
  rintro e w4 ⟨rfl, hb⟩
  clear b00 b01 b10 b11 b20 b21
  replace hC := hC.move hb
  clear hb
  replace hC := hC.pop
  clear hP hS
  have b00 := hC.a0.c0
  have b01 := hC.a0.c1
  have b10 := hC.a1.c0
  have b11 := hC.a1.c1
  go_wp2_with fail
  go_loopw [11] (fun i wr => ∃ k : Nat, k ≤ n ∧ i = .int .i64 k ∧ Ctx w wr [⟨w2.heap.size, W, a2, n, c2, ps⟩, ⟨w1.heap.size, W, s, n, cg, xs⟩]) (fun i _ => n - (intOf i).toNat)
  case atStart => exact ⟨0, by omega, rfl, hC⟩
  case round =>
    obtain ⟨k, hk, rfl, hQ⟩ := hrel
    clear b00 b01 b10 b11
    replace hC := hQ
    clear hQ
    by_cases hlt : k < n
    · skip
      have b00 := hC.a0.c0
      have b01 := hC.a0.c1
      have b10 := hC.a1.c0
      have b11 := hC.a1.c1
      go_wp2_with fail
      go_loopw [12] (fun j wr => ∃ m : Nat, m ≤ W ∧ j = .int .i64 m ∧ Ctx w wr [⟨w2.heap.size, W, a2, n, c2, ps⟩, ⟨w1.heap.size, W, s, n, cg, xs⟩]) (fun j _ => W - (intOf j).toNat)
      case atStart => exact ⟨0, by omega, rfl, hC⟩
      case round =>
        obtain ⟨m, hm, rfl, hQ⟩ := hrel
        clear b00 b01 b10 b11
        replace hC := hQ
        clear hQ
        have q0 := hC.a0.c0
        have q1 := hC.a0.c1
        have p0 := hC.a1.c0
        have p1 := hC.a1.c1
        have ra := hC.a1.row
        have ro := hC.a0.row
        have bb := hC.bel
        by_cases hlm : m < W
        · have m1 := fH.out k m hlt hlm
          obtain ⟨B, hB⟩ : ∃ B, hasB W xs k m = B := ⟨_, rfl⟩
          rw [hB] at m1
          have fo0 := fun p : Bw wr => bw_cell q0 p
          have fo1 := fun p : Bw wr => bw_cell q1 p
          have fa0 := fun p : Bw wr => bw_cell p0 p
          have fa1 := fun p : Bw wr => bw_cell p1 p
          have cA : ∀ p : Bw wr, Calls Try.prog 21 #[.agg #[.int .i64 W, .slice s n cg], .int .i64 k, .int .i64 m] p.v (fun e w' => e = .returned (.bool B) ∧ ∃ q : Bw wr, w' = q.v) := fun p =>
            bw_of ((has_impl W s n cg xs k m _ (bw_row ra p) (by omega)).mono fun e w' hh => ⟨by rw [hh.1, hB], hh.2⟩)
          replace cA := Lib.hid cA
          have hC2 := Lib.hid hC
          clear hC hB
          by_cases e12 : k = i ∧ m = j
          · obtain ⟨e1, e2⟩ := e12
            have cO : ∀ p : Bw wr, Calls Try.prog 21 #[.agg #[.int .i64 W, .slice a2 n c2], .int .i64 k, .int .i64 m] p.v (fun e w' => e = .returned (.bool set) ∧ ∃ q : Bw wr, w' = q.v) := fun p =>
              bw_of ((has_impl W a2 n c2 ps k m _ (bw_row ro p) (by omega)).mono fun e w' hh => ⟨by rw [hh.1, m1, if_pos ⟨e1, e2⟩], hh.2⟩)
            replace cO := Lib.hid cO
            have g1 : ((k : Int) == (i : Int)) = true := by rw [e1]; simp
            have g2 : ((m : Int) == (j : Int)) = true := by rw [e2]; simp
            have g3 : ((k : Int) != (i : Int)) = false := by rw [e1]; simp
            have g4 : ((m : Int) != (j : Int)) = false := by rw [e2]; simp
            clear m1 e1 e2 fH
            go_wp2_with fail
            refine wp_region_bw (by kernel_rfl) (by kernel_rfl) ?_
            repeat (go_big_quiet_step (with_reducible exact cO.out _))
            refine wpQuiet_nil ?_
            intro _ hw'
            obtain ⟨pq, rfl⟩ := hw'
            go_wp2_with fail
            exact ⟨⟨m + 1, by omega, by go_num, hC2.out.move pq.h⟩, by simp [intOf]; omega⟩
          · have cO : ∀ p : Bw wr, Calls Try.prog 21 #[.agg #[.int .i64 W, .slice a2 n c2], .int .i64 k, .int .i64 m] p.v (fun e w' => e = .returned (.bool B) ∧ ∃ q : Bw wr, w' = q.v) := fun p =>
              bw_of ((has_impl W a2 n c2 ps k m _ (bw_row ro p) (by omega)).mono fun e w' hh => ⟨by rw [hh.1, m1, if_neg e12], hh.2⟩)
            replace cO := Lib.hid cO
            clear m1 fH
            by_cases e1 : k = i
            · have e2 : ¬ m = j := fun h => e12 ⟨e1, h⟩
              have g1 : ((k : Int) == (i : Int)) = true := by rw [e1]; simp
              have g2 : ((m : Int) == (j : Int)) = false := by simp; omega
              have g3 : ((k : Int) != (i : Int)) = false := by rw [e1]; simp
              have g4 : ((m : Int) != (j : Int)) = true := by simp; omega
              clear e1 e2 e12
              go_wp2_with fail
              refine wp_region_bw (by kernel_rfl) (by kernel_rfl) ?_
              repeat (go_big_quiet_step (first | (with_reducible exact cO.out _) | (with_reducible exact cA.out _)))
              refine wpQuiet_nil ?_
              intro _ hw'
              obtain ⟨pq, rfl⟩ := hw'
              go_wp2_with fail
              exact ⟨⟨m + 1, by omega, by go_num, hC2.out.move pq.h⟩, by simp [intOf]; omega⟩
            · have g1 : ((k : Int) == (i : Int)) = false := by simp; omega
              have g3 : ((k : Int) != (i : Int)) = true := by simp; omega
              clear e1 e12
              go_wp2_with fail
              refine wp_region_bw (by kernel_rfl) (by kernel_rfl) ?_
              repeat (go_big_quiet_step (first | (with_reducible exact cO.out _) | (with_reducible exact cA.out _)))
              refine wpQuiet_nil ?_
              intro _ hw'
              obtain ⟨pq, rfl⟩ := hw'
              go_wp2_with fail
              exact ⟨⟨m + 1, by omega, by go_num, hC2.out.move pq.h⟩, by simp [intOf]; omega⟩
        · have : m = W := by omega
          subst this
          go_wp2_with fail
          exact ⟨⟨k + 1, by omega, by go_num, hC⟩, by simp [intOf]; omega⟩
    · have : k = n := by omega
      subst this
      have b00 := hC.a0.c0
      have b01 := hC.a0.c1
      have b10 := hC.a1.c0
      have b11 := hC.a1.c1
      go_wp2_with fail
      refine (valid_impl W a2 k c2 ps _ hC.a0.row (by omega)).mono ?_
      rintro e w5 ⟨rfl, hb⟩
      clear b00 b01 b10 b11
      replace hC := hC.move hb
      clear hb
      rw [fV.out]
      have b00 := hC.a0.c0
      have b01 := hC.a0.c1
      have b10 := hC.a1.c0
      have b11 := hC.a1.c1
      go_wp2_with fail
      go_ret
      exact ⟨rfl, hC.bel⟩

set_option maxRecDepth 100000 in
theorem lifted (os : Os) (started : os.Started) (H : Type) (enc : TypeId × Value → H) :
    ReturnsInHanded {} Try.checked os 3 .any (Rows.fnPutSpec.pre6 enc Try.prog Try.f3 Rows.fnPutRow.domain false) (Rows.fnPutSpec.post enc Try.prog Try.f3 false true false false) := by
  refine returnsInHanded_of_change (C := Try.checked) own started (by kernel_rfl) Try.func3
    (ChangeSpec.witness6 (enc := enc) (C := Try.checked) false ⟨#[], #[.slice none 0 0], []⟩ 8 (by kernel_rfl) (by kernel_rfl) (by kernel_rfl) (by kernel_rfl)) ?_
  intro W base args ds gs before hval0 hW hcnd _
  have hval : ∀ (j : Nat) t v, Try.f3.params[j]? = some t → args[j]? = some v → Value.okWide Try.prog W .any base t v := hval0
  have hW' := hW
  obtain ⟨p, q, hA0, hV, rfl, hfz, hnd⟩ := hW
  have hA : DataW.TrodAll enc Try.prog W 0 (fun _ => true) true Try.f3.params.toList args.toList ds p := hA0
  rw [Try.params3] at hA hval
  obtain ⟨v0, vs0, d0, ds0, p0, q0, hargs, rfl, rfl, h0, r0⟩ := trodAll_cons hA
  obtain ⟨rfl, rfl, rfl⟩ := trodAll_nil r0
  obtain rfl : args = #[v0] := by cases args; simp_all
  obtain ⟨rfl, rfl⟩ := trodVars_none hV
  have k0 := h0
  have lt0 : ∀ x ∈ p0, x.block < W.heap.size := by obtain ⟨m, hm⟩ := k0; exact DataW.trod_lt m _ _ _ hm
  obtain ⟨a0, len0, cap0, z0, rfl, w0, l0, m0⟩ := open_code (hval 0 22 v0 rfl rfl) h0
  clear hA0 hval0
  refine (walk a0 len0 cap0 z0 W w0 l0 m0).mono fun e W' ⟨he, bel⟩ => ?_
  subst he
  exact ⟨_, rfl, _, _, _, [], _, [], hW', trodAll_mk1 (shut_bool Try.underlying4 _), (trodAll_cons_mk (Below.trod laidOut (by kernel_rfl) (of_decide_eq_true (by kernel_rfl)) k0 bel lt0) trodAll_mk0), rfl, bel.frame _, fun h => by cases h⟩

theorem closed : joinedFacts Try.prog 3 Try.f3 Rows.fnPutSpec Rows.fnPutRow = true := by
  simp only [joinedFacts, Bool.and_eq_true]
  repeat' apply And.intro
  all_goals first | with_reducible exact mayEnterOk | (with_reducible rw [liftsFinalOk]; kernel_rfl) | (with_reducible rw [makeOk]; kernel_rfl) | kernel_rfl

theorem over : Rows.fnPutRow.holds Try.pinned (OpenSpec.ofChange Rows.fnPutSpec) :=
  OpenClaim.holds_of_wide 3 Try.f3 rfl rfl rfl rfl rfl rfl rfl ⟨rfl, rfl, rfl, rfl, rfl⟩ rfl rfl rfl rfl rfl (by kernel_rfl) Try.func3 closed
    (of_decide_eq_true (by kernel_rfl)) (by unfold Func.isWrapper; first | (rw [if_pos (by decide +kernel)]; kernel_rfl) | (rw [if_neg (by decide +kernel)]; exact ⟨rfl, rfl⟩))
    (fun os started H enc _ => lifted os started H enc)

theorem proved : Rows.FnPutSaid := over
#print axioms proved
end Go.Proofs.Ytgbbigekamapiaa.LFPut

