/-
  For every slice of bytes the law FnReach answers true: arrows are followed; nothing that was there is written; no condition.
-/
import Derived.Test.YtepeplmbnkjeeaaO
import Derived.Test.YtepeplmbnkjeeaaK
import Derived.Deep.RegionLaw
import Derived.Test.YtepeplmbnkjeeaaMm
namespace Go.Proofs.Ytepeplmbnkjeeaa.LFReach
open Go.ChangeShapes Go.WideShapes Go.ChangeAt Go.RowKit Go.Joins

set_option maxHeartbeats 4000000 in
set_option maxRecDepth 100000 in
theorem walk (a : Option Addr) (len cap : Nat) (zs : List Int) (w : World) (h : Bys w a len zs) (hl : len ≤ cap) (hm : cap ≤ 9223372036854775807) :
    Calls Try.prog 3 #[.slice a len cap] w fun e w' => e = .returned (.bool true) ∧ Below w.heap.size w w' := by
  by_cases hbig : 1048576 < len
  · clear h
    go_enter Try.func3, Try.ntmps3
    go_wp2_with fail
    go_ret
    exact ⟨rfl, Below.refl _ _⟩
  go_enter Try.func3, Try.ntmps3
  go_wp2_with fail
  refine (draw_DrawCellReach a len cap zs _ h hl hm).mono ?_
  rintro e w1 ⟨V, s, n, cg, xs, i, rfl, hR, hn, hb1⟩
  clear h hl hm
  have bb := Lib.hid hb1
  have p := Lib.hid hR
  clear hR hb1
  have hbx : Below w1.heap.size w1 (w1.alloc (.cells #[.int .i64 V, .slice s n cg] 25)) := (Below.refl _ _).alloc (Nat.le_refl _) _
  replace p := Lib.hid (p.out.bel hbx)
  replace bb := Lib.hid (bb.out.trans (hbx.mono bb.out.size))
  clear hbx
  have p0 : (w1.alloc (.cells #[.int .i64 V, .slice s n cg] 25)).cell? ⟨w1.heap.size, 0, none⟩ = some (.int .i64 V) := by simp
  have p1 : (w1.alloc (.cells #[.int .i64 V, .slice s n cg] 25)).cell? ⟨w1.heap.size, 1, none⟩ = some (.slice s n cg) := by simp
  rcases reach_ways V p.out.1 i with h0 | ⟨W, i, rfl, rfl, hI, hi⟩
  case inl =>
    go_wp2_with fail
    refine (reach_no h0 (by omega) _ _ _ p.out).mono ?_
    rintro e w2 ⟨⟨ax, cx, rfl, ho⟩, hb⟩
    have x := Lib.hid ho
    have szw2 : w1.heap.size + 1 ≤ w2.heap.size := by have := hb.size; simpa using this
    replace p0 := kept hb (block_lt p0) p0
    replace p1 := kept hb (block_lt p1) p1
    replace p := Lib.hid (p.out.bel hb)
    replace bb := Lib.hid (bb.out.trans (hb.mono bb.out.size))
    clear hb
    clear ho
    go_wp2_with fail
    refine (reach_sno h0 (by omega) _ _ _ p.out).mono ?_
    rintro e w3 ⟨⟨axw, cxw, rfl, ho⟩, hb⟩
    have xw := Lib.hid ho
    have szw3 := hb.size
    replace p0 := kept hb (block_lt p0) p0
    replace p1 := kept hb (block_lt p1) p1
    replace p := Lib.hid (p.out.bel hb)
    replace x := Lib.hid (x.out.bel hb)
    replace bb := Lib.hid (bb.out.trans (hb.mono bb.out.size))
    clear hb
    clear ho
    go_wp2_with fail
    refine (sameF_yes _ _ 0 _ _ _ _ x.out xw.out (by omega)).mono ?_
    rintro e w4 ⟨rfl, hb⟩
    have szw4 := hb.size
    replace p0 := kept hb (block_lt p0) p0
    replace p1 := kept hb (block_lt p1) p1
    replace p := Lib.hid (p.out.bel hb)
    replace x := Lib.hid (x.out.bel hb)
    replace xw := Lib.hid (xw.out.bel hb)
    replace bb := Lib.hid (bb.out.trans (hb.mono bb.out.size))
    clear hb
    go_wp2_with fail
    refine (sameF_yes _ _ 0 _ _ _ _ x.out xw.out (by omega)).mono ?_
    rintro e w5 ⟨rfl, hb⟩
    have szw5 := hb.size
    replace p0 := kept hb (block_lt p0) p0
    replace p1 := kept hb (block_lt p1) p1
    replace p := Lib.hid (p.out.bel hb)
    replace x := Lib.hid (x.out.bel hb)
    replace xw := Lib.hid (xw.out.bel hb)
    replace bb := Lib.hid (bb.out.trans (hb.mono bb.out.size))
    clear hb
    go_wp2_with fail
    go_ret
    exact ⟨rfl, bb.out⟩
  have hW6 := hI.w6
  have hW1 := hI.w1
  have hn1 := hI.l1
  have hn6 := hI.l6
  obtain ⟨M, hM⟩ : ∃ M, n + W = M := ⟨_, rfl⟩
  obtain ⟨u, hu⟩ : ∃ u, rchB xs W n i = u := ⟨_, rfl⟩
  have hiM : i < M := by omega
  have hnM : n ≤ M := by omega
  have hM12 : 2 ≤ M ∧ M ≤ 12 := by omega
  have hM0 : ((M : Int) == 0) = false := by rw [beq_eq_false_iff_ne]; omega
  have eM : (n : Int) + (W : Int) = (M : Int) := by omega
  have ewM : IntKind.i64.wrap (M : Int) = (M : Int) := IntWalk.i64_in _ ⟨by omega, by omega⟩
  replace hM := Lib.hid hM
  replace hu := Lib.hid hu
  replace hI := Lib.hid hI
  go_wp2_with fail
  refine (reach_ok hI.out hi hM.out hu.out _ _ _ p.out).mono ?_
  rintro e w6 ⟨⟨ax, cx, rfl, ho⟩, hb⟩
  have x := Lib.hid ho
  have szw6 : w1.heap.size + 1 ≤ w6.heap.size := by have := hb.size; simpa using this
  replace p0 := kept hb (block_lt p0) p0
  replace p1 := kept hb (block_lt p1) p1
  replace p := Lib.hid (p.out.bel hb)
  replace bb := Lib.hid (bb.out.trans (hb.mono bb.out.size))
  clear hb
  clear ho
  go_wp2_with fail
  refine (reach_sok hI.out hi hM.out hu.out _ _ _ p.out).mono ?_
  rintro e w7 ⟨⟨axw, cxw, rfl, ho⟩, hb⟩
  have xw := Lib.hid ho
  have szw7 := hb.size
  replace p0 := kept hb (block_lt p0) p0
  replace p1 := kept hb (block_lt p1) p1
  replace p := Lib.hid (p.out.bel hb)
  replace x := Lib.hid (x.out.bel hb)
  replace bb := Lib.hid (bb.out.trans (hb.mono bb.out.size))
  clear hb
  clear ho
  go_wp2_with fail
  refine (sameF_yes _ _ M _ _ _ _ x.out xw.out (by omega)).mono ?_
  rintro e w8 ⟨rfl, hb⟩
  have szw8 := hb.size
  replace p0 := kept hb (block_lt p0) p0
  replace p1 := kept hb (block_lt p1) p1
  replace p := Lib.hid (p.out.bel hb)
  replace x := Lib.hid (x.out.bel hb)
  replace xw := Lib.hid (xw.out.bel hb)
  replace bb := Lib.hid (bb.out.trans (hb.mono bb.out.size))
  clear hb
  clear xw
  have hset := Lib.hid (fun (k j : Nat) (hk : k < n) (hj : j < W) (hc : cellOf xs k j = true) (h : u k = true) => hu.out ▸ rch_set (i := i) (by omega) hk hj hc (by rw [hu.out]; exact h))
  have hnot := Lib.hid (fun (k j : Nat) (hk : k < n) (hj : j < W) (hc : cellOf xs k j = false) (h : u (n + j) = true) => hu.out ▸ rch_not (i := i) (by omega) hk hj hc (by rw [hu.out]; exact h))
  have hself : u i = true := hu.out ▸ rch_self (xs := xs) (W := W) (n := n) (i := i) (by omega)
  replace hself := Lib.hid hself
  go_wp2_with fail
  go_loopw [8] (fun v wr => ∃ k : Nat, k ≤ n ∧ v = .int .i64 k ∧ wr.cell? ⟨w1.heap.size, 0, none⟩ = some (.int .i64 W) ∧ wr.cell? ⟨w1.heap.size, 1, none⟩ = some (.slice s n cg) ∧ Hid (Row wr s n xs) ∧ Hid (RowG wr ax M u) ∧ Hid (Below w.heap.size w wr)) (fun i _ => n - (intOf i).toNat)
  case atStart => exact ⟨0, Nat.zero_le _, rfl, p0, p1, p, x, bb⟩
  case round =>
    clear p0 p1 p x bb
    obtain ⟨k, hk, rfl, p0, p1, p, x, bb⟩ := hrel
    obtain ⟨w9, rfl⟩ : ∃ w9 : World, w9 = wr := ⟨_, rfl⟩
    by_cases hlt : k < n
    case pos =>
      go_wp2_with fail
      go_loopw [9] (fun v wr => ∃ j : Nat, j ≤ W ∧ v = .int .i64 j ∧ wr.cell? ⟨w1.heap.size, 0, none⟩ = some (.int .i64 W) ∧ wr.cell? ⟨w1.heap.size, 1, none⟩ = some (.slice s n cg) ∧ Hid (Row wr s n xs) ∧ Hid (RowG wr ax M u) ∧ Hid (Below w.heap.size w wr)) (fun i _ => W - (intOf i).toNat)
      case atStart => exact ⟨0, Nat.zero_le _, rfl, p0, p1, p, x, bb⟩
      case round =>
        clear p0 p1 p x bb
        obtain ⟨j, hj, rfl, p0, p1, p, x, bb⟩ := hrel
        obtain ⟨w10, rfl⟩ : ∃ w10 : World, w10 = wr := ⟨_, rfl⟩
        by_cases hlj : j < W
        case pos =>
          obtain ⟨b, hb0⟩ : ∃ b, cellOf xs k j = b := ⟨_, rfl⟩
          have hs := hset.out k j hlt hlj
          have hn0 := hnot.out k j hlt hlj
          rw [hb0] at hs hn0
          obtain ⟨q, hq⟩ : ∃ q, n + j = q := ⟨_, rfl⟩
          rw [hq] at hs hn0
          have eq1 : (n : Int) + (j : Int) = (q : Int) := by omega
          have ewq : IntKind.i64.wrap (q : Int) = (q : Int) := IntWalk.i64_in _ ⟨by omega, by omega⟩
          have hqM : q < M := by have := hM.out; omega
          have hkM : k < M := by omega
          replace hq := Lib.hid hq
          replace hb0 := Lib.hid hb0
          go_wp2_with fail
          refine (has_ok hI.out hlt hlj hb0.out _ _ _ p.out).mono ?_
          rintro e w11 ⟨rfl, hb⟩
          have szw11 := hb.size
          replace p0 := kept hb (block_lt p0) p0
          replace p1 := kept hb (block_lt p1) p1
          replace p := Lib.hid (p.out.bel hb)
          replace x := Lib.hid (x.out.bel hb)
          replace bb := Lib.hid (bb.out.trans (hb.mono bb.out.size))
          clear hb
          obtain ⟨bx, ox, ea, ck⟩ := x.out.at hkM
          obtain ⟨bx2, ox2, ea2, cq⟩ := x.out.at hqM
          rw [ea] at ea2
          cases ea2
          obtain ⟨uk, huk⟩ : ∃ uk, u k = uk := ⟨_, rfl⟩
          obtain ⟨uq, huq⟩ : ∃ uq, u q = uq := ⟨_, rfl⟩
          rw [huk] at ck hs hn0
          rw [huq] at cq hs hn0
          subst ea
          replace huk := Lib.hid huk
          replace huq := Lib.hid huq
          cases b <;> cases uk <;> cases uq
          · clear hs hn0
            go_wp2_with fail
            exact ⟨⟨j + 1, by omega, by go_num, p0, p1, p, x, bb⟩, by simp [intOf]; omega⟩
          · exact absurd (hn0 rfl rfl) (by simp)
          · clear hs hn0
            go_wp2_with fail
            exact ⟨⟨j + 1, by omega, by go_num, p0, p1, p, x, bb⟩, by simp [intOf]; omega⟩
          · clear hs hn0
            go_wp2_with fail
            exact ⟨⟨j + 1, by omega, by go_num, p0, p1, p, x, bb⟩, by simp [intOf]; omega⟩
          · clear hs hn0
            go_wp2_with fail
            exact ⟨⟨j + 1, by omega, by go_num, p0, p1, p, x, bb⟩, by simp [intOf]; omega⟩
          · clear hs hn0
            go_wp2_with fail
            exact ⟨⟨j + 1, by omega, by go_num, p0, p1, p, x, bb⟩, by simp [intOf]; omega⟩
          · exact absurd (hs rfl rfl) (by simp)
          · clear hs hn0
            go_wp2_with fail
            exact ⟨⟨j + 1, by omega, by go_num, p0, p1, p, x, bb⟩, by simp [intOf]; omega⟩
        obtain rfl : W = j := by omega
        go_wp2_with fail
        exact ⟨⟨k + 1, by omega, by go_num, p0, p1, p, x, bb⟩, by simp [intOf]; omega⟩
    obtain rfl : n = k := by omega
    obtain ⟨bx, ox, ea, ck⟩ := x.out.at hiM
    rw [hself.out] at ck
    subst ea
    go_wp2_with fail
    go_ret
    exact ⟨rfl, bb.out⟩

set_option maxRecDepth 100000 in
theorem lifted (os : Os) (started : os.Started) (H : Type) (enc : TypeId × Value → H) :
    ReturnsInHanded {} Try.checked os 3 .any (Rows.fnReachSpec.pre6 enc Try.prog Try.f3 Rows.fnReachRow.domain false) (Rows.fnReachSpec.post enc Try.prog Try.f3 false true false false) := by
  refine returnsInHanded_of_change (C := Try.checked) own started (by kernel_rfl) Try.func3
    (ChangeSpec.witness6 (enc := enc) (C := Try.checked) false ⟨#[], #[.slice none 0 0], []⟩ 8 (by kernel_rfl) (by kernel_rfl) (by kernel_rfl) (by kernel_rfl)) ?_
  intro W base args ds gs before hval0 hW hcnd _
  have hval : ∀ (j : Nat) t v, Try.f3.params[j]? = some t → args[j]? = some v → Value.okWide Try.prog W .any base t v := hval0
  have hW' := hW
  obtain ⟨p, q, hA0, hV, rfl, hfz, hnd⟩ := hW
  have hA : DataW.TrodAll enc Try.prog W 0 (fun _ => true) true Try.f3.params.toList args.toList ds p := hA0
  rw [Try.params3] at hA hval
  obtain ⟨v0, vs0, d0, ds0, p0, q0, hargs, rfl, rfl, h0, r0⟩ := trodAll_cons hA
  obtain ⟨rfl, rfl, rfl⟩ := trodAll_nil r0
  obtain rfl : args = #[v0] := by cases args; simp_all
  obtain ⟨rfl, rfl⟩ := trodVars_none hV
  have k0 := h0
  have lt0 : ∀ x ∈ p0, x.block < W.heap.size := by obtain ⟨m, hm⟩ := k0; exact DataW.trod_lt m _ _ _ hm
  obtain ⟨a0, len0, cap0, z0, rfl, w0, l0, m0⟩ := open_code (hval 0 22 v0 rfl rfl) h0
  clear hA0 hval0
  refine (walk a0 len0 cap0 z0 W w0 l0 m0).mono fun e W' ⟨he, bel⟩ => ?_
  subst he
  exact ⟨_, rfl, _, _, _, [], _, [], hW', trodAll_mk1 (shut_bool Try.underlying4 _), (trodAll_cons_mk (Below.trod laidOut (by kernel_rfl) (of_decide_eq_true (by kernel_rfl)) k0 bel lt0) trodAll_mk0), rfl, bel.frame _, fun h => by cases h⟩

theorem closed : joinedFacts Try.prog 3 Try.f3 Rows.fnReachSpec Rows.fnReachRow = true := by
  simp only [joinedFacts, Bool.and_eq_true]
  repeat' apply And.intro
  all_goals first | with_reducible exact mayEnterOk | (with_reducible rw [liftsFinalOk]; kernel_rfl) | (with_reducible rw [makeOk]; kernel_rfl) | kernel_rfl

theorem over : Rows.fnReachRow.holds Try.pinned (OpenSpec.ofChange Rows.fnReachSpec) :=
  OpenClaim.holds_of_wide 3 Try.f3 rfl rfl rfl rfl rfl rfl rfl ⟨rfl, rfl, rfl, rfl, rfl⟩ rfl rfl rfl rfl rfl (by kernel_rfl) Try.func3 closed
    (of_decide_eq_true (by kernel_rfl)) (by unfold Func.isWrapper; first | (rw [if_pos (by decide +kernel)]; kernel_rfl) | (rw [if_neg (by decide +kernel)]; exact ⟨rfl, rfl⟩))
    (fun os started H enc _ => lifted os started H enc)

theorem proved : Rows.FnReachSaid := over
#print axioms proved
end Go.Proofs.Ytepeplmbnkjeeaa.LFReach

