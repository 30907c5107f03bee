/-
  For every slice of bytes the law FnConsistentFlat answers true: where one cell moves from a column to one that has at least two less, consistent sums stay so; nothing that was there is written; no condition.
-/
import Derived.Test.YteadibgjieimkaaDoorO
import Derived.Test.YteadibgjieimkaaDoorCf
import Derived.Test.YteadibgjieimkaaDoorK
import Derived.Deep.RegionLaw
import Derived.Test.YteadibgjieimkaaDoorCa
import Derived.Test.YteadibgjieimkaaDoorCe
namespace Go.Proofs.YteadibgjieimkaaDoor.LFConsistentFlat
open Go.ChangeShapes Go.WideShapes Go.ChangeAt Go.RowKit Go.Joins

set_option maxHeartbeats 4000000 in
set_option maxRecDepth 100000 in
theorem walk (a : Option Addr) (len cap : Nat) (zs : List Int) (w : World) (pE : Addr) (hE : w.cell? ⟨0, 0, none⟩ = some (errV pE)) (h : Bys w a len zs) (hl : len ≤ cap) (hm : cap ≤ 9223372036854775807) :
    Calls Tryd.prog 5 #[.slice a len cap] w fun e w' => e = .returned (.bool true) ∧ Below w.heap.size w w' := by
  by_cases hbig : 1048576 < len
  · clear h
    go_enter Tryd.func5, Tryd.ntmps5
    go_wp2_with fail
    go_ret
    exact ⟨rfl, Below.refl _ _⟩
  go_enter Tryd.func5, Tryd.ntmps5
  go_wp2_with fail
  refine (draw_DrawSumsConsistent a len cap zs _ h hl hm).mono ?_
  rintro e w1 ⟨aR, n, cR, xs, aC, m, cC, ys, rfl, hR, hC, hnm, hcap, hb1⟩
  clear h hl hm
  have bb := Lib.hid hb1
  have p := Lib.hid hR.row
  have q := Lib.hid hC.row
  have lx := hR.len
  have ly := hC.len
  have hn13 : n ≤ 13 := by omega
  have hm13 : m ≤ 13 := by omega
  have es := kept hb1 (block_lt hE) hE
  clear hR hC hb1 hE
  obtain ⟨B, hB⟩ : ∃ B, conB xs ys = B := ⟨_, rfl⟩
  go_wp2_with fail
  refine (con_ok hB _ _ _ _ _ _ pE _ p.out q.out es hn13 hm13).mono ?_
  rintro e w2 ⟨rfl, hb⟩
  have szw2 := hb.size
  replace es := kept hb (block_lt es) es
  replace p := Lib.hid (p.out.bel hb)
  replace q := Lib.hid (q.out.bel hb)
  replace bb := Lib.hid (bb.out.trans (hb.mono bb.out.size))
  clear hb
  go_wp2_with fail
  refine (con_sok hB _ _ _ _ _ _ _ p.out q.out hn13 hm13).mono ?_
  rintro e w3 ⟨rfl, hb⟩
  have szw3 := hb.size
  replace es := kept hb (block_lt es) es
  replace p := Lib.hid (p.out.bel hb)
  replace q := Lib.hid (q.out.bel hb)
  replace bb := Lib.hid (bb.out.trans (hb.mono bb.out.size))
  clear hb
  by_cases hBt : B = true
  case neg =>
    have hBt : B = false := by simpa using hBt
    subst hBt
    go_wp2_with fail
    go_ret
    exact ⟨rfl, bb.out⟩
  subst hBt
  have hv := conB_valid hB
  have hp := sumsB_parts hv
  rw [lx, ly] at hp
  have hn1 := hp.1.1
  have hn6 := hp.1.2
  have hm1 := hp.2.1.1
  have hm6 := hp.2.1.2
  have bx := Lib.hid hp.2.2.1
  have by' := Lib.hid hp.2.2.2
  have hex := Lib.hid (sums_el hv).1
  have hey := Lib.hid (sums_el hv).2
  clear hp
  replace hv := Lib.hid hv
  replace hB := Lib.hid hB
  obtain ⟨x_b, x_o, rfl, _⟩ := row_at q.out (show 0 < m by omega)
  have bb0 := bb
  have hfl : Hid (∀ k l : Nat, k < m → l < m → ys.getD l 0 + 2 ≤ ys.getD k 0 → conB xs (flatter ys k l) = true) := fun k l h1 h2 h3 => conB_flat hB.out (by omega) (by omega) h3
  clear bb0
  go_wp2_with fail
  go_loopw [7] (fun i wr => ∃ k : Nat, k ≤ m ∧ i = .int .i64 k ∧ Hid (Row wr aR n xs) ∧ Hid (Row wr (some ⟨x_b, x_o, none⟩) m ys) ∧ wr.cell? ⟨0, 0, none⟩ = some (errV pE) ∧ Hid (Below w.heap.size w wr)) (fun i _ => m - (intOf i).toNat)
  case atStart => exact ⟨0, Nat.zero_le _, rfl, p, q, es, bb⟩
  case round =>
    clear p q es bb
    obtain ⟨k, hk, rfl, p, q, es, bb⟩ := hrel
    obtain ⟨wo, rfl⟩ : ∃ wo : World, wo = wr := ⟨_, rfl⟩
    by_cases hlt : k < m
    · go_wp2_with fail
      go_loopw [8] (fun i wr => ∃ l : Nat, l ≤ m ∧ i = .int .i64 l ∧ Hid (Row wr aR n xs) ∧ Hid (Row wr (some ⟨x_b, x_o, none⟩) m ys) ∧ wr.cell? ⟨0, 0, none⟩ = some (errV pE) ∧ Hid (Below w.heap.size w wr)) (fun i _ => m - (intOf i).toNat)
      case atStart => exact ⟨0, Nat.zero_le _, rfl, p, q, es, bb⟩
      case round =>
        clear p q es bb
        obtain ⟨l, hl, rfl, p, q, es, bb⟩ := hrel
        by_cases hll : l < m
        · obtain ⟨b1, o1, e1, ck⟩ := row_at q.out hlt
          cases e1
          obtain ⟨b1, o1, e1, cl⟩ := row_at q.out hll
          cases e1
          have hf := hfl.out k l hlt hll
          have b1 := by'.out k hlt
          have b2 := by'.out l hll
          obtain ⟨v, hv1⟩ : ∃ v, ys.getD k 0 = v := ⟨_, rfl⟩
          obtain ⟨u, hu1⟩ : ∃ u, ys.getD l 0 = u := ⟨_, rfl⟩
          unfold flatter at hf
          rw [hv1] at ck b1 hf
          rw [hu1] at cl b2 hf
          have i2 : IntKind.i64.wrap (u + 1) = u + 1 := IntWalk.i64_in _ ⟨by omega, by omega⟩
          have i3 : IntKind.i64.wrap (u + 2) = u + 2 := IntWalk.i64_in _ ⟨by omega, by omega⟩
          have i4 : IntKind.i64.wrap (v - 1) = v - 1 := IntWalk.i64_in _ ⟨by omega, by omega⟩
          by_cases hc : u + 2 ≤ v
          case neg =>
            have t1 : decide (u + 2 ≤ v) = false := decide_eq_false hc
            clear hf hv1 hu1 hc
            go_wp2_with fail
            go_quiet (fail)
            go_wp2_with fail
            exact ⟨⟨l + 1, by omega, by go_num, p.out.drewN _, q.out.drewN _, es, below_drewN bb.out _⟩, by simp [intOf]; omega⟩
          have t1 : decide (u + 2 ≤ v) = true := decide_eq_true hc
          have hf := Lib.hid (hf hc)
          have hkl : l ≠ k := fun e => by rw [e, hv1] at hu1; omega
          have h2 : (ys.set k (v - 1)).getD l 0 = u := by rw [set_getD (by omega), if_neg hkl]; exact hu1
          replace h2 := Lib.hid h2
          replace hv1 := Lib.hid hv1
          replace hu1 := Lib.hid hu1
          clear hc
          go_wp2_with fail
          go_quiet (fail)
          have hdr : Below wr.heap.size wr (wr.drewN nq) := below_drewN (Below.refl _ _) nq
          replace es := kept hdr (block_lt es) es
          replace p := Lib.hid (p.out.bel hdr)
          replace q := Lib.hid (q.out.bel hdr)
          replace bb := Lib.hid (bb.out.trans (hdr.mono bb.out.size))
          replace ck := kept hdr (block_lt ck) ck
          replace cl := kept hdr (block_lt cl) cl
          clear hdr
          generalize hwq : wr.drewN nq = w4 at *
          clear hwq
          go_upto_region 15 with fail
          clear ck cl
          have x_h := True.intro
          have x_n := Lib.hid (row_news q.out (by omega))
          clear x_h
          have x_l := q.out.1
          have lt_x_p := row_lt p.out
          have lt_x_q := row_lt q.out
          have lt_x_es := block_lt es
          have x_s := bb.out.size
          obtain ⟨x_i, x_i1, x_i2, x_i3, x_i4⟩ := info_parts infoInt
          go_wp2_with (at_builtin; refine wpList_append_own _ rfl _ _ 23 rfl w4.heap.size 3 x_i (.int .i64 0) 1 8 Tryd.underlying23 x_i1 x_i2 x_i3 x_i4 rfl (by decide) _ 0 [] rfl (World.ownsRow_lit w4 #[] 0 (Nat.le_refl _) (by decide) rfl) ⟨x_b, x_o, none⟩ m cC ((ys).map (Value.int .i64)) rfl ?c1 ?c2 ?c3 ?c4 ?c5 ?c6 ?_)
          skip
          case c2 => exact fun j u hj => by have h := x_n.out j (.int .i64 u) (by simp [hj]); have h3 := World.cell?_alloc_some (o := .cells #[] 3) h; by_cases e : j = 0 <;> first | (simpa [Addr.add, e] using h) | (simpa [Addr.add, e] using h3)
          case c3 => exact fun _ _ => rfl
          case c4 => unfold maxLen; omega
          case c5 => omega
          skip
          intro v' w5 hown hgr hnil
          obtain ⟨ax, cx, rfl, ho⟩ := own_of (xs := ys) (n := m) (by simpa using hown)
          have hb : Below w4.heap.size w4 w5 := ((Below.refl _ _).alloc (Nat.le_refl _) _).grown hgr (by simp) (fun k hk => by simp [Value.ownBlock] at hk; omega)
          clear hown hgr hnil x_n x_i1 x_i2 x_i3 x_i4
          obtain ⟨gx, rfl⟩ : ∃ g, ax = some ⟨g, 0, none⟩ := by
            rcases ho.cases with ⟨_, h, _⟩ | ⟨g, h, _⟩
            · omega
            · exact ⟨g, h⟩
          have x := Lib.hid ho
          have rg_x := rng_own ho
          clear ho
          have szw5 := hb.size
          replace es := kept hb (block_lt es) es
          replace p := Lib.hid (p.out.bel hb)
          replace q := Lib.hid (q.out.bel hb)
          replace bb := Lib.hid (bb.out.trans (hb.mono bb.out.size))
          clear hb
          have hck := own_cell x.out (i := k) (by omega)
          have hfz := x.out.frozen
          have hst := Lib.hid (x.out.set k (v - 1))
          have hg5 : w5.grownBy (w5.setCell ⟨gx, k, none⟩ (.int .i64 (v - 1))) (rowOf (some ⟨gx, 0, none⟩)) := grown_set (World.grownBy.refl _ _)
          rw [hv1.out] at hck
          go_upto_region 17 with fail
          replace es := hg5.cell es (ne_rowOf rg_x (.inl lt_x_es))
          replace p := Lib.hid (p.out.apart hg5 (fun b o e hn => ne_rowOf rg_x (.inl (lt_x_p b o e hn))))
          replace q := Lib.hid (q.out.apart hg5 (fun b o e hn => ne_rowOf rg_x (.inl (lt_x_q b o e hn))))
          replace bb := Lib.hid (bb.out.setCell (show w.heap.size ≤ (⟨gx, k, none⟩ : Addr).block by have := (rg_x _ rfl).1; simp at this ⊢; omega) (.int .i64 (v - 1)))
          replace x := hst
          clear hck hfz hst hg5
          generalize hwq : w5.setCell ⟨gx, k, none⟩ (.int .i64 (v - 1)) = w6 at *
          have szw6 : w5.heap.size ≤ w6.heap.size := by rw [← hwq]; simp [World.setCell]
          clear hwq
          have hck := own_cell x.out (i := l) (by omega)
          have hfz := x.out.frozen
          have hst := Lib.hid (x.out.set l (u + 1))
          have hg5 : w6.grownBy (w6.setCell ⟨gx, l, none⟩ (.int .i64 (u + 1))) (rowOf (some ⟨gx, 0, none⟩)) := grown_set (World.grownBy.refl _ _)
          rw [h2.out] at hck
          go_wp2_with fail
          replace es := hg5.cell es (ne_rowOf rg_x (.inl lt_x_es))
          replace p := Lib.hid (p.out.apart hg5 (fun b o e hn => ne_rowOf rg_x (.inl (lt_x_p b o e hn))))
          replace q := Lib.hid (q.out.apart hg5 (fun b o e hn => ne_rowOf rg_x (.inl (lt_x_q b o e hn))))
          replace bb := Lib.hid (bb.out.setCell (show w.heap.size ≤ (⟨gx, l, none⟩ : Addr).block by have := (rg_x _ rfl).1; simp at this ⊢; omega) (.int .i64 (u + 1)))
          replace x := hst
          clear hck hfz hst hg5
          generalize hwq : w6.setCell ⟨gx, l, none⟩ (.int .i64 (u + 1)) = w7 at *
          have szw7 : w6.heap.size ≤ w7.heap.size := by rw [← hwq]; simp [World.setCell]
          clear hwq
          refine (con_ok hf.out _ _ _ _ _ _ pE _ p.out x.out.row es hn13 hm13).mono ?_
          rintro e w8 ⟨rfl, hb⟩
          have szw8 := hb.size
          replace es := kept hb (block_lt es) es
          replace p := Lib.hid (p.out.bel hb)
          replace q := Lib.hid (q.out.bel hb)
          replace x := Lib.hid (x.out.bel hb)
          replace bb := Lib.hid (bb.out.trans (hb.mono bb.out.size))
          clear hb
          go_wp2_with fail
          exact ⟨⟨l + 1, by omega, by go_num, p, q, es, bb⟩, by simp [intOf]; omega⟩
        · have : l = m := by omega
          subst this
          go_wp2_with fail
          exact ⟨⟨k + 1, by omega, by go_num, p, q, es, bb⟩, by simp [intOf]; omega⟩
    · have : k = m := by omega
      subst this
      go_wp2_with fail
      go_ret
      exact ⟨rfl, bb.out⟩

set_option maxRecDepth 100000 in
theorem lifted (os : Os) (started : os.Started) (H : Type) (enc : TypeId × Value → H) :
    ReturnsInHanded {} Tryd.checked os 5 .any (fun w args => (Rows.fnConsistentFlatSpec.pre enc Tryd.prog Tryd.f5 [] false w args ∧ laidMetH Tryd.prog Rows.fnConsistentFlatRow.laid w) ∧ sizedMet enc Tryd.prog Tryd.f5 (OpenSpec.ofChange Rows.fnConsistentFlatSpec) false w args) (Rows.fnConsistentFlatSpec.post enc Tryd.prog Tryd.f5 false true false false) := by
  refine returnsInHanded_of_change_and (C := Tryd.checked) (X := fun w _ => laidMetH Tryd.prog Rows.fnConsistentFlatRow.laid w) (fun _ _ _ hh h => h.of_heap hh) own started (by kernel_rfl) Tryd.func5
    (ChangeSpec.witness_shaped (enc := enc) (C := Tryd.checked) (os := os) (X := fun w _ => laidMetH Tryd.prog Rows.fnConsistentFlatRow.laid w) false (World.doorLaid Tryd.prog 28 os) #[.slice none 0 0] 8 rfl (World.shaped_of_RefB (by kernel_rfl) (by kernel_rfl)) (by kernel_rfl) (by kernel_rfl) (by kernel_rfl) (door_met os _)) ?_
  intro W base args ds gs before hval0 hW _ _ hL _
  have hval : ∀ (j : Nat) t v, Tryd.f5.params[j]? = some t → args[j]? = some v → Value.okWide Tryd.prog W .any base t v := hval0
  have hW' := hW
  obtain ⟨p, q, hA0, hV, rfl, hfz, hnd⟩ := hW
  have hA : DataW.TrodAll enc Tryd.prog W 0 (fun _ => true) true Tryd.f5.params.toList args.toList ds p := hA0
  rw [Tryd.params5] at hA hval
  obtain ⟨v0, vs0, d0, ds0, p0, q0, hargs, rfl, rfl, h0, r0⟩ := trodAll_cons hA
  obtain ⟨rfl, rfl, rfl⟩ := trodAll_nil r0
  obtain rfl : args = #[v0] := by cases args; simp_all
  obtain ⟨pE, hv0, hE⟩ := sentinel_of hL
  have hV' : DataW.TrodVars enc Tryd.prog W (fun _ => true) ["loop.example/discretetomography/impl.errNoImage"] gs q := hV
  obtain ⟨rfl, rfl⟩ := hV'.unique (vars_read1 enc gE gEType Tryd.underlying43 hv0 trivial _)
  have k0 := h0
  have lt0 : ∀ x ∈ p0, x.block < W.heap.size := by obtain ⟨m, hm⟩ := k0; exact DataW.trod_lt m _ _ _ hm
  obtain ⟨a0, len0, cap0, z0, rfl, w0, l0, m0⟩ := open_code (hval 0 22 v0 rfl rfl) h0
  clear hA0 hval0
  refine (walk a0 len0 cap0 z0 W pE hE w0 l0 m0).mono fun e W' ⟨he, bel⟩ => ?_
  subst he
  exact ⟨_, rfl, _, _, _, [], _, [.cell 0 0], hW', trodAll_mk1 (shut_bool Tryd.underlying4 _), (trodAll_cons_mk (Below.trod laidOut (by kernel_rfl) (of_decide_eq_true (by kernel_rfl)) k0 bel lt0) trodAll_mk0), vars_read1 enc gE gEType Tryd.underlying43 (var_bel bel hv0) trivial _, bel.frame _, fun h => by cases h⟩

theorem closed : joinedFacts Tryd.prog 5 Tryd.f5 Rows.fnConsistentFlatSpec Rows.fnConsistentFlatRow = true := by
  simp only [joinedFacts, Bool.and_eq_true]
  repeat' apply And.intro
  all_goals first | with_reducible exact mayEnterOk | (with_reducible rw [liftsFinalOk]; kernel_rfl) | (with_reducible rw [makeOk]; kernel_rfl) | kernel_rfl

theorem over : Rows.fnConsistentFlatRow.holds Tryd.pinned (OpenSpec.ofChange Rows.fnConsistentFlatSpec) :=
  OpenClaim.holds_of_wide 5 Tryd.f5 rfl rfl rfl rfl rfl rfl rfl ⟨rfl, rfl, rfl, rfl, rfl⟩ rfl rfl rfl rfl rfl (by kernel_rfl) Tryd.func5 closed
    (of_decide_eq_true (by kernel_rfl)) (by unfold Func.isWrapper; first | (rw [if_pos (by decide +kernel)]; kernel_rfl) | (rw [if_neg (by decide +kernel)]; exact ⟨rfl, rfl⟩))
    (fun os started H enc _ => lifted os started H enc)

theorem plain (f : FuncId) (fn : Func) (hf : Tryd.pinned.checked.prog.funcNamed "loop.example/discretetomography/laws.FnConsistentFlat" = some f) (hfn : Tryd.pinned.checked.prog.funcs[f]? = some fn) :
    true = Tryd.pinned.checked.prog.looks [] ∧ ∀ (j : Nat) t, fn.params[j]? = some t → Tryd.pinned.checked.prog.wantsStandIn t = false := by
  obtain rfl : f = 5 := Option.some.inj ((show Tryd.prog.funcNamed "loop.example/discretetomography/laws.FnConsistentFlat" = some 5 by kernel_rfl).symm.trans hf) |>.symm
  obtain rfl : fn = Tryd.f5 := (Option.some.inj (Tryd.func5.symm.trans hfn)).symm
  refine ⟨looksOk, fun j t ht => ?_⟩
  rw [Tryd.params5] at ht
  obtain rfl : t = 22 := by simpa using Array.mem_of_getElem? ht
  exact wantsCode

theorem proved : Rows.FnConsistentFlatCardSaid :=
  Claim7.holds_tied_plain_at .later [] _ _ _ _ over (fun _ h => by cases h) (by kernel_rfl) (fun _ h => by cases h) fnConsistentFlat_row_tie rfl ⟨rfl, rfl⟩ (by kernel_rfl) rfl plain (by kernel_rfl)
#print axioms proved
end Go.Proofs.YteadibgjieimkaaDoor.LFConsistentFlat

