/-
  For every slice of bytes the law FnConsistentZero answers true: an empty row more changes nothing, while there is room for it; nothing that was there is written; no condition.
-/
import Derived.Test.YteadibgjieimkaaDoorO
import Derived.Test.YteadibgjieimkaaDoorCf
import Derived.Test.YteadibgjieimkaaDoorK
import Derived.Deep.RegionLaw
import Derived.Test.YteadibgjieimkaaDoorCa
import Derived.Test.YteadibgjieimkaaDoorCe
namespace Go.Proofs.YteadibgjieimkaaDoor.LFConsistentZero
open Go.ChangeShapes Go.WideShapes Go.ChangeAt Go.RowKit Go.Joins

set_option maxHeartbeats 1000000 in
set_option maxRecDepth 100000 in
theorem walk (a : Option Addr) (len cap : Nat) (zs : List Int) (w : World) (pE : Addr) (hE : w.cell? ⟨0, 0, none⟩ = some (errV pE)) (h : Bys w a len zs) (hl : len ≤ cap) (hm : cap ≤ 9223372036854775807) :
    Calls Tryd.prog 8 #[.slice a len cap] w fun e w' => e = .returned (.bool true) ∧ Below w.heap.size w w' := by
  by_cases hbig : 1048576 < len
  · clear h
    go_enter Tryd.func8, Tryd.ntmps8
    go_wp2_with fail
    go_ret
    exact ⟨rfl, Below.refl _ _⟩
  go_enter Tryd.func8, Tryd.ntmps8
  go_wp2_with fail
  refine (draw_DrawSumsConsistent a len cap zs _ h hl hm).mono ?_
  rintro e w1 ⟨aR, n, cR, xs, aC, m, cC, ys, rfl, hR, hC, hnm, hcap, hb1⟩
  clear h hl hm
  have bb := Lib.hid hb1
  have p := Lib.hid hR.row
  have q := Lib.hid hC.row
  have lx := hR.len
  have ly := hC.len
  have hn13 : n ≤ 13 := by omega
  have hm13 : m ≤ 13 := by omega
  have es := kept hb1 (block_lt hE) hE
  clear hR hC hb1 hE
  obtain ⟨B, hB⟩ : ∃ B, conB xs ys = B := ⟨_, rfl⟩
  go_wp2_with fail
  refine (con_ok hB _ _ _ _ _ _ pE _ p.out q.out es hn13 hm13).mono ?_
  rintro e w2 ⟨rfl, hb⟩
  have szw2 := hb.size
  replace es := kept hb (block_lt es) es
  replace p := Lib.hid (p.out.bel hb)
  replace q := Lib.hid (q.out.bel hb)
  replace bb := Lib.hid (bb.out.trans (hb.mono bb.out.size))
  clear hb
  go_wp2_with fail
  refine (con_sok hB _ _ _ _ _ _ _ p.out q.out hn13 hm13).mono ?_
  rintro e w3 ⟨rfl, hb⟩
  have szw3 := hb.size
  replace es := kept hb (block_lt es) es
  replace p := Lib.hid (p.out.bel hb)
  replace q := Lib.hid (q.out.bel hb)
  replace bb := Lib.hid (bb.out.trans (hb.mono bb.out.size))
  clear hb
  by_cases hBt : B = true
  case neg =>
    have hBt : B = false := by simpa using hBt
    subst hBt
    go_wp2_with fail
    go_ret
    exact ⟨rfl, bb.out⟩
  subst hBt
  have hv := conB_valid hB
  have hp := sumsB_parts hv
  rw [lx, ly] at hp
  have hn1 := hp.1.1
  have hn6 := hp.1.2
  have hm1 := hp.2.1.1
  have hm6 := hp.2.1.2
  have bx := Lib.hid hp.2.2.1
  have by' := Lib.hid hp.2.2.2
  have hex := Lib.hid (sums_el hv).1
  have hey := Lib.hid (sums_el hv).2
  clear hp
  replace hv := Lib.hid hv
  replace hB := Lib.hid hB
  have hz := Lib.hid (conB_zero hB.out)
  rw [lx] at hz
  have lz : (xs ++ [0]).length = n + 1 := by simp [lx]
  obtain ⟨x_b, x_o, rfl, x_h⟩ := row_at p.out (show 0 < n by omega)
  have x_n := Lib.hid (row_news p.out (by omega))
  clear x_h
  have x_l := p.out.1
  have lt_x_p := row_lt p.out
  have lt_x_q := row_lt q.out
  have lt_x_es := block_lt es
  have x_s := bb.out.size
  obtain ⟨x_i, x_i1, x_i2, x_i3, x_i4⟩ := info_parts infoInt
  go_wp2_with (at_builtin; refine wpList_append_own _ rfl _ _ 23 rfl w3.heap.size 3 x_i (.int .i64 0) 1 8 Tryd.underlying23 x_i1 x_i2 x_i3 x_i4 rfl (by decide) _ 0 [] rfl (World.ownsRow_lit w3 #[] 0 (Nat.le_refl _) (by decide) rfl) ⟨x_b, x_o, none⟩ n cR ((xs).map (Value.int .i64)) rfl ?c1 ?c2 ?c3 ?c4 ?c5 ?c6 ?_)
  case c1 => simp only [List.length_map]; omega
  case c2 => exact fun j u hj => World.cell?_alloc_some (x_n.out j u hj)
  case c3 => exact ints_oneCell _ _
  case c4 => unfold maxLen; omega
  case c5 => omega
  case c6 => simp
  intro v' w4 hown hgr hnil
  obtain ⟨ax, cx, rfl, ho⟩ := own_of (xs := xs) (n := n) (by simpa using hown)
  have hb : Below w3.heap.size w3 w4 := ((Below.refl _ _).alloc (Nat.le_refl _) _).grown hgr (by simp) (fun k hk => by simp [Value.ownBlock] at hk; omega)
  clear hown hgr hnil x_n x_i1 x_i2 x_i3 x_i4
  obtain ⟨gx, rfl⟩ : ∃ g, ax = some ⟨g, 0, none⟩ := by
    rcases ho.cases with ⟨_, h, _⟩ | ⟨g, h, _⟩
    · omega
    · exact ⟨g, h⟩
  have x := Lib.hid ho
  have rg_x := rng_own ho
  clear ho
  have szw4 := hb.size
  replace es := kept hb (block_lt es) es
  replace p := Lib.hid (p.out.bel hb)
  replace q := Lib.hid (q.out.bel hb)
  replace bb := Lib.hid (bb.out.trans (hb.mono bb.out.size))
  clear hb
  obtain ⟨i0, hi, hz0, hz1, hz2⟩ := info_parts infoInt
  have hBs : w3.heap.size ≤ w4.heap.size := by omega
  go_wp2_with (at_builtin; refine wpList_append_own _ rfl _ _ 23 rfl w3.heap.size 3 i0 (.int .i64 0) 1 8 Tryd.underlying23 hi hz0 hz1 hz2 rfl (by decide) _ n (xs.map (Value.int .i64)) rfl (World.ownsRow.alloc x.out _) ⟨w4.heap.size, 0, none⟩ 1 1 [.int .i64 0] rfl rfl ?e1 ?e2 ?e3 ?e4 ?e5 ?_)
  all_goals (first | with_reducible exact one_new _ _ | skip)
  case e2 => first | rfl | exact one_cell _
  case e3 => unfold maxLen; omega
  case e4 => omega
  case e5 => first | omega | (simp; omega)
  intro v' w5 hown hgr _
  obtain ⟨az, cz, rfl, ho⟩ := own_of (xs := xs ++ [0]) (by rw [List.map_append]; exact hown)
  have hb := app_bel x.out hgr rfl hBs
  have hg5 : (w4.alloc (.cells #[.int .i64 0] 3)).grownBy w5 (rowOf (some ⟨gx, 0, none⟩)) := hgr
  replace es := hg5.cell (World.cell?_alloc_some es) (ne_rowOf rg_x (.inl lt_x_es))
  replace q := Lib.hid ((q.out.alloc _).apart hg5 (fun b o e hn => ne_rowOf rg_x (.inl (lt_x_q b o e hn))))
  replace bb := Lib.hid (bb.out.trans (hb.mono x_s))
  have z := Lib.hid ho.row
  clear hown hgr hg5 hb ho x p
  go_wp2_with fail
  refine (con_ok hz.out _ _ _ _ _ _ pE _ z.out q.out es (by omega) hm13).mono ?_
  rintro e w6 ⟨rfl, hb⟩
  have szw6 := hb.size
  replace es := kept hb (block_lt es) es
  replace q := Lib.hid (q.out.bel hb)
  replace z := Lib.hid (z.out.bel hb)
  replace bb := Lib.hid (bb.out.trans (hb.mono bb.out.size))
  clear hb
  by_cases h6 : n < 6
  case neg =>
    have g6 : decide (n < 6) = false := decide_eq_false h6
    have g7 : decide ((n : Int) < 6) = false := decide_eq_false (by omega)
    rw [g6]
    go_wp2_with fail
    go_ret
    exact ⟨rfl, bb.out⟩
  have g6 : decide (n < 6) = true := decide_eq_true h6
  have g7 : decide ((n : Int) < 6) = true := decide_eq_true (by omega)
  rw [g6]
  go_wp2_with fail
  go_ret
  exact ⟨rfl, bb.out⟩

set_option maxRecDepth 100000 in
theorem lifted (os : Os) (started : os.Started) (H : Type) (enc : TypeId × Value → H) :
    ReturnsInHanded {} Tryd.checked os 8 .any (fun w args => (Rows.fnConsistentZeroSpec.pre enc Tryd.prog Tryd.f8 [] false w args ∧ laidMetH Tryd.prog Rows.fnConsistentZeroRow.laid w) ∧ sizedMet enc Tryd.prog Tryd.f8 (OpenSpec.ofChange Rows.fnConsistentZeroSpec) false w args) (Rows.fnConsistentZeroSpec.post enc Tryd.prog Tryd.f8 false true false false) := by
  refine returnsInHanded_of_change_and (C := Tryd.checked) (X := fun w _ => laidMetH Tryd.prog Rows.fnConsistentZeroRow.laid w) (fun _ _ _ hh h => h.of_heap hh) own started (by kernel_rfl) Tryd.func8
    (ChangeSpec.witness_shaped (enc := enc) (C := Tryd.checked) (os := os) (X := fun w _ => laidMetH Tryd.prog Rows.fnConsistentZeroRow.laid w) false (World.doorLaid Tryd.prog 28 os) #[.slice none 0 0] 8 rfl (World.shaped_of_RefB (by kernel_rfl) (by kernel_rfl)) (by kernel_rfl) (by kernel_rfl) (by kernel_rfl) (door_met os _)) ?_
  intro W base args ds gs before hval0 hW _ _ hL _
  have hval : ∀ (j : Nat) t v, Tryd.f8.params[j]? = some t → args[j]? = some v → Value.okWide Tryd.prog W .any base t v := hval0
  have hW' := hW
  obtain ⟨p, q, hA0, hV, rfl, hfz, hnd⟩ := hW
  have hA : DataW.TrodAll enc Tryd.prog W 0 (fun _ => true) true Tryd.f8.params.toList args.toList ds p := hA0
  rw [Tryd.params8] at hA hval
  obtain ⟨v0, vs0, d0, ds0, p0, q0, hargs, rfl, rfl, h0, r0⟩ := trodAll_cons hA
  obtain ⟨rfl, rfl, rfl⟩ := trodAll_nil r0
  obtain rfl : args = #[v0] := by cases args; simp_all
  obtain ⟨pE, hv0, hE⟩ := sentinel_of hL
  have hV' : DataW.TrodVars enc Tryd.prog W (fun _ => true) ["loop.example/discretetomography/impl.errNoImage"] gs q := hV
  obtain ⟨rfl, rfl⟩ := hV'.unique (vars_read1 enc gE gEType Tryd.underlying43 hv0 trivial _)
  have k0 := h0
  have lt0 : ∀ x ∈ p0, x.block < W.heap.size := by obtain ⟨m, hm⟩ := k0; exact DataW.trod_lt m _ _ _ hm
  obtain ⟨a0, len0, cap0, z0, rfl, w0, l0, m0⟩ := open_code (hval 0 22 v0 rfl rfl) h0
  clear hA0 hval0
  refine (walk a0 len0 cap0 z0 W pE hE w0 l0 m0).mono fun e W' ⟨he, bel⟩ => ?_
  subst he
  exact ⟨_, rfl, _, _, _, [], _, [.cell 0 0], hW', trodAll_mk1 (shut_bool Tryd.underlying4 _), (trodAll_cons_mk (Below.trod laidOut (by kernel_rfl) (of_decide_eq_true (by kernel_rfl)) k0 bel lt0) trodAll_mk0), vars_read1 enc gE gEType Tryd.underlying43 (var_bel bel hv0) trivial _, bel.frame _, fun h => by cases h⟩

theorem closed : joinedFacts Tryd.prog 8 Tryd.f8 Rows.fnConsistentZeroSpec Rows.fnConsistentZeroRow = true := by
  simp only [joinedFacts, Bool.and_eq_true]
  repeat' apply And.intro
  all_goals first | with_reducible exact mayEnterOk | (with_reducible rw [liftsFinalOk]; kernel_rfl) | (with_reducible rw [makeOk]; kernel_rfl) | kernel_rfl

theorem over : Rows.fnConsistentZeroRow.holds Tryd.pinned (OpenSpec.ofChange Rows.fnConsistentZeroSpec) :=
  OpenClaim.holds_of_wide 8 Tryd.f8 rfl rfl rfl rfl rfl rfl rfl ⟨rfl, rfl, rfl, rfl, rfl⟩ rfl rfl rfl rfl rfl (by kernel_rfl) Tryd.func8 closed
    (of_decide_eq_true (by kernel_rfl)) (by unfold Func.isWrapper; first | (rw [if_pos (by decide +kernel)]; kernel_rfl) | (rw [if_neg (by decide +kernel)]; exact ⟨rfl, rfl⟩))
    (fun os started H enc _ => lifted os started H enc)

theorem plain (f : FuncId) (fn : Func) (hf : Tryd.pinned.checked.prog.funcNamed "loop.example/discretetomography/laws.FnConsistentZero" = some f) (hfn : Tryd.pinned.checked.prog.funcs[f]? = some fn) :
    true = Tryd.pinned.checked.prog.looks [] ∧ ∀ (j : Nat) t, fn.params[j]? = some t → Tryd.pinned.checked.prog.wantsStandIn t = false := by
  obtain rfl : f = 8 := Option.some.inj ((show Tryd.prog.funcNamed "loop.example/discretetomography/laws.FnConsistentZero" = some 8 by kernel_rfl).symm.trans hf) |>.symm
  obtain rfl : fn = Tryd.f8 := (Option.some.inj (Tryd.func8.symm.trans hfn)).symm
  refine ⟨looksOk, fun j t ht => ?_⟩
  rw [Tryd.params8] at ht
  obtain rfl : t = 22 := by simpa using Array.mem_of_getElem? ht
  exact wantsCode

theorem proved : Rows.FnConsistentZeroCardSaid :=
  Claim7.holds_tied_plain_at .later [] _ _ _ _ over (fun _ h => by cases h) (by kernel_rfl) (fun _ h => by cases h) fnConsistentZero_row_tie rfl ⟨rfl, rfl⟩ (by kernel_rfl) rfl plain (by kernel_rfl)
#print axioms proved
end Go.Proofs.YteadibgjieimkaaDoor.LFConsistentZero

